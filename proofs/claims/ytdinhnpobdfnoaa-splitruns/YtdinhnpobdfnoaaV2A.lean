/- The walks of roll.New, Ones. -/
import Derived.Test.YtdinhnpobdfnoaaV1A
namespace Go.Proofs.Ytdinhnpobdfnoaa
open Go.RowKit
set_option linter.unusedSimpArgs false
set_option linter.unusedVariables false
theorem info_roll : (Try.prog.info? 113).map (fun i => (i.zero, i.size)) = some (some (.agg (Array.replicate 64 (.int .u8 0) ++ #[.int .i64 0, .int .u16 0, .int .u16 0])), 67) := by kernel_rfl
theorem rcl_nil : rcl [] = Array.replicate 64 (.int .u8 0) ++ #[.int .i64 0, .int .u16 1984, .int .u16 64480] := by
  unfold rcl
  unfold lo6 hi6
  rw [loS_nil, hiS_nil]
  simp only [rgW_nil]
  rfl
set_option maxHeartbeats 1000000 in
set_option maxRecDepth 100000 in
theorem new_any (w : World) : Calls Try.prog 40 #[] w fun e w' => e = .returned (.pointer (some ⟨w.heap.size, 0, none⟩)) ∧ Rll w' w.heap.size [] ∧ Below w.heap.size w w' := by
  have hz := (zero_of_info info_roll).1
  go_enter Try.func40, Try.ntmps40
  go_wp2
  go_ret
  refine ⟨rfl, ?_, (Below.refl _ _).alloc (Nat.le_refl _) _⟩
  show Bk _ _ _ _
  rw [rcl_nil]
  exact bk_new _ _ _
theorem low32 (n : Nat) (h : n < 4294967296) : bits .and .u32 (n : Int) 1 = ((n % 2 : Nat) : Int) := by
  have e : (1 : Int) = ((1 : Nat) : Int) := rfl
  rw [e, u32_and_nat _ _ h (by omega), Nat.and_one_is_mod]
/-- How far the count of ones has come. -/
structure OnW (N k m : Nat) : Prop where
  val : onN 32 N = k + onN (32 - k) m
  lt : m < 2 ^ (32 - k)
  le : k ≤ 32
theorem OnW.stop {N k m : Nat} (h : OnW N k m) (hm : m % 2 = 0) : onN 32 N = k := by
  rw [h.val]
  cases e : 32 - k with
  | zero => rw [onN]; omega
  | succ j => rw [onN, if_neg (by omega)]; omega
theorem OnW.end {N m : Nat} (h : OnW N 32 m) : onN 32 N = 32 := h.val
theorem OnW.room {N k m : Nat} (h : OnW N k m) (hm : m % 2 = 1) : k < 32 := by
  have h1 := h.le
  have h2 := h.lt
  by_cases e : k = 32
  · subst e; simp at h2; omega
  · omega
theorem OnW.next {N k m : Nat} (h : OnW N k m) (hm : m % 2 = 1) : OnW N (k + 1) (m / 2) := by
  have hk := h.room hm
  obtain ⟨j, hj⟩ : ∃ j, 32 - k = j + 1 := ⟨31 - k, by omega⟩
  have h2 := h.lt
  refine ⟨?_, ?_, by omega⟩
  · rw [h.val, hj, onN, if_pos hm, show 32 - (k + 1) = j from by omega]; omega
  · rw [hj, Nat.pow_succ] at h2
    rw [show 32 - (k + 1) = j from by omega]; omega
set_option maxHeartbeats 1000000 in
set_option maxRecDepth 100000 in
theorem ones_any (N : Nat) (w : World) (hN : N < 4294967296) : Calls Try.prog 44 #[.int .u32 (N : Int)] w fun e w' => e = .returned (.int .i64 (onN 32 N : Int)) ∧ w' = w := by
  go_enter Try.func44, Try.ntmps44
  go_wp2
  go_loop [0, 3] (fun v u => ∃ k m : Nat, m < 4294967296 ∧ k ≤ 32 ∧ v = .int .u32 (m : Int) ∧ u = .int .i64 (k : Int) ∧ Hid (OnW N k m)) (fun _ u => 32 - (intOf u).toNat)
  case atStart => exact ⟨0, N, hN, by omega, rfl, rfl, ⟨by simp, by simpa using hN, by omega⟩⟩
  case round =>
    obtain ⟨k, m, hm, hk, rfl, rfl, HO⟩ := hrel
    have hb := low32 m hm
    by_cases hlt : m % 2 = 1
    · have hb1 : bits .and .u32 (m : Int) 1 = 1 := by rw [hb, hlt]; rfl
      have hk2 := HO.out.room hlt
      have HN : Hid (OnW N (k + 1) (m / 2)) := HO.out.next hlt
      have HC : Hid ((m : Int) / 2 = ((m / 2 : Nat) : Int)) := by show _ = _; omega
      clear hb hlt HO
      go_wp2
      go_round
      case rel => exact ⟨k + 1, m / 2, by omega, by omega, by first | rfl | (rw [← HC.out]), by go_num, HN.out⟩
      case measure => simp [intOf]; omega
    · have hb1 : bits .and .u32 (m : Int) 1 = 0 := by rw [hb, show m % 2 = 0 from by omega]; rfl
      have HE : Hid (onN 32 N = k) := HO.out.stop (by omega)
      clear hb hlt HO
      go_wp2
      go_ret
      exact ⟨ret_r (by rw [HE.out]), rfl⟩
end Go.Proofs.Ytdinhnpobdfnoaa
