/- munimentlaw06.square: a square of any bytes. -/
import Derived.Test.YtefmabfhephdjabK12
import Derived.Test.YtefmabfhephdjabF12
import Derived.Deep.RegionHeld3
namespace Go.Proofs.Ytefmabfhephdjab
open Go.RowKit
set_option linter.unusedSimpArgs false
set_option linter.unusedVariables false
/-- The pieces of a text. -/
def pcs (t : ByteArray) (n k : Nat) : List ByteArray := (List.range k).map fun i => t.extract (i * n) (i * n + n)
theorem pcs_next (t : ByteArray) (n k : Nat) : pcs t n (k + 1) = pcs t n k ++ [t.extract (k * n) (k * n + n)] := by
  rw [pcs, List.range_succ, List.map_append]; rfl
theorem pcs_sq (t : ByteArray) (n : Nat) (h : n * n ≤ t.size) : SqM n (pcs t n n) := by
  refine ⟨by simp [pcs], fun x hx => ?_⟩
  obtain ⟨i, hi, rfl⟩ := List.mem_map.1 hx
  have hi' : i < n := List.mem_range.1 hi
  have : i * n + n ≤ n * n := by
    have := Nat.mul_le_mul_right n (show i + 1 ≤ n by omega)
    rw [Nat.add_mul] at this; omega
  rw [ByteArray.size_extract]; omega
set_option maxHeartbeats 1000000 in
set_option maxRecDepth 100000 in
theorem square_any (s : ByteArray) (n : Nat) (w : World) (h1 : 1 ≤ n) (h2 : n ≤ 8) (hs : s.size ≤ 4611686018427387904) :
    Calls Try.prog 7 #[.string s, .int .i64 n] w fun e w' => ∃ a c xs, e = .returned (.slice a n c) ∧ SqM n xs ∧ TxL w' a xs ∧ Below w.heap.size w w' := by
  obtain ⟨i0, hi, hz0, hz1, hz2⟩ := info_parts inf_str
  obtain ⟨q, hq⟩ : ∃ q : Nat, (n : Int) * (n : Int) = (q : Int) := ⟨n * n, by rw [Int.natCast_mul]⟩
  have HQ : Hid (n * n = q) := by show n * n = q; have := Int.natCast_mul n n; omega
  have hq64 : q ≤ 64 := by rw [← HQ.out]; exact Nat.mul_le_mul h2 h2
  go_enter Try.func7, Try.ntmps7
  go_wp2_with fail
  go_loopw [0] (fun v wr => ∃ t : ByteArray, v = .string t ∧ t.size ≤ 4611686018427387904 ∧ wr = w) (fun v _ => match v with | .string t => q - t.size | _ => 0)
  case atStart => exact ⟨s, rfl, hs, rfl⟩
  case round =>
    obtain ⟨t, rfl, ht, rfl⟩ := hrel
    by_cases hlt : t.size < q
    · have hz : (t.size : Int) < (q : Nat) := by omega
      have hsz : (t ++ ⟨#[1]⟩ ++ t).size = t.size + 1 + t.size := by rw [ByteArray.size_append, ByteArray.size_append]; rfl
      go_wp2
      go_roundw
      case rel => exact ⟨t ++ ⟨#[1]⟩ ++ t, rfl, by omega, trivial⟩
      case measure => show q - (t ++ ⟨#[1]⟩ ++ t).size < q - t.size; omega
    · have hz : ¬ (t.size : Int) < (q : Nat) := by omega
      obtain ⟨w1, hw1⟩ : ∃ w1, wr = w1 := ⟨_, rfl⟩
      have HW1 : Hid (w1 = wr) := hw1.symm
      rw [hw1]
      clear hw1
      go_wp2_with fail
      go_loopw [5, 6] (fun v x W => ∃ i : Nat, i ≤ n ∧ x = .int .i64 i ∧ Hid (W.ownsRow w1.heap.size 9 1 v i (sv (pcs t n i))) ∧ Hid (Below w1.heap.size w1 W)) (fun _ x _ => n - (intOf x).toNat)
      case atStart => exact ⟨0, by omega, rfl, World.ownsRow_nil _ _ _ _, Below.refl _ _⟩
      case round =>
        obtain ⟨i, hin, rfl, HO, HB⟩ := hrel
        by_cases hl : i < n
        · have hiz : (i : Int) < (n : Nat) := by omega
          obtain ⟨m, hm⟩ : ∃ m : Nat, (i : Int) * (n : Int) = (m : Int) := ⟨i * n, by rw [Int.natCast_mul]⟩
          have HM : Hid (i * n = m) := by show i * n = m; have := Int.natCast_mul i n; omega
          have hmq : m + n ≤ q := by
            rw [← HQ.out, ← HM.out]
            have := Nat.mul_le_mul_right n (show i + 1 ≤ n by omega)
            rw [Nat.add_mul] at this; omega
          have hb1 : (m : Int) + (n : Int) ≤ (t.size : Nat) := by omega
          have HT : Hid (pcs t n (i + 1) = pcs t n i ++ [t.extract m (m + n)]) := by show _ = _; rw [pcs_next, HM.out]
          have hzr : w1.heap.size ≤ wr.heap.size := HB.out.size
          have HC1 : Hid (∀ (j : Nat) (u : Value), [Value.string (t.extract m (m + n))][j]? = some u → (wr.alloc (.cells #[Value.string (t.extract m (m + n))] 9)).cell? ((⟨wr.heap.size, 0, none⟩ : Addr).add j) = some u) := news_one _ _ _
          have hmm : ((m : Int) + (n : Int)).toNat = m + n := by omega
          go_wp2_with (at_builtin; refine wpList_append_own _ rfl _ _ 23 rfl w1.heap.size 9 i0 (.string ⟨#[]⟩) 1 16 Try.underlying23 hi hz0 hz1 hz2 rfl (by decide) _ _ _ rfl (HO.out.alloc _) ⟨wr.heap.size, 0, none⟩ 1 1 [.string (t.extract m (m + n))] rfl rfl HC1.out (one_str _) (by unfold maxLen; omega) (by omega) (by simp; omega) ?_)
          intro v' w7 hown1 hgrow _
          have HO7 : Hid (w7.ownsRow w1.heap.size 9 1 v' (i + 1) (sv (pcs t n (i + 1)))) := by
            show w7.ownsRow w1.heap.size 9 1 v' (i + 1) (sv (pcs t n (i + 1)))
            rw [HT.out, sv_append]; exact hown1
          have HB7 : Hid (Below w1.heap.size w1 w7) := apn_bel HB.out (by omega) HO.out hgrow
          clear hown1 hgrow HC1
          go_wp2
          go_roundw
          case rel => exact ⟨i + 1, by omega, by go_num, HO7.out, HB7.out⟩
          case measure => simp [intOf]; omega
        · have hin2 : i = n := by omega
          have hiz : ¬ (i : Int) < (n : Nat) := by omega
          have hsq := pcs_sq t n (by rw [HQ.out]; omega)
          have HOe : Hid (wr.ownsRow w1.heap.size 9 1 u5 (pcs t n n).length (sv (pcs t n n))) := by
            have h := HO.out
            rw [hin2] at h
            show wr.ownsRow _ _ _ _ _ _
            rw [hsq.1]
            exact h
          obtain ⟨ap, cp, rfl, htx, _⟩ := own_txl HOe.out
          have HTX : Hid (TxL wr ap (pcs t n n)) := htx
          have HSQ : Hid (SqM n (pcs t n n)) := hsq
          rw [hsq.1]
          clear HOe HO hin2 htx hsq
          go_wp2
          go_ret
          refine ⟨ap, ⟨cp, rfl⟩, pcs t n n, HSQ.out, HTX.out, ?_⟩
          rw [← HW1.out]
          exact HB.out
end Go.Proofs.Ytefmabfhephdjab
