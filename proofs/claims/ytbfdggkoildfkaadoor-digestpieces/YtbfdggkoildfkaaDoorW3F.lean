/- The walk of wire.PutFixed. -/
import Derived.Test.YtbfdggkoildfkaaDoorW1F
namespace Go.Proofs.YtbfdggkoildfkaaDoor
open Go.RowKit
set_option linter.unusedSimpArgs false
set_option linter.unusedVariables false
theorem ret_se {a b : ByteArray} {k : IntKind} {c : Int} (h : a = b) : Ending.returned (.tuple #[.string a, .int k c]) = .returned (.tuple #[.string b, .int k c]) := by rw [h]
theorem slice8 (a : Addr) (h : Int) (h0 : 0 ≤ h) (h2 : h ≤ 8) (w : World) :
    (Instr.sliceAt 74 (.pointer (some a)) none (some (.int .i64 h)) none).run Tryd.prog w = .ok (.slice (some a) h.toNat 8) w := by
  have e1 : Tryd.prog.elem 74 = 5 := by kernel_rfl
  have e2 : Tryd.prog.arrayLen 74 = 8 := by kernel_rfl
  have e0 : Tryd.prog.underlying 74 = some (.array (Tryd.prog.arrayLen 74) (Tryd.prog.elem 74)) := by kernel_rfl
  rw [run_sliceAt_array_h (P := Tryd.prog) w 74 a e0 .i64 h h0 (by rw [e2]; exact h2)]
  rw [e1, e2, sizeOf_u8]
  simp [slicedAt, Result.andThen, Addr.add]
theorem fix_next (n k d : Nat) (arr : Array Value) (b : Int) (hk : k < d) (hd : d ≤ 8) (hsz : arr.size = 8) (hall : ∀ j, j < 8 → ∃ z, arr[j]? = some (.int .u8 z))
    (harr : ∀ j, j < k → arr[d - 1 - j]? = some (.int .u8 (n / 256 ^ j % 256 : Nat))) (hb : b = (n / 256 ^ k % 256 : Nat)) :
    (arr.setIfInBounds (d - 1 - k) (.int .u8 b)).size = 8 ∧ (∀ j, j < 8 → ∃ z, (arr.setIfInBounds (d - 1 - k) (.int .u8 b))[j]? = some (.int .u8 z)) ∧
      ∀ j, j < k + 1 → (arr.setIfInBounds (d - 1 - k) (.int .u8 b))[d - 1 - j]? = some (.int .u8 (n / 256 ^ j % 256 : Nat)) := by
  refine ⟨by simp [hsz], fun j hj => ?_, fun j hj => ?_⟩
  · rw [Array.getElem?_setIfInBounds]
    split
    · exact ⟨b, by simp [hsz]; omega⟩
    · exact hall j hj
  · rw [Array.getElem?_setIfInBounds]
    split
    · rename_i e; have e : k = j := by omega
      subst e; rw [if_pos (by omega), hb]
    · exact harr j (by omega)
theorem fix_conv (n d : Nat) (arr : Array Value) (w : World) (T : TypeId) (hd : d ≤ 8) (hsz : arr.size = 8)
    (harr : ∀ j, j < d → arr[d - 1 - j]? = some (.int .u8 (n / 256 ^ j % 256 : Nat))) :
    (convert 47 9 (.slice (some ⟨w.heap.size, 0, none⟩) d 8)).run Tryd.prog (w.alloc (.cells arr T)) = .ok (.string (sb (fixN d n))) (w.alloc (.cells arr T)) := by
  rw [← sb_nums]
  refine run_convert_bytes_arg _ 47 5 Tryd.underlying47 Tryd.underlying5 _ 0 d 8 _ (by simp [fixN_length]) (fun i hi => ?_) 9 Tryd.underlying9
  rw [Nat.zero_add, World.cell?_alloc_new, List.getD, List.getElem?_map]
  have e1 := harr (d - 1 - i) (by omega)
  have e2 := fixN_get d n (d - 1 - i) (by omega)
  rw [show d - 1 - (d - 1 - i) = i from by omega] at e1 e2
  rw [e1, e2]
  rfl
set_option maxHeartbeats 400000 in
theorem putFixed_ok (s : ByteArray) (x : Int) (d : Nat) (w : World) (h0 : 0 ≤ x) (h1 : x ≤ 18446744073709551615) (hd1 : 1 ≤ d) (hd2 : d ≤ 8) (hfit : x.toNat < 256 ^ d) (hs : s.size ≤ 4611686018427387904) :
    Calls Tryd.prog 33 #[.string s, .int .u64 x, .int .i64 d] w fun e w' => e = .returned (.tuple #[.string (s ++ sb (fixN d x.toNat)), .int .i64 0]) ∧ Below w.heap.size w w' := by
  have hbl : (Lib.bitLen x.toNat : Int) ≤ 8 * (d : Int) := by have := (bitLen_fits x.toNat d (by omega)).2 hfit; omega
  have hiw : isW (d : Int) = true := isW_yes (by omega) (by omega)
  obtain ⟨n, hn⟩ : ∃ n, n = x.toNat := ⟨_, rfl⟩
  have HN : Hid (n = x.toNat) := hn
  clear hn hfit
  go_enter Tryd.func33, Tryd.ntmps33
  go_wp2_with (first | (go_at_call 43; refine (isWidth_any _ _).mono ?_; rintro e w' ⟨rfl, rfl⟩; rw [hiw]) | (go_at_call 44; refine (len64_any x _ h0 h1).mono ?_; rintro e w' ⟨rfl, rfl⟩))
  go_loopw [1, 21] (fun v i wr => ∃ (k y : Nat) (arr : Array Value), k ≤ d ∧ i = .int .i64 k ∧ v = .int .u64 y ∧ y < 2 ^ 64 ∧ wr = w'.alloc (.cells arr 74) ∧ Hid (y = n / 256 ^ k ∧ arr.size = 8 ∧ (∀ j, j < 8 → ∃ z, arr[j]? = some (.int .u8 z)) ∧ ∀ j, j < k → arr[d - 1 - j]? = some (.int .u8 (n / 256 ^ j % 256 : Nat)))) (fun _ i _ => 10 - (intOf i).toNat)
  case atStart =>
    refine ⟨0, x.toNat, _, Nat.zero_le _, rfl, by go_num, by omega, rfl, ⟨by simp [HN.out], by simp, fun j hj => ?_, fun j hj => by omega⟩⟩
    refine ⟨0, ?_⟩
    rw [show (#[Value.int .u8 0, Value.int .u8 0, Value.int .u8 0, Value.int .u8 0, Value.int .u8 0, Value.int .u8 0, Value.int .u8 0, Value.int .u8 0] : Array Value) = Array.replicate 8 (Value.int .u8 0) from rfl]
    simp [hj]
  case round =>
    obtain ⟨k, y, arr, hk, rfl, rfl, hy, rfl, HR⟩ := hrel
    by_cases hlt : k < d
    · obtain ⟨z, hz⟩ := HR.out.2.2.1 (d - 1 - k) (by omega)
      have hz' : arr[((d : Int) - 1 - k).toNat]? = some (.int .u8 z) := by rw [show ((d : Int) - 1 - k).toNat = d - 1 - k from by omega]; exact hz
      go_wp2
      go_roundw
      case rel => 
        obtain ⟨hy, a1, a2, a3⟩ := HR.out
        refine ⟨k + 1, y / 256, _, by omega, by go_num, by go_num, by omega, rfl, ⟨?_, ?_⟩⟩
        · rw [hy, Nat.div_div_eq_div_mul, Nat.pow_succ]
        · exact fix_next n k d arr _ (by omega) (by omega) a1 a2 a3 (by rw [← hy]; omega)
      case measure => simp [intOf]; omega
    · obtain ⟨z, hz⟩ := HR.out.2.2.1 (d - 1) (by omega)
      have hke : k = d := by omega
      subst hke
      have hc := fix_conv n k arr w' 74 (by omega) HR.out.2.1 HR.out.2.2.2
      have hsl := slice8 ⟨w'.heap.size, 0, none⟩ (k : Int) (by omega) (by omega)
      have hsb : (sb (fixN k n)).size ≤ 10 := by rw [sb_size, fixN_length]; omega
      go_wp2
      go_ret2
      exact ⟨ret_se (by rw [HN.out]), by go_grown⟩
set_option maxHeartbeats 400000 in
theorem putFixed_no (s : ByteArray) (x d : Int) (w : World) (h0 : 0 ≤ x) (h1 : x ≤ 18446744073709551615) (hno : isW d = true → 256 ^ d.toNat ≤ x.toNat) :
    Calls Tryd.prog 33 #[.string s, .int .u64 x, .int .i64 d] w fun e w' => e = .returned (.tuple #[.string ⟨#[]⟩, .int .i64 1]) ∧ w' = w := by
  have H : Hid (isW d = true → 256 ^ d.toNat ≤ x.toNat) := hno
  clear hno
  cases hiw : isW d
  · clear H
    go_enter Tryd.func33, Tryd.ntmps33
    go_wp2_with (go_at_call 43; refine (isWidth_any _ _).mono ?_; rintro e w' ⟨rfl, rfl⟩; rw [hiw])
    go_ret2
    exact ⟨rfl, rfl⟩
  · have hd := isW_iff.1 hiw
    have hb : 8 * d < (Lib.bitLen x.toNat : Int) := by
      have := bitLen_fits x.toNat d.toNat (by omega)
      have := H.out hiw
      omega
    clear H
    go_enter Tryd.func33, Tryd.ntmps33
    go_wp2_with (first | (go_at_call 43; refine (isWidth_any _ _).mono ?_; rintro e w' ⟨rfl, rfl⟩; rw [hiw]) | (go_at_call 44; refine (len64_any x _ h0 h1).mono ?_; rintro e w' ⟨rfl, rfl⟩))
    go_ret2
    exact ⟨rfl, rfl⟩
end Go.Proofs.YtbfdggkoildfkaaDoor
