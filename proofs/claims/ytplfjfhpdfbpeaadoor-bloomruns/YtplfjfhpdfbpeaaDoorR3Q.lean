/- The document's own Put, PutText, Len. -/
import Derived.Test.YtplfjfhpdfbpeaaDoorR3A
namespace Go.Proofs.YtplfjfhpdfbpeaaDoor
open Go.RowKit
set_option linter.unusedSimpArgs false
set_option linter.unusedVariables false
/-- One byte, as a slice of its own, as a string. -/
theorem put_more (s a : ByteArray) (n y : Nat) (v : Int) (h : a ++ sb (encS y) = s ++ sb (encS n)) (hy : 128 ≤ y) (hy2 : y < 2 ^ 64) (hv : v = (y % 128 + 128 : Nat)) :
    (a ++ strOfNums [v]) ++ sb (encS (y / 128)) = s ++ sb (encS n) := by
  rw [← h, encS_step y hy hy2, one_is _ v hv]
  apply bl_inj
  simp [bl_append, bl_sb, by8]
theorem put_done (s a : ByteArray) (n y : Nat) (v : Int) (h : a ++ sb (encS y) = s ++ sb (encS n)) (hy : y < 128) (hv : v = (y : Nat)) : a ++ strOfNums [v] = s ++ sb (encS n) := by
  rw [← h, encS_small y hy, one_is _ v hv]
theorem slen_step (y : Nat) (h : 128 ≤ y) (hy : y < 2 ^ 64) : slen y = slen (y / 128) + 1 := by
  rw [← encS_length y, ← encS_length (y / 128), encS_step y h hy]; rfl
set_option maxHeartbeats 400000 in
set_option maxRecDepth 100000 in
theorem rput_any (s : ByteArray) (x : Int) (w : World) (h0 : 0 ≤ x) (h1 : x ≤ 18446744073709551615) (hs : s.size ≤ 4611686018427387904) :
    Calls Tryd.prog 42 #[.string s, .int .u64 x] w fun e w' => e = .returned (.string (s ++ sb (encS x.toNat))) ∧ Below w.heap.size w w' := by
  obtain ⟨n, rfl⟩ := Int.eq_ofNat_of_zero_le h0
  rw [Int.toNat_natCast]
  have hc1 := conv1
  have hz1 := one_size
  have hn : n < 18446744073709551616 := by omega
  go_enter Tryd.func42, Tryd.ntmps42
  go_wp2
  go_loopw [0, 1] (fun v i wr => ∃ (y : Nat) (a : ByteArray), i = .int .u64 y ∧ y < 18446744073709551616 ∧ v = .string a ∧ a.size + slen y = s.size + slen n ∧ Hid (a ++ sb (encS y) = s ++ sb (encS n)) ∧ Below w.heap.size w wr) (fun _ i _ => (intOf i).toNat)
  case atStart => exact ⟨n, s, rfl, hn, rfl, rfl, rfl, Below.refl _ _⟩
  case round =>
    obtain ⟨y, a, rfl, hy, rfl, haz, HE, hbel⟩ := hrel
    have hb0 := hbel.size
    have l1 := slen_le n (by omega)
    have hab : a.size ≤ 4611686018427387914 := by omega
    have HZ : Hid (a.size + slen y = s.size + slen n) := haz
    clear haz
    by_cases hy1 : 128 ≤ y
    · go_wp2
      go_roundw
      case rel => exact ⟨y / 128, _, by go_num, by omega, rfl, by rw [append_size, one_size]; have := slen_step y hy1 (by omega); have := HZ.out; omega, put_more s a n y _ HE.out hy1 (by omega) (by omega), hbel.alloc hb0 _⟩
      case measure => simp [intOf]; omega
    · go_wp2
      go_ret
      exact ⟨ret_str (put_done s a n y _ HE.out (by omega) rfl), hbel.alloc hb0 _⟩
end Go.Proofs.YtplfjfhpdfbpeaaDoor
