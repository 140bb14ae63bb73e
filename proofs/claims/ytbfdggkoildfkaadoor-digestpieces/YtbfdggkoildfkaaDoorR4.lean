/- The walk of the document's own PutFixed (munimentref01). -/
import Derived.Test.YtbfdggkoildfkaaDoorR3F
import Derived.Test.YtbfdggkoildfkaaDoorW3F
namespace Go.Proofs.YtbfdggkoildfkaaDoor
open Go.RowKit
set_option linter.unusedSimpArgs false
set_option linter.unusedVariables false
set_option maxHeartbeats 400000 in
theorem rputFixed_no (s : ByteArray) (x d : Int) (w : World) (h0 : 0 ≤ x) (h1 : x ≤ 18446744073709551615) (hno : isW d = true → 256 ^ d.toNat ≤ x.toNat) :
    Calls Tryd.prog 46 #[.string s, .int .u64 x, .int .i64 d] w fun e w' => e = .returned (.tuple #[.string ⟨#[]⟩, .int .i64 1]) ∧ w' = w := by
  have H : Hid (isW d = true → 256 ^ d.toNat ≤ x.toNat) := hno
  clear hno
  by_cases h3 : d < 1
  · clear H
    go_enter Tryd.func46, Tryd.ntmps46
    go_wp2
    go_ret2
    exact ⟨rfl, rfl⟩
  · by_cases h4 : 8 < d
    · clear H
      go_enter Tryd.func46, Tryd.ntmps46
      go_wp2
      go_ret2
      exact ⟨rfl, rfl⟩
    · obtain ⟨m, rfl⟩ := Int.eq_ofNat_of_zero_le (show 0 ≤ d by omega)
      obtain ⟨n, rfl⟩ := Int.eq_ofNat_of_zero_le h0
      have hf : fitB n m = false := fitB_no (by simpa using H.out (isW_yes (by omega) (by omega)))
      clear H
      have h5 : (1 : Int) ≤ m := by omega
      go_enter Tryd.func46, Tryd.ntmps46
      go_wp2_with (go_at_call 51; refine (fits_any n m _ (by omega) (by omega) (by omega)).mono ?_; rintro e w' ⟨rfl, rfl⟩; rw [hf])
      go_ret2
      exact ⟨rfl, rfl⟩
theorem fix_more (s a : ByteArray) (n d k : Nat) (h : a = s ++ sb ((fixN d n).take k)) (hk : k < d) :
    a ++ strOfNums [(n : Int) / 2 ^ (8 * (d - 1 - k)) % 256] = s ++ sb ((fixN d n).take (k + 1)) := by
  have e1 : ((n : Int) / 2 ^ (8 * (d - 1 - k)) % 256) = ((n / 256 ^ (d - 1 - k) % 256 : Nat) : Int) := by
    rw [pow256]; rfl
  have e2 := fixN_get d n (d - 1 - k) (by omega)
  rw [show d - 1 - (d - 1 - k) = k from by omega] at e2
  have hl : k < (fixN d n).length := by rw [fixN_length]; exact hk
  have e3 : (fixN d n).take (k + 1) = (fixN d n).take k ++ [n / 256 ^ (d - 1 - k) % 256] := by
    rw [List.take_succ_eq_append_getElem hl]
    rw [List.getElem?_eq_getElem hl] at e2
    simp only [Option.some.injEq] at e2
    rw [e2]
  rw [one_is _ _ e1, e3, h]
  apply bl_inj
  simp [bl_append, bl_sb, by8]
set_option maxHeartbeats 400000 in
set_option maxRecDepth 100000 in
theorem rputFixed_ok (s : ByteArray) (n : Nat) (d : Nat) (w : World) (hn : n < 18446744073709551616) (hd1 : 1 ≤ d) (hd2 : d ≤ 8) (hfit : n < 256 ^ d) (hs : s.size ≤ 4611686018427387904) :
    Calls Tryd.prog 46 #[.string s, .int .u64 n, .int .i64 d] w fun e w' => e = .returned (.tuple #[.string (s ++ sb (fixN d n)), .int .i64 0]) ∧ Below w.heap.size w w' := by
  have hf : fitB n d = true := fitB_yes hfit
  clear hfit
  have hc1 := conv1
  have hz1 := one_size
  have e1 : ¬ ((d : Int) < 1) := by omega
  have e2 : ¬ ((8 : Int) < d) := by omega
  go_enter Tryd.func46, Tryd.ntmps46
  go_wp2_with (go_at_call 51; refine (fits_any n d _ hn hd1 hd2).mono ?_; rintro e w' ⟨rfl, rfl⟩; rw [hf])
  go_loopw [0, 8] (fun v i wr => ∃ (k : Nat) (a : ByteArray), k ≤ d ∧ i = .int .i64 ((d : Int) - 1 - k) ∧ v = .string a ∧ a.size = s.size + k ∧ Hid (a = s ++ sb ((fixN d n).take k)) ∧ Below w'.heap.size w' wr) (fun _ i _ => (intOf i + 1).toNat)
  case atStart => exact ⟨0, s, by omega, by go_num, rfl, rfl, by show s = _; apply bl_inj; rw [bl_append]; simp [bl_sb, by8], Below.refl _ _⟩
  case round =>
    obtain ⟨k, a, hk, rfl, rfl, haz, HE, hbel⟩ := hrel
    have hb0 := hbel.size
    have hab : a.size ≤ 4611686018427387914 := by omega
    have HZ : Hid (a.size = s.size + k) := haz
    clear haz
    by_cases hlt : k < d
    · go_wp2
      go_roundw
      case rel => exact ⟨k + 1, _, by omega, by go_num, rfl, by rw [append_size, one_size]; have := HZ.out; omega, fix_more s a n d k HE.out hlt, hbel.alloc hb0 _⟩
      case measure => simp [intOf]; omega
    · go_wp2
      go_ret2
      have hkd : k = d := by omega
      refine ⟨ret_se ?_, hbel⟩
      rw [HE.out, hkd, List.take_of_length_le (by rw [fixN_length]; exact Nat.le_refl _)]
end Go.Proofs.YtbfdggkoildfkaaDoor
