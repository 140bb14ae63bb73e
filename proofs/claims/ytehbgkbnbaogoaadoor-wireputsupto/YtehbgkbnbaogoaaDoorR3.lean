/- The walks of the document's own Put, PutText, Len (munimentref01). -/
import Derived.Test.YtehbgkbnbaogoaaDoorW2
import Derived.Test.YtehbgkbnbaogoaaDoorP7
namespace Go.Proofs.YtehbgkbnbaogoaaDoor
open Go.RowKit
set_option linter.unusedSimpArgs false
set_option linter.unusedVariables false
/-- One byte, as a slice of its own, as a string. -/
theorem conv1 (w : World) (v : Int) : (convert 50 9 (.slice (some ⟨w.heap.size, 0, none⟩) 1 1)).run Tryd.prog (w.alloc (.cells #[.int .u8 v] 5)) = .ok (.string (strOfNums [v])) (w.alloc (.cells #[.int .u8 v] 5)) :=
  run_convert_bytes_arg _ 50 5 Tryd.underlying50 Tryd.underlying5 _ 0 1 1 [v] rfl (fun i hi => by
    have : i = 0 := by omega
    subst this
    rw [World.cell?_alloc_new]; rfl) 9 Tryd.underlying9
theorem one_size (v : Int) : (strOfNums [v]).size = 1 := strOfNums_size _
theorem one_is (n : Nat) (v : Int) (h : v = n) : strOfNums [v] = sb [n] := by rw [h]; exact sb_nums [n]
theorem put_more (s a : ByteArray) (n y : Nat) (v : Int) (h : a ++ sb (encS y) = s ++ sb (encS n)) (hy : 128 ≤ y) (hy2 : y < 2 ^ 64) (hv : v = (y % 128 + 128 : Nat)) :
    (a ++ strOfNums [v]) ++ sb (encS (y / 128)) = s ++ sb (encS n) := by
  rw [← h, encS_step y hy hy2, one_is _ v hv]
  apply bl_inj
  simp [bl_append, bl_sb, by8]
theorem put_done (s a : ByteArray) (n y : Nat) (v : Int) (h : a ++ sb (encS y) = s ++ sb (encS n)) (hy : y < 128) (hv : v = (y : Nat)) : a ++ strOfNums [v] = s ++ sb (encS n) := by
  rw [← h, encS_small y hy, one_is _ v hv]
theorem slen_step (y : Nat) (h : 128 ≤ y) (hy : y < 2 ^ 64) : slen y = slen (y / 128) + 1 := by
  rw [← encS_length y, ← encS_length (y / 128), encS_step y h hy]; rfl
set_option maxHeartbeats 400000 in
set_option maxRecDepth 100000 in
theorem rput_any (s : ByteArray) (x : Int) (w : World) (h0 : 0 ≤ x) (h1 : x ≤ 18446744073709551615) (hs : s.size ≤ 4611686018427387904) :
    Calls Tryd.prog 10 #[.string s, .int .u64 x] w fun e w' => e = .returned (.string (s ++ sb (encS x.toNat))) ∧ Below w.heap.size w w' := by
  obtain ⟨n, rfl⟩ := Int.eq_ofNat_of_zero_le h0
  rw [Int.toNat_natCast]
  have hc1 := conv1
  have hz1 := one_size
  have hn : n < 18446744073709551616 := by omega
  go_enter Tryd.func10, Tryd.ntmps10
  go_wp2
  go_loopw [0, 1] (fun v i wr => ∃ (y : Nat) (a : ByteArray), i = .int .u64 y ∧ y < 18446744073709551616 ∧ v = .string a ∧ a.size + slen y = s.size + slen n ∧ Hid (a ++ sb (encS y) = s ++ sb (encS n)) ∧ Below w.heap.size w wr) (fun _ i _ => (intOf i).toNat)
  case atStart => exact ⟨n, s, rfl, hn, rfl, rfl, rfl, Below.refl _ _⟩
  case round =>
    obtain ⟨y, a, rfl, hy, rfl, haz, HE, hbel⟩ := hrel
    have hb0 := hbel.size
    have l1 := slen_le n (by omega)
    have hab : a.size ≤ 4611686018427387914 := by omega
    have HZ : Hid (a.size + slen y = s.size + slen n) := haz
    clear haz
    by_cases hy1 : 128 ≤ y
    · go_wp2
      go_roundw
      case rel => exact ⟨y / 128, _, by go_num, by omega, rfl, by rw [append_size, one_size]; have := slen_step y hy1 (by omega); have := HZ.out; omega, put_more s a n y _ HE.out hy1 (by omega) (by omega), hbel.alloc hb0 _⟩
      case measure => simp [intOf]; omega
    · go_wp2
      go_ret
      exact ⟨ret_str (put_done s a n y _ HE.out (by omega) rfl), hbel.alloc hb0 _⟩
set_option maxHeartbeats 400000 in
theorem rputText_any (s t : ByteArray) (w : World) (hs : s.size ≤ 4611686018427387000) (ht : t.size ≤ 140737488351232) :
    Calls Tryd.prog 12 #[.string s, .string t] w fun e w' => e = .returned (.string (s ++ sb (encS t.size) ++ t)) ∧ Below w.heap.size w w' := by
  have hsb : (sb (encS t.size)).size ≤ 10 := by rw [sb_size, encS_length]; exact slen_le _ (by omega)
  have hsz := append_size s (sb (encS t.size))
  go_enter Tryd.func12, Tryd.ntmps12
  go_wp2_with fail
  refine (rput_any s t.size w (by omega) (by omega) (by omega)).mono ?_
  rintro e w1 ⟨rfl, hb⟩
  rw [Int.toNat_natCast]
  go_wp2
  go_ret
  exact ⟨rfl, hb⟩
set_option maxHeartbeats 400000 in
theorem rlen_any (x : Int) (w : World) (h0 : 0 ≤ x) (h1 : x ≤ 18446744073709551615) :
    Calls Tryd.prog 14 #[.int .u64 x] w fun e w' => e = .returned (.int .i64 (slen x.toNat)) ∧ Below w.heap.size w w' := by
  have hl := slen_le x.toNat (by omega)
  have hz : ((⟨#[]⟩ : ByteArray) ++ sb (encS x.toNat)).size = slen x.toNat := by rw [append_size, sb_size, encS_length]; exact Nat.zero_add _
  go_enter Tryd.func14, Tryd.ntmps14
  go_wp2_with fail
  refine (rput_any ⟨#[]⟩ x w h0 h1 (by decide)).mono ?_
  rintro e w1 ⟨rfl, hb⟩
  generalize hA : (⟨#[]⟩ : ByteArray) ++ sb (encS x.toNat) = A at hz ⊢
  clear hA
  go_wp2
  go_ret
  exact ⟨rfl, hb⟩
/-- Whether a number fits a width of 1 to 8 bytes. -/
def fitB (n d : Nat) : Bool := decide (n < 256 ^ d)
theorem fitB_yes {n d : Nat} (h : n < 256 ^ d) : fitB n d = true := decide_eq_true h
theorem fitB_no {n d : Nat} (h : 256 ^ d ≤ n) : fitB n d = false := decide_eq_false (by omega)
set_option maxHeartbeats 400000 in
theorem fits_any (n d : Nat) (w : World) (hn : n < 18446744073709551616) (hd1 : 1 ≤ d) (hd2 : d ≤ 8) :
    Calls Tryd.prog 26 #[.int .u64 n, .int .i64 d] w fun e w' => e = .returned (.bool (fitB n d)) ∧ w' = w := by
  have hb : (fitB n d = true ∧ n < 256 ^ d) ∨ (fitB n d = false ∧ 256 ^ d ≤ n) := by
    rcases Nat.lt_or_ge n (256 ^ d) with h | h
    · exact Or.inl ⟨fitB_yes h, h⟩
    · exact Or.inr ⟨fitB_no h, h⟩
  have h8 : d = 1 ∨ d = 2 ∨ d = 3 ∨ d = 4 ∨ d = 5 ∨ d = 6 ∨ d = 7 ∨ d = 8 := by omega
  rcases h8 with h | h | h | h | h | h | h | h
  all_goals subst h
  all_goals rcases hb with ⟨e, h⟩ | ⟨e, h⟩
  all_goals rw [e]
  all_goals clear e
  all_goals simp only [Nat.reducePow] at h
  all_goals first
    | (exfalso; omega)
    | (go_enter Tryd.func26, Tryd.ntmps26
       go_wp2
       go_ret
       refine ⟨ret_bool ?_, rfl⟩
       first | (simp; done) | (simp; omega))
end Go.Proofs.YtehbgkbnbaogoaaDoor
