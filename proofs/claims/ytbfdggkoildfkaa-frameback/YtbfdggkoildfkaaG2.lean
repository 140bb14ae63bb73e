/- The walks of the document's own Laid, Frame, Unframe (munimentref03). -/
import Derived.Test.YtbfdggkoildfkaaG1
import Derived.Test.YtbfdggkoildfkaaR2F
import Derived.Test.YtbfdggkoildfkaaR4F
namespace Go.Proofs.Ytbfdggkoildfkaa
open Go.RowKit
set_option linter.unusedSimpArgs false
set_option linter.unusedVariables false
set_option maxHeartbeats 400000 in
theorem laid_any (p : ByteArray) (w : World) (hp : p.size ≤ 67108864) :
    Calls Try.prog 19 #[.string p] w fun e w' => e = .returned (.string (frm p)) ∧ Below w.heap.size w w' := by
  go_enter Try.func19, Try.ntmps19
  go_wp2_with fail
  refine (rfix_any p.size 4 _ (by omega) (by omega) (by omega) (by omega)).mono ?_
  rintro e w1 ⟨rfl, hb1⟩
  rw [emp_append]
  obtain ⟨a, ha⟩ : ∃ a, a = sb (fixN 4 p.size) := ⟨_, rfl⟩
  rw [← ha]
  have hal : a.size ≤ 4 := by rw [ha, sb4_size]; omega
  have HA : Hid (a = sb (fixN 4 p.size)) := ha
  clear ha
  go_wp2_with fail
  refine (rcrc_any (a ++ p) _ (by rw [append_size]; unfold maxLen; omega)).mono ?_
  rintro e w2 ⟨rfl, hw2⟩
  subst hw2
  obtain ⟨q, hq⟩ : ∃ q : BitVec 32, q = crcC (bl (a ++ p)) := ⟨_, rfl⟩
  rw [← hq]
  have HQ : Hid (q = crcC (bl a ++ bl p)) := by show q = _; rw [hq, bl_append]
  have hlt := q.isLt
  clear hq
  go_wp2_with fail
  refine (rfix_any q.toNat 4 _ (by omega) (by omega) (by omega) (by omega)).mono ?_
  rintro e w3 ⟨rfl, hb3⟩
  rw [emp_append]
  obtain ⟨h, hh⟩ : ∃ h, h = sb (fixN 4 q.toNat) := ⟨_, rfl⟩
  rw [← hh]
  have hhz : h.size ≤ 4 := by rw [hh, sb4_size]; omega
  have HH : Hid (h = sb (fixN 4 q.toNat)) := hh
  clear hh
  go_wp2
  go_ret
  refine ⟨ret_str ?_, ?_⟩
  · rw [HH.out, HQ.out, HA.out]; exact frm_eq p
  · exact hb1.trans (hb3.mono hb1.size)
set_option maxHeartbeats 400000 in
theorem rframe_no (p : ByteArray) (w : World) (hs : p.size ≤ maxLen) (hp : 67108864 < p.size) :
    Calls Try.prog 6 #[.string p] w fun e w' => e = .returned (.tuple #[.string ⟨#[]⟩, .int .i64 1]) ∧ w' = w := by
  unfold maxLen at hs
  go_enter Try.func6, Try.ntmps6
  go_wp2
  go_ret2
  exact ⟨rfl, rfl⟩
set_option maxHeartbeats 400000 in
theorem rframe_ok (p : ByteArray) (w : World) (hp : p.size ≤ 67108864) :
    Calls Try.prog 6 #[.string p] w fun e w' => e = .returned (.tuple #[.string (frm p), .int .i64 0]) ∧ Below w.heap.size w w' := by
  go_enter Try.func6, Try.ntmps6
  go_wp2_with fail
  refine (laid_any p _ hp).mono ?_
  rintro e w1 ⟨rfl, hb1⟩
  go_wp2
  go_ret2
  exact ⟨rfl, hb1⟩
end Go.Proofs.Ytbfdggkoildfkaa
