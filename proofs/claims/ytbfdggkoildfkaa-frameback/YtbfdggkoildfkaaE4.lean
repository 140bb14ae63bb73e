/- The walk of the law's awake. -/
import Derived.Test.YtbfdggkoildfkaaE3
namespace Go.Proofs.Ytbfdggkoildfkaa
open Go.RowKit
set_option linter.unusedSimpArgs false
set_option linter.unusedVariables false
theorem crc9 : crcC (bl ⟨#[49, 50, 51, 52, 53, 54, 55, 56, 57]⟩) = 3421780262#32 := by decide +kernel
theorem ret_b {a b : Bool} (h : a = b) : Ending.returned (.bool a) = .returned (.bool b) := by rw [h]
set_option maxHeartbeats 400000 in
theorem awake_any (w : World) : Calls Try.prog 16 #[] w fun e w' => e = .returned (.bool true) ∧ Below w.heap.size w w' := by
  go_enter Try.func16, Try.ntmps16
  go_wp2_with fail
  refine (frame_ok ⟨#[97, 98]⟩ w (by decide)).mono ?_
  rintro e w1 ⟨rfl, h1⟩
  obtain ⟨f, hf⟩ : ∃ f, f = frm ⟨#[97, 98]⟩ := ⟨_, rfl⟩
  rw [← hf]
  have hz : f.size ≤ 10 := by rw [hf, frm_size]; decide
  have HF : Hid (f = frm ⟨#[97, 98]⟩) := hf
  clear hf
  go_wp2_with fail
  refine (unframe_any _ _ (by rw [append_size, show (⟨#[120]⟩ : ByteArray).size = 1 from rfl]; unfold maxLen; omega)).mono ?_
  rintro e w2 ⟨rfl, h2⟩
  obtain ⟨k1, k2, k3⟩ := frame_uf ⟨#[97, 98]⟩ (f ++ ⟨#[120]⟩) ⟨#[120]⟩ (by rw [HF.out]) (by decide)
  rw [k2, k3, (uf_yes k1).2.2]
  clear k1 k2 k3
  have H2 : Hid (Below w.heap.size w w2) := h1.trans (h2.mono h1.size)
  have hz2 : w.heap.size ≤ w2.heap.size := H2.out.size
  clear h1 h2
  go_wp2_with fail
  refine (crc_any _ _ (by decide)).mono ?_
  rintro e w3 ⟨rfl, h3⟩
  rw [crc9]
  have H3 : Hid (Below w.heap.size w w3) := H2.out.trans (h3.mono hz2)
  clear h3
  go_wp2
  go_ret
  exact ⟨rfl, H3.out⟩
end Go.Proofs.Ytbfdggkoildfkaa
