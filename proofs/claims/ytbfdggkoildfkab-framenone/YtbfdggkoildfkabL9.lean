/- munimentlaw03.FrameNone: no frame, an empty one, one too long by its word: the law returns true; no condition. -/
import Derived.Test.YtbfdggkoildfkabE5
import Derived.ProofKit
namespace Go.Proofs.Ytbfdggkoildfkab
open Go.ChangeShapes Go.WideShapes Go.ChangeAt Go.RowKit
set_option linter.unusedSimpArgs false
set_option linter.unusedVariables false
theorem uf_emp : ufB ⟨#[]⟩ = false := by decide +kernel
theorem uf_ff : ufB ⟨#[255, 255, 255, 255, 0, 0, 0, 0]⟩ = false := by decide +kernel
theorem frm_emp : frm ⟨#[]⟩ = ⟨#[0, 0, 0, 0, 33, 68, 223, 28]⟩ := by decide +kernel
theorem onC_nil (c : BitVec 32) : onC c (bl ⟨#[]⟩) = c := by
  show ~~~ (crcR (~~~ c) []) = c
  simp [crcR]
set_option maxRecDepth 100000 in
set_option maxHeartbeats 1000000 in
theorem none_walk (w : World) : Calls Try.prog 4 #[] w fun e w' => e = .returned (.bool true) ∧ Below w.heap.size w w' := by
  go_enter Try.func4, Try.ntmps4
  go_wp2_with fail
  refine (unframe_any _ _ (by decide)).mono ?_
  rintro e w1 ⟨rfl, h1⟩
  have z1 := h1.size
  rw [(uf_no uf_emp).1, (uf_no uf_emp).2.1, (uf_no uf_emp).2.2]
  go_wp2_with fail
  refine (all_any _ _ (by decide) (by rw [(all_no uf_emp).1]; decide)).mono ?_
  rintro e w2 ⟨v, rfl, h2o, h2⟩
  rw [(all_no uf_emp).1] at h2o
  rw [(all_no uf_emp).2]
  have hv : v = .slice none 0 0 ∨ ∃ g c, v = .slice (some ⟨g, 0, none⟩) 0 c := by
    rcases h2o.2 with ⟨h, _⟩ | ⟨g, c, _, h, _⟩
    · exact Or.inl h
    · exact Or.inr ⟨g, c, h⟩
  have H2 : Hid (Below w.heap.size w w2) := h1.trans (h2.mono z1)
  have z2 : w.heap.size ≤ w2.heap.size := H2.out.size
  clear h1 h2 z1 h2o
  go_wp2_with fail
  refine (frame_ok ⟨#[]⟩ _ (by decide)).mono ?_
  rintro e w3 ⟨rfl, h3⟩
  rw [frm_emp]
  have H3 : Hid (Below w.heap.size w w3) := H2.out.trans (h3.mono z2)
  have z3 : w.heap.size ≤ w3.heap.size := H3.out.size
  clear h3 H2 z2
  go_wp2_with fail
  refine (unframe_any _ _ (by decide)).mono ?_
  rintro e w4 ⟨rfl, h4⟩
  obtain ⟨k1, k2, k3⟩ := frame_uf ⟨#[]⟩ ⟨#[0, 0, 0, 0, 33, 68, 223, 28]⟩ ⟨#[]⟩ (by rw [frm_emp]; decide +kernel) (by decide)
  rw [k2, k3, (uf_yes k1).2.2]
  clear k1 k2 k3
  have H4 : Hid (Below w.heap.size w w4) := H3.out.trans (h4.mono z3)
  have z4 : w.heap.size ≤ w4.heap.size := H4.out.size
  clear h4 H3 z3
  go_wp2_with fail
  refine (unframe_any _ _ (by decide)).mono ?_
  rintro e w5 ⟨rfl, h5⟩
  rw [(uf_no uf_ff).1, (uf_no uf_ff).2.1, (uf_no uf_ff).2.2]
  have H5 : Hid (Below w.heap.size w w5) := H4.out.trans (h5.mono z4)
  have z5 : w.heap.size ≤ w5.heap.size := H5.out.size
  clear h5 H4 z4
  rcases hv with rfl | ⟨g, c, rfl⟩
  all_goals
    go_wp2_with fail
    refine (crc_any _ _ (by decide)).mono ?_
    rintro e w6 ⟨rfl, h6⟩
    rw [show crcC (bl ⟨#[]⟩) = 0#32 from onC_nil _]
    have H6 : Hid (Below w.heap.size w w6) := H5.out.trans (h6.mono z5)
    have z6 : w.heap.size ≤ w6.heap.size := H6.out.size
    clear h6
    go_wp2_with fail
    refine (on_any 7#32 ⟨#[]⟩ _ (by decide)).mono ?_
    rintro e w7 ⟨rfl, h7⟩
    rw [onC_nil]
    have H7 : Hid (Below w.heap.size w w7) := H6.out.trans (h7.mono z6)
    have z7 : w.heap.size ≤ w7.heap.size := H7.out.size
    clear h7
    go_wp2_with fail
    refine (awake_any w7).mono ?_
    rintro e w8 ⟨rfl, h8⟩
    have H8 : Hid (Below w.heap.size w w8) := H7.out.trans (h8.mono z7)
    clear h8
    go_wp2
    go_ret
    exact ⟨rfl, H8.out⟩
theorem own : ownKnob Try.prog.godebug = none := by kernel_rfl
set_option maxRecDepth 100000 in
theorem none_lifted (os : Os) (started : os.Started) (H : Type) (enc : TypeId × Value → H) :
    ReturnsInHanded {} Try.checked os 4 .any (Rows.frameNoneSpec.pre6 enc Try.prog Try.f4 Rows.frameNoneRow.domain false) (Rows.frameNoneSpec.post enc Try.prog Try.f4 false true false false) := by
  refine returnsInHanded_of_change (C := Try.checked) own started (by kernel_rfl) Try.func4
    (ChangeSpec.witness6 (enc := enc) (C := Try.checked) false ⟨#[], #[], []⟩ 8 (by kernel_rfl) (by kernel_rfl) (by kernel_rfl) (by kernel_rfl)) ?_
  intro W base args ds gs before hval0 hW hcnd _
  have hval : ∀ (j : Nat) t v, Try.f4.params[j]? = some t → args[j]? = some v → Value.okWide Try.prog W .any base t v := hval0
  have hW' := hW
  obtain ⟨p, q, hA0, hV, rfl, hfz, hnd⟩ := hW
  have hA : DataW.TrodAll enc Try.prog W 0 (fun _ => true) true Try.f4.params.toList args.toList ds p := hA0
  rw [Try.params4] at hA hval
  obtain ⟨hargs, rfl, rfl⟩ := trodAll_nil hA
  obtain rfl : args = #[] := by cases args; simp_all
  obtain ⟨rfl, rfl⟩ := trodVars_none hV
  clear hA0 hval0
  simp only [List.append_nil] at hW'
  refine (none_walk W).mono fun e W' ⟨he, hg⟩ => ?_
  subst he
  exact ⟨_, rfl, _, _, _, [], [], [], hW', trodAll_mk1 (shut_bool Try.underlying4 _), trodAll_mk0, rfl, hg.frame _, fun h => by cases h⟩
theorem none_holds : Rows.FrameNoneSaid :=
  OpenClaim.holds_of_wide 4 Try.f4 rfl rfl rfl rfl rfl rfl rfl ⟨rfl, rfl, rfl, rfl, rfl⟩ rfl rfl rfl rfl rfl (by kernel_rfl) Try.func4 (by kernel_rfl)
    (of_decide_eq_true (by kernel_rfl)) (by unfold Func.isWrapper; first | (rw [if_pos (by decide +kernel)]; kernel_rfl) | (rw [if_neg (by decide +kernel)]; exact ⟨rfl, rfl⟩))
    (fun os started H enc _ => none_lifted os started H enc)
end Go.Proofs.Ytbfdggkoildfkab
