/- munimentlaw01.WireNone: calls on no reader, and at the ends of their ranges: the law returns true; no condition. -/
import Derived.Test.YtehbgkbnbaogoaaW9
import Derived.Test.YtehbgkbnbaogoaaW6T
import Derived.ProofKit
namespace Go.Proofs.Ytehbgkbnbaogoaa
open Go.ChangeShapes Go.WideShapes Go.ChangeAt Go.RowKit
set_option linter.unusedSimpArgs false
set_option linter.unusedVariables false
theorem Below.read {B b : Nat} {w w1 w2 : World} {o : Obj} {s : ByteArray} (h1 : Below B w w1) (hB : B ≤ w1.heap.size) (h2 : Step b (w1.alloc o) w2 s) (hb : B ≤ b) : Below B w w2 ∧ B ≤ w2.heap.size :=
  ⟨(h1.alloc hB o).trans (h2.below hb (by simp; omega)), by have := h2.size; simp at this; omega⟩
theorem Below.more {B : Nat} {w w1 w2 : World} (h1 : Below B w w1) (hB : B ≤ w1.heap.size) (h2 : Below w1.heap.size w1 w2) : Below B w w2 ∧ B ≤ w2.heap.size :=
  ⟨h1.trans (h2.mono hB), by have := h2.size; omega⟩
theorem kBad : shK ⟨#[255, 255, 255, 255, 255, 255, 255, 255, 255, 2]⟩ = 0 := by decide +kernel
theorem kMax : shK ⟨#[255, 255, 255, 255, 255, 255, 255, 255, 255, 1]⟩ = 10 := by decide +kernel
theorem nMax : shN ⟨#[255, 255, 255, 255, 255, 255, 255, 255, 255, 1]⟩ = 18446744073709551615 := by decide +kernel
theorem kTwo : shK ⟨#[128, 0]⟩ = 0 := by decide +kernel
theorem kZero : shK ⟨#[0]⟩ = 1 := by decide +kernel
theorem nZero : shN ⟨#[0]⟩ = 0 := by decide +kernel
theorem f8 : ((⟨#[]⟩ : ByteArray) ++ sb (fixN 8 (18446744073709551615 : Int).toNat)) = ⟨#[255, 255, 255, 255, 255, 255, 255, 255]⟩ := by apply bl_inj; decide +kernel
theorem f7 : ((⟨#[]⟩ : ByteArray) ++ sb (fixN 7 (72057594037927935 : Int).toNat)) = ⟨#[255, 255, 255, 255, 255, 255, 255]⟩ := by apply bl_inj; decide +kernel
set_option maxRecDepth 100000 in
set_option maxHeartbeats 1000000 in
theorem none_walk (w : World) : Calls Try.prog 5 #[] w fun e w' => e = .returned (.bool true) ∧ Below w.heap.size w w' := by
  go_enter Try.func5, Try.ntmps5
  go_wp2_with fail
  refine (uint_nil _).mono ?_
  rintro e w' ⟨rfl, rfl⟩
  go_wp2_with fail
  refine (fixed_nil _ _).mono ?_
  rintro e w' ⟨rfl, rfl⟩
  go_wp2_with fail
  refine (text_nil _ _).mono ?_
  rintro e w' ⟨rfl, rfl⟩
  go_wp2_with fail
  refine (take_nil _ _).mono ?_
  rintro e w' ⟨rfl, rfl⟩
  go_wp2_with fail
  refine (end_nil _).mono ?_
  rintro e w ⟨rfl, rfl⟩
  go_wp2_with fail
  refine (putFixed_ok ⟨#[]⟩ 18446744073709551615 8 w (by omega) (by omega) (by omega) (by omega) (by decide) (by decide)).mono ?_
  rintro e w1 ⟨rfl, h1⟩
  rw [f8]
  have z1 := h1.size
  go_wp2_with fail
  refine (putFixed_no ⟨#[]⟩ 72057594037927936 7 w1 (by omega) (by omega) (fun _ => by decide)).mono ?_
  rintro e w1 ⟨rfl, rfl⟩
  go_wp2_with fail
  refine (putFixed_ok ⟨#[]⟩ 72057594037927935 7 w1 (by omega) (by omega) (by omega) (by omega) (by decide) (by decide)).mono ?_
  rintro e w2 ⟨rfl, h2⟩
  rw [f7]
  obtain ⟨b2, z2⟩ := Below.more h1 z1 h2
  clear h1 h2 z1
  go_wp2_with fail
  refine (putFixed_no ⟨#[]⟩ 0 0 w2 (by omega) (by omega) (fun h => by simp [isW] at h)).mono ?_
  rintro e w2 ⟨rfl, rfl⟩
  go_wp2_with fail
  refine (new_any _ w2).mono ?_
  rintro e w3 ⟨rfl, rfl⟩
  go_wp2_with fail
  refine (uint_no ⟨#[255, 255, 255, 255, 255, 255, 255, 255, 255, 2]⟩ w2.heap.size _ (by decide) (al_ptr _ _ _) (by simp) (by simp) kBad).mono ?_
  rintro e w3 ⟨rfl, h3⟩
  obtain ⟨b3, z3⟩ := Below.read b2 z2 h3 z2
  clear b2 z2 h3
  go_wp2_with fail
  refine (new_any _ w3).mono ?_
  rintro e w4 ⟨rfl, rfl⟩
  go_wp2_with fail
  refine (uint_ok ⟨#[255, 255, 255, 255, 255, 255, 255, 255, 255, 1]⟩ w3.heap.size _ (by decide) (al_ptr _ _ _) (by simp) (by simp) (by rw [kMax]; decide)).mono ?_
  rintro e w4 ⟨rfl, h4⟩
  obtain ⟨b4, z4⟩ := Below.read b3 z3 h4 z3
  clear b3 z3 h4
  rw [nMax]
  go_wp2_with fail
  refine (new_any _ w4).mono ?_
  rintro e w5 ⟨rfl, rfl⟩
  go_wp2_with fail
  refine (uint_no ⟨#[128, 0]⟩ w4.heap.size _ (by decide) (al_ptr _ _ _) (by simp) (by simp) kTwo).mono ?_
  rintro e w5 ⟨rfl, h5⟩
  obtain ⟨b5, z5⟩ := Below.read b4 z4 h5 z4
  clear b4 z4 h5
  go_wp2_with fail
  refine (new_any _ w5).mono ?_
  rintro e w6 ⟨rfl, rfl⟩
  go_wp2_with fail
  refine (text_ok ⟨#[0]⟩ w5.heap.size _ (by decide) (al_ptr _ _ _) (by simp) (by simp) 0 (by omega) (by rw [kZero]; decide) (by rw [nZero]; exact Nat.le_refl _) (by rw [kZero, nZero]; decide)).mono ?_
  rintro e w6 ⟨rfl, h6⟩
  obtain ⟨b6, z6⟩ := Below.read b5 z5 h6 z5
  clear b5 z5 h6
  rw [kZero, nZero, show (⟨#[0]⟩ : ByteArray).extract 1 (1 + 0) = ⟨#[]⟩ from by decide +kernel]
  go_wp2_with fail
  refine (left_nil w6).mono ?_
  rintro e w6 ⟨rfl, rfl⟩
  go_wp2_with fail
  refine (awake_any w6).mono ?_
  rintro e w7 ⟨rfl, h7⟩
  obtain ⟨b7, z7⟩ := Below.more b6 z6 h7
  clear b6 z6 h7
  go_wp2
  go_ret
  exact ⟨rfl, b7⟩
theorem own : ownKnob Try.prog.godebug = none := by kernel_rfl
set_option maxRecDepth 100000 in
theorem none_lifted (os : Os) (started : os.Started) (H : Type) (enc : TypeId × Value → H) :
    ReturnsInHanded {} Try.checked os 5 .any (Rows.wireNoneSpec.pre6 enc Try.prog Try.f5 Rows.wireNoneRow.domain false) (Rows.wireNoneSpec.post enc Try.prog Try.f5 false true false false) := by
  refine returnsInHanded_of_change (C := Try.checked) own started (by kernel_rfl) Try.func5
    (ChangeSpec.witness6 (enc := enc) (C := Try.checked) false ⟨#[], #[], []⟩ 8 (by kernel_rfl) (by kernel_rfl) (by kernel_rfl) (by kernel_rfl)) ?_
  intro W base args ds gs before hval0 hW hcnd _
  have hval : ∀ (j : Nat) t v, Try.f5.params[j]? = some t → args[j]? = some v → Value.okWide Try.prog W .any base t v := hval0
  have hW' := hW
  obtain ⟨p, q, hA0, hV, rfl, hfz, hnd⟩ := hW
  have hA : DataW.TrodAll enc Try.prog W 0 (fun _ => true) true Try.f5.params.toList args.toList ds p := hA0
  rw [Try.params5] at hA hval
  obtain ⟨hargs, rfl, rfl⟩ := trodAll_nil hA
  obtain rfl : args = #[] := by cases args; simp_all
  obtain ⟨rfl, rfl⟩ := trodVars_none hV
  clear hA0 hval0
  simp only [List.append_nil] at hW'
  refine (none_walk W).mono fun e W' ⟨he, hg⟩ => ?_
  subst he
  exact ⟨_, rfl, _, _, _, [], [], [], hW', trodAll_mk1 (shut_bool Try.underlying4 _), trodAll_mk0, rfl, hg.frame _, fun h => by cases h⟩
theorem none_holds : Rows.WireNoneSaid :=
  OpenClaim.holds_of_wide 5 Try.f5 rfl rfl rfl rfl rfl rfl rfl ⟨rfl, rfl, rfl, rfl, rfl⟩ rfl rfl rfl rfl rfl (by kernel_rfl) Try.func5 (by kernel_rfl)
    (of_decide_eq_true (by kernel_rfl)) (by unfold Func.isWrapper; first | (rw [if_pos (by decide +kernel)]; kernel_rfl) | (rw [if_neg (by decide +kernel)]; exact ⟨rfl, rfl⟩))
    (fun os started H enc _ => none_lifted os started H enc)
end Go.Proofs.Ytehbgkbnbaogoaa
