/- munimentlaw06.FieldSquares: every square part of every Cauchy matrix has an inverse: for all sizes and all rows and columns the call returns true, and changes nothing that it was handed. No condition. -/
import Derived.Test.YtefmabfhephdjabL24
import Derived.Test.YtefmabfhephdjabO1
import Derived.ProofKit
import Derived.OpenShut
namespace Go.Proofs.Ytefmabfhephdjab
open Go.ChangeShapes Go.WideShapes Go.ChangeAt Go.RowKit Go.Joins
set_option linter.unusedSimpArgs false
set_option linter.unusedVariables false
theorem sq_own : ownKnob Try.prog.godebug = none := by kernel_rfl
theorem sq_laidOut : laidOutB Try.prog = true := by kernel_rfl
theorem open_byts {H : Type} {enc : TypeId × Value → H} {w : World} {d : DataW H} {ps : List MemPlace} {a0 : Option Addr} {len cap : Nat}
    (h : DataW.Trod enc Try.prog w 0 (fun _ => true) true 34 (.slice a0 len cap) d ps) : len ≤ maxLen ∧ ByS w a0 len := by
  have c9 : Try.prog.cellsOf 5 = 1 := by kernel_rfl
  obtain ⟨hl, hall⟩ := open_elem Try.underlying34 (by rw [c9]; omega) h
  refine ⟨hl, fun i hi => ?_⟩
  obtain ⟨b, off, cs, D, Pl, n, ha, hb, hlen, hcell, htrod, hw⟩ := hall i hi
  rw [c9] at hlen hcell
  obtain ⟨v0, rfl⟩ : ∃ v0, cs = [v0] := by
    match cs, hlen with
    | [v0], _ => exact ⟨v0, rfl⟩
  obtain ⟨m, e3, hy3, wt⟩ := DataW.trod_int Try.underlying5 htrod
  simp at e3
  subst e3
  obtain ⟨x, rfl⟩ := u8_val m wt
  refine ⟨b, off, x, ha, hb, ?_⟩
  have := hcell 0 (by omega)
  simpa using this
set_option maxRecDepth 100000 in
set_option linter.constructorNameAsVariable false in
theorem okWide_byts {W : World} {base : Nat} {a0 : Option Addr} {len cap : Nat} (h : Value.okWide Try.prog W .any base 34 (.slice a0 len cap)) : len ≤ cap := by
  simp only [Value.okWide, Try.underlying34, Cell.okWide, Cell.ok] at h
  cases a0 with
  | none =>
    have h' : len = 0 ∧ cap = 0 := by
      cases len <;> cases cap <;> simp_all
    omega
  | some q =>
    obtain ⟨h1, _⟩ := h
    exact h1
set_option maxRecDepth 100000 in
theorem squares_lifted (os : Os) (started : os.Started) (H : Type) (enc : TypeId × Value → H) :
    ReturnsInHanded {} Try.checked os 4 .any (Rows.fieldSquaresSpec.pre6 enc Try.prog Try.f4 Rows.fieldSquaresRow.domain false) (Rows.fieldSquaresSpec.post enc Try.prog Try.f4 false true false false) := by
  refine returnsInHanded_of_change (C := Try.checked) sq_own started (by kernel_rfl) Try.func4
    (ChangeSpec.witness6 (enc := enc) (C := Try.checked) false ⟨#[], #[.int .i64 0, .int .i64 0, .slice none 0 0, .slice none 0 0], []⟩ 8 (by kernel_rfl) (by kernel_rfl) (by kernel_rfl) (by kernel_rfl)) ?_
  intro W base args ds gs before hval0 hW hcnd _
  have hval : ∀ (j : Nat) t v, Try.f4.params[j]? = some t → args[j]? = some v → Value.okWide Try.prog W .any base t v := hval0
  have hW' := hW
  obtain ⟨p, q, hA0, hV, rfl, hfz, hnd⟩ := hW
  have hA : DataW.TrodAll enc Try.prog W 0 (fun _ => true) true Try.f4.params.toList args.toList ds p := hA0
  rw [Try.params4] at hA hval
  obtain ⟨v0, vs0, d0, ds0, p0, q0, hargs, rfl, rfl, h0, r0⟩ := trodAll_cons hA
  obtain ⟨v1, vs1, d1, ds1, p1, q1, rfl, rfl, rfl, h1, r1⟩ := trodAll_cons r0
  obtain ⟨v2, vs2, d2, ds2, p2, q2, rfl, rfl, rfl, h2, r2⟩ := trodAll_cons r1
  obtain ⟨v3, vs3, d3, ds3, p3, q3, rfl, rfl, rfl, h3, r3⟩ := trodAll_cons r2
  obtain ⟨rfl, rfl, rfl⟩ := trodAll_nil r3
  obtain rfl : args = #[v0, v1, v2, v3] := by cases args; simp_all
  obtain ⟨rfl, rfl⟩ := trodVars_none hV
  obtain ⟨n0, rfl, rfl, rfl, w0⟩ := open_int Try.underlying3 (hval 0 3 v0 rfl rfl) h0
  obtain ⟨n1, rfl, rfl, rfl, w1⟩ := open_int Try.underlying3 (hval 1 3 v1 rfl rfl) h1
  obtain ⟨a2, l2, c2, rfl⟩ := okWide_slice Try.underlying34 (hval 2 34 v2 rfl rfl)
  obtain ⟨a3, l3, c3, rfl⟩ := okWide_slice Try.underlying34 (hval 3 34 v3 rfl rfl)
  have k2 := h2
  have k3 := h3
  have lt2 : ∀ x ∈ p2, x.block < W.heap.size := by obtain ⟨m, hm⟩ := k2; exact DataW.trod_lt m _ _ _ hm
  have lt3 : ∀ x ∈ p3, x.block < W.heap.size := by obtain ⟨m, hm⟩ := k3; exact DataW.trod_lt m _ _ _ hm
  obtain ⟨m2, y2⟩ := open_byts h2
  obtain ⟨m3, y3⟩ := open_byts h3
  have cc := okWide_byts (hval 2 34 _ rfl rfl)
  unfold maxLen at m2 m3
  clear hA0 hval0
  refine (squares_walk n0 n1 a2 a3 l2 l3 c2 c3 W y2 y3 (by omega) (by omega) cc).mono fun e W' ⟨he, hg⟩ => ?_
  subst he
  exact ⟨_, rfl, _, _, _, [], _, [], hW', trodAll_mk1 (shut_bool Try.underlying4 _), (trodAll_cons_mk (shut_int Try.underlying3 w0) (trodAll_cons_mk (shut_int Try.underlying3 w1) (trodAll_cons_mk (Below.trod sq_laidOut (by kernel_rfl) (of_decide_eq_true (by kernel_rfl)) k2 hg lt2) (trodAll_cons_mk (Below.trod sq_laidOut (by kernel_rfl) (of_decide_eq_true (by kernel_rfl)) k3 hg lt3) trodAll_mk0)))), rfl, hg.frame _, fun h => by cases h⟩
theorem squares_holds : Rows.FieldSquaresSaid :=
  OpenClaim.holds_of_wide 4 Try.f4 rfl rfl rfl rfl rfl rfl rfl ⟨rfl, rfl, rfl, rfl, rfl⟩ rfl rfl rfl rfl rfl (by kernel_rfl) Try.func4 (by kernel_rfl)
    (of_decide_eq_true (by kernel_rfl)) (by unfold Func.isWrapper; first | (rw [if_pos (by decide +kernel)]; kernel_rfl) | (rw [if_neg (by decide +kernel)]; exact ⟨rfl, rfl⟩))
    (fun os started H enc _ => squares_lifted os started H enc)
end Go.Proofs.Ytefmabfhephdjab
