/- What a slice of texts that came in is. -/
import Derived.Test.YtplfjfhpdfbpeaaDoorO7
namespace Go.Proofs.YtplfjfhpdfbpeaaDoor
open Go.ChangeShapes Go.WideShapes Go.ChangeAt Go.RowKit Go.Joins
set_option linter.unusedSimpArgs false
set_option linter.unusedVariables false
set_option maxRecDepth 100000 in
theorem okWide_strs14 {W : World} {base : Nat} {a0 : Option Addr} {len cap : Nat} (h : Value.okWide Tryd.prog W .any base 61 (.slice a0 len cap)) :
    (a0 = none → len = 0 ∧ cap = 0) ∧ (∀ p, a0 = some p → ∃ b o, p = ⟨b, o, none⟩) ∧ len ≤ cap := by
  simp only [Value.okWide, Tryd.underlying61, Cell.okWide, Cell.ok] at h
  cases a0 with
  | none =>
    have h' : len = 0 ∧ cap = 0 := by
      cases len <;> cases cap <;> simp_all
    exact ⟨fun _ => h', fun p hp => by (cases hp), by omega⟩
  | some q =>
    obtain ⟨h1, _, _, h3, _⟩ := h
    refine ⟨fun hp => by (cases hp), fun p hp => ?_, h1⟩
    cases hp
    obtain ⟨b, o, sp⟩ := q
    simp at h3
    subst h3
    exact ⟨b, o, rfl⟩
end Go.Proofs.YtplfjfhpdfbpeaaDoor
