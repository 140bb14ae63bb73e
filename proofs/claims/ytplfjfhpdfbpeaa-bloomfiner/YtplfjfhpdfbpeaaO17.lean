/- What a slice of texts that came in is. -/
import Derived.Test.YtplfjfhpdfbpeaaO7
namespace Go.Proofs.Ytplfjfhpdfbpeaa
open Go.ChangeShapes Go.WideShapes Go.ChangeAt Go.RowKit Go.Joins
set_option linter.unusedSimpArgs false
set_option linter.unusedVariables false
theorem okWide_strs14 {W : World} {base : Nat} {a0 : Option Addr} {len cap : Nat} (h : Value.okWide Try.prog W .any base 22 (.slice a0 len cap)) :
    (a0 = none → len = 0 ∧ cap = 0) ∧ (∀ p, a0 = some p → ∃ b o, p = ⟨b, o, none⟩) ∧ len ≤ cap := by
  simp only [Value.okWide, Try.underlying22, Cell.okWide, Cell.ok] at h
  cases a0 with
  | none =>
    have h' : len = 0 ∧ cap = 0 := by
      cases len <;> cases cap <;> simp_all
    exact ⟨fun _ => h', fun p hp => by (cases hp), by omega⟩
  | some q =>
    obtain ⟨h1, _, _, h3, _⟩ := h
    refine ⟨fun hp => by (cases hp), fun p hp => ?_, h1⟩
    cases hp
    obtain ⟨b, o, sp⟩ := q
    simp at h3
    subst h3
    exact ⟨b, o, rfl⟩
end Go.Proofs.Ytplfjfhpdfbpeaa
