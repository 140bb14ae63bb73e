/- Rising numbers. -/
import Derived.Test.YtblmblbkfdcbjabRows
namespace Go.Proofs.Ytblmblbkfdcbjab
set_option linter.unusedSimpArgs false
set_option linter.unusedVariables false
/-- Rising numbers below n. -/
def Ris (n : Nat) (ps : List Nat) : Prop := ps.Pairwise (· < ·) ∧ ∀ x ∈ ps, x < n
theorem Ris.snoc {k : Nat} {ps : List Nat} (h : Ris k ps) : Ris (k + 1) (ps ++ [k]) := by
  constructor
  · rw [List.pairwise_append]
    refine ⟨h.1, by simp, fun a ha b hb => ?_⟩
    simp at hb
    rw [hb]; exact h.2 a ha
  · intro x hx
    rcases List.mem_append.1 hx with h1 | h1
    · have := h.2 x h1; omega
    · simp at h1; omega
theorem Ris.up {k : Nat} {ps : List Nat} (h : Ris k ps) : Ris (k + 1) ps := ⟨h.1, fun x hx => by have := h.2 x hx; omega⟩
theorem Ris.len {k : Nat} : ∀ {ps : List Nat}, Ris k ps → ps.length ≤ k := by
  intro ps h
  have key : ∀ (l : List Nat) (b : Nat), l.Pairwise (· < ·) → (∀ x ∈ l, b ≤ x ∧ x < k) → l.length + b ≤ k ∨ l = [] := by
    intro l
    induction l with
    | nil => intro b _ _; exact .inr rfl
    | cons a l ih =>
      intro b hp hb
      rw [List.pairwise_cons] at hp
      have h1 := hb a (by simp)
      left
      rcases ih (a + 1) hp.2 (fun x hx => ⟨hp.1 x hx, (hb x (by simp [hx])).2⟩) with h2 | h2
      · simp only [List.length_cons]; omega
      · subst h2; simp; omega
  rcases key ps 0 h.1 (fun x hx => ⟨by omega, h.2 x hx⟩) with h1 | h1
  · omega
  · subst h1; simp
end Go.Proofs.Ytblmblbkfdcbjab
