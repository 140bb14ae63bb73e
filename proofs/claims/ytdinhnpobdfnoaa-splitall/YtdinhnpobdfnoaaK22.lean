/- Noughts, cut. -/
import Derived.Test.YtdinhnpobdfnoaaK21
namespace Go.Proofs.Ytdinhnpobdfnoaa
open Go.RowKit
set_option linter.unusedSimpArgs false
set_option linter.unusedVariables false
theorem one_zero (n : Nat) : one (List.replicate n 0) = 0 := by
  unfold one
  rw [dgR_zero, dgR_nil]
  decide
theorem fi_zero (p : Pl) (hp : p.ok) (n : Nat) (h1 : 1 ≤ n) (h2 : n ≤ p.M) : Fi (ctA p) (List.replicate n 0) n 0 := by
  have hB := hp.1
  refine ⟨h1, by rw [List.length_replicate]; exact Nat.le_refl _, fun k a b => ?_, ?_⟩
  · rw [List.take_replicate, ctA_none (by rw [one_zero]; omega) (by rw [List.length_replicate]; omega)]
  · rw [List.take_replicate, Nat.min_self]
    by_cases e : n = p.M
    · exact .inl (ctA_most (by rw [one_zero]; omega) (by rw [List.length_replicate]; exact e))
    · exact .inr ⟨by rw [List.length_replicate], ctA_none (by rw [one_zero]; omega) (by rw [List.length_replicate]; exact e), rfl⟩
theorem fi_zeros (p : Pl) (hp : p.ok) (n : Nat) (h : p.M ≤ n) : Fi (ctA p) (List.replicate n 0) p.M 0 := by
  have hB := hp.1
  have hM := hp.2.2.2.2.1
  refine ⟨by omega, by rw [List.length_replicate]; exact h, fun k a b => ?_, .inl ?_⟩
  · rw [List.take_replicate, ctA_none (by rw [one_zero]; omega) (by rw [List.length_replicate]; omega)]
  · rw [List.take_replicate, ctA_most (by rw [one_zero]; omega) (by rw [List.length_replicate]; omega)]
theorem chk_zeros (p : Pl) (hp : p.ok) : ∀ k, chk (ctA p) (List.replicate (k * p.M) 0) = List.replicate k (p.M, 0)
  | 0 => by rw [Nat.zero_mul]; exact chk_nil _
  | k + 1 => by
    rw [chk_fi (fi_zeros p hp ((k + 1) * p.M) (by rw [Nat.succ_mul]; omega)), List.drop_replicate, show (k + 1) * p.M - p.M = k * p.M from by rw [Nat.succ_mul]; omega, chk_zeros p hp k]
    rfl
theorem chk_rest (p : Pl) (hp : p.ok) (r : Nat) (h1 : 1 ≤ r) (h2 : r ≤ p.M) : chk (ctA p) (List.replicate (p.M + r) 0) = [(p.M, 0), (r, 0)] := by
  rw [chk_fi (fi_zeros p hp (p.M + r) (by omega)), List.drop_replicate, show p.M + r - p.M = r from by omega, chk_fi (fi_zero p hp r h1 h2), List.drop_replicate, Nat.sub_self]
  exact congrArg _ (congrArg _ (chk_nil _))
end Go.Proofs.Ytdinhnpobdfnoaa
