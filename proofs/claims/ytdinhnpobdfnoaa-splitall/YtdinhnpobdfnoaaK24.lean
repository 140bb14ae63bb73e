/- The mathematics of SplitBegins, SplitAll, SplitAsBefore: how chunks go on. -/
import Derived.Test.YtdinhnpobdfnoaaK21
namespace Go.Proofs.Ytdinhnpobdfnoaa
open Go.RowKit
set_option linter.unusedSimpArgs false
set_option linter.unusedVariables false
theorem Fi.same {ct : List UInt8 → Option Nat} {f a b : List UInt8} {q v q' v' : Nat} (h : Fi ct (f ++ a) q v) (h' : Fi ct (f ++ b) q' v') (hq : q ≤ f.length) (hq' : q' ≤ f.length) (hn : q < (f ++ a).length) (hn' : q' < (f ++ b).length) : q = q' ∧ v = v' := by
  have e : ∀ k, k ≤ f.length → (f ++ a).take k = (f ++ b).take k := fun k hk => by rw [List.take_append_of_le_length hk, List.take_append_of_le_length hk]
  have y : ct ((f ++ a).take q) = some v := by
    rcases h.yes with c | ⟨c, _⟩
    · exact c
    · omega
  have y' : ct ((f ++ b).take q') = some v' := by
    rcases h'.yes with c | ⟨c, _⟩
    · exact c
    · omega
  rcases Nat.lt_trichotomy q q' with c | c | c
  · have := h'.no q h.pos c
    rw [← e q hq, y] at this; cases this
  · subst c
    rw [e q hq, y'] at y
    cases y
    exact ⟨rfl, rfl⟩
  · have := h.no q' h'.pos c
    rw [e q' hq', y'] at this; cases this
theorem chk_ne {ct : List UInt8 → Option Nat} {s : List UInt8} : chk ct s ≠ [] ↔ s ≠ [] := by
  constructor
  · intro h e; exact h (by rw [e, chk_nil])
  · intro h e
    obtain ⟨q, v, hf⟩ := fi_ex ct s h
    rw [chk_fi hf] at e; cases e
/-- The chunk at a place, and what goes on behind it. -/
theorem chk_at {ct : List UInt8 → Option Nat} {s : List UInt8} {n i : Nat} (h : (chk ct s).drop i = chk ct (s.drop n)) (hi : i < (chk ct s).length) : ∃ q v, (chk ct s)[i]? = some (q, v) ∧ Fi ct (s.drop n) q v ∧ (chk ct s).drop (i + 1) = chk ct (s.drop (n + q)) ∧ n + q ≤ s.length := by
  have hne : (chk ct s).drop i ≠ [] := fun e => by
    have := congrArg List.length e
    rw [List.length_drop] at this
    simp at this; omega
  rw [h] at hne
  obtain ⟨q, v, hf⟩ := fi_ex ct (s.drop n) (chk_ne.1 hne)
  have hc := chk_fi hf
  have hl := hf.le
  have hp := hf.pos
  rw [List.length_drop] at hl
  refine ⟨q, v, ?_, hf, ?_, by omega⟩
  · have : ((chk ct s).drop i)[0]? = some (q, v) := by rw [h, hc]; rfl
    rwa [List.getElem?_drop, Nat.add_zero] at this
  · have e : ((chk ct s).drop i).drop 1 = chk ct ((s.drop n).drop q) := by rw [h, hc]; rfl
    rwa [List.drop_drop, List.drop_drop] at e
end Go.Proofs.Ytdinhnpobdfnoaa
