/- Lists that a call made: nil, or of a block of its own. -/
import Derived.Test.YtplfjfhpdfbpeaaDoorM3
namespace Go.Proofs.YtplfjfhpdfbpeaaDoor
open Go.RowKit
set_option linter.unusedSimpArgs false
set_option linter.unusedVariables false
/-- A list that the package made: nil, or a block of its own. -/
def Mad (w : World) (ao : Option Addr) (xs : List ByteArray) (w' : World) : Prop :=
  (ao = none ∧ xs.length = 0) ∨ ∃ g, ao = some ⟨g, 0, none⟩ ∧ w.heap.size ≤ g ∧ Bk w' g (txc xs) 9
theorem Mad.txl {w w' : World} {ao : Option Addr} {xs : List ByteArray} (h : Mad w ao xs w') : TxL w' ao xs := by
  rcases h with ⟨rfl, h0⟩ | ⟨g, rfl, _, hB⟩
  · have : xs = [] := List.eq_nil_of_length_eq_zero h0
    rw [this]; intro i x hx; simp at hx
  · exact hB.txl
theorem Mad.lo {w w' : World} {ao : Option Addr} {xs : List ByteArray} (h : Mad w ao xs w') (b o : Nat) (s : Option Nat) (e : ao = some ⟨b, o, s⟩) : w.heap.size ≤ b ∧ b < w'.heap.size := by
  rcases h with ⟨rfl, h0⟩ | ⟨g, rfl, h1, hB⟩
  · cases e
  · cases e; exact ⟨h1, hB.lt⟩
theorem Mad.grown {w w1 w2 : World} {ao : Option Addr} {xs : List ByteArray} {r : Option Nat} (h : Mad w ao xs w1) (hg : w1.grownBy w2 r) (hr : ∀ b o s, ao = some ⟨b, o, s⟩ → r ≠ some b) : Mad w ao xs w2 := by
  rcases h with h | ⟨g, h0, h1, hB⟩
  · exact .inl h
  · exact .inr ⟨g, h0, h1, hB.grown hg (hr g 0 none h0)⟩
theorem Mad.below {w w1 w2 : World} {ao : Option Addr} {xs : List ByteArray} (h : Mad w ao xs w1) (hb : Below w1.heap.size w1 w2) : Mad w ao xs w2 := h.grown (gr_of_below hb none) (by simp)
/-- A list of the document's answer. -/
def Ans (w : World) (a : Option Addr) (xs : List ByteArray) (w' : World) : Prop := TxL w' a xs ∧ ∀ b o s, a = some ⟨b, o, s⟩ → w.heap.size ≤ b ∧ b < w'.heap.size
theorem ans_of {w w' : World} {v : Value} {xs : List ByteArray} (h : w'.ownsRow w.heap.size 9 1 v xs.length (sv xs)) : ∃ a c, v = .slice a xs.length c ∧ Ans w a xs w' := by
  have h0 := h
  obtain ⟨a, c, rfl, ht, hl⟩ := own_txl h
  refine ⟨a, c, rfl, ht, fun b o s e => ⟨hl b o s e, ?_⟩⟩
  rcases h0.2 with ⟨h1, _⟩ | ⟨g, cap, cur, h1, _, hg, _⟩
  · rw [e] at h1; cases h1
  · rw [e] at h1; cases h1; exact (Array.getElem?_eq_some_iff.1 hg).1
theorem Ans.below {w w1 w2 : World} {a : Option Addr} {xs : List ByteArray} (h : Ans w a xs w1) (hb : Below w1.heap.size w1 w2) : Ans w a xs w2 :=
  ⟨h.1.below hb, fun b o s e => ⟨(h.2 b o s e).1, Nat.lt_of_lt_of_le (h.2 b o s e).2 hb.size⟩⟩
theorem map_block {ao : Option Addr} {g : Nat} (h : ao.map (·.block) = some g) : ∃ o s, ao = some ⟨g, o, s⟩ := by
  cases ao with
  | none => cases h
  | some q =>
    obtain ⟨b, o, s⟩ := q
    simp at h
    exact ⟨o, s, by rw [h]⟩
end Go.Proofs.YtplfjfhpdfbpeaaDoor
