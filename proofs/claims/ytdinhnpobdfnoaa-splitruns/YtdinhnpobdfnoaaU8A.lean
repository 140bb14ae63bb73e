/- Pairs of a slice. -/
import Derived.Test.YtdinhnpobdfnoaaU5
import Derived.Laws.OwnMore
namespace Go.Proofs.Ytdinhnpobdfnoaa
open Go.RowKit
set_option linter.unusedSimpArgs false
set_option linter.unusedVariables false
/-- Pairs of a slice. -/
def CkL (w : World) (a : Option Addr) (l : List (Nat × Nat)) : Prop := ∀ i x, l[i]? = some x → ∃ g, a = some ⟨g, 0, none⟩ ∧ g < w.heap.size ∧ w.cell? ⟨g, i * 2, none⟩ = some (.int .i64 (x.1 : Int)) ∧ w.cell? ⟨g, i * 2 + 1, none⟩ = some (.int .i64 (x.2 : Int))
theorem ckv_get : ∀ (l : List (Nat × Nat)) (i : Nat) (x : Nat × Nat), l[i]? = some x → (ckv l)[i * 2]? = some (.int .i64 (x.1 : Int)) ∧ (ckv l)[i * 2 + 1]? = some (.int .i64 (x.2 : Int))
  | [], i, x, h => by simp at h
  | y :: r, 0, x, h => by
    simp at h
    subst h
    exact ⟨rfl, rfl⟩
  | y :: r, i + 1, x, h => by
    have e : ckv (y :: r) = Value.int .i64 (y.1 : Int) :: Value.int .i64 (y.2 : Int) :: ckv r := rfl
    have ih := ckv_get r i x (by simpa using h)
    rw [e, show (i + 1) * 2 = i * 2 + 1 + 1 from by omega]
    exact ⟨ih.1, ih.2⟩
theorem own_ckl {w : World} {B : Nat} {e : TypeId} {v : Value} {l : List (Nat × Nat)} {n : Nat} (h : w.ownsRow B e 2 v n (ckv l)) (hn : l.length = n) : ∃ a c, v = .slice a n c ∧ CkL w a l := by
  rcases h.2 with ⟨rfl, h0⟩ | ⟨g, cap, cur, rfl, hle, hg, hnc, _, hc, ht⟩
  · subst h0
    have : l = [] := List.eq_nil_of_length_eq_zero hn
    subst this
    exact ⟨none, 0, rfl, fun i x hx => by simp at hx⟩
  · refine ⟨some ⟨g, 0, none⟩, cap, rfl, fun i x hx => ⟨g, rfl, (Array.getElem?_eq_some_iff.1 hg).1, ?_⟩⟩
    have hb : Bk w g cur e := hg
    have hl : i < l.length := (List.getElem?_eq_some_iff.1 hx).1
    obtain ⟨q1, q2⟩ := ckv_get l i x hx
    rw [← ht, List.getElem?_take, if_pos (by omega), Array.getElem?_toList] at q1 q2
    exact ⟨by rw [hb.cell]; exact q1, by rw [hb.cell]; exact q2⟩
theorem CkL.below {w w' : World} {a : Option Addr} {l : List (Nat × Nat)} (h : CkL w a l) (hb : Below w.heap.size w w') : CkL w' a l := fun i x hx => by
  obtain ⟨g, h1, h2, h3, h4⟩ := h i x hx
  exact ⟨g, h1, Nat.lt_of_lt_of_le h2 hb.size, by rw [hb.cell (p := ⟨g, i * 2, none⟩) h2]; exact h3, by rw [hb.cell (p := ⟨g, i * 2 + 1, none⟩) h2]; exact h4⟩
theorem CkL.grown {w w' : World} {a : Option Addr} {l : List (Nat × Nat)} {r : Option Nat} (h : CkL w a l) (hg : w.grownBy w' r) (hr : ∀ g, a = some ⟨g, 0, none⟩ → r ≠ some g) : CkL w' a l := fun i x hx => by
  obtain ⟨g, h1, h2, h3, h4⟩ := h i x hx
  have e : w'.heap[g]? = w.heap[g]? := hg.block g h2 (fun e => hr g h1 e.symm)
  exact ⟨g, h1, Nat.lt_of_lt_of_le h2 hg.size, by rw [World.cell?_of_block (a := ⟨g, i * 2, none⟩) e]; exact h3, by rw [World.cell?_of_block (a := ⟨g, i * 2 + 1, none⟩) e]; exact h4⟩
theorem own_slice {w : World} {B n k : Nat} {e : TypeId} {v : Value} {xs : List Value} (h : w.ownsRow B e k v n xs) : ∃ a c, v = .slice a n c ∧ (∀ g o s, a = some ⟨g, o, s⟩ → B ≤ g ∧ g < w.heap.size) ∧ (a = none ∨ ∃ g, a = some ⟨g, 0, none⟩) ∧ (a = none → n = 0) := by
  rcases h.2 with ⟨rfl, h0⟩ | ⟨g, cap, cur, rfl, hle, hg, hnc, _, hc, ht⟩
  · subst h0; exact ⟨none, 0, rfl, fun g o s h => (by cases h), .inl rfl, fun _ => rfl⟩
  · exact ⟨_, _, rfl, fun g' o s h => (by cases h; exact ⟨hle, (Array.getElem?_eq_some_iff.1 hg).1⟩), .inr ⟨g, rfl⟩, fun h => (by cases h)⟩
theorem own_ck2 {w : World} {B : Nat} {e : TypeId} {v : Value} {l : List (Nat × Nat)} {n : Nat} (h : w.ownsRow B e 2 v n (ckv l)) (hn : l.length = n) : ∃ a c, v = .slice a n c ∧ CkL w a l ∧ (∀ g, a = some ⟨g, 0, none⟩ → B ≤ g ∧ g < w.heap.size) ∧ (∀ g, v.ownBlock = some g → B ≤ g ∧ g < w.heap.size) := by
  obtain ⟨a, c, rfl, hc⟩ := own_ckl h hn
  rcases h.2 with ⟨h1, h0⟩ | ⟨g, cap, cur, h1, hle, hg, hnc, _⟩
  · cases h1
    exact ⟨none, 0, rfl, hc, fun g h => (by cases h), fun g h => (by cases h)⟩
  · cases h1
    have hlt : g < w.heap.size := (Array.getElem?_eq_some_iff.1 hg).1
    exact ⟨_, _, rfl, hc, fun g' h => (by cases h; exact ⟨hle, hlt⟩), fun g' h => (by simp [Value.ownBlock] at h; omega)⟩
theorem own_cell {w : World} {B n c k : Nat} {e : TypeId} {g : Nat} {xs : List Value} (h : w.ownsRow B e k (.slice (some ⟨g, 0, none⟩) n c) n xs) {j : Nat} (hj : j < xs.length) : w.cell? ⟨g, j, none⟩ = some (xs[j]) := by
  rcases h.2 with ⟨h', _⟩ | ⟨g', cap', cur, h', _, hg, hn, _, hc, ht⟩
  · cases h'
  · cases h'
    have hb : Bk w g cur e := hg
    have hl := h.1
    rw [hb.cell, ← Array.getElem?_toList]
    have : (cur.toList.take (n * k))[j]? = some xs[j] := by rw [ht]; exact List.getElem?_eq_getElem hj
    rwa [List.getElem?_take, if_pos (by omega)] at this
theorem own_low {B B' n k : Nat} {w : World} {v : Value} {xs : List Value} {e : TypeId} (h : w.ownsRow B e k v n xs) (hB : B' ≤ B) : w.ownsRow B' e k v n xs := by
  refine ⟨h.1, ?_⟩
  rcases h.2 with h | ⟨g, cap, cur, h1, h2, h3⟩
  · exact .inl h
  · exact .inr ⟨g, cap, cur, h1, by omega, h3⟩
end Go.Proofs.Ytdinhnpobdfnoaa
