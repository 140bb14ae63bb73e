/- The document's filter in memory (its places as the bits of a row of bytes). -/
import Derived.Test.YtplfjfhpdfbpeaaDoorBQ2
import Derived.Test.YtplfjfhpdfbpeaaDoorBM2
namespace Go.Proofs.YtplfjfhpdfbpeaaDoor
open Go.RowKit
set_option linter.unusedSimpArgs false
set_option linter.unusedVariables false
/-- So many truths, as cells. -/
def bbF (n : Nat) (p : Nat → Bool) : Array Value := ((List.range n).map fun j => Value.bool (p j)).toArray
theorem bbF_size (n : Nat) (p : Nat → Bool) : (bbF n p).size = n := by simp [bbF]
theorem bbF_get (n : Nat) (p : Nat → Bool) (j : Nat) (hj : j < n) : (bbF n p)[j]? = some (.bool (p j)) := by simp [bbF, hj]
theorem bbF_congr {n : Nat} {p q : Nat → Bool} (h : ∀ j, j < n → p j = q j) : bbF n p = bbF n q := by
  unfold bbF
  congr 1
  apply List.map_congr_left
  intro j hj
  rw [h j (List.mem_range.1 hj)]
theorem bbF_set (n : Nat) (p : Nat → Bool) (i : Nat) (b : Bool) (hi : i < n) : (bbF n p).setIfInBounds i (.bool b) = bbF n (fun j => if j = i then b else p j) := by
  apply Array.ext_getElem?
  intro j
  rw [Array.getElem?_setIfInBounds, bbF_size]
  by_cases e : i = j
  · subst e
    rw [if_pos rfl, if_pos hi, bbF_get _ _ _ hi, if_pos rfl]
  · rw [if_neg e]
    by_cases hj : j < n
    · rw [bbF_get _ _ _ hj, bbF_get _ _ _ hj, if_neg (fun h => e h.symm)]
    · rw [Array.getElem?_eq_none (by rw [bbF_size]; omega), Array.getElem?_eq_none (by rw [bbF_size]; omega)]
/-- The document's filter: its size, which places are set; the block f is its own, g has the places. -/
structure RfP (w : World) (f g n k : Nat) (p : Nat → Bool) : Prop where
  ok : okF n k
  top : ∃ c, Bk w f #[.int .i64 (n : Int), .int .i64 (k : Int), .slice (some ⟨g, 0, none⟩) n c] 51 ∧ n ≤ c
  row : Bk w g (bbF n p) 4
theorem RfP.lt {w : World} {f g n k : Nat} {p : Nat → Bool} (h : RfP w f g n k p) : f < w.heap.size := by
  obtain ⟨c, h, _⟩ := h.top
  exact h.lt
theorem bk_type {w : World} {f : Nat} {C D : Array Value} {S T : TypeId} (h1 : Bk w f C S) (h2 : Bk w f D T) : S = T := by
  unfold Bk at h1 h2
  rw [h1] at h2
  injection h2 with h2
  injection h2 with _ h2 _
theorem RfP.ne {w : World} {f g n k : Nat} {p : Nat → Bool} (h : RfP w f g n k p) : f ≠ g := by
  rintro rfl
  obtain ⟨c, h1, _⟩ := h.top
  exact absurd (bk_type h1 h.row) (by decide)
theorem RfP.grown {w w' : World} {f g n k : Nat} {p : Nat → Bool} {r : Option Nat} (h : RfP w f g n k p) (hg : w.grownBy w' r) (h1 : r ≠ some f) (h2 : r ≠ some g) : RfP w' f g n k p := by
  obtain ⟨c, ht, hc⟩ := h.top
  exact ⟨h.ok, ⟨c, ht.grown hg h1, hc⟩, h.row.grown hg h2⟩
theorem RfP.below {w w' : World} {f g n k : Nat} {p : Nat → Bool} (h : RfP w f g n k p) (hb : Below w.heap.size w w') : RfP w' f g n k p := h.grown (gr_of_below hb none) (by simp) (by simp)
theorem RfP.congr {w : World} {f g n k : Nat} {p q : Nat → Bool} (h : RfP w f g n k p) (e : ∀ j, j < n → p j = q j) : RfP w f g n k q := ⟨h.ok, h.top, by rw [← bbF_congr e]; exact h.row⟩
theorem RfP.set {w : World} {f g n k : Nat} {p : Nat → Bool} (h : RfP w f g n k p) (i : Nat) (b : Bool) (hi : i < n) : RfP (w.setCell ⟨g, i, none⟩ (.bool b)) f g n k (fun j => if j = i then b else p j) ∧ w.grownBy (w.setCell ⟨g, i, none⟩ (.bool b)) (some g) := by
  have hg := Lib.grownBy_setB (World.grownBy.refl w (some g)) i (.bool b)
  obtain ⟨c, ht, hc⟩ := h.top
  refine ⟨⟨h.ok, ⟨c, ht.grown hg (by have := h.ne; simp; omega), hc⟩, ?_⟩, hg⟩
  rw [← bbF_set n p i b hi]
  exact h.row.set i _
theorem RfP.cell {w : World} {f g n k : Nat} {p : Nat → Bool} (h : RfP w f g n k p) (j : Nat) (hj : j < n) : w.cell? ⟨g, j, none⟩ = some (.bool (p j)) := by rw [h.row.cell, bbF_get _ _ _ hj]
theorem RfP.cells {w : World} {f g n k : Nat} {p : Nat → Bool} (h : RfP w f g n k p) : w.cell? ⟨f, 0, none⟩ = some (.int .i64 (n : Int)) ∧ w.cell? ⟨f, 1, none⟩ = some (.int .i64 (k : Int)) ∧ ∃ c, w.cell? ⟨f, 2, none⟩ = some (.slice (some ⟨g, 0, none⟩) n c) ∧ n ≤ c := by
  obtain ⟨c, ht, hc⟩ := h.top
  exact ⟨by rw [ht.cell]; rfl, by rw [ht.cell]; rfl, c, by rw [ht.cell]; rfl, hc⟩
theorem RfP.pos {w : World} {f g n k : Nat} {p : Nat → Bool} (h : RfP w f g n k p) : 0 < n := by have := okF_pos h.ok; omega
/-- The same with the places as the bits of a row. -/
abbrev RfS (w : World) (f g n k : Nat) (s : List UInt8) : Prop := RfP w f g n k (btR s)
/-- How large a filter is for so many names: doubled until it is enough. -/
def dbF : Nat → Nat → Nat → Nat
  | 0, _, b => b
  | k + 1, m, b => if b < m then dbF k m (2 * b) else b
def fitN (n : Nat) : Nat := dbF 20 (10 * n) 64
theorem okF_not {m h j : Nat} (hj : j ≤ 18) (hb : ∀ i, i < j → 64 * 2 ^ i < m) (he : ¬ (64 * 2 ^ j < m ∧ j < 18)) (hne : 64 * 2 ^ j ≠ m) : ¬ okF m h := by
  rintro ⟨⟨e, he1, rfl⟩, _⟩
  rcases Nat.lt_or_ge e j with h1 | h1
  · have := hb e h1; omega
  · by_cases h2 : e = j
    · subst h2; exact hne rfl
    · have h3 : 2 ^ j < 2 ^ e := Nat.pow_lt_pow_right (by omega) (by omega)
      exact he ⟨by omega, by omega⟩
end Go.Proofs.YtplfjfhpdfbpeaaDoor
