/- A list of texts in a block of the call's own, a text behind it. -/
import Derived.Test.YtblmblbkfdcbjaaM6
import Derived.Lib.BufferOwn
namespace Go.Proofs.Ytblmblbkfdcbjaa
open Go.RowKit
set_option linter.unusedSimpArgs false
set_option linter.unusedVariables false
/-- A list in a block of the call's own, a text behind it. -/
def Mk (w : World) (g : Nat) (xs : List ByteArray) (m : ByteArray) : Prop := ∃ cur, Bk w g cur 9 ∧ ∀ (j : Nat) (x : ByteArray), (xs ++ [m])[j]? = some x → cur[j]? = some (.string x)
theorem Mk.lt {w : World} {g : Nat} {xs : List ByteArray} {m : ByteArray} (h : Mk w g xs m) : g < w.heap.size := by
  obtain ⟨cur, hB, _⟩ := h
  exact hB.lt
theorem Mk.txl {w : World} {g : Nat} {xs : List ByteArray} {m : ByteArray} (h : Mk w g xs m) : TxL w (some ⟨g, 0, none⟩) xs := by
  obtain ⟨cur, hB, hc⟩ := h
  intro i x hx
  refine ⟨g, 0, rfl, hB.lt, ?_⟩
  rw [Nat.zero_add, hB.cell]
  exact hc i x (by rw [List.getElem?_append_left (List.getElem?_eq_some_iff.1 hx).1]; exact hx)
theorem Mk.mark {w : World} {g : Nat} {xs : List ByteArray} {m : ByteArray} (h : Mk w g xs m) : w.cell? ⟨g, xs.length, none⟩ = some (.string m) := by
  obtain ⟨cur, hB, hc⟩ := h
  rw [hB.cell]
  exact hc _ m (by simp)
theorem Mk.grown {w w' : World} {g : Nat} {xs : List ByteArray} {m : ByteArray} {r : Option Nat} (h : Mk w g xs m) (hg : w.grownBy w' r) (hr : r ≠ some g) : Mk w' g xs m := by
  obtain ⟨cur, hB, hc⟩ := h
  exact ⟨cur, hB.grown hg hr, hc⟩
theorem Mk.below {w w' : World} {g : Nat} {xs : List ByteArray} {m : ByteArray} (h : Mk w g xs m) (hb : Below w.heap.size w w') : Mk w' g xs m := h.grown (gr_of_below hb none) (by simp)
theorem Mk.set {w : World} {g : Nat} {xs : List ByteArray} {m : ByteArray} (h : Mk w g xs m) (i : Nat) (hi : i < xs.length) (x : ByteArray) : Mk (w.setCell ⟨g, i, none⟩ (.string x)) g (xs.set i x) m := by
  obtain ⟨cur, hB, hc⟩ := h
  refine ⟨_, hB.set i _, fun j y hy => ?_⟩
  have h0 := hc i xs[i] (by rw [List.getElem?_append_left hi, List.getElem?_eq_getElem hi])
  have hic : i < cur.size := (Array.getElem?_eq_some_iff.1 h0).1
  rw [← List.set_append_left _ _ hi, List.getElem?_set] at hy
  rw [Array.getElem?_setIfInBounds]
  by_cases e : i = j
  · subst e
    rw [if_pos rfl, if_pos (by simp; omega)] at hy
    cases hy
    rw [if_pos rfl, if_pos hic]
  · rw [if_neg e] at hy ⊢
    exact hc j y hy
theorem Mk.other {w : World} {g g' : Nat} {xs : List ByteArray} {m : ByteArray} (h : Mk w g xs m) (hne : g' ≠ g) (i : Nat) (v : Value) : Mk (w.setCell ⟨g', i, none⟩ v) g xs m :=
  h.grown (Lib.grownBy_setB (gr_refl w (some g')) i v) (by simpa using hne)
/-- A row of texts of the call's own with one more behind. -/
theorem mk_of {w : World} {B k : Nat} {v : Value} {xs : List ByteArray} {m : ByteArray} (h : w.ownsRow B 9 1 v (k + 1) (sv (xs ++ [m]))) :
    ∃ g cap, v = .slice (some ⟨g, 0, none⟩) (k + 1) cap ∧ B ≤ g ∧ Mk w g xs m ∧ k + 1 ≤ cap ∧ cap ≤ maxLen := by
  obtain ⟨g, cap, cur, h1, h2, h3, h4, h5, h6⟩ := own_block_at h
  exact ⟨g, cap, h1, h2, ⟨cur, h3, h6⟩, h4, h5⟩
end Go.Proofs.Ytblmblbkfdcbjaa
