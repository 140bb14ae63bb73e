/- Texts of a slice, as they lie in memory. No program is named here. -/
import Derived.Test.YtplfjfhpdfbpeaaDoorM0
namespace Go.Proofs.YtplfjfhpdfbpeaaDoor
open Go.RowKit
set_option linter.unusedSimpArgs false
set_option linter.unusedVariables false
/-- The texts of a slice. -/
def TxL (w : World) (a : Option Addr) (xs : List ByteArray) : Prop :=
  ∀ i x, xs[i]? = some x → ∃ g o, a = some ⟨g, o, none⟩ ∧ g < w.heap.size ∧ w.cell? ⟨g, o + i, none⟩ = some (.string x)
theorem TxL.below {w w' : World} {a : Option Addr} {xs : List ByteArray} (h : TxL w a xs) (hb : Below w.heap.size w w') : TxL w' a xs := by
  intro i x hx
  obtain ⟨g, o, e, hg, hc⟩ := h i x hx
  exact ⟨g, o, e, Nat.lt_of_lt_of_le hg hb.size, by rw [hb.cell (p := ⟨g, o + i, none⟩) hg]; exact hc⟩
theorem TxL.drewN {w : World} {a : Option Addr} {xs : List ByteArray} (h : TxL w a xs) (n : Nat) : TxL (w.drewN n) a xs := h.below (below_drewN (Below.refl _ _) n)
theorem TxL.alloc {w : World} {a : Option Addr} {xs : List ByteArray} (h : TxL w a xs) (o : Obj) : TxL (w.alloc o) a xs := h.below ((Below.refl _ _).alloc (Nat.le_refl _) _)
/-- Texts as cells. -/
def txc (xs : List ByteArray) : Array Value := (xs.map fun x => Value.string x).toArray
theorem txc_size (xs : List ByteArray) : (txc xs).size = xs.length := by simp [txc]
theorem txc_get (xs : List ByteArray) (i : Nat) : (txc xs)[i]? = (xs[i]?).map fun x => Value.string x := by simp [txc]
theorem txc_set (xs : List ByteArray) (i : Nat) (x : ByteArray) : (txc xs).setIfInBounds i (.string x) = txc (xs.set i x) := by
  simp only [txc, List.setIfInBounds_toArray, List.map_set]
theorem Bk.txl {w : World} {b : Nat} {T : TypeId} {xs : List ByteArray} (h : Bk w b (txc xs) T) : TxL w (some ⟨b, 0, none⟩) xs := by
  intro i x hx
  exact ⟨b, 0, rfl, h.lt, by rw [Nat.zero_add, h.cell, txc_get, hx]; rfl⟩
theorem str_ne (x y : ByteArray) : (x.toList != y.toList) = !decide (x = y) := by
  rw [Lib.toList_data, Lib.toList_data]
  by_cases h : x = y
  · subst h; simp
  · have : x.data.toList ≠ y.data.toList := fun e => h (by cases x; cases y; simp at e; simp [e])
    simp [h, this]
end Go.Proofs.YtplfjfhpdfbpeaaDoor
