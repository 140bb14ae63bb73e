/- What a reader's calls do to the world: small laws. -/
import Derived.Test.YtplfjfhpdfbpeaaDoorW5F
namespace Go.Proofs.YtplfjfhpdfbpeaaDoor
open Go.RowKit
set_option linter.unusedSimpArgs false
set_option linter.unusedVariables false
theorem al_ptr (w : World) (v : Value) (T : TypeId) : (w.alloc (.cells #[v] T)).cell? ⟨w.heap.size, 0, none⟩ = some v := by rw [World.cell?_alloc_new]; rfl
theorem al_cell {w : World} {b : Nat} {v : Value} (o : Obj) (hb : b < w.heap.size) (hc : w.cell? ⟨b, 0, none⟩ = some v) : (w.alloc o).cell? ⟨b, 0, none⟩ = some v := by rw [World.cell?_alloc_past _ _ _ hb]; exact hc
theorem al_frozen {w : World} {b : Nat} {v : Bool} (o : Obj) (hb : b < w.heap.size) (hc : w.frozen? ⟨b, 0, none⟩ = v) : (w.alloc o).frozen? ⟨b, 0, none⟩ = v := by
  rw [((Below.refl w.heap.size w).alloc (Nat.le_refl _) o).frozen (p := ⟨b, 0, none⟩) hb]; exact hc
/-- Behind the taker's box and its store. -/
theorem taken {w : World} {b : Nat} {s s' : ByteArray} (o : Obj) (hb : b < w.heap.size) (hc : w.cell? ⟨b, 0, none⟩ = some (.string s)) (hf : w.frozen? ⟨b, 0, none⟩ = false) :
    Step b w ((w.setCell ⟨b, 0, none⟩ (.string s')).alloc o).drew s' :=
  Step.of_set (((Below.refl _ _).alloc (by simp [World.setCell]) o).drew) hb hc hf
theorem untaken {w : World} {b : Nat} {s : ByteArray} (o : Obj) (hb : b < w.heap.size) (hc : w.cell? ⟨b, 0, none⟩ = some (.string s)) (hf : w.frozen? ⟨b, 0, none⟩ = false) :
    Step b w (w.alloc o) s := Step.of_below ((Below.refl _ _).alloc (Nat.le_refl _) _) hb hc hf
theorem still {w : World} {b : Nat} {s : ByteArray} (hb : b < w.heap.size) (hc : w.cell? ⟨b, 0, none⟩ = some (.string s)) (hf : w.frozen? ⟨b, 0, none⟩ = false) :
    Step b w w s := Step.of_below (Below.refl _ _) hb hc hf
end Go.Proofs.YtplfjfhpdfbpeaaDoor
