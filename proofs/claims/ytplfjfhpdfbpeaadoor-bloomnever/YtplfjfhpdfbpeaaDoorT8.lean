/- The listed mark of a filter's bytes: what a row's list gives, and a world for the witness that holds it. -/
import Derived.Test.YtplfjfhpdfbpeaaDoorCards
import Derived.Test.YtplfjfhpdfbpeaaDoorTie
import Derived.Test.YtplfjfhpdfbpeaaDoorBQ8
import Derived.ProofKit
import Derived.Deep.DeepHandedRow
import Derived.Lib.LaidTab
namespace Go.Proofs.YtplfjfhpdfbpeaaDoor
open Go.ChangeShapes Go.WideShapes Go.ChangeAt Go.RowKit
set_option linter.unusedSimpArgs false
set_option linter.unusedVariables false
theorem own : ownKnob Tryd.prog.godebug = none := by kernel_rfl
theorem laidOut : laidOutB Tryd.prog = true := by kernel_rfl
theorem gM : Tryd.prog.globalNamed "muniment/bloom.mark" = some 0 := by kernel_rfl
theorem gMt : (Tryd.prog.globals[0]?).map (·.type) = some 74 := by kernel_rfl
theorem cM : Tryd.prog.cellsOf 74 = 4 := by kernel_rfl
theorem cM8 : Tryd.prog.cellsOf 5 = 1 := by kernel_rfl
def tabM : List Int := [77, 66, 70, 49]
theorem mark_of {W : World} (h : Lib.TabIs Tryd.prog W "muniment/bloom.mark" .u8 tabM) : MkS W := by
  intro t v hv
  have ht : t < 4 := (Array.getElem?_eq_some_iff.1 hv).1
  rw [h.cell gM t (by simpa [tabM] using ht)]
  have h4 : t = 0 ∨ t = 1 ∨ t = 2 ∨ t = 3 := by omega
  rcases h4 with rfl | rfl | rfl | rfl <;> exact hv
theorem laid_mark {W : World} (h : laidMetH Tryd.prog Rows.bloomAloneRow.laid W) : MkS W :=
  mark_of (Lib.tabIs_of_head (zs := tabM) (rest := []) gM gMt Tryd.underlying74 Tryd.underlying5 cM8 cM h)
/-- A table's block, as its initialiser lays it. -/
def layM (k : IntKind) (zs : List Int) (o : Obj) : Obj := match o with
  | .cells _ t frozen => .cells (zs.map fun z => Value.int k z).toArray t frozen
  | o => o
/-- A world for the witness. -/
noncomputable def laidWM (os : Os) : World := { World.holding Tryd.prog os ⟨#[], #[], []⟩ with heap := (World.holding Tryd.prog os ⟨#[], #[], []⟩).heap.modify 0 (layM .u8 tabM) }
end Go.Proofs.YtplfjfhpdfbpeaaDoor
