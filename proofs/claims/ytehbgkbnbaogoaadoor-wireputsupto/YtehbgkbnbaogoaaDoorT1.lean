/- The listed table of digits: what the row's list gives, and a world for the witness that holds it. -/
import Derived.Test.YtehbgkbnbaogoaaDoorCards
import Derived.Test.YtehbgkbnbaogoaaDoorTie
import Derived.Test.YtehbgkbnbaogoaaDoorX1
import Derived.ProofKit
import Derived.Deep.DeepHandedRow
import Derived.Lib.LaidTab
namespace Go.Proofs.YtehbgkbnbaogoaaDoor
open Go.ChangeShapes Go.WideShapes Go.ChangeAt Go.RowKit
set_option linter.unusedSimpArgs false
set_option linter.unusedVariables false
theorem own : ownKnob Tryd.prog.godebug = none := by kernel_rfl
theorem laidOut : laidOutB Tryd.prog = true := by kernel_rfl
theorem gTab : Tryd.prog.globalNamed "muniment/wire.digits" = some 0 := by kernel_rfl
theorem gTabType : (Tryd.prog.globals[0]?).map (·.type) = some 56 := by kernel_rfl
theorem cellsTab : Tryd.prog.cellsOf 56 = 16 := by kernel_rfl
theorem cellsU8 : Tryd.prog.cellsOf 5 = 1 := by kernel_rfl
theorem laid_tab {W : World} (h : laidMetH Tryd.prog Rows.wireOnceRow.laid W) : Lib.TabIs Tryd.prog W "muniment/wire.digits" .u8 [48, 49, 50, 51, 52, 53, 54, 55, 56, 57, 97, 98, 99, 100, 101, 102] :=
  Lib.tabIs_of_head (rest := []) gTab gTabType Tryd.underlying56 Tryd.underlying5 cellsU8 cellsTab h
theorem laid_cells {W : World} (h : laidMetH Tryd.prog Rows.wireOnceRow.laid W) : TabIs W := by
  intro v hv
  have hc := (laid_tab h).cell gTab v (by simpa using hv)
  rw [hc]
  have : ∀ v : Fin 16, ([48, 49, 50, 51, 52, 53, 54, 55, 56, 57, 97, 98, 99, 100, 101, 102] : List Int).getD v.val 0 = (dg v.val : Int) := by decide
  have e := this ⟨v, hv⟩
  simp only at e
  rw [← e]
/-- The block of the table, as its initialiser lays it. -/
def tabLay (o : Obj) : Obj := match o with
  | .cells _ t frozen => .cells #[.int .u8 48, .int .u8 49, .int .u8 50, .int .u8 51, .int .u8 52, .int .u8 53, .int .u8 54, .int .u8 55, .int .u8 56, .int .u8 57, .int .u8 97, .int .u8 98, .int .u8 99, .int .u8 100, .int .u8 101, .int .u8 102] t frozen
  | o => o
end Go.Proofs.YtehbgkbnbaogoaaDoor
