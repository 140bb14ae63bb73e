/- The listed tables of the Go library: what the lists of stage 10's rows give, and a world for the witnesses that holds them. -/
import Derived.Test.YtjnijcmalnckcaaDoorCards
import Derived.Test.YtjnijcmalnckcaaDoorTie
import Derived.Test.YtjnijcmalnckcaaDoorH2V
import Derived.Lib.LaidU8T
import Derived.ProofKit
import Derived.Deep.DeepHandedRow
import Derived.Lib.LaidTab
namespace Go.Proofs.YtjnijcmalnckcaaDoor
open Go.ChangeShapes Go.WideShapes Go.ChangeAt Go.RowKit
set_option linter.unusedSimpArgs false
set_option linter.unusedVariables false
theorem own : ownKnob Tryd.prog.godebug = none := by kernel_rfl
theorem laidOut : laidOutB Tryd.prog = true := by kernel_rfl
theorem first_eq : Rows.laid_unicode_utf8_first = Lib.firstData := by kernel_rfl
theorem accept_eq : (Rows.laid_unicode_utf8_acceptRanges : DataW Unit) = Lib.acceptData := by kernel_rfl
theorem u8_extra : U8Extra Tryd.prog lays196_ren := ⟨by kernel_rfl, by kernel_rfl, by kernel_rfl, by kernel_rfl, by kernel_rfl, by kernel_rfl, by kernel_rfl⟩
/-- A table's cells. -/
def cell0 : DataW Unit → List Value
  | .lit (.int k z) => [.int k z]
  | _ => []
def cell1 : DataW Unit → List Value
  | .lit (.int k z) => [.int k z]
  | .agg ps => ps.flatMap cell0
  | _ => []
def cells2 : DataW Unit → Array Value
  | .agg ps => (ps.flatMap cell1).toArray
  | _ => #[]
def layC (cs : Array Value) (o : Obj) : Obj := match o with
  | .cells _ t frozen => .cells cs t frozen
  | o => o
/-- Worlds for the witnesses. -/
noncomputable def laidW2 (os : Os) : World := { World.holding Tryd.prog os ⟨#[], #[], []⟩ with heap := ((World.holding Tryd.prog os ⟨#[], #[], []⟩).heap.modify 2 (layC (cells2 Rows.laid_unicode_utf8_first))).modify 3 (layC (cells2 Rows.laid_unicode_utf8_acceptRanges)) }
theorem u8_back {W : World} (h : laidMet Tryd.prog Rows.attrsBackRow.laid W) : U8 W := by
  have h3 := Lib.laidMet.reads h (.tail _ (.head _))
  have h4 := Lib.laidMet.reads h (.head _)
  rw [first_eq] at h3
  rw [accept_eq] at h4
  exact utf8Tabs_of_readsT (U8Types.of196 lays196) u8_extra h3 h4
theorem met10 (os : Os) (args : Array Value) : laidMet Tryd.prog Rows.attrsBackRow.laid ((laidW2 os).forCall (fun _ _ => 0) ⟨#[], args, []⟩).memory :=
  laidMet_of_run' 8 (by kernel_rfl) (by kernel_rfl)
end Go.Proofs.YtjnijcmalnckcaaDoor
