/- The listed tables of the Go library: what the rows' lists give, and worlds for the witnesses that hold them. -/
import Derived.Test.YtmkmhbbpbpkdjaaDoorCards
import Derived.Test.YtmkmhbbpbpkdjaaDoorTie
import Derived.Test.YtmkmhbbpbpkdjaaDoorH2
import Derived.Lib.LaidU8T
import Derived.ProofKit
import Derived.Deep.DeepHandedRow
import Derived.Lib.LaidTab
namespace Go.Proofs.YtmkmhbbpbpkdjaaDoor
open Go.ChangeShapes Go.WideShapes Go.ChangeAt Go.RowKit
set_option linter.unusedSimpArgs false
set_option linter.unusedVariables false
theorem own : ownKnob Tryd.prog.godebug = none := by kernel_rfl
theorem laidOut : laidOutB Tryd.prog = true := by kernel_rfl
theorem first_eq : Rows.laid_unicode_utf8_first = Lib.firstData := by kernel_rfl
theorem accept_eq : (Rows.laid_unicode_utf8_acceptRanges : DataW Unit) = Lib.acceptData := by kernel_rfl
theorem u8_extra : U8Extra Tryd.prog lays196_ren := ⟨by kernel_rfl, by kernel_rfl, by kernel_rfl, by kernel_rfl, by kernel_rfl, by kernel_rfl, by kernel_rfl⟩
/-- A table's cells. -/
def cell0 : DataW Unit → List Value
  | .lit (.int k z) => [.int k z]
  | _ => []
def cell1 : DataW Unit → List Value
  | .lit (.int k z) => [.int k z]
  | .agg ps => ps.flatMap cell0
  | _ => []
def cells2 : DataW Unit → Array Value
  | .agg ps => (ps.flatMap cell1).toArray
  | _ => #[]
def layC (cs : Array Value) (o : Obj) : Obj := match o with
  | .cells _ t frozen => .cells cs t frozen
  | o => o
/-- Worlds for the witnesses. -/
noncomputable def laidW2 (os : Os) : World := { World.holding Tryd.prog os ⟨#[], #[], []⟩ with heap := ((World.holding Tryd.prog os ⟨#[], #[], []⟩).heap.modify 4 (layC (cells2 Rows.laid_unicode_utf8_first))).modify 5 (layC (cells2 Rows.laid_unicode_utf8_acceptRanges)) }
noncomputable def low : Nat := (World.holding Tryd.prog default ⟨#[], #[], []⟩).heap.size
def errW : Array Obj := #[.cells #[.string ⟨#[118, 97, 108, 117, 101, 32, 111, 117, 116, 32, 111, 102, 32, 114, 97, 110, 103, 101]⟩] 157, .cells #[.string ⟨#[105, 110, 118, 97, 108, 105, 100, 32, 115, 121, 110, 116, 97, 120]⟩] 157]
noncomputable def laidW7 (os : Os) : World := { World.holding Tryd.prog os ⟨errW, #[], []⟩ with heap := ((((((((World.holding Tryd.prog os ⟨errW, #[], []⟩).heap.modify 4 (layC (cells2 Rows.laid_unicode_utf8_first))).modify 5 (layC (cells2 Rows.laid_unicode_utf8_acceptRanges))).modify 9 (layC (cells2 Rows.laid_math_bits_deBruijn32tab))).modify 10 (layC (cells2 Rows.laid_math_bits_deBruijn64tab))).modify 6 (layC (cells2 Rows.laid_internal_strconv_uint64pow10))).modify 8 (layC #[.iface 155 (.pointer (some ⟨low, 0, none⟩))])).modify 7 (layC #[.iface 155 (.pointer (some ⟨low + 1, 0, none⟩))])) }
theorem u8_none {W : World} (h : laidMet Tryd.prog Rows.namesNoneRow.laid W) : U8 W := by
  have h3 := Lib.laidMet.reads h (.tail _ (.tail _ (.tail _ (.tail _ (.tail _ (.tail _ (.head _)))))))
  have h4 := Lib.laidMet.reads h (.tail _ (.tail _ (.tail _ (.head _))))
  rw [first_eq] at h3
  rw [accept_eq] at h4
  exact utf8Tabs_of_readsT (U8Types.of196 lays196) u8_extra h3 h4
theorem u8_two {W : World} (h : laidMet Tryd.prog Rows.namesAreRow.laid W) : U8 W := by
  have h3 := Lib.laidMet.reads h (.tail _ (.head _))
  have h4 := Lib.laidMet.reads h (.head _)
  rw [first_eq] at h3
  rw [accept_eq] at h4
  exact utf8Tabs_of_readsT (U8Types.of196 lays196) u8_extra h3 h4
theorem met7 (os : Os) (args : Array Value) : laidMet Tryd.prog Rows.namesNoneRow.laid ((laidW7 os).forCall (fun _ _ => 0) ⟨#[], args, []⟩).memory :=
  laidMet_of_run' 8 (by kernel_rfl) (by kernel_rfl)
theorem met2 (os : Os) (args : Array Value) : laidMet Tryd.prog Rows.namesAreRow.laid ((laidW2 os).forCall (fun _ _ => 0) ⟨#[], args, []⟩).memory :=
  laidMet_of_run' 8 (by kernel_rfl) (by kernel_rfl)
end Go.Proofs.YtmkmhbbpbpkdjaaDoor
