/- The listed variables of NamesBack's and NamesShown's rows. -/
import Derived.Test.YtobecfeelamlmaaDoorN22
import Derived.Test.YtobecfeelamlmaaDoorCards
import Derived.ProofKit
import Derived.Deep.DeepHandedRow
import Derived.Test.YtobecfeelamlmaaDoorTie
import Derived.Lib.LaidU8T
import Derived.Lib.LaidTab
import Derived.LaidLaws

namespace Go.Proofs.YtobecfeelamlmaaDoor
open Go.RowKit
set_option linter.unusedSimpArgs false
set_option linter.unusedVariables false
theorem own : ownKnob Tryd.prog.godebug = none := by kernel_rfl
theorem laidOut : laidOutB Tryd.prog = true := by kernel_rfl
theorem first_eq : Rows.laid_unicode_utf8_first = Lib.firstData := by kernel_rfl
theorem accept_eq : (Rows.laid_unicode_utf8_acceptRanges : DataW Unit) = Lib.acceptData := by kernel_rfl
theorem u8_extra : U8Extra Tryd.prog lays196_ren := ⟨by kernel_rfl, by kernel_rfl, by kernel_rfl, by kernel_rfl, by kernel_rfl, by kernel_rfl, by kernel_rfl⟩
/-- A table's cells. -/
def cell0 : DataW Unit → List Value
  | .lit (.int k z) => [.int k z]
  | _ => []
def cell1 : DataW Unit → List Value
  | .lit (.int k z) => [.int k z]
  | .agg ps => ps.flatMap cell0
  | _ => []
def cells2 : DataW Unit → Array Value
  | .agg ps => (ps.flatMap cell1).toArray
  | _ => #[]
def layC (cs : Array Value) (o : Obj) : Obj := match o with
  | .cells _ t frozen => .cells cs t frozen
  | o => o
/-- Worlds for the witnesses. -/
noncomputable def low : Nat := (World.holding Tryd.prog default ⟨#[], #[], []⟩).heap.size
def errW : Array Obj := #[.cells #[.string ⟨#[118, 97, 108, 117, 101, 32, 111, 117, 116, 32, 111, 102, 32, 114, 97, 110, 103, 101]⟩] 116, .cells #[.string ⟨#[105, 110, 118, 97, 108, 105, 100, 32, 115, 121, 110, 116, 97, 120]⟩] 116]
noncomputable def laidW7 (os : Os) : World := { World.holding Tryd.prog os ⟨errW, #[], []⟩ with heap := ((((((((World.holding Tryd.prog os ⟨errW, #[], []⟩).heap.modify 0 (layC (cells2 Rows.laid_unicode_utf8_first))).modify 1 (layC (cells2 Rows.laid_unicode_utf8_acceptRanges))).modify 6 (layC (cells2 Rows.laid_math_bits_deBruijn32tab))).modify 7 (layC (cells2 Rows.laid_math_bits_deBruijn64tab))).modify 2 (layC (cells2 Rows.laid_internal_strconv_uint64pow10))).modify 4 (layC #[.iface 114 (.pointer (some ⟨low, 0, none⟩))])).modify 3 (layC #[.iface 114 (.pointer (some ⟨low + 1, 0, none⟩))])) }
theorem u8_of {W : World} {L : List (String × DataW Unit)} (h : laidMet Tryd.prog L W) (h1 : ("unicode/utf8.first", Rows.laid_unicode_utf8_first) ∈ L) (h2 : ("unicode/utf8.acceptRanges", Rows.laid_unicode_utf8_acceptRanges) ∈ L) : U8 W := by
  have h3 := Lib.laidMet.reads h h1
  have h4 := Lib.laidMet.reads h h2
  rw [first_eq] at h3
  rw [accept_eq] at h4
  exact utf8Tabs_of_readsT (U8Types.of196 lays196) u8_extra h3 h4
def numOf : DataW Unit → Int
  | .lit (.int _ z) => z
  | _ => 0
def numsOf : DataW Unit → List Int
  | .agg ps => ps.map numOf
  | _ => []
theorem tz_eq : (Rows.laid_math_bits_deBruijn64tab : DataW Unit) = Lib.tabData .u8 (numsOf Rows.laid_math_bits_deBruijn64tab) := by kernel_rfl
theorem tz_len : (numsOf Rows.laid_math_bits_deBruijn64tab).length = 64 := by kernel_rfl
theorem tz_15 : (numsOf Rows.laid_math_bits_deBruijn64tab).getD 15 0 = 4 := by kernel_rfl
theorem g64 : Tryd.prog.globalNamed "math/bits.deBruijn64tab" = some 7 := by kernel_rfl
theorem t64 : (Tryd.prog.globals[7]?).map (·.type) = some 120 := by kernel_rfl
theorem c64 : Tryd.prog.cellsOf 120 = 64 := by kernel_rfl
theorem cU8 : Tryd.prog.cellsOf 5 = 1 := by kernel_rfl
theorem tz_of {W : World} {L : List (String × DataW Unit)} (h : laidMet Tryd.prog L W) (h1 : ("math/bits.deBruijn64tab", Rows.laid_math_bits_deBruijn64tab) ∈ L) : Tz W := by
  obtain ⟨g, t, cs, fuel, p, hg, ht, hv, hd⟩ := Lib.laidMet.reads h h1
  obtain rfl := Option.some.inj (g64.symm.trans hg)
  obtain rfl := Option.some.inj (t64.symm.trans ht)
  rw [tz_eq] at hd
  have hcs := Lib.cells_of_tab Tryd.underlying120 Tryd.underlying5 cU8 c64 hd
  have hc : W.cell? ⟨7, 15, none⟩ = some (.int .u8 4) := by
    rw [World.var?_cell hg hv 15, ← Array.getElem?_toList, hcs, List.getElem?_map]
    have := tz_15
    have hl := tz_len
    rw [List.getD, List.getElem?_eq_getElem (by omega)] at this
    rw [List.getElem?_eq_getElem (by omega)]
    simp only [Option.getD_some] at this
    rw [this]; rfl
  exact ⟨hc, Lib.lt_of_cell hc⟩
theorem gSy : Tryd.prog.globalNamed "strconv.ErrSyntax" = some 3 := by kernel_rfl
theorem tSy : (Tryd.prog.globals[3]?).map (·.type) = some 43 := by kernel_rfl
theorem gRa : Tryd.prog.globalNamed "strconv.ErrRange" = some 4 := by kernel_rfl
theorem tRa : (Tryd.prog.globals[4]?).map (·.type) = some 43 := by kernel_rfl
theorem er_of {W : World} {L : List (String × DataW Unit)} (h : laidMet Tryd.prog L W) (h1 : ("strconv.ErrSyntax", Rows.laid_strconv_ErrSyntax) ∈ L) (h2 : ("strconv.ErrRange", Rows.laid_strconv_ErrRange) ∈ L) : Er W := by
  constructor
  · obtain ⟨g, t, cs, fuel, p, hg, ht, hv, hd⟩ := Lib.laidMet.reads h h1
    obtain rfl := Option.some.inj (gSy.symm.trans hg)
    obtain rfl := Option.some.inj (tSy.symm.trans ht)
    obtain ⟨f1, u, v, hcs, _, _⟩ := iface_of_trod Tryd.underlying43 hd
    refine ⟨.iface u v, ?_, u, v, rfl⟩
    rw [World.var?_cell hg hv 0, ← Array.getElem?_toList, hcs]; rfl
  · obtain ⟨g, t, cs, fuel, p, hg, ht, hv, hd⟩ := Lib.laidMet.reads h h2
    obtain rfl := Option.some.inj (gRa.symm.trans hg)
    obtain rfl := Option.some.inj (tRa.symm.trans ht)
    obtain ⟨f1, u, v, hcs, _, _⟩ := iface_of_trod Tryd.underlying43 hd
    refine ⟨.iface u v, ?_, u, v, rfl⟩
    rw [World.var?_cell hg hv 0, ← Array.getElem?_toList, hcs]; rfl
end Go.Proofs.YtobecfeelamlmaaDoor
