/- The three listed tables: what the rows' list gives, and a world for the witness that holds them. -/
import Derived.Test.YtbfdggkoildfkaaDoorCards
import Derived.Test.YtbfdggkoildfkaaDoorTie
import Derived.Test.YtbfdggkoildfkaaDoorD10
import Derived.ProofKit
import Derived.Deep.DeepHandedRow
import Derived.Lib.LaidTab
namespace Go.Proofs.YtbfdggkoildfkaaDoor
open Go.ChangeShapes Go.WideShapes Go.ChangeAt Go.RowKit
set_option linter.unusedSimpArgs false
set_option linter.unusedVariables false
theorem own : ownKnob Tryd.prog.godebug = none := by kernel_rfl
theorem laidOut : laidOutB Tryd.prog = true := by kernel_rfl
def tab16 : List Int := [48, 49, 50, 51, 52, 53, 54, 55, 56, 57, 97, 98, 99, 100, 101, 102]
def tab8 : List Int := [1779033703, 3144134277, 1013904242, 2773480762, 1359893119, 2600822924, 528734635, 1541459225]
def tab64 : List Int := [1116352408, 1899447441, 3049323471, 3921009573, 961987163, 1508970993, 2453635748, 2870763221, 3624381080, 310598401, 607225278, 1426881987, 1925078388, 2162078206, 2614888103, 3248222580, 3835390401, 4022224774, 264347078, 604807628, 770255983, 1249150122, 1555081692, 1996064986, 2554220882, 2821834349, 2952996808, 3210313671, 3336571891, 3584528711, 113926993, 338241895, 666307205, 773529912, 1294757372, 1396182291, 1695183700, 1986661051, 2177026350, 2456956037, 2730485921, 2820302411, 3259730800, 3345764771, 3516065817, 3600352804, 4094571909, 275423344, 430227734, 506948616, 659060556, 883997877, 958139571, 1322822218, 1537002063, 1747873779, 1955562222, 2024104815, 2227730452, 2361852424, 2428436474, 2756734187, 3204031479, 3329325298]
theorem gD : Tryd.prog.globalNamed "muniment/wire.digits" = some 1 := by kernel_rfl
theorem gH : Tryd.prog.globalNamed "muniment/digest.firstNumbers" = some 0 := by kernel_rfl
theorem gK : Tryd.prog.globalNamed "muniment/digest.constants" = some 2 := by kernel_rfl
theorem tD : (Tryd.prog.globals[1]?).map (·.type) = some 75 := by kernel_rfl
theorem tH : (Tryd.prog.globals[0]?).map (·.type) = some 49 := by kernel_rfl
theorem tK : (Tryd.prog.globals[2]?).map (·.type) = some 58 := by kernel_rfl
theorem cD : Tryd.prog.cellsOf 75 = 16 := by kernel_rfl
theorem cH : Tryd.prog.cellsOf 49 = 8 := by kernel_rfl
theorem cK : Tryd.prog.cellsOf 58 = 64 := by kernel_rfl
theorem c8 : Tryd.prog.cellsOf 5 = 1 := by kernel_rfl
theorem c32' : Tryd.prog.cellsOf 48 = 1 := by kernel_rfl
theorem laid_next {P : Program} {W : World} {name : String} {k : IntKind} {zs : List Int} {rest : List (String × DataW Unit)} {g : Nat} {t e : TypeId} {n : Nat} {ps : List MemPlace}
    (hg : P.globalNamed name = some g) (hty : (P.globals[g]?).map (·.type) = some t) (ht : P.underlying t = some (.array n e)) (he : P.underlying e = some (.int k)) (hce : P.cellsOf e = 1) (hct : P.cellsOf t = n)
    (h : DataW.LaidVars P W ((name, Lib.tabData k zs) :: rest) ps) : Lib.TabIs P W name k zs ∧ ∃ qs, DataW.LaidVars P W rest qs := by
  obtain ⟨g', t', cs, fuel, p, q, hg', ht', hvar, hd, hr, _⟩ := h
  obtain rfl := Option.some.inj (hg.symm.trans hg')
  obtain rfl := Option.some.inj (hty.symm.trans ht')
  refine ⟨?_, q, hr⟩
  unfold Lib.TabIs
  rw [hvar, ← Lib.cells_of_tab ht he hce hct hd]
theorem laid_all {W : World} (h : laidMet Tryd.prog [("muniment/wire.digits", Lib.tabData .u8 tab16), ("muniment/digest.firstNumbers", Lib.tabData .u32 tab8), ("muniment/digest.constants", Lib.tabData .u32 tab64)] W) : All W := by
  obtain ⟨ps, h, _⟩ := h
  obtain ⟨h1, qs, h⟩ := laid_next gD tD Tryd.underlying75 Tryd.underlying5 c8 cD h
  obtain ⟨h2, qs2, h⟩ := laid_next gH tH Tryd.underlying49 Tryd.underlying48 c32' cH h
  obtain ⟨h3, qs3, h⟩ := laid_next gK tK Tryd.underlying58 Tryd.underlying48 c32' cK h
  refine ⟨⟨?_, ?_⟩, ?_⟩
  · intro v hv
    rw [h3.cell gK v (by simpa [tab64] using hv)]
    have : ∀ v : Fin 64, tab64.getD v.val 0 = ((KT v.val).toNat : Int) := by decide +kernel
    rw [this ⟨v, hv⟩]
  · intro v hv
    rw [h2.cell gH v (by simpa [tab8] using hv)]
    have : ∀ v : Fin 8, tab8.getD v.val 0 = ((H0.list.getD v.val 0).toNat : Int) := by decide +kernel
    rw [this ⟨v, hv⟩]
  · intro v hv
    rw [h1.cell gD v (by simpa [tab16] using hv)]
    have : ∀ v : Fin 16, tab16.getD v.val 0 = (dg v.val : Int) := by decide +kernel
    rw [this ⟨v, hv⟩]
/-- A table's block, as its initialiser lays it. -/
def lay (k : IntKind) (zs : List Int) (o : Obj) : Obj := match o with
  | .cells _ t frozen => .cells (zs.map fun z => Value.int k z).toArray t frozen
  | o => o
/-- A world for the witness. -/
noncomputable def laidW (os : Os) : World := { World.holding Tryd.prog os ⟨#[], #[], []⟩ with heap := (((World.holding Tryd.prog os ⟨#[], #[], []⟩).heap.modify 1 (lay .u8 tab16)).modify 0 (lay .u32 tab8)).modify 2 (lay .u32 tab64) }
end Go.Proofs.YtbfdggkoildfkaaDoor
