/-
  DERIVED. GIVEN WITH THE SEED: THE CARDS: each row of YteccnnpialaalaaDoorRows.lean that lists a variable, with what it lists TIED to the program's text (the seventh form; the later family's looks); each row that meets fmt, with fmt's text TOLD by the authors' own Lean function (tested against real Go, not proved from fmt's source: count such statements apart). THE CARD IS WHAT COUNTS. Prove the row's statement (the work); the ties are given (YteccnnpialaalaaDoorTie.lean); close each card by the builder's one call (the guide's Derived/Test/ToyasCard.lean, 'card_holds'). Laid BY PROGRAM, IN A SANDBOX (cutbox-door.mjs). By AI agents, Wed Nov 11 2026. No macro, syntax, notation, axiom, sorry.
-/
import Derived.Test.YteccnnpialaalaaDoorRows
import GoSem.ClaimSeven
namespace Go.Proofs.YteccnnpialaalaaDoor
namespace Rows

/-- THE TIED CARD OF 'munimentlaw17.ParityTables'. -/
def parityTablesCard : Claim7 := { stood := { row := parityTablesRow, standIns := [], harness := (true, "ad9d80a6d6564b48f8a5afba6d1017e0ddd018a6675c5d6426fe88b25884bd2c"), looks := false }, kinds := [], alts := [], laidByText := true, laidKinds := [.data], laidTests := true, laidLooks := .later }
def ParityTablesCardSaid : Prop := Claim7.holds Tryd.pinned (.plain (OpenSpec.ofChange parityTablesSpec)) parityTablesCard

/-- THE SECOND FORM's CARD OF 'munimentlaw17.ParityTables'. -/
def parityTablesUptoCard : Claim7 := { stood := { row := parityTablesUptoRow, standIns := [], harness := (true, "ad9d80a6d6564b48f8a5afba6d1017e0ddd018a6675c5d6426fe88b25884bd2c"), looks := false }, kinds := [], alts := [], laidByText := true, laidKinds := [.data], laidTests := true, laidLooks := .later }
def ParityTablesUptoCardSaid : Prop := Claim7.holds Tryd.pinned (.plain (OpenSpec.upto parityTablesSpec)) parityTablesUptoCard
end Rows
end Go.Proofs.YteccnnpialaalaaDoor
