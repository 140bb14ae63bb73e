/-
  DERIVED. GIVEN WITH THE SEED: THE CARDS: each row of YtfmfdaoipfpijaaGreatDoorRows.lean that lists a variable, with what it lists TIED to the program's text (the seventh form; the later family's looks); each row that meets fmt, with fmt's text TOLD by the authors' own Lean function (tested against real Go, not proved from fmt's source: count such statements apart). THE CARD IS WHAT COUNTS. Prove the row's statement (the work); the ties are given (YtfmfdaoipfpijaaGreatDoorTie.lean); close each card by the builder's one call (the guide's Derived/Test/ToyasCard.lean, 'card_holds'). Laid BY PROGRAM, IN A SANDBOX (cutbox-door.mjs). By AI agents, Wed Nov 11 2026. No macro, syntax, notation, axiom, sorry.
-/
import Derived.Test.YtfmfdaoipfpijaaGreatDoorRows
import GoSem.ClaimSeven
namespace Go.Proofs.YtfmfdaoipfpijaaGreatDoor
namespace Rows

/-- THE TIED CARD OF 'munimentlaw15.MidxNames'. -/
def midxNamesCard : Claim7 := { stood := { row := midxNamesRow, standIns := [], harness := (true, "0965b6f7953344dc28c3c7a68e3562b18fc06c644bc6075c7bd1b1140d3133a8"), looks := false }, kinds := [], alts := [], laidByText := true, laidKinds := [.data, .data, .data], laidTests := true, laidLooks := .later }
def MidxNamesCardSaid : Prop := Claim7.holds Tryz.pinned (.plain (OpenSpec.ofChange midxNamesSpec)) midxNamesCard

/-- THE SECOND FORM's CARD OF 'munimentlaw15.MidxNames'. -/
def midxNamesUptoCard : Claim7 := { stood := { row := midxNamesUptoRow, standIns := [], harness := (true, "0965b6f7953344dc28c3c7a68e3562b18fc06c644bc6075c7bd1b1140d3133a8"), looks := false }, kinds := [], alts := [], laidByText := true, laidKinds := [.data, .data, .data], laidTests := true, laidLooks := .later }
def MidxNamesUptoCardSaid : Prop := Claim7.holds Tryz.pinned (.plain (OpenSpec.upto midxNamesSpec)) midxNamesUptoCard
end Rows
end Go.Proofs.YtfmfdaoipfpijaaGreatDoor
