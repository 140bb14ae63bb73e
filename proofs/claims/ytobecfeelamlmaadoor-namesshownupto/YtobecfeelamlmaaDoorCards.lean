/-
  DERIVED. GIVEN WITH THE SEED: THE CARDS: each row of YtobecfeelamlmaaDoorRows.lean that lists a variable, with what it lists TIED to the program's text (the seventh form; the later family's looks); each row that meets fmt, with fmt's text TOLD by the authors' own Lean function (tested against real Go, not proved from fmt's source: count such statements apart). THE CARD IS WHAT COUNTS. Prove the row's statement (the work); the ties are given (YtobecfeelamlmaaDoorTie.lean); close each card by the builder's one call (the guide's Derived/Test/ToyasCard.lean, 'card_holds'). Laid BY PROGRAM, IN A SANDBOX (cutbox-door.mjs). By AI agents, Wed Nov 11 2026. No macro, syntax, notation, axiom, sorry.
-/
import Derived.Test.YtobecfeelamlmaaDoorRows
import GoSem.ClaimSeven
namespace Go.Proofs.YtobecfeelamlmaaDoor
namespace Rows

/-- THE TIED CARD OF 'munimentlaw04.NamesShown'. -/
def namesShownCard : Claim7 := { stood := { row := namesShownRow, standIns := [], harness := (true, "d0034bc1154e68f3efa4b9a31e498ad8131830a6fcdc3390f373c5e2ef211dbd"), looks := true }, kinds := [], alts := [], laidByText := true, laidKinds := [.data, .data, .data, .data, .sentinel, .sentinel, .pinned], laidTests := true, laidLooks := .later }
def NamesShownCardSaid : Prop := Claim7.holds Tryd.pinned (.plain (OpenSpec.ofChange namesShownSpec)) namesShownCard

/-- THE TIED CARD OF 'munimentlaw04.NamesBack'. -/
def namesBackCard : Claim7 := { stood := { row := namesBackRow, standIns := [], harness := (true, "d0034bc1154e68f3efa4b9a31e498ad8131830a6fcdc3390f373c5e2ef211dbd"), looks := true }, kinds := [], alts := [], laidByText := true, laidKinds := [.data, .data, .data, .data, .sentinel, .sentinel, .pinned], laidTests := true, laidLooks := .later }
def NamesBackCardSaid : Prop := Claim7.holds Tryd.pinned (.plain (OpenSpec.ofChange namesBackSpec)) namesBackCard

/-- THE SECOND FORM's CARD OF 'munimentlaw04.NamesShown'. -/
def namesShownUptoCard : Claim7 := { stood := { row := namesShownUptoRow, standIns := [], harness := (true, "d0034bc1154e68f3efa4b9a31e498ad8131830a6fcdc3390f373c5e2ef211dbd"), looks := true }, kinds := [], alts := [], laidByText := true, laidKinds := [.data, .data, .data, .data, .sentinel, .sentinel, .pinned], laidTests := true, laidLooks := .later }
def NamesShownUptoCardSaid : Prop := Claim7.holds Tryd.pinned (.plain (OpenSpec.upto namesShownSpec)) namesShownUptoCard

/-- THE SECOND FORM's CARD OF 'munimentlaw04.NamesBack'. -/
def namesBackUptoCard : Claim7 := { stood := { row := namesBackUptoRow, standIns := [], harness := (true, "d0034bc1154e68f3efa4b9a31e498ad8131830a6fcdc3390f373c5e2ef211dbd"), looks := true }, kinds := [], alts := [], laidByText := true, laidKinds := [.data, .data, .data, .data, .sentinel, .sentinel, .pinned], laidTests := true, laidLooks := .later }
def NamesBackUptoCardSaid : Prop := Claim7.holds Tryd.pinned (.plain (OpenSpec.upto namesBackSpec)) namesBackUptoCard
end Rows
end Go.Proofs.YtobecfeelamlmaaDoor
