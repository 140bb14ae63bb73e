/-
  DERIVED. GIVEN WITH THE SEED: THE CARDS: each row of YtcfniaknbbgheaaDoorRows.lean that lists a variable, with what it lists TIED to the program's text (the seventh form; the later family's looks); each row that meets fmt, with fmt's text TOLD by the authors' own Lean function (tested against real Go, not proved from fmt's source: count such statements apart). THE CARD IS WHAT COUNTS. Prove the row's statement (the work); the ties are given (YtcfniaknbbgheaaDoorTie.lean); close each card by the builder's one call (the guide's Derived/Test/ToyasCard.lean, 'card_holds'). Laid BY PROGRAM, IN A SANDBOX (cutbox-door.mjs). By AI agents, Wed Nov 11 2026. No macro, syntax, notation, axiom, sorry.
-/
import Derived.Test.YtcfniaknbbgheaaDoorRows
import GoSem.ClaimSeven
namespace Go.Proofs.YtcfniaknbbgheaaDoor
namespace Rows

/-- THE TIED CARD OF 'munimentlaw10.AttrsOne'. -/
def attrsOneCard : Claim7 := { stood := { row := attrsOneRow, standIns := [], harness := (true, "0e2a375694d64ff4d3db9350da2cc621a89a9fb9a6ccf6b28d8017099190d797"), looks := false }, kinds := [], alts := [], laidByText := true, laidKinds := [.data, .data, .pinned], laidTests := true, laidLooks := .later }
def AttrsOneCardSaid : Prop := Claim7.holds Tryd.pinned (.plain (OpenSpec.ofChange attrsOneSpec)) attrsOneCard

/-- THE TIED CARD OF 'munimentlaw10.AttrsBack'. -/
def attrsBackCard : Claim7 := { stood := { row := attrsBackRow, standIns := [], harness := (true, "0e2a375694d64ff4d3db9350da2cc621a89a9fb9a6ccf6b28d8017099190d797"), looks := false }, kinds := [], alts := [], laidByText := true, laidKinds := [.data, .pinned], laidTests := true, laidLooks := .later }
def AttrsBackCardSaid : Prop := Claim7.holds Tryd.pinned (.plain (OpenSpec.ofChange attrsBackSpec)) attrsBackCard

/-- THE SECOND FORM's CARD OF 'munimentlaw10.AttrsOne'. -/
def attrsOneUptoCard : Claim7 := { stood := { row := attrsOneUptoRow, standIns := [], harness := (true, "0e2a375694d64ff4d3db9350da2cc621a89a9fb9a6ccf6b28d8017099190d797"), looks := false }, kinds := [], alts := [], laidByText := true, laidKinds := [.data, .data, .pinned], laidTests := true, laidLooks := .later }
def AttrsOneUptoCardSaid : Prop := Claim7.holds Tryd.pinned (.plain (OpenSpec.upto attrsOneSpec)) attrsOneUptoCard

/-- THE SECOND FORM's CARD OF 'munimentlaw10.AttrsBack'. -/
def attrsBackUptoCard : Claim7 := { stood := { row := attrsBackUptoRow, standIns := [], harness := (true, "0e2a375694d64ff4d3db9350da2cc621a89a9fb9a6ccf6b28d8017099190d797"), looks := false }, kinds := [], alts := [], laidByText := true, laidKinds := [.data, .pinned], laidTests := true, laidLooks := .later }
def AttrsBackUptoCardSaid : Prop := Claim7.holds Tryd.pinned (.plain (OpenSpec.upto attrsBackSpec)) attrsBackUptoCard
end Rows
end Go.Proofs.YtcfniaknbbgheaaDoor
