/-
  DERIVED. GIVEN WITH THE SEED: THE CARDS: each row of YtpfknjnigcefgaaGreatDoorRows.lean that lists a variable, with what it lists TIED to the program's text (the seventh form; the later family's looks); each row that meets fmt, with fmt's text TOLD by the authors' own Lean function (tested against real Go, not proved from fmt's source: count such statements apart). THE CARD IS WHAT COUNTS. Prove the row's statement (the work); the ties are given (YtpfknjnigcefgaaGreatDoorTie.lean); close each card by the builder's one call (the guide's Derived/Test/ToyasCard.lean, 'card_holds'). Laid BY PROGRAM, IN A SANDBOX (cutbox-door.mjs). By AI agents, Wed Nov 11 2026. No macro, syntax, notation, axiom, sorry.
-/
import Derived.Test.YtpfknjnigcefgaaGreatDoorRows
import GoSem.ClaimSeven
namespace Go.Proofs.YtpfknjnigcefgaaGreatDoor
namespace Rows

/-- THE TIED CARD OF 'munimentlaw13.IdxBuilds'. -/
def idxBuildsCard : Claim7 := { stood := { row := idxBuildsRow, standIns := [], harness := (true, "f6f3dbc289c68c61be32788dc70a9abb6bfbede439194683542a0c2e09532d2a"), looks := false }, kinds := [], alts := [], laidByText := true, laidKinds := [.data, .data], laidTests := true, laidLooks := .later }
def IdxBuildsCardSaid : Prop := Claim7.holds Tryz.pinned (.plain (OpenSpec.ofChange idxBuildsSpec)) idxBuildsCard

/-- THE TIED CARD OF 'munimentlaw13.IdxAsks'. -/
def idxAsksCard : Claim7 := { stood := { row := idxAsksRow, standIns := [], harness := (true, "f6f3dbc289c68c61be32788dc70a9abb6bfbede439194683542a0c2e09532d2a"), looks := false }, kinds := [], alts := [], laidByText := true, laidKinds := [.data, .data, .data], laidTests := true, laidLooks := .later }
def IdxAsksCardSaid : Prop := Claim7.holds Tryz.pinned (.plain (OpenSpec.ofChange idxAsksSpec)) idxAsksCard

/-- THE SECOND FORM's CARD OF 'munimentlaw13.IdxBuilds'. -/
def idxBuildsUptoCard : Claim7 := { stood := { row := idxBuildsUptoRow, standIns := [], harness := (true, "f6f3dbc289c68c61be32788dc70a9abb6bfbede439194683542a0c2e09532d2a"), looks := false }, kinds := [], alts := [], laidByText := true, laidKinds := [.data, .data], laidTests := true, laidLooks := .later }
def IdxBuildsUptoCardSaid : Prop := Claim7.holds Tryz.pinned (.plain (OpenSpec.upto idxBuildsSpec)) idxBuildsUptoCard

/-- THE SECOND FORM's CARD OF 'munimentlaw13.IdxAsks'. -/
def idxAsksUptoCard : Claim7 := { stood := { row := idxAsksUptoRow, standIns := [], harness := (true, "f6f3dbc289c68c61be32788dc70a9abb6bfbede439194683542a0c2e09532d2a"), looks := false }, kinds := [], alts := [], laidByText := true, laidKinds := [.data, .data, .data], laidTests := true, laidLooks := .later }
def IdxAsksUptoCardSaid : Prop := Claim7.holds Tryz.pinned (.plain (OpenSpec.upto idxAsksSpec)) idxAsksUptoCard
end Rows
end Go.Proofs.YtpfknjnigcefgaaGreatDoor
