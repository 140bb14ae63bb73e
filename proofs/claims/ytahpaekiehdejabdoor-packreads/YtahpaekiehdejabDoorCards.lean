/-
  DERIVED. GIVEN WITH THE SEED: THE CARDS: each row of YtahpaekiehdejabDoorRows.lean that lists a variable, with what it lists TIED to the program's text (the seventh form; the later family's looks); each row that meets fmt, with fmt's text TOLD by the authors' own Lean function (tested against real Go, not proved from fmt's source: count such statements apart). THE CARD IS WHAT COUNTS. Prove the row's statement (the work); the ties are given (YtahpaekiehdejabDoorTie.lean); close each card by the builder's one call (the guide's Derived/Test/ToyasCard.lean, 'card_holds'). Laid BY PROGRAM, IN A SANDBOX (cutbox-door.mjs). By AI agents, Wed Nov 11 2026. No macro, syntax, notation, axiom, sorry.
-/
import Derived.Test.YtahpaekiehdejabDoorRows
import GoSem.ClaimSeven
namespace Go.Proofs.YtahpaekiehdejabDoor
namespace Rows

/-- THE TIED CARD OF 'munimentlaw12.ObjectShared'. -/
def objectSharedCard : Claim7 := { stood := { row := objectSharedRow, standIns := [], harness := (true, "e6fbbbfe12f05d4932c2a91415937c149cb07ef83bde51213b8ff54ee954e24a"), looks := true }, kinds := [], alts := [], laidByText := true, laidKinds := [.data, .data], laidTests := true, laidLooks := .later }
def ObjectSharedCardSaid : Prop := Claim7.holds Tryd.pinned (.plain (OpenSpec.ofChange objectSharedSpec)) objectSharedCard

/-- THE TIED CARD OF 'munimentlaw11.PackBuilds'. -/
def packBuildsCard : Claim7 := { stood := { row := packBuildsRow, standIns := [], harness := (true, "e6fbbbfe12f05d4932c2a91415937c149cb07ef83bde51213b8ff54ee954e24a"), looks := true }, kinds := [], alts := [], laidByText := true, laidKinds := [.data, .data], laidTests := true, laidLooks := .later }
def PackBuildsCardSaid : Prop := Claim7.holds Tryd.pinned (.plain (OpenSpec.ofChange packBuildsSpec)) packBuildsCard

/-- THE TIED CARD OF 'munimentlaw11.PackReads'. -/
def packReadsCard : Claim7 := { stood := { row := packReadsRow, standIns := [], harness := (true, "e6fbbbfe12f05d4932c2a91415937c149cb07ef83bde51213b8ff54ee954e24a"), looks := true }, kinds := [], alts := [], laidByText := true, laidKinds := [.data, .data, .data], laidTests := true, laidLooks := .later }
def PackReadsCardSaid : Prop := Claim7.holds Tryd.pinned (.plain (OpenSpec.ofChange packReadsSpec)) packReadsCard

/-- THE SECOND FORM's CARD OF 'munimentlaw12.ObjectShared'. -/
def objectSharedUptoCard : Claim7 := { stood := { row := objectSharedUptoRow, standIns := [], harness := (true, "e6fbbbfe12f05d4932c2a91415937c149cb07ef83bde51213b8ff54ee954e24a"), looks := true }, kinds := [], alts := [], laidByText := true, laidKinds := [.data, .data], laidTests := true, laidLooks := .later }
def ObjectSharedUptoCardSaid : Prop := Claim7.holds Tryd.pinned (.plain (OpenSpec.upto objectSharedSpec)) objectSharedUptoCard

/-- THE SECOND FORM's CARD OF 'munimentlaw11.PackBuilds'. -/
def packBuildsUptoCard : Claim7 := { stood := { row := packBuildsUptoRow, standIns := [], harness := (true, "e6fbbbfe12f05d4932c2a91415937c149cb07ef83bde51213b8ff54ee954e24a"), looks := true }, kinds := [], alts := [], laidByText := true, laidKinds := [.data, .data], laidTests := true, laidLooks := .later }
def PackBuildsUptoCardSaid : Prop := Claim7.holds Tryd.pinned (.plain (OpenSpec.upto packBuildsSpec)) packBuildsUptoCard

/-- THE SECOND FORM's CARD OF 'munimentlaw11.PackReads'. -/
def packReadsUptoCard : Claim7 := { stood := { row := packReadsUptoRow, standIns := [], harness := (true, "e6fbbbfe12f05d4932c2a91415937c149cb07ef83bde51213b8ff54ee954e24a"), looks := true }, kinds := [], alts := [], laidByText := true, laidKinds := [.data, .data, .data], laidTests := true, laidLooks := .later }
def PackReadsUptoCardSaid : Prop := Claim7.holds Tryd.pinned (.plain (OpenSpec.upto packReadsSpec)) packReadsUptoCard
end Rows
end Go.Proofs.YtahpaekiehdejabDoor
