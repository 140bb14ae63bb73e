/-
  DERIVED. GIVEN WITH THE SEED: THE CARDS: each row of YtkmbhenneadclaaDoorRows.lean that lists a variable, with what it lists TIED to the program's text (the seventh form; the later family's looks); each row that meets fmt, with fmt's text TOLD by the authors' own Lean function (tested against real Go, not proved from fmt's source: count such statements apart). THE CARD IS WHAT COUNTS. Prove the row's statement (the work); the ties are given (YtkmbhenneadclaaDoorTie.lean); close each card by the builder's one call (the guide's Derived/Test/ToyasCard.lean, 'card_holds'). Laid BY PROGRAM, IN A SANDBOX (cutbox-door.mjs). By AI agents, Wed Nov 11 2026. No macro, syntax, notation, axiom, sorry.
-/
import Derived.Test.YtkmbhenneadclaaDoorRows
import GoSem.ClaimSeven
namespace Go.Proofs.YtkmbhenneadclaaDoor
namespace Rows

/-- THE TIED CARD OF 'munimentlaw11.PackBuilds'. -/
def packBuildsCard : Claim7 := { stood := { row := packBuildsRow, standIns := [], harness := (true, "14b854c236f48dd12db3cdcb038412b1bfcbd5418c89dda6f8c6ef44afe15892"), looks := false }, kinds := [], alts := [], laidByText := true, laidKinds := [.data, .data], laidTests := true, laidLooks := .later }
def PackBuildsCardSaid : Prop := Claim7.holds Tryd.pinned (.plain (OpenSpec.ofChange packBuildsSpec)) packBuildsCard

/-- THE TIED CARD OF 'munimentlaw11.PackReads'. -/
def packReadsCard : Claim7 := { stood := { row := packReadsRow, standIns := [], harness := (true, "14b854c236f48dd12db3cdcb038412b1bfcbd5418c89dda6f8c6ef44afe15892"), looks := false }, kinds := [], alts := [], laidByText := true, laidKinds := [.data, .data, .data], laidTests := true, laidLooks := .later }
def PackReadsCardSaid : Prop := Claim7.holds Tryd.pinned (.plain (OpenSpec.ofChange packReadsSpec)) packReadsCard

/-- THE TIED CARD OF 'munimentlaw11.PackBack'. -/
def packBackCard : Claim7 := { stood := { row := packBackRow, standIns := [], harness := (true, "14b854c236f48dd12db3cdcb038412b1bfcbd5418c89dda6f8c6ef44afe15892"), looks := false }, kinds := [], alts := [], laidByText := true, laidKinds := [.data, .data, .data], laidTests := true, laidLooks := .later }
def PackBackCardSaid : Prop := Claim7.holds Tryd.pinned (.plain (OpenSpec.ofChange packBackSpec)) packBackCard

/-- THE TIED CARD OF 'munimentlaw11.PackSpans'. -/
def packSpansCard : Claim7 := { stood := { row := packSpansRow, standIns := [], harness := (true, "14b854c236f48dd12db3cdcb038412b1bfcbd5418c89dda6f8c6ef44afe15892"), looks := false }, kinds := [], alts := [], laidByText := true, laidKinds := [.data, .data], laidTests := true, laidLooks := .later }
def PackSpansCardSaid : Prop := Claim7.holds Tryd.pinned (.plain (OpenSpec.ofChange packSpansSpec)) packSpansCard

/-- THE SECOND FORM's CARD OF 'munimentlaw11.PackBuilds'. -/
def packBuildsUptoCard : Claim7 := { stood := { row := packBuildsUptoRow, standIns := [], harness := (true, "14b854c236f48dd12db3cdcb038412b1bfcbd5418c89dda6f8c6ef44afe15892"), looks := false }, kinds := [], alts := [], laidByText := true, laidKinds := [.data, .data], laidTests := true, laidLooks := .later }
def PackBuildsUptoCardSaid : Prop := Claim7.holds Tryd.pinned (.plain (OpenSpec.upto packBuildsSpec)) packBuildsUptoCard

/-- THE SECOND FORM's CARD OF 'munimentlaw11.PackReads'. -/
def packReadsUptoCard : Claim7 := { stood := { row := packReadsUptoRow, standIns := [], harness := (true, "14b854c236f48dd12db3cdcb038412b1bfcbd5418c89dda6f8c6ef44afe15892"), looks := false }, kinds := [], alts := [], laidByText := true, laidKinds := [.data, .data, .data], laidTests := true, laidLooks := .later }
def PackReadsUptoCardSaid : Prop := Claim7.holds Tryd.pinned (.plain (OpenSpec.upto packReadsSpec)) packReadsUptoCard

/-- THE SECOND FORM's CARD OF 'munimentlaw11.PackBack'. -/
def packBackUptoCard : Claim7 := { stood := { row := packBackUptoRow, standIns := [], harness := (true, "14b854c236f48dd12db3cdcb038412b1bfcbd5418c89dda6f8c6ef44afe15892"), looks := false }, kinds := [], alts := [], laidByText := true, laidKinds := [.data, .data, .data], laidTests := true, laidLooks := .later }
def PackBackUptoCardSaid : Prop := Claim7.holds Tryd.pinned (.plain (OpenSpec.upto packBackSpec)) packBackUptoCard

/-- THE SECOND FORM's CARD OF 'munimentlaw11.PackSpans'. -/
def packSpansUptoCard : Claim7 := { stood := { row := packSpansUptoRow, standIns := [], harness := (true, "14b854c236f48dd12db3cdcb038412b1bfcbd5418c89dda6f8c6ef44afe15892"), looks := false }, kinds := [], alts := [], laidByText := true, laidKinds := [.data, .data], laidTests := true, laidLooks := .later }
def PackSpansUptoCardSaid : Prop := Claim7.holds Tryd.pinned (.plain (OpenSpec.upto packSpansSpec)) packSpansUptoCard
end Rows
end Go.Proofs.YtkmbhenneadclaaDoor
