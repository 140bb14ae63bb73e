/-
  DERIVED. GIVEN WITH THE SEED: THE CARDS: each row of YtplfjfhpdfbpeaaDoorRows.lean that lists a variable, with what it lists TIED to the program's text (the seventh form; the later family's looks); each row that meets fmt, with fmt's text TOLD by the authors' own Lean function (tested against real Go, not proved from fmt's source: count such statements apart). THE CARD IS WHAT COUNTS. Prove the row's statement (the work); the ties are given (YtplfjfhpdfbpeaaDoorTie.lean); close each card by the builder's one call (the guide's Derived/Test/ToyasCard.lean, 'card_holds'). Laid BY PROGRAM, IN A SANDBOX (cutbox-door.mjs). By AI agents, Wed Nov 11 2026. No macro, syntax, notation, axiom, sorry.
-/
import Derived.Test.YtplfjfhpdfbpeaaDoorRows
import GoSem.ClaimSeven
namespace Go.Proofs.YtplfjfhpdfbpeaaDoor
namespace Rows

/-- THE TIED CARD OF 'munimentlaw14.BloomRuns'. -/
def bloomRunsCard : Claim7 := { stood := { row := bloomRunsRow, standIns := [], harness := (true, "94eda34479aa80fcb0ed38b99fa22f4226423a874063c3d27cddbddff541c38c"), looks := false }, kinds := [], alts := [], laidByText := true, laidKinds := [.data], laidTests := true, laidLooks := .later }
def BloomRunsCardSaid : Prop := Claim7.holds Tryd.pinned (.plain (OpenSpec.ofChange bloomRunsSpec)) bloomRunsCard

/-- THE TIED CARD OF 'munimentlaw14.BloomDecodes'. -/
def bloomDecodesCard : Claim7 := { stood := { row := bloomDecodesRow, standIns := [], harness := (true, "94eda34479aa80fcb0ed38b99fa22f4226423a874063c3d27cddbddff541c38c"), looks := false }, kinds := [], alts := [], laidByText := true, laidKinds := [.data, .data, .data, .data], laidTests := true, laidLooks := .later }
def BloomDecodesCardSaid : Prop := Claim7.holds Tryd.pinned (.plain (OpenSpec.ofChange bloomDecodesSpec)) bloomDecodesCard

/-- THE TIED CARD OF 'munimentlaw14.BloomNames'. -/
def bloomNamesCard : Claim7 := { stood := { row := bloomNamesRow, standIns := [], harness := (true, "94eda34479aa80fcb0ed38b99fa22f4226423a874063c3d27cddbddff541c38c"), looks := false }, kinds := [], alts := [], laidByText := true, laidKinds := [.data, .data, .data, .data], laidTests := true, laidLooks := .later }
def BloomNamesCardSaid : Prop := Claim7.holds Tryd.pinned (.plain (OpenSpec.ofChange bloomNamesSpec)) bloomNamesCard

/-- THE TIED CARD OF 'munimentlaw14.BloomNever'. -/
def bloomNeverCard : Claim7 := { stood := { row := bloomNeverRow, standIns := [], harness := (true, "94eda34479aa80fcb0ed38b99fa22f4226423a874063c3d27cddbddff541c38c"), looks := false }, kinds := [], alts := [], laidByText := true, laidKinds := [.data], laidTests := true, laidLooks := .later }
def BloomNeverCardSaid : Prop := Claim7.holds Tryd.pinned (.plain (OpenSpec.ofChange bloomNeverSpec)) bloomNeverCard

/-- THE TIED CARD OF 'munimentlaw14.BloomAlone'. -/
def bloomAloneCard : Claim7 := { stood := { row := bloomAloneRow, standIns := [], harness := (true, "94eda34479aa80fcb0ed38b99fa22f4226423a874063c3d27cddbddff541c38c"), looks := false }, kinds := [], alts := [], laidByText := true, laidKinds := [.data], laidTests := true, laidLooks := .later }
def BloomAloneCardSaid : Prop := Claim7.holds Tryd.pinned (.plain (OpenSpec.ofChange bloomAloneSpec)) bloomAloneCard

/-- THE SECOND FORM's CARD OF 'munimentlaw14.BloomRuns'. -/
def bloomRunsUptoCard : Claim7 := { stood := { row := bloomRunsUptoRow, standIns := [], harness := (true, "94eda34479aa80fcb0ed38b99fa22f4226423a874063c3d27cddbddff541c38c"), looks := false }, kinds := [], alts := [], laidByText := true, laidKinds := [.data], laidTests := true, laidLooks := .later }
def BloomRunsUptoCardSaid : Prop := Claim7.holds Tryd.pinned (.plain (OpenSpec.upto bloomRunsSpec)) bloomRunsUptoCard

/-- THE SECOND FORM's CARD OF 'munimentlaw14.BloomDecodes'. -/
def bloomDecodesUptoCard : Claim7 := { stood := { row := bloomDecodesUptoRow, standIns := [], harness := (true, "94eda34479aa80fcb0ed38b99fa22f4226423a874063c3d27cddbddff541c38c"), looks := false }, kinds := [], alts := [], laidByText := true, laidKinds := [.data, .data, .data, .data], laidTests := true, laidLooks := .later }
def BloomDecodesUptoCardSaid : Prop := Claim7.holds Tryd.pinned (.plain (OpenSpec.upto bloomDecodesSpec)) bloomDecodesUptoCard

/-- THE SECOND FORM's CARD OF 'munimentlaw14.BloomNames'. -/
def bloomNamesUptoCard : Claim7 := { stood := { row := bloomNamesUptoRow, standIns := [], harness := (true, "94eda34479aa80fcb0ed38b99fa22f4226423a874063c3d27cddbddff541c38c"), looks := false }, kinds := [], alts := [], laidByText := true, laidKinds := [.data, .data, .data, .data], laidTests := true, laidLooks := .later }
def BloomNamesUptoCardSaid : Prop := Claim7.holds Tryd.pinned (.plain (OpenSpec.upto bloomNamesSpec)) bloomNamesUptoCard

/-- THE SECOND FORM's CARD OF 'munimentlaw14.BloomNever'. -/
def bloomNeverUptoCard : Claim7 := { stood := { row := bloomNeverUptoRow, standIns := [], harness := (true, "94eda34479aa80fcb0ed38b99fa22f4226423a874063c3d27cddbddff541c38c"), looks := false }, kinds := [], alts := [], laidByText := true, laidKinds := [.data], laidTests := true, laidLooks := .later }
def BloomNeverUptoCardSaid : Prop := Claim7.holds Tryd.pinned (.plain (OpenSpec.upto bloomNeverSpec)) bloomNeverUptoCard

/-- THE SECOND FORM's CARD OF 'munimentlaw14.BloomAlone'. -/
def bloomAloneUptoCard : Claim7 := { stood := { row := bloomAloneUptoRow, standIns := [], harness := (true, "94eda34479aa80fcb0ed38b99fa22f4226423a874063c3d27cddbddff541c38c"), looks := false }, kinds := [], alts := [], laidByText := true, laidKinds := [.data], laidTests := true, laidLooks := .later }
def BloomAloneUptoCardSaid : Prop := Claim7.holds Tryd.pinned (.plain (OpenSpec.upto bloomAloneSpec)) bloomAloneUptoCard
end Rows
end Go.Proofs.YtplfjfhpdfbpeaaDoor
