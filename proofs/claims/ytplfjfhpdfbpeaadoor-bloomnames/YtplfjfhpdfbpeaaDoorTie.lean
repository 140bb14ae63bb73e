/-
  DERIVED. GIVEN WITH THE SEED: THE PROGRAM's TIES (one call each: nine closed facts by the kernel) AND EACH ROW's TIE, after the 31st guide's Derived/Test/Toyas{Tie, Card}.lean. No idea stands in it: it is a product of the set-up. Laid BY PROGRAM, IN A SANDBOX (cutbox-door.mjs). By AI agents, Wed Nov 11 2026. No macro, syntax, notation, axiom, sorry.
-/
import Derived.Test.YtplfjfhpdfbpeaaDoorRows
import Derived.LaidByTextLater
import Derived.SevenTiedAt
import Derived.LaidSub
import Derived.LaidOnce
namespace Go.Proofs.YtplfjfhpdfbpeaaDoor
open Go
set_option maxRecDepth 100000
theorem seatTie1 : Tryd.prog.laidByTextLater [("muniment/wire.digits", Rows.laid_muniment_wire_digits), ("muniment/digest.firstNumbers", Rows.laid_muniment_digest_firstNumbers), ("muniment/digest.constants", Rows.laid_muniment_digest_constants), ("muniment/bloom.mark", Rows.laid_muniment_bloom_mark)] [.data, .data, .data, .data] true :=
  Program.laidByTextLater_by_one 29 8 65 (by kernel_rfl) (by kernel_rfl) (by kernel_rfl) (by kernel_rfl) (by kernel_rfl) (by kernel_rfl) (fun _ _ => by kernel_rfl)
theorem noOwnUnsafe : Tryd.pinned.checked.prog.headLifts.contains "ownunsafe" = false := by kernel_rfl
theorem tie : Tryd.prog.laidByTextLater [("muniment/bloom.mark", Rows.laid_muniment_bloom_mark)] [.data] true :=
  Program.laidByTextLater.sub seatTie1 ["muniment/bloom.mark"] (by kernel_rfl) (by kernel_rfl)
theorem bloomRuns_row_tie : Rows.bloomRunsRow.laidByTextAt .later Tryd.pinned [.data] true :=
  OpenClaim.laidByTextAt_later rfl rfl tie noOwnUnsafe
theorem bloomNever_row_tie : Rows.bloomNeverRow.laidByTextAt .later Tryd.pinned [.data] true :=
  OpenClaim.laidByTextAt_later rfl rfl tie noOwnUnsafe
theorem bloomAlone_row_tie : Rows.bloomAloneRow.laidByTextAt .later Tryd.pinned [.data] true :=
  OpenClaim.laidByTextAt_later rfl rfl tie noOwnUnsafe
theorem tie2 : Tryd.prog.laidByTextLater [("muniment/wire.digits", Rows.laid_muniment_wire_digits), ("muniment/digest.firstNumbers", Rows.laid_muniment_digest_firstNumbers), ("muniment/digest.constants", Rows.laid_muniment_digest_constants), ("muniment/bloom.mark", Rows.laid_muniment_bloom_mark)] [.data, .data, .data, .data] true :=
  Program.laidByTextLater.sub seatTie1 ["muniment/wire.digits", "muniment/digest.firstNumbers", "muniment/digest.constants", "muniment/bloom.mark"] (by kernel_rfl) (by kernel_rfl)
theorem bloomDecodes_row_tie : Rows.bloomDecodesRow.laidByTextAt .later Tryd.pinned [.data, .data, .data, .data] true :=
  OpenClaim.laidByTextAt_later rfl rfl tie2 noOwnUnsafe
theorem bloomNames_row_tie : Rows.bloomNamesRow.laidByTextAt .later Tryd.pinned [.data, .data, .data, .data] true :=
  OpenClaim.laidByTextAt_later rfl rfl tie2 noOwnUnsafe
theorem bloomRunsUpto_row_tie : Rows.bloomRunsUptoRow.laidByTextAt .later Tryd.pinned [.data] true :=
  OpenClaim.laidByTextAt_later rfl rfl tie noOwnUnsafe
theorem bloomDecodesUpto_row_tie : Rows.bloomDecodesUptoRow.laidByTextAt .later Tryd.pinned [.data, .data, .data, .data] true :=
  OpenClaim.laidByTextAt_later rfl rfl tie2 noOwnUnsafe
theorem bloomNamesUpto_row_tie : Rows.bloomNamesUptoRow.laidByTextAt .later Tryd.pinned [.data, .data, .data, .data] true :=
  OpenClaim.laidByTextAt_later rfl rfl tie2 noOwnUnsafe
theorem bloomNeverUpto_row_tie : Rows.bloomNeverUptoRow.laidByTextAt .later Tryd.pinned [.data] true :=
  OpenClaim.laidByTextAt_later rfl rfl tie noOwnUnsafe
theorem bloomAloneUpto_row_tie : Rows.bloomAloneUptoRow.laidByTextAt .later Tryd.pinned [.data] true :=
  OpenClaim.laidByTextAt_later rfl rfl tie noOwnUnsafe
end Go.Proofs.YtplfjfhpdfbpeaaDoor
