/-
  DERIVED. GIVEN WITH THE SEED: THE PROGRAM's TIES (one call each: nine closed facts by the kernel) AND EACH ROW's TIE, after the 31st guide's Derived/Test/Toyas{Tie, Card}.lean. No idea stands in it: it is a product of the set-up. Laid BY PROGRAM, IN A SANDBOX (cutbox-door.mjs). By AI agents, Wed Nov 11 2026. No macro, syntax, notation, axiom, sorry.
-/
import Derived.Test.YtahpaekiehdejabDoorRows
import Derived.LaidByTextLater
import Derived.SevenTiedAt
import Derived.LaidSub
import Derived.LaidOnce
namespace Go.Proofs.YtahpaekiehdejabDoor
open Go
set_option maxRecDepth 100000
theorem seatTie1 : Tryd.prog.laidByTextLater [("muniment/wire.digits", Rows.laid_muniment_wire_digits), ("muniment/digest.firstNumbers", Rows.laid_muniment_digest_firstNumbers), ("muniment/digest.constants", Rows.laid_muniment_digest_constants)] [.data, .data, .data] true :=
  Program.laidByTextLater_by_one 24 8 65 (by kernel_rfl) (by kernel_rfl) (by kernel_rfl) (by kernel_rfl) (by kernel_rfl) (by kernel_rfl) (fun _ _ => by kernel_rfl)
theorem noOwnUnsafe : Tryd.pinned.checked.prog.headLifts.contains "ownunsafe" = false := by kernel_rfl
theorem tie : Tryd.prog.laidByTextLater [("muniment/digest.firstNumbers", Rows.laid_muniment_digest_firstNumbers), ("muniment/digest.constants", Rows.laid_muniment_digest_constants)] [.data, .data] true :=
  Program.laidByTextLater.sub seatTie1 ["muniment/digest.firstNumbers", "muniment/digest.constants"] (by kernel_rfl) (by kernel_rfl)
theorem objectShared_row_tie : Rows.objectSharedRow.laidByTextAt .later Tryd.pinned [.data, .data] true :=
  OpenClaim.laidByTextAt_later rfl rfl tie noOwnUnsafe
theorem packBuilds_row_tie : Rows.packBuildsRow.laidByTextAt .later Tryd.pinned [.data, .data] true :=
  OpenClaim.laidByTextAt_later rfl rfl tie noOwnUnsafe
theorem tie2 : Tryd.prog.laidByTextLater [("muniment/wire.digits", Rows.laid_muniment_wire_digits), ("muniment/digest.firstNumbers", Rows.laid_muniment_digest_firstNumbers), ("muniment/digest.constants", Rows.laid_muniment_digest_constants)] [.data, .data, .data] true :=
  Program.laidByTextLater.sub seatTie1 ["muniment/wire.digits", "muniment/digest.firstNumbers", "muniment/digest.constants"] (by kernel_rfl) (by kernel_rfl)
theorem packReads_row_tie : Rows.packReadsRow.laidByTextAt .later Tryd.pinned [.data, .data, .data] true :=
  OpenClaim.laidByTextAt_later rfl rfl tie2 noOwnUnsafe
theorem objectSharedUpto_row_tie : Rows.objectSharedUptoRow.laidByTextAt .later Tryd.pinned [.data, .data] true :=
  OpenClaim.laidByTextAt_later rfl rfl tie noOwnUnsafe
theorem packBuildsUpto_row_tie : Rows.packBuildsUptoRow.laidByTextAt .later Tryd.pinned [.data, .data] true :=
  OpenClaim.laidByTextAt_later rfl rfl tie noOwnUnsafe
theorem packReadsUpto_row_tie : Rows.packReadsUptoRow.laidByTextAt .later Tryd.pinned [.data, .data, .data] true :=
  OpenClaim.laidByTextAt_later rfl rfl tie2 noOwnUnsafe
end Go.Proofs.YtahpaekiehdejabDoor
