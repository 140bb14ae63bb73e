/- The walk of munimentlaw02.DigestNone. -/
import Derived.Test.YtbfdggkoildfkaaDoorZ1
import Derived.Test.YtbfdggkoildfkaaDoorD14
namespace Go.Proofs.YtbfdggkoildfkaaDoor
open Go.RowKit
set_option linter.unusedSimpArgs false
set_option linter.unusedVariables false
/-- A name of noughts. -/
def z32s : ByteArray := sb (List.replicate 32 0)
theorem z32s_size : z32s.size = 32 := by decide +kernel
theorem z32s_idc : idc z32s = z32c := by kernel_rfl
theorem quick_id (s : ByteArray) (w : World) (hs : s.size ≤ 20000) :
    Calls Tryd.prog 11 #[.string s] w fun e w' => e = .returned (.agg (idc (sb (sha (byl s))))) ∧ Below w.heap.size w w' := by
  rw [← shc_idc]; exact quick_any s w hs
set_option maxHeartbeats 400000 in
set_option maxRecDepth 100000 in
theorem stsum_nil (w : World) : Calls Tryd.prog 21 #[.pointer none] w fun e w' => e = .returned (.tuple #[.agg z32c, .int .i64 2]) ∧ Below w.heap.size w w' := by
  have hz := zero_id
  go_enter Tryd.func21, Tryd.ntmps21
  go_wp2_with (refine wpList_store_new rfl 23 (.tmp 2) (.tmp 6) rfl z32c _ 23 w.heap.size rfl rfl rfl (info_32 z32c_size) rfl z32c_one ?_)
  refine bodyPost_ret (results_cell_tmp_row rfl _ _ w.heap.size 23 z32c (0, 0) _ rfl (blk_new _ _) Tryd.underlying23 rfl (info_32 z32c_size)) rfl ⟨rfl, (Below.refl _ _).alloc (Nat.le_refl _) _⟩
end Go.Proofs.YtbfdggkoildfkaaDoor
