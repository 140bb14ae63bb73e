/- The document's own constants (munimentref02). -/
import Derived.Test.YtbfdggkoildfkaaDoorS9
import Derived.Test.YtbfdggkoildfkaaDoorD10
namespace Go.Proofs.YtbfdggkoildfkaaDoor
open Go.RowKit
set_option linter.unusedSimpArgs false
set_option linter.unusedVariables false
theorem kcs_size : kcs.size = 64 := rfl
theorem kcs_one : kcs.all (·.oneCell') = true := by decide +kernel
theorem info_k : (Tryd.prog.info? 58).map (·.size) = some kcs.size := info_64 kcs kcs_size
set_option maxHeartbeats 1000000 in
set_option maxRecDepth 100000 in
theorem constants_any (w : World) : Calls Tryd.prog 32 #[] w fun e w' => e = .returned (.agg kcs) ∧ Below w.heap.size w w' := by
  go_enter Tryd.func32, Tryd.ntmps32
  go_wp2_with (refine wpList_store_abs rfl 58 (.tmp 0) (.tmp 1) rfl kcs _ 58 w.heap.size rfl rfl rfl info_k rfl kcs_one ?_; intro w1 HB HG hz)
  refine bodyPost_ret (results_cell_row rfl _ _ w.heap.size 58 kcs (0, 0) _ rfl HB.out Tryd.underlying58 rfl info_k) rfl ⟨rfl, below_of_grown HG.out⟩
end Go.Proofs.YtbfdggkoildfkaaDoor
