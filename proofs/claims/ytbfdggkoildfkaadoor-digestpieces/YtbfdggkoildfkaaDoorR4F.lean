/- The document's own Fixed, of any width. -/
import Derived.Test.YtbfdggkoildfkaaDoorR4
namespace Go.Proofs.YtbfdggkoildfkaaDoor
open Go.RowKit
set_option linter.unusedSimpArgs false
set_option linter.unusedVariables false
set_option maxHeartbeats 400000 in
theorem rfix_any (n d : Nat) (w : World) (hn : n < 18446744073709551616) (hd1 : 1 ≤ d) (hd2 : d ≤ 8) (hfit : n < 256 ^ d) :
    Calls Tryd.prog 37 #[.int .u64 (n : Int), .int .i64 d] w fun e w' => e = .returned (.string ((⟨#[]⟩ : ByteArray) ++ sb (fixN d n))) ∧ Below w.heap.size w w' := by
  go_enter Tryd.func37, Tryd.ntmps37
  go_wp2_with (go_at_call 46; refine (rputFixed_ok ⟨#[]⟩ n d _ hn hd1 hd2 hfit (by decide)).mono ?_; rintro e w1 ⟨rfl, hb1⟩)
  go_ret
  exact ⟨rfl, hb1⟩
end Go.Proofs.YtbfdggkoildfkaaDoor
