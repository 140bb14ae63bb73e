/- The walk of the law's own helper cut. -/
import Derived.Test.YtehbgkbnbaogoaaW10
namespace Go.Proofs.Ytehbgkbnbaogoaa
open Go.RowKit
set_option linter.unusedSimpArgs false
set_option linter.unusedVariables false
/-- A number cut to a width. -/
def cutN (n d : Nat) : Nat := n % 256 ^ d
theorem cutN_lt (n d : Nat) : cutN n d < 256 ^ d := Nat.mod_lt _ (Nat.pow_pos (by omega))
theorem cutN_le (n d : Nat) : cutN n d ≤ n := Nat.mod_le _ _
set_option maxHeartbeats 400000 in
theorem cut_any (n d : Nat) (w : World) (hn : n < 18446744073709551616) (hd1 : 1 ≤ d) (hd2 : d ≤ 8) :
    Calls Try.prog 11 #[.int .u64 n, .int .i64 d] w fun e w' => e = .returned (.int .u64 (cutN n d)) ∧ w' = w := by
  unfold cutN
  obtain ⟨m, hm⟩ : ∃ m, m = n % 256 ^ d := ⟨_, rfl⟩
  rw [← hm]
  have H : Hid (m = n % 256 ^ d) := hm
  clear hm
  have h8 : d = 1 ∨ d = 2 ∨ d = 3 ∨ d = 4 ∨ d = 5 ∨ d = 6 ∨ d = 7 ∨ d = 8 := by omega
  rcases h8 with h | h | h | h | h | h | h | h
  all_goals subst h
  all_goals go_enter Try.func11, Try.ntmps11
  all_goals go_wp2
  all_goals go_ret
  all_goals refine ⟨ret_int ?_, rfl⟩
  all_goals rw [H.out]
  all_goals omega
end Go.Proofs.Ytehbgkbnbaogoaa
