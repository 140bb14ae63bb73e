/- The walks of Reader.Left, Reader.End. -/
import Derived.Test.YtjnijcmalnckcaaDoorW4
import Derived.Test.YtjnijcmalnckcaaDoorW5F
import Derived.RegionTactic
import Derived.ChangeAlike
namespace Go.Proofs.YtjnijcmalnckcaaDoor
open Go.RowKit
set_option linter.unusedSimpArgs false
set_option linter.unusedVariables false
/-- What End answers. -/
def endE (s : ByteArray) : Int := if s.size = 0 then 0 else 4
set_option maxHeartbeats 400000 in
theorem end_any (s : ByteArray) (b : Nat) (w : World) (hs : s.size ≤ maxLen) (hc : w.cell? ⟨b, 0, none⟩ = some (.string s)) :
    Calls Tryd.prog 58 #[.pointer (some ⟨b, 0, none⟩)] w fun e w' => e = .returned (.int .i64 (endE s)) ∧ w' = w := by
  unfold maxLen at hs
  by_cases h : s.size = 0
  · have H : endE s = 0 := if_pos h
    have h' : ¬ (0 : Int) < s.size := by omega
    rw [H]
    clear H h
    go_enter Tryd.func58, Tryd.ntmps58
    go_wp2
    go_ret
    exact ⟨rfl, rfl⟩
  · have H : endE s = 4 := if_neg h
    have h' : (0 : Int) < s.size := by omega
    rw [H]
    clear H h
    go_enter Tryd.func58, Tryd.ntmps58
    go_wp2
    go_ret
    exact ⟨rfl, rfl⟩
set_option maxHeartbeats 400000 in
theorem end_nil (w : World) : Calls Tryd.prog 58 #[.pointer none] w fun e w' => e = .returned (.int .i64 2) ∧ w' = w := by
  go_enter Tryd.func58, Tryd.ntmps58
  go_wp2
  go_ret
  exact ⟨rfl, rfl⟩
end Go.Proofs.YtjnijcmalnckcaaDoor
