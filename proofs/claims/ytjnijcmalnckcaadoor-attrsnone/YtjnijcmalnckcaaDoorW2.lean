/- wire.PutText. -/
import Derived.Test.YtjnijcmalnckcaaDoorW2P
namespace Go.Proofs.YtjnijcmalnckcaaDoor
open Go.RowKit
set_option linter.unusedSimpArgs false
set_option linter.unusedVariables false
set_option maxHeartbeats 400000 in
theorem putText_any (s t : ByteArray) (w : World) (hs : s.size ≤ 4611686018427387000) (ht : t.size ≤ 140737488351232) :
    Calls Tryd.prog 53 #[.string s, .string t] w fun e w' => e = .returned (.string (s ++ sb (encS t.size) ++ t)) ∧ Below w.heap.size w w' := by
  have hsb : (sb (encS t.size)).size ≤ 10 := by rw [sb_size, encS_length]; exact slen_le _ (by omega)
  have hsz := append_size s (sb (encS t.size))
  go_enter Tryd.func53, Tryd.ntmps53
  go_wp2_with fail
  refine (put_any s t.size w (by omega) (by omega) (by omega)).mono ?_
  rintro e w1 ⟨rfl, hb⟩
  rw [Int.toNat_natCast]
  go_wp2
  go_ret
  exact ⟨rfl, hb⟩
end Go.Proofs.YtjnijcmalnckcaaDoor
