/- The walks of a reader's Uint and Text. -/
import Derived.Test.YtplfjfhpdfbpeaaDoorW6
import Derived.Test.YtplfjfhpdfbpeaaDoorW4
import Derived.Test.YtplfjfhpdfbpeaaDoorP3
namespace Go.Proofs.YtplfjfhpdfbpeaaDoor
open Go.RowKit
set_option linter.unusedSimpArgs false
set_option linter.unusedVariables false
set_option maxHeartbeats 400000 in
theorem uint_nil (w : World) :
    Calls Tryd.prog 40 #[.pointer none] w fun e w' => e = .returned (.tuple #[.int .u64 0, .int .i64 2]) ∧ w' = w := by
  go_enter Tryd.func40, Tryd.ntmps40
  go_wp2
  go_ret2
  exact ⟨rfl, rfl⟩
set_option maxHeartbeats 400000 in
theorem uint_no (s : ByteArray) (b : Nat) (w : World) (hs : s.size ≤ maxLen) (hc : w.cell? ⟨b, 0, none⟩ = some (.string s)) (hf : w.frozen? ⟨b, 0, none⟩ = false) (hb : b < w.heap.size) (hk : shK s = 0) :
    Calls Tryd.prog 40 #[.pointer (some ⟨b, 0, none⟩)] w fun e w' => e = .returned (.tuple #[.int .u64 0, .int .i64 4]) ∧ Step b w w' s := by
  have HS := still hb hc hf
  have hk' : ((shK s : Int) == 0) = true := by simp [hk]
  clear hk
  go_enter Tryd.func40, Tryd.ntmps40
  go_wp2_with (go_at_call 54; refine (short_any s _ hs).mono ?_; rintro e w' ⟨rfl, rfl⟩)
  go_ret2
  exact ⟨rfl, HS⟩
set_option maxHeartbeats 400000 in
theorem uint_ok (s : ByteArray) (b : Nat) (w : World) (hs : s.size ≤ maxLen) (hc : w.cell? ⟨b, 0, none⟩ = some (.string s)) (hf : w.frozen? ⟨b, 0, none⟩ = false) (hb : b < w.heap.size) (hk : shK s ≠ 0) :
    Calls Tryd.prog 40 #[.pointer (some ⟨b, 0, none⟩)] w fun e w' => e = .returned (.tuple #[.int .u64 (shN s), .int .i64 0]) ∧ Step b w w' (s.extract (shK s) s.size) := by
  have hs' := hs
  unfold maxLen at hs'
  have hk2 := shK_le s
  have hk' : ((shK s : Int) == 0) = false := by simp [hk]
  clear hk
  go_enter Tryd.func40, Tryd.ntmps40
  go_wp2_with (go_at_call 54; refine (short_any s _ hs).mono ?_; rintro e w' ⟨rfl, rfl⟩)
  refine (taker_any _ _).mono ?_
  rintro e w1 ⟨rfl, rfl⟩
  go_wp2_with fail
  refine (take1_ok s b w'.heap.size (shK s) 0 _ hs (al_ptr _ _ _) (al_cell _ hb hc) (al_frozen _ hb hf) (by omega)).mono ?_
  rintro e w1 ⟨rfl, rfl⟩
  go_wp2
  go_ret2
  exact ⟨rfl, taken _ hb hc hf⟩
end Go.Proofs.YtplfjfhpdfbpeaaDoor
