/- The walks of wire.New and of the closure through which all is taken. -/
import Derived.Test.YtplfjfhpdfbpeaaDoorW1F
import Derived.Test.YtplfjfhpdfbpeaaDoorP3
import Derived.RegionTactic
import Derived.ChangeAlike
namespace Go.Proofs.YtplfjfhpdfbpeaaDoor
open Go.RowKit
set_option linter.unusedSimpArgs false
set_option linter.unusedVariables false
set_option maxHeartbeats 400000 in
theorem new_any (s : ByteArray) (w : World) :
    Calls Tryd.prog 38 #[.string s] w fun e w' => e = .returned (.pointer (some ⟨w.heap.size, 0, none⟩)) ∧ w' = w.alloc (.cells #[.string s] 93) := by
  go_enter Tryd.func38, Tryd.ntmps38
  go_wp2
  go_ret
  exact ⟨rfl, rfl⟩
set_option maxHeartbeats 400000 in
theorem taker_any (o : Option Addr) (w : World) :
    Calls Tryd.prog 53 #[.pointer o] w fun e w' => e = .returned (.func (Fn.func 68) #[] #[.pointer (some ⟨w.heap.size, 0, none⟩)]) ∧ w' = w.alloc (.cells #[.pointer o] 76) := by
  go_enter Tryd.func53, Tryd.ntmps53
  go_wp2
  go_ret
  exact ⟨rfl, rfl⟩
set_option maxHeartbeats 400000 in
theorem take1_no (s : ByteArray) (b c : Nat) (h n : Nat) (w : World) (hs : s.size ≤ maxLen) (hp : w.cell? ⟨c, 0, none⟩ = some (.pointer (some ⟨b, 0, none⟩))) (hc : w.cell? ⟨b, 0, none⟩ = some (.string s))
    (hh : h ≤ s.size) (hn : s.size - h < n) :
    Calls Tryd.prog 68 #[.int .i64 h, .int .u64 n, .pointer (some ⟨c, 0, none⟩)] w fun e w' => e = .returned (.tuple #[.string ⟨#[]⟩, .int .i64 4]) ∧ w' = w := by
  unfold maxLen at hs
  go_enter Tryd.func68, Tryd.ntmps68
  go_wp2
  go_ret2
  exact ⟨rfl, rfl⟩
set_option maxHeartbeats 400000 in
theorem take1_ok (s : ByteArray) (b c : Nat) (h n : Nat) (w : World) (hs : s.size ≤ maxLen) (hp : w.cell? ⟨c, 0, none⟩ = some (.pointer (some ⟨b, 0, none⟩))) (hc : w.cell? ⟨b, 0, none⟩ = some (.string s)) (hf : w.frozen? ⟨b, 0, none⟩ = false)
    (hh : h + n ≤ s.size) :
    Calls Tryd.prog 68 #[.int .i64 h, .int .u64 n, .pointer (some ⟨c, 0, none⟩)] w fun e w' => e = .returned (.tuple #[.string (s.extract h (h + n)), .int .i64 0]) ∧ w' = (w.setCell ⟨b, 0, none⟩ (.string (s.extract (h + n) s.size))).drew := by
  unfold maxLen at hs
  go_enter Tryd.func68, Tryd.ntmps68
  go_wp2
  go_region
  go_wp2
  go_ret2
  exact ⟨rfl, rfl⟩
/-- A call that turns the reader in block b alone: it holds s' now; whatever else was there is as it was. -/
structure Step (b : Nat) (w w' : World) (s' : ByteArray) : Prop where
  os : w'.os = w.os
  tape : w'.tape = w.tape
  output : w'.output = w.output
  size : w.heap.size ≤ w'.heap.size
  cell : w'.cell? ⟨b, 0, none⟩ = some (.string s')
  frozen : w'.frozen? ⟨b, 0, none⟩ = false
  block : ∀ k, k < w.heap.size → k ≠ b → w'.heap[k]? = w.heap[k]?
theorem Step.of_below {b : Nat} {w w' : World} {s : ByteArray} (h : Below w.heap.size w w') (hb : b < w.heap.size) (hc : w.cell? ⟨b, 0, none⟩ = some (.string s)) (hf : w.frozen? ⟨b, 0, none⟩ = false) : Step b w w' s :=
  ⟨h.os, h.tape, h.output, h.size, by rw [h.cell (p := ⟨b, 0, none⟩) hb]; exact hc, by rw [h.frozen (p := ⟨b, 0, none⟩) hb]; exact hf, fun k hk _ => h.block k hk⟩
theorem Step.of_set {b : Nat} {w w' : World} {s s' : ByteArray} (h : Below w.heap.size (w.setCell ⟨b, 0, none⟩ (.string s')) w') (hb : b < w.heap.size) (hc : w.cell? ⟨b, 0, none⟩ = some (.string s)) (hf : w.frozen? ⟨b, 0, none⟩ = false) : Step b w w' s' := by
  refine ⟨h.os, h.tape, h.output, by have := h.size; simpa [World.setCell] using this, ?_, ?_, fun k hk hne => ?_⟩
  · rw [h.cell (p := ⟨b, 0, none⟩) hb]; exact World.cell?_setCell_same' w _ _ (by rw [hc]; rfl)
  · rw [h.frozen (p := ⟨b, 0, none⟩) hb]; rw [← hf]; exact World.frozen?_setCell _ _ _ _
  · rw [h.block k hk]; exact Below.heap_setCell _ _ _ _ hne
/-- Behind a call that has turned the reader in block b alone, which the callers own blocks end below. -/
theorem Step.below {b B : Nat} {w w' : World} {s : ByteArray} (h : Step b w w' s) (hB : B ≤ b) (hB2 : B ≤ w.heap.size) : Below B w w' :=
  ⟨h.os, h.tape, h.output, h.size, fun k hk => h.block k (by omega) (by omega)⟩
end Go.Proofs.YtplfjfhpdfbpeaaDoor
