/- A text's bytes in a row that may be written, and back. -/
import Derived.Test.YtblmblbkfdcbjabL30A
import Derived.Lib.SmallJoins
namespace Go.Proofs.Ytblmblbkfdcbjab
open Go.RowKit
set_option linter.unusedSimpArgs false
set_option linter.unusedVariables false
/-- A row of bytes that a conversion made. -/
def Cby (w : World) (g n : Nat) (f : Nat → UInt8) : Prop := ∃ C : Array Value, w.heap[g]? = some (.cells C 5 (C.size, C.size + 1)) ∧ n ≤ C.size ∧ ∀ j, j < n → C[j]? = some (c8 (f j))
theorem Cby.cell {w : World} {g n : Nat} {f : Nat → UInt8} (h : Cby w g n f) (j : Nat) (hj : j < n) : w.cell? ⟨g, j, none⟩ = some (c8 (f j)) := by
  obtain ⟨C, hC, _, hc⟩ := h
  rw [cell_of_row w g j C _ _ hC]
  exact hc j hj
theorem Cby.frozen {w : World} {g n : Nat} {f : Nat → UInt8} (h : Cby w g n f) (j : Nat) (hj : j < n) : w.frozen? ⟨g, j, none⟩ = false := by
  obtain ⟨C, hC, hn, _⟩ := h
  simp only [World.frozen?, hC]
  simp; omega
theorem Cby.set {w : World} {g n : Nat} {f : Nat → UInt8} (h : Cby w g n f) (i : Nat) (hi : i < n) (v : UInt8) : Cby (w.setCell ⟨g, i, none⟩ (c8 v)) g n (fun j => if j = i then v else f j) := by
  obtain ⟨C, hC, hn, hc⟩ := h
  refine ⟨C.setIfInBounds i (c8 v), ?_, by simpa using hn, fun j hj => ?_⟩
  · have := Joins.block_setCell (i := i) hC (c8 v)
    rw [this]; simp
  · rw [Array.getElem?_setIfInBounds]
    by_cases e : i = j
    · subst e; rw [if_pos rfl, if_pos (by omega)]; simp
    · rw [if_neg e, hc j hj]; simp [show j ≠ i from fun h => e h.symm]
theorem conv_to (s : ByteArray) (u : World) : ∃ (cap : Nat) (W : World), (convert 9 28 (.string s)).run Try.prog u = .ok (.slice (some ⟨u.heap.size, 0, none⟩) s.size cap) W ∧ s.size ≤ cap ∧
    Below u.heap.size u W ∧ Cby W u.heap.size s.size (bt s) := by
  refine ⟨grownCap u s.size 0 5, Lib.bytesWorld u 5 s, Lib.run_convert_string_bytes u _ _ _ s Try.underlying9 Try.underlying28 Try.underlying5, grownCap_ge _ _ _ _, ?_, Lib.bytesCells u 5 s, Lib.bytesWorld_at_new _ _ _, ?_, ?_⟩
  · refine ⟨?_, ?_, ?_, by rw [Lib.bytesWorld_size]; omega, fun k hk => Lib.bytesWorld_at_old _ _ _ _ hk⟩
    all_goals simp [Lib.bytesWorld, World.freeze, World.alloc, World.drew, -World.alloc_eq, -World.drew_eq]
  · have hge := grownCap_ge u s.size 0 5
    have : s.data.size = s.size := rfl
    simp [Lib.bytesCells]
  · intro j hj
    have hj' : j < s.data.size := hj
    rw [Lib.bytesCells, Array.getElem?_append_left (by simpa using hj)]
    simp only [Array.getElem?_map, Array.getElem?_eq_getElem hj', Option.map_some]
    rw [← bt_at s j hj]
    rfl
theorem conv_fro (g n cap : Nat) (f : Nat → UInt8) (w : World) (h : ∀ j, j < n → w.cell? ⟨g, j, none⟩ = some (c8 (f j))) :
    (convert 28 9 (.slice (some ⟨g, 0, none⟩) n cap)).run Try.prog w = .ok (.string (mkT (fl n f))) w := by
  have h := run_convert_bytes_arg w 28 5 Try.underlying28 Try.underlying5 g 0 n cap ((fl n f).map fun x : UInt8 => (x.toNat : Int)) (by simp [fl_len]) (fun i hi => by
    rw [Nat.zero_add, h i hi, List.getD, List.getElem?_map, fl_get n f i hi]; rfl) 9 Try.underlying9
  rw [h]
  have e : strOfNums ((fl n f).map fun x : UInt8 => (x.toNat : Int)) = mkT (fl n f) := by
    unfold strOfNums mkT
    rw [List.map_map]
    congr 2
    conv => rhs; rw [← List.map_id (fl n f)]
    apply List.map_congr_left
    intro x _
    simp
  rw [e]
end Go.Proofs.Ytblmblbkfdcbjab
