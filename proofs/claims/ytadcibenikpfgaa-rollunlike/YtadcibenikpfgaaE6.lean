/- A string's bytes as a row of the call's own, and back. -/
import Derived.Test.YtadcibenikpfgaaE0
import Derived.Test.YtadcibenikpfgaaP4
import Derived.Lib.ConvBytes
import Derived.Laws.IdiomStrings
namespace Go.Proofs.Ytadcibenikpfgaa
open Go.RowKit
set_option linter.unusedSimpArgs false
set_option linter.unusedVariables false
/-- A row that a conversion has made: its cells; the mark stands behind them. -/
abbrev Cvb (w : World) (g : Nat) (C : Array Value) : Prop := w.heap[g]? = some (.cells C 5 (C.size, C.size + 1))
theorem Cvb.cell {w : World} {g : Nat} {C : Array Value} (h : Cvb w g C) (j : Nat) : w.cell? ⟨g, j, none⟩ = C[j]? := cell_of_row w g j C _ _ h
theorem Cvb.frozen {w : World} {g : Nat} {C : Array Value} (h : Cvb w g C) (j : Nat) (hj : j < C.size) : w.frozen? ⟨g, j, none⟩ = false := by
  have h' : w.heap[g]? = some (.cells C 5 (C.size, C.size + 1)) := h
  simp only [World.frozen?, h']
  simp; omega
theorem Cvb.set {w : World} {g : Nat} {C : Array Value} (h : Cvb w g C) (i : Nat) (v : Value) : Cvb (w.setCell ⟨g, i, none⟩ v) g (C.setIfInBounds i v) := by
  have := Joins.block_setCell (i := i) h v
  unfold Cvb
  rw [this]; simp
theorem conv_bytes (s : ByteArray) (u : World) : ∃ (cap : Nat) (W : World) (C : Array Value), (convert 9 35 (.string s)).run Try.prog u = .ok (.slice (some ⟨u.heap.size, 0, none⟩) s.size cap) W ∧
    Below u.heap.size u W ∧ W.heap.size = u.heap.size + 1 ∧ Cvb W u.heap.size C ∧ s.size ≤ C.size ∧ s.size ≤ cap ∧ ∀ j (hj : j < s.size), C[j]? = some (.int .u8 (s[j].toNat : Int)) := by
  refine ⟨grownCap u s.size 0 5, Lib.bytesWorld u 5 s, Lib.bytesCells u 5 s, Lib.run_convert_string_bytes u _ _ _ s Try.underlying9 Try.underlying35 Try.underlying5, ?_, Lib.bytesWorld_size _ _ _, Lib.bytesWorld_at_new _ _ _, ?_, ?_, ?_⟩
  · refine ⟨?_, ?_, ?_, by rw [Lib.bytesWorld_size]; omega, fun k hk => Lib.bytesWorld_at_old _ _ _ _ hk⟩
    all_goals simp [Lib.bytesWorld, World.freeze, World.alloc, World.drew, -World.alloc_eq, -World.drew_eq]
  · simp [Lib.bytesCells]
  · exact grownCap_ge _ _ _ _
  · intro j hj
    have hj' : j < s.data.size := hj
    rw [Lib.bytesCells, Array.getElem?_append_left (by simpa using hj)]
    simp only [Array.getElem?_map, Array.getElem?_eq_getElem hj', Option.map_some]
    rfl
theorem conv_back (w : World) (g cap n : Nat) (C : Array Value) (l : List UInt8) (h : Cvb w g C) (hl : l.length = n) (hC : ∀ j (hj : j < l.length), C[j]? = some (.int .u8 (l[j].toNat : Int))) :
    (convert 35 9 (.slice (some ⟨g, 0, none⟩) n cap)).run Try.prog w = .ok (.string ⟨l.toArray⟩) w := by
  subst hl
  refine run_convert_bytes_back w 35 9 5 ⟨g, 0, none⟩ cap l Try.underlying35 Try.underlying5 Try.underlying9 (fun j hj => ?_)
  rw [WideShapes.add_plain, Nat.zero_add, h.cell, hC j hj]
/-- Bytes as numbers, one of them laid anew. -/
def setNums (s : ByteArray) (j : Nat) (X : Int) : List Int := ((bl s).map fun b : UInt8 => (b.toNat : Int)).set j X
theorem setNums_length (s : ByteArray) (j : Nat) (X : Int) : (setNums s j X).length = s.size := by simp [setNums, bl_length]
def trnS (s : ByteArray) (j : Nat) (X : Int) : ByteArray := strOfNums (setNums s j X)
theorem conv_set (s : ByteArray) (w : World) (g cap j : Nat) (C : Array Value) (h : Cvb w g C) (hj : j < s.size) (hz : s.size ≤ C.size) (hC : ∀ j (hj : j < s.size), C[j]? = some (.int .u8 (s[j].toNat : Int))) (X : Int) :
    (convert 35 9 (.slice (some ⟨g, 0, none⟩) s.size cap)).run Try.prog (w.setCell ⟨g, j, none⟩ (.int .u8 X)) = .ok (.string (trnS s j X)) (w.setCell ⟨g, j, none⟩ (.int .u8 X)) := by
  refine run_convert_bytes_arg _ 35 5 Try.underlying35 Try.underlying5 g 0 s.size cap _ (setNums_length s j X) (fun i hi => ?_) 9 Try.underlying9
  rw [Nat.zero_add, (h.set j _).cell, Array.getElem?_setIfInBounds, setNums, List.getD, List.getElem?_set]
  by_cases e : j = i
  · subst e
    rw [if_pos rfl, if_pos (by omega), if_pos rfl, if_pos (by simp [bl_length]; exact hj)]
    rfl
  · rw [if_neg e, if_neg e, hC i hi, List.getElem?_map, List.getElem?_eq_getElem (by rw [bl_length]; exact hi)]
    rfl
theorem bl_nums (l : List Int) : bl (strOfNums l) = l.map (fun x => UInt8.ofNat x.toNat) := rfl
theorem bl_trn (s : ByteArray) (j : Nat) (X : Int) : bl (trnS s j X) = (bl s).set j (UInt8.ofNat X.toNat) := by
  rw [trnS, bl_nums, setNums, List.map_set, List.map_map]
  congr 1
  have : ((fun x : Int => UInt8.ofNat x.toNat) ∘ fun b : UInt8 => (b.toNat : Int)) = id := by funext b; simp
  rw [this, List.map_id]
end Go.Proofs.Ytadcibenikpfgaa
