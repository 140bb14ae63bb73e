/- Numbers of 32 bits as cells; a variable of the call's own. -/
import Derived.Test.YtplfjfhpdfbpeaaDoorQ1
import Derived.Deep.MidRow
import Derived.Lib.SmallJoins
import Derived.Lib.BufferOwn
import Derived.Lib.HexFns2
namespace Go.Proofs.YtplfjfhpdfbpeaaDoor
open Go.RowKit
set_option linter.unusedSimpArgs false
set_option linter.unusedVariables false
/-- A number of 32 bits as a cell. -/
abbrev c32 (x : BitVec 32) : Value := .int .u32 (x.toNat : Int)
/-- A variable of the call's own: its cells. -/
abbrev Blk (w : World) (b : Nat) (C : Array Value) (T : TypeId) : Prop := w.heap[b]? = some (.cells C T (0, 0))
theorem Blk.cell {w : World} {b : Nat} {C : Array Value} {T : TypeId} (h : Blk w b C T) (j : Nat) : w.cell? ⟨b, j, none⟩ = C[j]? := cell_of_row w b j C T (0, 0) h
theorem Blk.frozen {w : World} {b : Nat} {C : Array Value} {T : TypeId} (h : Blk w b C T) (j : Nat) : w.frozen? ⟨b, j, none⟩ = false := frozen_of_row w b j C T h
theorem Blk.drewN {w : World} {b : Nat} {C : Array Value} {T : TypeId} (h : Blk w b C T) (n : Nat) : Blk (w.drewN n) b C T := h
theorem Blk.set {w : World} {b : Nat} {C : Array Value} {T : TypeId} (h : Blk w b C T) (i : Nat) (v : Value) : Blk (w.setCell ⟨b, i, none⟩ v) b (C.setIfInBounds i v) T := Joins.block_setCell h v
theorem grown_drewN (w : World) (n : Nat) (r : Option Nat) : w.grownBy (w.drewN n) r := by
  induction n with
  | zero => exact World.grownBy.refl w r
  | succ n ih => exact Lib.Hx.grownBy_drew ih
theorem max32 : IntKind.u32.max = 4294967295 := by decide
theorem below_of_grown {w w' : World} (h : w.grownBy w' none) : Below w.heap.size w w' := ⟨h.os, h.tape, h.output, h.size, fun i hi => h.block i hi (by simp)⟩
theorem blk_new (w : World) (o : Obj) : (w.alloc o).heap[w.heap.size]? = some o := by
  show (w.heap.push o)[w.heap.size]? = some o
  simp
theorem alloc_size (w : World) (o : Obj) : (w.alloc o).heap.size = w.heap.size + 1 := by
  show (w.heap.push o).size = _
  simp
theorem grown_of_below {w w' : World} (h : Below w.heap.size w w') (r : Option Nat) : w.grownBy w' r := ⟨h.os, h.tape, h.output, h.size, fun i hi _ => h.block i hi⟩
theorem bcellD {W w1 : World} (hb : Below W.heap.size W w1) : (∀ b o, b < W.heap.size → w1.cell? ⟨b, o, none⟩ = W.cell? ⟨b, o, none⟩) ∧ (∀ b o, b < W.heap.size → w1.frozen? ⟨b, o, none⟩ = W.frozen? ⟨b, o, none⟩) :=
  ⟨fun b o h => hb.cell (p := ⟨b, o, none⟩) h, fun b o h => hb.frozen (p := ⟨b, o, none⟩) h⟩
theorem blk_lt {w : World} {b : Nat} {o : Obj} (h : w.heap[b]? = some o) : b < w.heap.size := by
  by_cases e : b < w.heap.size
  · exact e
  · rw [Array.getElem?_eq_none (by omega)] at h; cases h
end Go.Proofs.YtplfjfhpdfbpeaaDoor
