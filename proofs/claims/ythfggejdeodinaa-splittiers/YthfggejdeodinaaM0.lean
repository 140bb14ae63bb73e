/- A block of the call's own, by its cells; rows stored into it and read out of it at any place. No program is named here. -/
import Derived.WalkKit
import Derived.WalkSpells
import Derived.WalkLawsBesides
import Derived.Handy
import Derived.Deep.MidRow
import Derived.Deep.WholeRow
import Derived.Laws.ResultCell
import Derived.Lib.SmallJoins
import Derived.Lib.BufferOwn
import Derived.Lib.HexFns2
namespace Go.Proofs.Ythfggejdeodinaa
open Go.RowKit
set_option linter.unusedSimpArgs false
set_option linter.unusedVariables false
/-- A block's cells. -/
abbrev Bk (w : World) (b : Nat) (C : Array Value) (T : TypeId) : Prop := w.heap[b]? = some (.cells C T (0, 0))
theorem Bk.cell {w : World} {b : Nat} {C : Array Value} {T : TypeId} (h : Bk w b C T) (j : Nat) : w.cell? ⟨b, j, none⟩ = C[j]? := cell_of_row w b j C T (0, 0) h
theorem Bk.frozen {w : World} {b : Nat} {C : Array Value} {T : TypeId} (h : Bk w b C T) (j : Nat) : w.frozen? ⟨b, j, none⟩ = false := frozen_of_row w b j C T h
theorem Bk.set {w : World} {b : Nat} {C : Array Value} {T : TypeId} (h : Bk w b C T) (i : Nat) (v : Value) : Bk (w.setCell ⟨b, i, none⟩ v) b (C.setIfInBounds i v) T := Joins.block_setCell h v
theorem Bk.lt {w : World} {b : Nat} {C : Array Value} {T : TypeId} (h : Bk w b C T) : b < w.heap.size := by
  by_cases e : b < w.heap.size
  · exact e
  · unfold Bk at h; rw [Array.getElem?_eq_none (by omega)] at h; cases h
theorem Bk.grown {w w' : World} {b : Nat} {C : Array Value} {T : TypeId} {r : Option Nat} (h : Bk w b C T) (hg : w.grownBy w' r) (hr : r ≠ some b) : Bk w' b C T := by
  have hlt := h.lt
  unfold Bk
  rw [hg.block b hlt (fun e => hr e.symm)]
  exact h
theorem Bk.below {w w' : World} {b n : Nat} {C : Array Value} {T : TypeId} (h : Bk w b C T) (hb : Below n w w') (hn : b < n) : Bk w' b C T := by
  unfold Bk
  rw [hb.block b hn]
  exact h
theorem Bk.alloc {w : World} {b : Nat} {C : Array Value} {T : TypeId} (h : Bk w b C T) (o : Obj) : Bk (w.alloc o) b C T := h.grown (World.grownBy_alloc w o none) (by simp)
theorem Bk.drewN {w : World} {b : Nat} {C : Array Value} {T : TypeId} (h : Bk w b C T) (n : Nat) : Bk (w.drewN n) b C T := h
theorem bk_new (w : World) (C : Array Value) (T : TypeId) : Bk (w.alloc (.cells C T)) w.heap.size C T := by
  show (w.heap.push _)[w.heap.size]? = some _
  simp
theorem al_size (w : World) (o : Obj) : (w.alloc o).heap.size = w.heap.size + 1 := by
  show (w.heap.push o).size = _
  simp
theorem gr_of_below {w w' : World} (h : Below w.heap.size w w') (r : Option Nat) : w.grownBy w' r := ⟨h.os, h.tape, h.output, h.size, fun i hi _ => h.block i hi⟩
theorem below_of_gr {w w' : World} (h : w.grownBy w' none) : Below w.heap.size w w' := ⟨h.os, h.tape, h.output, h.size, fun i hi => h.block i hi (by simp)⟩
theorem gr_drewN (w : World) (n : Nat) (r : Option Nat) : w.grownBy (w.drewN n) r := by
  induction n with
  | zero => exact World.grownBy.refl w r
  | succ n ih => exact Lib.Hx.grownBy_drew ih
theorem below_own {B b : Nat} {w wr w1 : World} (hb : Below B w wr) (hz : B ≤ wr.heap.size) (hg : wr.grownBy w1 (some b)) (hB : B ≤ b) : Below B w w1 :=
  hb.grown hg hz (fun k hk => by cases hk; exact hB)
theorem below_drewN {B : Nat} {w wr : World} (hb : Below B w wr) (n : Nat) : Below B w (wr.drewN n) := by
  induction n with
  | zero => exact hb
  | succ n ih => exact ih.drew
/-- Cells laid over others from a place on. -/
def putC (C : Array Value) (o : Nat) : List Value → Array Value
  | [] => C
  | v :: r => putC (C.setIfInBounds o v) (o + 1) r
theorem Bk.puts {b : Nat} {T : TypeId} : ∀ (vs : List Value) (o : Nat) (C : Array Value) (w : World), Bk w b C T → Bk (w.setCells b o vs) b (putC C o vs) T
  | [], _, _, _, h => h
  | v :: r, o, C, w, h => by
    rw [World.setCells, putC]
    exact Bk.puts r (o + 1) _ _ (h.set o v)
theorem gr_puts (b : Nat) : ∀ (vs : List Value) (o : Nat) {a w : World}, a.grownBy w (some b) → a.grownBy (w.setCells b o vs) (some b)
  | [], _, _, _, h => h
  | v :: r, o, a, w, h => by rw [World.setCells]; exact gr_puts b r (o + 1) (Lib.grownBy_setB h o v)
theorem putC_size : ∀ (vs : List Value) (o : Nat) (C : Array Value), (putC C o vs).size = C.size
  | [], _, _ => rfl
  | v :: r, o, C => by rw [putC, putC_size r, Array.size_setIfInBounds]
theorem putC_get : ∀ (vs : List Value) (o : Nat) (C : Array Value) (i : Nat), o + vs.length ≤ C.size → (putC C o vs)[i]? = if o ≤ i ∧ i < o + vs.length then vs[i - o]? else C[i]?
  | [], o, C, i, _ => by rw [putC, if_neg (by simp)]
  | v :: r, o, C, i, h => by
    simp only [List.length_cons] at h
    rw [putC, putC_get r (o + 1) _ i (by rw [Array.size_setIfInBounds]; omega), Array.getElem?_setIfInBounds]
    by_cases e : o = i
    · subst e
      rw [if_neg (by omega), if_pos rfl, if_pos (by omega), if_pos (by simp), Nat.sub_self]; rfl
    · by_cases e2 : o + 1 ≤ i ∧ i < o + 1 + r.length
      · rw [if_pos e2, if_pos (by simp; omega)]
        rw [show i - o = (i - (o + 1)) + 1 from by omega, List.getElem?_cons_succ]
      · rw [if_neg e2, if_neg e, if_neg (by simp; omega)]
theorem setCells_size (b : Nat) : ∀ (vs : List Value) (o : Nat) (w : World), (w.setCells b o vs).heap.size = w.heap.size
  | [], _, _ => rfl
  | v :: r, o, w => by
    rw [World.setCells, setCells_size b r]
    simp [World.setCell]
theorem Bk.there {w : World} {b : Nat} {C : Array Value} {T : TypeId} (h : Bk w b C T) (o n : Nat) (hn : o + n ≤ C.size) : w.there b o n := fun j hj =>
  ⟨by rw [h.cell, Array.getElem?_eq_getElem (by omega)]; rfl, h.frozen _⟩
/-- The store of many cells into a block: the world behind it is a letter. -/
theorem wpList_put {P : Program} {ops : Array Oper} {rest : List Oper} {op : Oper} {a : Act} {w : World} {Q : Exit → Act → World → Prop} (hgd : op.guard = none) (ty : TypeId) (x y : Operand) (ho : op.op = .store ty x y)
    (b o : Nat) (C cells : Array Value) (T : TypeId) (hx : a.eval x = .pointer (some ⟨b, o, none⟩)) (hy : a.eval y = .agg cells)
    (hB : Bk w b C T) (hi : (P.info? ty).map (·.size) = some cells.size) (hn : o + cells.size ≤ C.size) (h1 : cells.all (·.oneCell') = true)
    (h : ∀ w', Hid (Bk w' b (putC C o cells.toList) T) → Hid (w.grownBy w' (some b)) → w'.heap.size = w.heap.size → wpList P ops Q rest (a.put op.dst undef) w') : wpList P ops Q (op :: rest) a w :=
  wpList_store_mid hgd ty x y ho b o cells hx hy (hB.there o _ hn) hi h1
    (h _ (Bk.puts _ _ _ _ hB) (gr_puts b _ _ (World.grownBy.refl _ _)) (setCells_size b _ _ _))
/-- The load of many cells out of a block. -/
theorem wpList_get {P : Program} {ops : Array Oper} {rest : List Oper} {op : Oper} {a : Act} {w : World} {Q : Exit → Act → World → Prop} (hgd : op.guard = none) (ty : TypeId) (x : Operand) (ho : op.op = .load ty x)
    (b o : Nat) (C cells : Array Value) (T : TypeId) (d : TypeDesc) (hx : a.eval x = .pointer (some ⟨b, o, none⟩))
    (hB : Bk w b C T) (hc : ∀ j v, cells[j]? = some v → C[o + j]? = some v) (hu : P.underlying ty = some d) (hd : d.isRow = true) (hi : (P.info? ty).map (·.size) = some cells.size)
    (h : wpList P ops Q rest (a.put op.dst (.agg cells)) w) : wpList P ops Q (op :: rest) a w :=
  wpList_load_mid hgd ty x ho b o hx cells.toList d (fun j v hv => by rw [hB.cell]; exact hc j v (by rwa [Array.getElem?_toList] at hv)) hu hd (by rw [hi]; simp) h
end Go.Proofs.Ythfggejdeodinaa
