import Derived.Test.YtpfknjnigcefgaaGreatDoorY2
import Derived.ChangeKeysEq
import Derived.Laws.StructEq
import Derived.WalkKit
import Derived.WalkSpells
import Derived.WalkLawsBesides
import Derived.Handy
import Derived.Deep.MidRow
import Derived.Deep.WholeRow
import Derived.Laws.ResultCell
import Derived.Lib.SmallJoins
import Derived.Lib.BufferOwn
import Derived.Lib.HexFns2
import Derived.Test.YtpfknjnigcefgaaGreatDoorY7
import Derived.Great.BuildSlice
import Derived.Maps.AppendAt
import Derived.OwnWalk
import Derived.Lib.BytesEntry
import Derived.Laws.Externs
import Derived.Deep.QuietTactic
import Derived.BigQuiet
/- Two names compared with '=='. -/
namespace Go.Proofs.YtpfknjnigcefgaaGreatDoor
open Go.RowKit
set_option linter.unusedSimpArgs false
set_option linter.unusedVariables false
theorem part_id (s : ByteArray) (i : Nat) (h : i < s.size) (w : World) : (part 5 (idc s) i).run Tryz.prog w = .ok (.int .u8 (s[i].toNat : Int)) w := by
  have ha : (isAgg 5).run Tryz.prog w = .ok false w := by kernel_rfl
  simp [part, ha, idc_get s i h]
theorem eqItems_ids (a b : ByteArray) (ha : a.size = 32) (hb : b.size = 32) (w : World) : ∀ is : List Nat, (∀ i ∈ is, i < 32) →
    (Op.eqItems 9999 5 1 (idc a) (idc b) is).run Tryz.prog w = .ok (is.all fun i => (byl a).getD i 0 == (byl b).getD i 0) w
  | [], _ => by simp [Op.eqItems]
  | i :: is, h => by
    have hi : i < 32 := h i (List.mem_cons_self ..)
    have ih := eqItems_ids a b ha hb w is (fun j hj => h j (List.mem_cons_of_mem _ hj))
    have e1 : (byl a).getD i 0 = a[i].toNat := by rw [List.getD, byl_getD a i (by omega)]; rfl
    have e2 : (byl b).getD i 0 = b[i].toNat := by rw [List.getD, byl_getD b i (by omega)]; rfl
    have e3 := run_equalIn_int (P := Tryz.prog) w 9998 5 .u8 .u8 (a[i].toNat : Int) (b[i].toNat : Int) Tryz.underlying5
    simp only [Op.eqItems, Sem.run_bind, Nat.mul_one, part_id a i (by omega), part_id b i (by omega), Result.andThen_ok, e3, List.all_cons, e1, e2]
    by_cases e : a[i].toNat = b[i].toNat
    · have e4 : ((a[i].toNat : Int) == (b[i].toNat : Int)) = true := by rw [e]; simp
      simp only [e4, Bool.not_true, Bool.false_eq_true, if_false, ih, e, beq_self_eq_true, Bool.true_and]
    · have e4 : ((a[i].toNat : Int) == (b[i].toNat : Int)) = false := by rw [beq_eq_false_iff_ne]; omega
      have e5 : (a[i].toNat == b[i].toNat) = false := by rw [beq_eq_false_iff_ne]; exact e
      simp only [e4, Bool.not_false, if_true, Sem.run_pure, e5, Bool.false_and]
theorem ids_all (a b : ByteArray) (ha : a.size = 32) (hb : b.size = 32) : ((List.range 32).all fun i => (byl a).getD i 0 == (byl b).getD i 0) = decide (a = b) := by
  rw [Bool.eq_iff_iff, List.all_eq_true, decide_eq_true_iff]
  constructor
  · intro h
    have : byl a = byl b := list_ext_getD _ _ (by rw [byl_length, byl_length, ha, hb]) (fun j hj => by
      have := h j (by rw [List.mem_range]; rw [byl_length, ha] at hj; exact hj)
      exact eq_of_beq this)
    rw [← sb_byl a, ← sb_byl b, this]
  · rintro rfl i _
    exact beq_self_eq_true _
theorem equalIn_ids (a b : ByteArray) (ha : a.size = 32) (hb : b.size = 32) (w : World) : (Op.equalIn 10000 23 (.agg (idc a)) (.agg (idc b))).run Tryz.prog w = .ok (decide (a = b)) w := by
  have hc : Tryz.prog.cellsOf 5 = 1 := by kernel_rfl
  obtain ⟨i0, hi⟩ := info_of_underlying Tryz.underlying5
  have hu : Tryz.prog.underlying 23 = some (.array 32 5) := Tryz.underlying23
  rw [run_equalIn_array w 9999 (idc a) (idc b) hu hi, hc, eqItems_ids a b ha hb w _ (fun i hi => by simpa using hi), ids_all a b ha hb]
theorem eql_ids (a b : ByteArray) (ha : a.size = 32) (hb : b.size = 32) (w : World) : (binOp .eql 23 (.agg (idc a)) (.agg (idc b))).run Tryz.prog w = .ok (.bool (decide (a = b))) w := by
  rw [run_eql_struct, equalIn_ids a b ha hb]; rfl
theorem neq_ids (a b : ByteArray) (ha : a.size = 32) (hb : b.size = 32) (w : World) : (binOp .neq 23 (.agg (idc a)) (.agg (idc b))).run Tryz.prog w = .ok (.bool (!decide (a = b))) w := by
  rw [run_neq_struct, equalIn_ids a b ha hb]; rfl
end Go.Proofs.YtpfknjnigcefgaaGreatDoor
/- A block of the call's own, by its cells; rows stored into it and read out of it at any place. No program is named here. -/
namespace Go.Proofs.YtpfknjnigcefgaaGreatDoor
open Go.RowKit
set_option linter.unusedSimpArgs false
set_option linter.unusedVariables false
/-- A block's cells. -/
abbrev Bk (w : World) (b : Nat) (C : Array Value) (T : TypeId) : Prop := w.heap[b]? = some (.cells C T (0, 0))
theorem Bk.cell {w : World} {b : Nat} {C : Array Value} {T : TypeId} (h : Bk w b C T) (j : Nat) : w.cell? ⟨b, j, none⟩ = C[j]? := cell_of_row w b j C T (0, 0) h
theorem Bk.frozen {w : World} {b : Nat} {C : Array Value} {T : TypeId} (h : Bk w b C T) (j : Nat) : w.frozen? ⟨b, j, none⟩ = false := frozen_of_row w b j C T h
theorem Bk.set {w : World} {b : Nat} {C : Array Value} {T : TypeId} (h : Bk w b C T) (i : Nat) (v : Value) : Bk (w.setCell ⟨b, i, none⟩ v) b (C.setIfInBounds i v) T := Joins.block_setCell h v
theorem Bk.lt {w : World} {b : Nat} {C : Array Value} {T : TypeId} (h : Bk w b C T) : b < w.heap.size := by
  by_cases e : b < w.heap.size
  · exact e
  · unfold Bk at h; rw [Array.getElem?_eq_none (by omega)] at h; cases h
theorem Bk.grown {w w' : World} {b : Nat} {C : Array Value} {T : TypeId} {r : Option Nat} (h : Bk w b C T) (hg : w.grownBy w' r) (hr : r ≠ some b) : Bk w' b C T := by
  have hlt := h.lt
  unfold Bk
  rw [hg.block b hlt (fun e => hr e.symm)]
  exact h
theorem Bk.below {w w' : World} {b n : Nat} {C : Array Value} {T : TypeId} (h : Bk w b C T) (hb : Below n w w') (hn : b < n) : Bk w' b C T := by
  unfold Bk
  rw [hb.block b hn]
  exact h
theorem Bk.alloc {w : World} {b : Nat} {C : Array Value} {T : TypeId} (h : Bk w b C T) (o : Obj) : Bk (w.alloc o) b C T := h.grown (World.grownBy_alloc w o none) (by simp)
theorem Bk.drewN {w : World} {b : Nat} {C : Array Value} {T : TypeId} (h : Bk w b C T) (n : Nat) : Bk (w.drewN n) b C T := h
theorem bk_new (w : World) (C : Array Value) (T : TypeId) : Bk (w.alloc (.cells C T)) w.heap.size C T := by
  show (w.heap.push _)[w.heap.size]? = some _
  simp
theorem al_size (w : World) (o : Obj) : (w.alloc o).heap.size = w.heap.size + 1 := by
  show (w.heap.push o).size = _
  simp
theorem gr_of_below {w w' : World} (h : Below w.heap.size w w') (r : Option Nat) : w.grownBy w' r := ⟨h.os, h.tape, h.output, h.size, fun i hi _ => h.block i hi⟩
theorem below_of_gr {w w' : World} (h : w.grownBy w' none) : Below w.heap.size w w' := ⟨h.os, h.tape, h.output, h.size, fun i hi => h.block i hi (by simp)⟩
theorem gr_drewN (w : World) (n : Nat) (r : Option Nat) : w.grownBy (w.drewN n) r := by
  induction n with
  | zero => exact World.grownBy.refl w r
  | succ n ih => exact Lib.Hx.grownBy_drew ih
theorem below_own {B b : Nat} {w wr w1 : World} (hb : Below B w wr) (hz : B ≤ wr.heap.size) (hg : wr.grownBy w1 (some b)) (hB : B ≤ b) : Below B w w1 :=
  hb.grown hg hz (fun k hk => by cases hk; exact hB)
theorem below_drewN {B : Nat} {w wr : World} (hb : Below B w wr) (n : Nat) : Below B w (wr.drewN n) := by
  induction n with
  | zero => exact hb
  | succ n ih => exact ih.drew
/-- Cells laid over others from a place on. -/
def putC (C : Array Value) (o : Nat) : List Value → Array Value
  | [] => C
  | v :: r => putC (C.setIfInBounds o v) (o + 1) r
theorem Bk.puts {b : Nat} {T : TypeId} : ∀ (vs : List Value) (o : Nat) (C : Array Value) (w : World), Bk w b C T → Bk (w.setCells b o vs) b (putC C o vs) T
  | [], _, _, _, h => h
  | v :: r, o, C, w, h => by
    rw [World.setCells, putC]
    exact Bk.puts r (o + 1) _ _ (h.set o v)
theorem gr_puts (b : Nat) : ∀ (vs : List Value) (o : Nat) {a w : World}, a.grownBy w (some b) → a.grownBy (w.setCells b o vs) (some b)
  | [], _, _, _, h => h
  | v :: r, o, a, w, h => by rw [World.setCells]; exact gr_puts b r (o + 1) (Lib.grownBy_setB h o v)
theorem putC_size : ∀ (vs : List Value) (o : Nat) (C : Array Value), (putC C o vs).size = C.size
  | [], _, _ => rfl
  | v :: r, o, C => by rw [putC, putC_size r, Array.size_setIfInBounds]
theorem putC_get : ∀ (vs : List Value) (o : Nat) (C : Array Value) (i : Nat), o + vs.length ≤ C.size → (putC C o vs)[i]? = if o ≤ i ∧ i < o + vs.length then vs[i - o]? else C[i]?
  | [], o, C, i, _ => by rw [putC, if_neg (by simp)]
  | v :: r, o, C, i, h => by
    simp only [List.length_cons] at h
    rw [putC, putC_get r (o + 1) _ i (by rw [Array.size_setIfInBounds]; omega), Array.getElem?_setIfInBounds]
    by_cases e : o = i
    · subst e
      rw [if_neg (by omega), if_pos rfl, if_pos (by omega), if_pos (by simp), Nat.sub_self]; rfl
    · by_cases e2 : o + 1 ≤ i ∧ i < o + 1 + r.length
      · rw [if_pos e2, if_pos (by simp; omega)]
        rw [show i - o = (i - (o + 1)) + 1 from by omega, List.getElem?_cons_succ]
      · rw [if_neg e2, if_neg e, if_neg (by simp; omega)]
theorem setCells_size (b : Nat) : ∀ (vs : List Value) (o : Nat) (w : World), (w.setCells b o vs).heap.size = w.heap.size
  | [], _, _ => rfl
  | v :: r, o, w => by
    rw [World.setCells, setCells_size b r]
    simp [World.setCell]
theorem Bk.there {w : World} {b : Nat} {C : Array Value} {T : TypeId} (h : Bk w b C T) (o n : Nat) (hn : o + n ≤ C.size) : w.there b o n := fun j hj =>
  ⟨by rw [h.cell, Array.getElem?_eq_getElem (by omega)]; rfl, h.frozen _⟩
/-- The store of many cells into a block: the world behind it is a letter. -/
theorem wpList_put {P : Program} {ops : Array Oper} {rest : List Oper} {op : Oper} {a : Act} {w : World} {Q : Exit → Act → World → Prop} (hgd : op.guard = none) (ty : TypeId) (x y : Operand) (ho : op.op = .store ty x y)
    (b o : Nat) (C cells : Array Value) (T : TypeId) (hx : a.eval x = .pointer (some ⟨b, o, none⟩)) (hy : a.eval y = .agg cells)
    (hB : Bk w b C T) (hi : (P.info? ty).map (·.size) = some cells.size) (hn : o + cells.size ≤ C.size) (h1 : cells.all (·.oneCell') = true)
    (h : ∀ w', Hid (Bk w' b (putC C o cells.toList) T) → Hid (w.grownBy w' (some b)) → w'.heap.size = w.heap.size → wpList P ops Q rest (a.put op.dst undef) w') : wpList P ops Q (op :: rest) a w :=
  wpList_store_mid hgd ty x y ho b o cells hx hy (hB.there o _ hn) hi h1
    (h _ (Bk.puts _ _ _ _ hB) (gr_puts b _ _ (World.grownBy.refl _ _)) (setCells_size b _ _ _))
/-- The load of many cells out of a block. -/
theorem wpList_get {P : Program} {ops : Array Oper} {rest : List Oper} {op : Oper} {a : Act} {w : World} {Q : Exit → Act → World → Prop} (hgd : op.guard = none) (ty : TypeId) (x : Operand) (ho : op.op = .load ty x)
    (b o : Nat) (C cells : Array Value) (T : TypeId) (d : TypeDesc) (hx : a.eval x = .pointer (some ⟨b, o, none⟩))
    (hB : Bk w b C T) (hc : ∀ j v, cells[j]? = some v → C[o + j]? = some v) (hu : P.underlying ty = some d) (hd : d.isRow = true) (hi : (P.info? ty).map (·.size) = some cells.size)
    (h : wpList P ops Q rest (a.put op.dst (.agg cells)) w) : wpList P ops Q (op :: rest) a w :=
  wpList_load_mid hgd ty x ho b o hx cells.toList d (fun j v hv => by rw [hB.cell]; exact hc j v (by rwa [Array.getElem?_toList] at hv)) hu hd (by rw [hi]; simp) h
end Go.Proofs.YtpfknjnigcefgaaGreatDoor
/- Entries in memory, as they may come in. -/
namespace Go.Proofs.YtpfknjnigcefgaaGreatDoor
open Go.RowKit
set_option linter.unusedSimpArgs false
set_option linter.unusedVariables false
/-- An entry's cells. -/
def xeC (e : Xe) : Array Value := ((idc e.id).toList ++ [Value.int .u8 (e.k.toNat : Int), Value.int .i64 e.off, Value.int .i64 e.sz]).toArray
theorem xeC_size (e : Xe) (h : e.id.size = 32) : (xeC e).size = 35 := by simp [xeC, idc_size, h]
theorem idc_oneX (s : ByteArray) : ∀ v ∈ (idc s).toList, v.oneCell' = true := by
  intro v hv
  rw [idc] at hv
  exact bvc_one _ v (by simpa using hv)
theorem xeC_one (e : Xe) : ∀ v ∈ (xeC e).toList, v.oneCell' = true := by
  intro v hv
  simp only [xeC, List.mem_append, List.mem_cons] at hv
  rcases hv with h | h | h | h | h
  · exact idc_oneX _ v h
  · subst h; rfl
  · subst h; rfl
  · subst h; rfl
  · cases h
theorem xeC_all (e : Xe) : (xeC e).all (·.oneCell') = true := Array.all_eq_true_iff_forall_mem.2 (fun v hv => xeC_one e v (by simpa using hv))
theorem idc_allX (s : ByteArray) : (idc s).all (·.oneCell') = true := Array.all_eq_true_iff_forall_mem.2 (fun v hv => idc_oneX s v (by simpa using hv))
theorem xeC_id (e : Xe) (h : e.id.size = 32) (j : Nat) (v : Value) (hv : (idc e.id)[j]? = some v) : (xeC e)[0 + j]? = some v := by
  have hj : j < 32 := by
    have := (Array.getElem?_eq_some_iff.1 hv).1
    rwa [idc_size, h] at this
  rw [Nat.zero_add, xeC, List.getElem?_toArray, List.getElem?_append_left (by rw [Array.length_toList, idc_size]; omega), Array.getElem?_toList]
  exact hv
theorem xeC_at (e : Xe) (h : e.id.size = 32) : (xeC e)[32]? = some (.int .u8 (e.k.toNat : Int)) ∧ (xeC e)[33]? = some (.int .i64 e.off) ∧ (xeC e)[34]? = some (.int .i64 e.sz) := by
  have hl : (idc e.id).toList.length = 32 := by rw [Array.length_toList, idc_size, h]
  refine ⟨?_, ?_, ?_⟩ <;> rw [xeC, List.getElem?_toArray, List.getElem?_append_right (by omega), hl] <;> rfl
theorem list32X (l : List Value) (h : l.length = 32) : ∃ a0 a1 a2 a3 a4 a5 a6 a7 a8 a9 a10 a11 a12 a13 a14 a15 a16 a17 a18 a19 a20 a21 a22 a23 a24 a25 a26 a27 a28 a29 a30 a31, l = [a0, a1, a2, a3, a4, a5, a6, a7, a8, a9, a10, a11, a12, a13, a14, a15, a16, a17, a18, a19, a20, a21, a22, a23, a24, a25, a26, a27, a28, a29, a30, a31] := by
  match l, h with
  | [a0, a1, a2, a3, a4, a5, a6, a7, a8, a9, a10, a11, a12, a13, a14, a15, a16, a17, a18, a19, a20, a21, a22, a23, a24, a25, a26, a27, a28, a29, a30, a31], _ => exact ⟨_, _, _, _, _, _, _, _, _, _, _, _, _, _, _, _, _, _, _, _, _, _, _, _, _, _, _, _, _, _, _, _, rfl⟩
set_option maxRecDepth 100000 in
theorem built32X (a0 a1 a2 a3 a4 a5 a6 a7 a8 a9 a10 a11 a12 a13 a14 a15 a16 a17 a18 a19 a20 a21 a22 a23 a24 a25 a26 a27 a28 a29 a30 a31 : Value) (k a n : Int) : Tryz.prog.built 34 [(0, .agg #[a0, a1, a2, a3, a4, a5, a6, a7, a8, a9, a10, a11, a12, a13, a14, a15, a16, a17, a18, a19, a20, a21, a22, a23, a24, a25, a26, a27, a28, a29, a30, a31]), (1, .int .u8 k), (2, .int .i64 a), (3, .int .i64 n)] = some #[a0, a1, a2, a3, a4, a5, a6, a7, a8, a9, a10, a11, a12, a13, a14, a15, a16, a17, a18, a19, a20, a21, a22, a23, a24, a25, a26, a27, a28, a29, a30, a31, .int .u8 k, .int .i64 a, .int .i64 n] := by kernel_rfl
theorem build_xe (e : Xe) (h : e.id.size = 32) (w : World) : (Instr.build 34 #[(0, .agg (idc e.id)), (1, .int .u8 (e.k.toNat : Int)), (2, .int .i64 e.off), (3, .int .i64 e.sz)]).run Tryz.prog w = .ok (.agg (xeC e)) w := by
  refine run_build w _ _ _ ?_
  obtain ⟨a0, a1, a2, a3, a4, a5, a6, a7, a8, a9, a10, a11, a12, a13, a14, a15, a16, a17, a18, a19, a20, a21, a22, a23, a24, a25, a26, a27, a28, a29, a30, a31, hl⟩ := list32X (idc e.id).toList (by rw [Array.length_toList, idc_size, h])
  have e1 : idc e.id = #[a0, a1, a2, a3, a4, a5, a6, a7, a8, a9, a10, a11, a12, a13, a14, a15, a16, a17, a18, a19, a20, a21, a22, a23, a24, a25, a26, a27, a28, a29, a30, a31] := by rw [← Array.toArray_toList (xs := idc e.id), hl]
  have e2 : xeC e = #[a0, a1, a2, a3, a4, a5, a6, a7, a8, a9, a10, a11, a12, a13, a14, a15, a16, a17, a18, a19, a20, a21, a22, a23, a24, a25, a26, a27, a28, a29, a30, a31, .int .u8 (e.k.toNat : Int), .int .i64 e.off, .int .i64 e.sz] := by rw [xeC, hl]; rfl
  rw [e1, e2]
  exact built32X _ _ _ _ _ _ _ _ _ _ _ _ _ _ _ _ _ _ _ _ _ _ _ _ _ _ _ _ _ _ _ _ _ _ _
/-- An entry of nothing. -/
def z35X : Array Value := #[.int .u8 0, .int .u8 0, .int .u8 0, .int .u8 0, .int .u8 0, .int .u8 0, .int .u8 0, .int .u8 0, .int .u8 0, .int .u8 0, .int .u8 0, .int .u8 0, .int .u8 0, .int .u8 0, .int .u8 0, .int .u8 0, .int .u8 0, .int .u8 0, .int .u8 0, .int .u8 0, .int .u8 0, .int .u8 0, .int .u8 0, .int .u8 0, .int .u8 0, .int .u8 0, .int .u8 0, .int .u8 0, .int .u8 0, .int .u8 0, .int .u8 0, .int .u8 0, .int .u8 0, .int .i64 0, .int .i64 0]
theorem inf_xe : (Tryz.prog.info? 34).map (fun i => (i.zero, i.size, i.bytes)) = some (some (.agg z35X), 35, 56) := by kernel_rfl
theorem inf_xe35 : (Tryz.prog.info? 34).map (·.size) = some 35 := by kernel_rfl
theorem info_xe {C : Array Value} (h : C.size = 35) : (Tryz.prog.info? 34).map (·.size) = some C.size := by rw [h]; exact inf_xe35
set_option maxRecDepth 100000 in
theorem fill35X (a0 a1 a2 a3 a4 a5 a6 a7 a8 a9 a10 a11 a12 a13 a14 a15 a16 a17 a18 a19 a20 a21 a22 a23 a24 a25 a26 a27 a28 a29 a30 a31 : Value) (k a n : Int) : Instr.fill (fun i => some (i * 35, 35)) ((Array.range (1 * 35)).map (z35X[· % z35X.size]!)) [(0, .agg #[a0, a1, a2, a3, a4, a5, a6, a7, a8, a9, a10, a11, a12, a13, a14, a15, a16, a17, a18, a19, a20, a21, a22, a23, a24, a25, a26, a27, a28, a29, a30, a31, .int .u8 k, .int .i64 a, .int .i64 n])] = some #[a0, a1, a2, a3, a4, a5, a6, a7, a8, a9, a10, a11, a12, a13, a14, a15, a16, a17, a18, a19, a20, a21, a22, a23, a24, a25, a26, a27, a28, a29, a30, a31, .int .u8 k, .int .i64 a, .int .i64 n] := by kernel_rfl
theorem slice_xe (e : Xe) (h : e.id.size = 32) (w : World) : (Instr.buildSlice 25 1 #[(0, .agg (xeC e))]).run Tryz.prog w = .ok (.slice (some ⟨w.heap.size, 0, none⟩) 1 1) (w.alloc (.cells (xeC e) 34)) := by
  obtain ⟨i0, hi, hz0, hz1, hz2⟩ := info_parts inf_xe
  refine run_buildSlice w _ 34 1 _ _ i0 (.agg z35X) Tryz.underlying25 hi hz0 (by rw [hz1]; decide) (by rw [hz1]; decide) ?_
  obtain ⟨a0, a1, a2, a3, a4, a5, a6, a7, a8, a9, a10, a11, a12, a13, a14, a15, a16, a17, a18, a19, a20, a21, a22, a23, a24, a25, a26, a27, a28, a29, a30, a31, hl⟩ := list32X (idc e.id).toList (by rw [Array.length_toList, idc_size, h])
  have e2 : xeC e = #[a0, a1, a2, a3, a4, a5, a6, a7, a8, a9, a10, a11, a12, a13, a14, a15, a16, a17, a18, a19, a20, a21, a22, a23, a24, a25, a26, a27, a28, a29, a30, a31, .int .u8 (e.k.toNat : Int), .int .i64 e.off, .int .i64 e.sz] := by rw [xeC, hl]; rfl
  rw [e2, hz1]
  exact fill35X _ _ _ _ _ _ _ _ _ _ _ _ _ _ _ _ _ _ _ _ _ _ _ _ _ _ _ _ _ _ _ _ _ _ _
/-- Entries as cells. -/
def xvs (l : List Xe) : List Value := l.flatMap (fun e => (xeC e).toList)
theorem xvs_snoc (l : List Xe) (e : Xe) : xvs (l ++ [e]) = xvs l ++ (xeC e).toList := by simp [xvs]
theorem xvs_len : ∀ {l : List Xe}, (∀ e ∈ l, e.id.size = 32) → (xvs l).length = l.length * 35
  | [], _ => rfl
  | e :: l, h => by
    have ih := xvs_len (l := l) (fun x hx => h x (List.mem_cons_of_mem _ hx))
    show ((xeC e).toList ++ xvs l).length = _
    rw [List.length_append, ih, Array.length_toList, xeC_size e (h e (List.mem_cons_self ..)), List.length_cons]; omega
theorem xvs_one (l : List Xe) : ∀ v ∈ xvs l, v.oneCell' = true := by
  intro v hv
  obtain ⟨e, _, h⟩ := List.mem_flatMap.1 hv
  exact xeC_one e v h
theorem xvs_get : ∀ {l : List Xe}, (∀ e ∈ l, e.id.size = 32) → ∀ {i : Nat} {e : Xe}, l[i]? = some e → ∀ j, j < 35 → (xvs l)[i * 35 + j]? = (xeC e)[j]?
  | [], _, i, e, h, _, _ => by simp at h
  | x :: l, hs, 0, e, h, j, hj => by
    simp only [List.getElem?_cons_zero, Option.some.injEq] at h
    subst h
    show ((xeC x).toList ++ xvs l)[0 * 35 + j]? = _
    rw [Nat.zero_mul, Nat.zero_add, List.getElem?_append_left (by rw [Array.length_toList, xeC_size x (hs x (List.mem_cons_self ..))]; exact hj), Array.getElem?_toList]
  | x :: l, hs, i + 1, e, h, j, hj => by
    rw [List.getElem?_cons_succ] at h
    show ((xeC x).toList ++ xvs l)[(i + 1) * 35 + j]? = _
    rw [List.getElem?_append_right (by rw [Array.length_toList, xeC_size x (hs x (List.mem_cons_self ..))]; omega), Array.length_toList, xeC_size x (hs x (List.mem_cons_self ..)), ← xvs_get (l := l) (fun y hy => hs y (List.mem_cons_of_mem _ hy)) h j hj]
    congr 1
    omega
/-- Entries of a slice. -/
def XeL (w : World) (a : Option Addr) (l : List Xe) : Prop := ∀ i e, l[i]? = some e → e.id.size = 32 ∧ ∃ g o, a = some ⟨g, o, none⟩ ∧ g < w.heap.size ∧ ∀ j v, (xeC e)[j]? = some v → w.cell? ⟨g, o + i * 35 + j, none⟩ = some v
theorem XeL.below {w w' : World} {a : Option Addr} {l : List Xe} (h : XeL w a l) (hb : Below w.heap.size w w') : XeL w' a l := fun i e he => by
  obtain ⟨h1, g, o, h2, h3, h4⟩ := h i e he
  exact ⟨h1, g, o, h2, Nat.lt_of_lt_of_le h3 hb.size, fun j v hv => by rw [hb.cell (p := ⟨g, o + i * 35 + j, none⟩) h3]; exact h4 j v hv⟩
theorem XeL.ids {w : World} {a : Option Addr} {l : List Xe} (h : XeL w a l) : ∀ e ∈ l, e.id.size = 32 := fun e he => by
  obtain ⟨i, hi⟩ := List.getElem?_of_mem he
  exact (h i e hi).1
theorem own_xel {w : World} {B n : Nat} {v : Value} {T : TypeId} {l : List Xe} (h : w.ownsRow B T 35 v n (xvs l)) (hn : l.length = n) (hs : ∀ e ∈ l, e.id.size = 32) : ∃ a c, v = .slice a n c ∧ XeL w a l ∧ n ≤ c ∧ (a = none ∧ n = 0 ∨ ∃ g, a = some ⟨g, 0, none⟩ ∧ B ≤ g) := by
  rcases h.2 with ⟨h1, h0⟩ | ⟨g, cap, cur, h1, hle, hg, hnc, hsz, hone, ht⟩
  · subst h1
    refine ⟨none, 0, by rw [h0], fun i e he => ?_, by omega, .inl ⟨rfl, h0⟩⟩
    have : l = [] := List.length_eq_zero_iff.1 (by omega)
    rw [this] at he
    cases he
  · refine ⟨some ⟨g, 0, none⟩, cap, h1, fun i e he => ?_, hnc, .inr ⟨g, rfl, hle⟩⟩
    have hb : Bk w g cur T := hg
    have hi : i < l.length := (List.getElem?_eq_some_iff.1 he).1
    refine ⟨hs e (List.mem_of_getElem? he), g, 0, rfl, hb.lt, fun j u hu => ?_⟩
    have hj : j < 35 := by
      have := (Array.getElem?_eq_some_iff.1 hu).1
      rwa [xeC_size e (hs e (List.mem_of_getElem? he))] at this
    have := xvs_get hs he j hj
    rw [hu, ← ht, List.getElem?_take, if_pos (by omega), Array.getElem?_toList] at this
    rw [hb.cell, Nat.zero_add]
    exact this
end Go.Proofs.YtpfknjnigcefgaaGreatDoor
/- bytes.Compare, digest.Less. -/
namespace Go.Proofs.YtpfknjnigcefgaaGreatDoor
open Go.RowKit
set_option linter.unusedSimpArgs false
set_option linter.unusedVariables false
theorem byl_back (s : ByteArray) : Lib.bytesOf ((byl s).map Int.ofNat) = s.data.toList := by
  simp only [Lib.bytesOf, byl, List.map_map]
  conv => rhs; rw [← List.map_id s.data.toList]
  apply List.map_congr_left
  intro x _
  simp
theorem load_id (s : ByteArray) (g : Nat) (T : TypeId) (w : World) (hs : s.size = 32) (hB : Blk w g (idc s) T) {P : Program} :
    (Extern.Bytes.bytesOf (.slice (some ⟨g, 0, none⟩) 32 32)).run P w = .ok s w := by
  have h := Lib.run_loadBytesX (P := P) w ((byl s).map Int.ofNat) ⟨g, 0, none⟩ .empty (fun j x hj => by
    have hjl : j < s.size := by have := (List.getElem?_eq_some_iff.1 hj).1; simpa [byl_length] using this
    rw [Addr.add_mid, Nat.zero_add, hB.cell, idc_get s j hjl]
    rw [List.getElem?_map, byl_getD s j hjl] at hj
    simp only [Option.map_some, Option.some.injEq] at hj
    rw [← hj]; rfl)
  rw [byl_back, show ((byl s).map Int.ofNat).length = 32 from by simp [byl_length, hs]] at h
  show (Extern.Bytes.loadBytes ⟨g, 0, none⟩ 32 .empty).run P w = _
  rw [h]
  congr 1
  apply ByteArray.ext
  simp [ByteArray.empty, ByteArray.emptyWithCapacity]
  rfl
/-- What bytes.Compare says of two names. -/
def cmpId (a b : ByteArray) : Int := Lib.compareBytes a.data.toList b.data.toList
theorem compare_ids (a b : ByteArray) (ga gb : Nat) (Ta Tb : TypeId) (w : World) (ha : a.size = 32) (hb : b.size = 32) (hA : Blk w ga (idc a) Ta) (hB : Blk w gb (idc b) Tb) {P : Program} :
    (Extern.BytealgCompare.compare #[.slice (some ⟨ga, 0, none⟩) 32 32, .slice (some ⟨gb, 0, none⟩) 32 32]).run P w = .ok (.int .i64 (cmpId a b)) w := by
  change Sem.run P (do pure (goInt (Extern.BytealgCompare.cmp (← Extern.Bytes.bytesOf (.slice (some ⟨ga, 0, none⟩) 32 32)) (← Extern.Bytes.bytesOf (.slice (some ⟨gb, 0, none⟩) 32 32))))) w = _
  simp only [Sem.run_bind, load_id a ga Ta w ha hA, load_id b gb Tb w hb hB, Result.andThen, Sem.run_pure]
  rw [Lib.cmp_eq]
  rfl
set_option maxHeartbeats 400000 in
set_option maxRecDepth 100000 in
theorem bcompare_any (a b : ByteArray) (ga gb : Nat) (Ta Tb : TypeId) (w : World) (ha : a.size = 32) (hb : b.size = 32) (hA : Blk w ga (idc a) Ta) (hB : Blk w gb (idc b) Tb) :
    Calls Tryz.prog 101 #[.slice (some ⟨ga, 0, none⟩) 32 32, .slice (some ⟨gb, 0, none⟩) 32 32] w fun e w' => e = .returned (.int .i64 (cmpId a b)) ∧ w' = w := by
  have HC := compare_ids a b ga gb Ta Tb w ha hb hA hB (P := Tryz.prog)
  have HH : Hid ((Extern.BytealgCompare.compare #[.slice (some ⟨ga, 0, none⟩) 32 32, .slice (some ⟨gb, 0, none⟩) 32 32]).run Tryz.prog w = .ok (.int .i64 (cmpId a b)) w) := HC
  clear HC hA hB
  go_enter Tryz.func101, Tryz.ntmps101
  go_wp2
  rw [run_callFunc_extern Tryz.func127 (by kernel_rfl) (by kernel_rfl) (by kernel_rfl) (e := Extern.BytealgCompare.compare) (by kernel_rfl), HH.out]
  simp only [Result.andThen]
  rw [Oper.upon_value]
  go_wp2
  go_ret
  exact ⟨rfl, rfl⟩
def lessB (a b : ByteArray) : Bool := decide (cmpId a b < 0)
set_option maxHeartbeats 400000 in
set_option maxRecDepth 100000 in
theorem less_any (a b : ByteArray) (w : World) (ha : a.size = 32) (hb : b.size = 32) :
    Calls Tryz.prog 59 #[.agg (idc a), .agg (idc b)] w fun e w' => e = .returned (.bool (lessB a b)) ∧ Below w.heap.size w w' := by
  have h1 := slice32 w.heap.size
  have h2 := slice32 (w.heap.size + 1)
  go_enter Tryz.func59, Tryz.ntmps59
  go_wp2
  have hA : Blk ((w.alloc (.cells (idc a) 23)).alloc (.cells (idc b) 23)) w.heap.size (idc a) 23 := Blk.grown (blk_new w _) (World.grownBy_alloc _ _ none) (by simp)
  have hB : Blk ((w.alloc (.cells (idc a) 23)).alloc (.cells (idc b) 23)) (w.heap.size + 1) (idc b) 23 := by
    have e := blk_new (w.alloc (.cells (idc a) 23)) (.cells (idc b) 23)
    rwa [alloc_size] at e
  have HAB : Hid (Blk ((w.alloc (.cells (idc a) 23)).alloc (.cells (idc b) 23)) w.heap.size (idc a) 23 ∧ Blk ((w.alloc (.cells (idc a) 23)).alloc (.cells (idc b) 23)) (w.heap.size + 1) (idc b) 23) := ⟨hA, hB⟩
  clear hA hB
  go_quiet ((go_at_call 101; exact Calls.quiet_of_same (bcompare_any a b _ _ 23 23 _ ha hb (HAB.out.1.drewN _) (HAB.out.2.drewN _))))
  go_wp2
  go_ret
  refine ⟨rfl, ?_⟩
  exact below_of_grown (((World.grownBy_alloc w _ none).trans (World.grownBy_alloc _ _ none)).trans (grown_drewN _ nq none))
end Go.Proofs.YtpfknjnigcefgaaGreatDoor
