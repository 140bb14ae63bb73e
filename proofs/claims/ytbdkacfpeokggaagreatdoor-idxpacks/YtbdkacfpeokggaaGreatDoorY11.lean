import Derived.Test.YtbdkacfpeokggaaGreatDoorY10
import Derived.Test.YtbdkacfpeokggaaGreatDoorY5
import Derived.Great.BuildSlice
import Derived.Maps.AppendAt
import Derived.OwnWalk
import Derived.Test.YtbdkacfpeokggaaGreatDoorY6
import Derived.Laws.ResultCell
import Derived.Test.YtbdkacfpeokggaaGreatDoorY1
import Derived.Lib.BytesEntry
import Derived.Laws.Externs
import Derived.Deep.QuietTactic
import Derived.BigQuiet
/- Entries in memory, as they may come in. -/
namespace Go.Proofs.YtbdkacfpeokggaaGreatDoor
open Go.RowKit
set_option linter.unusedSimpArgs false
set_option linter.unusedVariables false
/-- An entry's cells. -/
def xeC (e : Xe) : Array Value := ((idc e.id).toList ++ [Value.int .u8 (e.k.toNat : Int), Value.int .i64 e.off, Value.int .i64 e.sz]).toArray
theorem xeC_size (e : Xe) (h : e.id.size = 32) : (xeC e).size = 35 := by simp [xeC, idc_size, h]
theorem idc_oneX (s : ByteArray) : ∀ v ∈ (idc s).toList, v.oneCell' = true := by
  intro v hv
  rw [idc] at hv
  exact bvc_one _ v (by simpa using hv)
theorem xeC_one (e : Xe) : ∀ v ∈ (xeC e).toList, v.oneCell' = true := by
  intro v hv
  simp only [xeC, List.mem_append, List.mem_cons] at hv
  rcases hv with h | h | h | h | h
  · exact idc_oneX _ v h
  · subst h; rfl
  · subst h; rfl
  · subst h; rfl
  · cases h
theorem xeC_all (e : Xe) : (xeC e).all (·.oneCell') = true := Array.all_eq_true_iff_forall_mem.2 (fun v hv => xeC_one e v (by simpa using hv))
theorem idc_allX (s : ByteArray) : (idc s).all (·.oneCell') = true := Array.all_eq_true_iff_forall_mem.2 (fun v hv => idc_oneX s v (by simpa using hv))
theorem xeC_id (e : Xe) (h : e.id.size = 32) (j : Nat) (v : Value) (hv : (idc e.id)[j]? = some v) : (xeC e)[0 + j]? = some v := by
  have hj : j < 32 := by
    have := (Array.getElem?_eq_some_iff.1 hv).1
    rwa [idc_size, h] at this
  rw [Nat.zero_add, xeC, List.getElem?_toArray, List.getElem?_append_left (by rw [Array.length_toList, idc_size]; omega), Array.getElem?_toList]
  exact hv
theorem xeC_at (e : Xe) (h : e.id.size = 32) : (xeC e)[32]? = some (.int .u8 (e.k.toNat : Int)) ∧ (xeC e)[33]? = some (.int .i64 e.off) ∧ (xeC e)[34]? = some (.int .i64 e.sz) := by
  have hl : (idc e.id).toList.length = 32 := by rw [Array.length_toList, idc_size, h]
  refine ⟨?_, ?_, ?_⟩ <;> rw [xeC, List.getElem?_toArray, List.getElem?_append_right (by omega), hl] <;> rfl
theorem list32X (l : List Value) (h : l.length = 32) : ∃ a0 a1 a2 a3 a4 a5 a6 a7 a8 a9 a10 a11 a12 a13 a14 a15 a16 a17 a18 a19 a20 a21 a22 a23 a24 a25 a26 a27 a28 a29 a30 a31, l = [a0, a1, a2, a3, a4, a5, a6, a7, a8, a9, a10, a11, a12, a13, a14, a15, a16, a17, a18, a19, a20, a21, a22, a23, a24, a25, a26, a27, a28, a29, a30, a31] := by
  match l, h with
  | [a0, a1, a2, a3, a4, a5, a6, a7, a8, a9, a10, a11, a12, a13, a14, a15, a16, a17, a18, a19, a20, a21, a22, a23, a24, a25, a26, a27, a28, a29, a30, a31], _ => exact ⟨_, _, _, _, _, _, _, _, _, _, _, _, _, _, _, _, _, _, _, _, _, _, _, _, _, _, _, _, _, _, _, _, rfl⟩
set_option maxRecDepth 100000 in
theorem built32X (a0 a1 a2 a3 a4 a5 a6 a7 a8 a9 a10 a11 a12 a13 a14 a15 a16 a17 a18 a19 a20 a21 a22 a23 a24 a25 a26 a27 a28 a29 a30 a31 : Value) (k a n : Int) : Tryz.prog.built 34 [(0, .agg #[a0, a1, a2, a3, a4, a5, a6, a7, a8, a9, a10, a11, a12, a13, a14, a15, a16, a17, a18, a19, a20, a21, a22, a23, a24, a25, a26, a27, a28, a29, a30, a31]), (1, .int .u8 k), (2, .int .i64 a), (3, .int .i64 n)] = some #[a0, a1, a2, a3, a4, a5, a6, a7, a8, a9, a10, a11, a12, a13, a14, a15, a16, a17, a18, a19, a20, a21, a22, a23, a24, a25, a26, a27, a28, a29, a30, a31, .int .u8 k, .int .i64 a, .int .i64 n] := by kernel_rfl
theorem build_xe (e : Xe) (h : e.id.size = 32) (w : World) : (Instr.build 34 #[(0, .agg (idc e.id)), (1, .int .u8 (e.k.toNat : Int)), (2, .int .i64 e.off), (3, .int .i64 e.sz)]).run Tryz.prog w = .ok (.agg (xeC e)) w := by
  refine run_build w _ _ _ ?_
  obtain ⟨a0, a1, a2, a3, a4, a5, a6, a7, a8, a9, a10, a11, a12, a13, a14, a15, a16, a17, a18, a19, a20, a21, a22, a23, a24, a25, a26, a27, a28, a29, a30, a31, hl⟩ := list32X (idc e.id).toList (by rw [Array.length_toList, idc_size, h])
  have e1 : idc e.id = #[a0, a1, a2, a3, a4, a5, a6, a7, a8, a9, a10, a11, a12, a13, a14, a15, a16, a17, a18, a19, a20, a21, a22, a23, a24, a25, a26, a27, a28, a29, a30, a31] := by rw [← Array.toArray_toList (xs := idc e.id), hl]
  have e2 : xeC e = #[a0, a1, a2, a3, a4, a5, a6, a7, a8, a9, a10, a11, a12, a13, a14, a15, a16, a17, a18, a19, a20, a21, a22, a23, a24, a25, a26, a27, a28, a29, a30, a31, .int .u8 (e.k.toNat : Int), .int .i64 e.off, .int .i64 e.sz] := by rw [xeC, hl]; rfl
  rw [e1, e2]
  exact built32X _ _ _ _ _ _ _ _ _ _ _ _ _ _ _ _ _ _ _ _ _ _ _ _ _ _ _ _ _ _ _ _ _ _ _
/-- An entry of nothing. -/
def z35X : Array Value := #[.int .u8 0, .int .u8 0, .int .u8 0, .int .u8 0, .int .u8 0, .int .u8 0, .int .u8 0, .int .u8 0, .int .u8 0, .int .u8 0, .int .u8 0, .int .u8 0, .int .u8 0, .int .u8 0, .int .u8 0, .int .u8 0, .int .u8 0, .int .u8 0, .int .u8 0, .int .u8 0, .int .u8 0, .int .u8 0, .int .u8 0, .int .u8 0, .int .u8 0, .int .u8 0, .int .u8 0, .int .u8 0, .int .u8 0, .int .u8 0, .int .u8 0, .int .u8 0, .int .u8 0, .int .i64 0, .int .i64 0]
theorem inf_xe : (Tryz.prog.info? 34).map (fun i => (i.zero, i.size, i.bytes)) = some (some (.agg z35X), 35, 56) := by kernel_rfl
theorem inf_xe35 : (Tryz.prog.info? 34).map (·.size) = some 35 := by kernel_rfl
theorem info_xe {C : Array Value} (h : C.size = 35) : (Tryz.prog.info? 34).map (·.size) = some C.size := by rw [h]; exact inf_xe35
set_option maxRecDepth 100000 in
theorem fill35X (a0 a1 a2 a3 a4 a5 a6 a7 a8 a9 a10 a11 a12 a13 a14 a15 a16 a17 a18 a19 a20 a21 a22 a23 a24 a25 a26 a27 a28 a29 a30 a31 : Value) (k a n : Int) : Instr.fill (fun i => some (i * 35, 35)) ((Array.range (1 * 35)).map (z35X[· % z35X.size]!)) [(0, .agg #[a0, a1, a2, a3, a4, a5, a6, a7, a8, a9, a10, a11, a12, a13, a14, a15, a16, a17, a18, a19, a20, a21, a22, a23, a24, a25, a26, a27, a28, a29, a30, a31, .int .u8 k, .int .i64 a, .int .i64 n])] = some #[a0, a1, a2, a3, a4, a5, a6, a7, a8, a9, a10, a11, a12, a13, a14, a15, a16, a17, a18, a19, a20, a21, a22, a23, a24, a25, a26, a27, a28, a29, a30, a31, .int .u8 k, .int .i64 a, .int .i64 n] := by kernel_rfl
theorem slice_xe (e : Xe) (h : e.id.size = 32) (w : World) : (Instr.buildSlice 25 1 #[(0, .agg (xeC e))]).run Tryz.prog w = .ok (.slice (some ⟨w.heap.size, 0, none⟩) 1 1) (w.alloc (.cells (xeC e) 34)) := by
  obtain ⟨i0, hi, hz0, hz1, hz2⟩ := info_parts inf_xe
  refine run_buildSlice w _ 34 1 _ _ i0 (.agg z35X) Tryz.underlying25 hi hz0 (by rw [hz1]; decide) (by rw [hz1]; decide) ?_
  obtain ⟨a0, a1, a2, a3, a4, a5, a6, a7, a8, a9, a10, a11, a12, a13, a14, a15, a16, a17, a18, a19, a20, a21, a22, a23, a24, a25, a26, a27, a28, a29, a30, a31, hl⟩ := list32X (idc e.id).toList (by rw [Array.length_toList, idc_size, h])
  have e2 : xeC e = #[a0, a1, a2, a3, a4, a5, a6, a7, a8, a9, a10, a11, a12, a13, a14, a15, a16, a17, a18, a19, a20, a21, a22, a23, a24, a25, a26, a27, a28, a29, a30, a31, .int .u8 (e.k.toNat : Int), .int .i64 e.off, .int .i64 e.sz] := by rw [xeC, hl]; rfl
  rw [e2, hz1]
  exact fill35X _ _ _ _ _ _ _ _ _ _ _ _ _ _ _ _ _ _ _ _ _ _ _ _ _ _ _ _ _ _ _ _ _ _ _
/-- Entries as cells. -/
def xvs (l : List Xe) : List Value := l.flatMap (fun e => (xeC e).toList)
theorem xvs_snoc (l : List Xe) (e : Xe) : xvs (l ++ [e]) = xvs l ++ (xeC e).toList := by simp [xvs]
theorem xvs_len : ∀ {l : List Xe}, (∀ e ∈ l, e.id.size = 32) → (xvs l).length = l.length * 35
  | [], _ => rfl
  | e :: l, h => by
    have ih := xvs_len (l := l) (fun x hx => h x (List.mem_cons_of_mem _ hx))
    show ((xeC e).toList ++ xvs l).length = _
    rw [List.length_append, ih, Array.length_toList, xeC_size e (h e (List.mem_cons_self ..)), List.length_cons]; omega
theorem xvs_one (l : List Xe) : ∀ v ∈ xvs l, v.oneCell' = true := by
  intro v hv
  obtain ⟨e, _, h⟩ := List.mem_flatMap.1 hv
  exact xeC_one e v h
theorem xvs_get : ∀ {l : List Xe}, (∀ e ∈ l, e.id.size = 32) → ∀ {i : Nat} {e : Xe}, l[i]? = some e → ∀ j, j < 35 → (xvs l)[i * 35 + j]? = (xeC e)[j]?
  | [], _, i, e, h, _, _ => by simp at h
  | x :: l, hs, 0, e, h, j, hj => by
    simp only [List.getElem?_cons_zero, Option.some.injEq] at h
    subst h
    show ((xeC x).toList ++ xvs l)[0 * 35 + j]? = _
    rw [Nat.zero_mul, Nat.zero_add, List.getElem?_append_left (by rw [Array.length_toList, xeC_size x (hs x (List.mem_cons_self ..))]; exact hj), Array.getElem?_toList]
  | x :: l, hs, i + 1, e, h, j, hj => by
    rw [List.getElem?_cons_succ] at h
    show ((xeC x).toList ++ xvs l)[(i + 1) * 35 + j]? = _
    rw [List.getElem?_append_right (by rw [Array.length_toList, xeC_size x (hs x (List.mem_cons_self ..))]; omega), Array.length_toList, xeC_size x (hs x (List.mem_cons_self ..)), ← xvs_get (l := l) (fun y hy => hs y (List.mem_cons_of_mem _ hy)) h j hj]
    congr 1
    omega
/-- Entries of a slice. -/
def XeL (w : World) (a : Option Addr) (l : List Xe) : Prop := ∀ i e, l[i]? = some e → e.id.size = 32 ∧ ∃ g o, a = some ⟨g, o, none⟩ ∧ g < w.heap.size ∧ ∀ j v, (xeC e)[j]? = some v → w.cell? ⟨g, o + i * 35 + j, none⟩ = some v
theorem XeL.below {w w' : World} {a : Option Addr} {l : List Xe} (h : XeL w a l) (hb : Below w.heap.size w w') : XeL w' a l := fun i e he => by
  obtain ⟨h1, g, o, h2, h3, h4⟩ := h i e he
  exact ⟨h1, g, o, h2, Nat.lt_of_lt_of_le h3 hb.size, fun j v hv => by rw [hb.cell (p := ⟨g, o + i * 35 + j, none⟩) h3]; exact h4 j v hv⟩
theorem XeL.ids {w : World} {a : Option Addr} {l : List Xe} (h : XeL w a l) : ∀ e ∈ l, e.id.size = 32 := fun e he => by
  obtain ⟨i, hi⟩ := List.getElem?_of_mem he
  exact (h i e hi).1
theorem own_xel {w : World} {B n : Nat} {v : Value} {T : TypeId} {l : List Xe} (h : w.ownsRow B T 35 v n (xvs l)) (hn : l.length = n) (hs : ∀ e ∈ l, e.id.size = 32) : ∃ a c, v = .slice a n c ∧ XeL w a l ∧ n ≤ c ∧ (a = none ∧ n = 0 ∨ ∃ g, a = some ⟨g, 0, none⟩ ∧ B ≤ g) := by
  rcases h.2 with ⟨h1, h0⟩ | ⟨g, cap, cur, h1, hle, hg, hnc, hsz, hone, ht⟩
  · subst h1
    refine ⟨none, 0, by rw [h0], fun i e he => ?_, by omega, .inl ⟨rfl, h0⟩⟩
    have : l = [] := List.length_eq_zero_iff.1 (by omega)
    rw [this] at he
    cases he
  · refine ⟨some ⟨g, 0, none⟩, cap, h1, fun i e he => ?_, hnc, .inr ⟨g, rfl, hle⟩⟩
    have hb : Bk w g cur T := hg
    have hi : i < l.length := (List.getElem?_eq_some_iff.1 he).1
    refine ⟨hs e (List.mem_of_getElem? he), g, 0, rfl, hb.lt, fun j u hu => ?_⟩
    have hj : j < 35 := by
      have := (Array.getElem?_eq_some_iff.1 hu).1
      rwa [xeC_size e (hs e (List.mem_of_getElem? he))] at this
    have := xvs_get hs he j hj
    rw [hu, ← ht, List.getElem?_take, if_pos (by omega), Array.getElem?_toList] at this
    rw [hb.cell, Nat.zero_add]
    exact this
end Go.Proofs.YtbdkacfpeokggaaGreatDoor
/- Operations that build something or append, by their run's equation; no program named. -/
namespace Go.Proofs.YtbdkacfpeokggaaGreatDoor
open Go.RowKit
set_option linter.unusedSimpArgs false
set_option linter.unusedVariables false
theorem wpList_bdX2 {P : Program} {ops : Array Oper} {rest : List Oper} {o : Oper} {a : Act} {w : World} {Q : Exit → Act → World → Prop} (hgd : o.guard = none) (t : TypeId) (i j : Nat) (x0 x1 : Operand)
    (ho : o.op = .build t #[(i, x0), (j, x1)]) (v0 v1 r : Value) (h0 : a.eval x0 = v0) (h1 : a.eval x1 = v1) (hr : (Instr.build t #[(i, v0), (j, v1)]).run P w = .ok r w)
    (h : wpList P ops Q rest (a.put o.dst r) w) : wpList P ops Q (o :: rest) a w := by
  refine wpList_plain hgd fun K hK => ?_
  unfold Oper.wp execOp
  simp only [ho, Sem.run_bind, Sem.run_pure, Result.andThen_ok, List.map_toArray, List.map_cons, List.map_nil, h0, h1, hr]
  exact hK _ _ h
theorem wpList_bdX1 {P : Program} {ops : Array Oper} {rest : List Oper} {o : Oper} {a : Act} {w : World} {Q : Exit → Act → World → Prop} (hgd : o.guard = none) (t : TypeId) (i : Nat) (x0 : Operand)
    (ho : o.op = .build t #[(i, x0)]) (v0 r : Value) (h0 : a.eval x0 = v0) (hr : (Instr.build t #[(i, v0)]).run P w = .ok r w)
    (h : wpList P ops Q rest (a.put o.dst r) w) : wpList P ops Q (o :: rest) a w := by
  refine wpList_plain hgd fun K hK => ?_
  unfold Oper.wp execOp
  simp only [ho, Sem.run_bind, Sem.run_pure, Result.andThen_ok, List.map_toArray, List.map_cons, List.map_nil, h0, hr]
  exact hK _ _ h
theorem wpList_bdX0 {P : Program} {ops : Array Oper} {rest : List Oper} {o : Oper} {a : Act} {w : World} {Q : Exit → Act → World → Prop} (hgd : o.guard = none) (t : TypeId)
    (ho : o.op = .build t #[]) (r : Value) (hr : (Instr.build t #[]).run P w = .ok r w)
    (h : wpList P ops Q rest (a.put o.dst r) w) : wpList P ops Q (o :: rest) a w := by
  refine wpList_plain hgd fun K hK => ?_
  unfold Oper.wp execOp
  simp only [ho, Sem.run_bind, Sem.run_pure, Result.andThen_ok, List.map_toArray, List.map_nil, hr]
  exact hK _ _ h
theorem wpList_bdX4 {P : Program} {ops : Array Oper} {rest : List Oper} {o : Oper} {a : Act} {w : World} {Q : Exit → Act → World → Prop} (hgd : o.guard = none) (t : TypeId) (x0 x1 x2 x3 : Operand)
    (ho : o.op = .build t #[(0, x0), (1, x1), (2, x2), (3, x3)]) (v0 v1 v2 v3 r : Value) (h0 : a.eval x0 = v0) (h1 : a.eval x1 = v1) (h2 : a.eval x2 = v2) (h3 : a.eval x3 = v3) (hr : (Instr.build t #[(0, v0), (1, v1), (2, v2), (3, v3)]).run P w = .ok r w)
    (h : wpList P ops Q rest (a.put o.dst r) w) : wpList P ops Q (o :: rest) a w := by
  refine wpList_plain hgd fun K hK => ?_
  unfold Oper.wp execOp
  simp only [ho, Sem.run_bind, Sem.run_pure, Result.andThen_ok, List.map_toArray, List.map_cons, List.map_nil, h0, h1, h2, h3, hr]
  exact hK _ _ h
theorem wpList_bsX {P : Program} {ops : Array Oper} {rest : List Oper} {o : Oper} {a : Act} {w : World} {Q : Exit → Act → World → Prop} (hgd : o.guard = none) (t : TypeId) (x : Operand)
    (ho : o.op = .buildSlice t 1 #[(0, x)]) (v r : Value) (w' : World) (hx : a.eval x = v) (hr : (Instr.buildSlice t 1 #[(0, v)]).run P w = .ok r w')
    (h : wpList P ops Q rest (a.put o.dst r) w') : wpList P ops Q (o :: rest) a w := by
  refine wpList_plain hgd fun K hK => ?_
  unfold Oper.wp execOp
  simp only [ho, Sem.run_bind, Sem.run_pure, Result.andThen_ok, List.map_toArray, List.map_cons, List.map_nil, hx, hr]
  exact hK _ _ h
theorem wpList_appX {P : Program} {ops : Array Oper} {rest : List Oper} {o : Oper} {a : Act} {w : World} {Q : Exit → Act → World → Prop} (hgd : o.guard = none) (sl x : Operand) (t u : TypeId)
    (ho : o.op = .call { callee := .builtin .append, args := #[sl, x], argTypes := #[t, u] }) (v y v' : Value) (w' : World) (hs : a.eval sl = v) (hx : a.eval x = y) (hr : (Builtin.append_ #[t, u] o.type #[v, y]).run P w = .ok v' w')
    (h : wpList P ops Q rest (a.put o.dst v') w') : wpList P ops Q (o :: rest) a w := by
  refine wpList_plain hgd fun K hK => ?_
  unfold Oper.wp execOp
  simp only [ho, resolve, invoke, builtin, Sem.run_bind, Sem.run_pure, Result.andThen_ok, List.map_toArray, List.map_cons, List.map_nil, hs, hx, hr]
  exact hK _ _ h
theorem wpList_copyX {P : Program} {ops : Array Oper} {rest : List Oper} {o : Oper} {a : Act} {w : World} {Q : Exit → Act → World → Prop} (hgd : o.guard = none) (sl x : Operand) (t u : TypeId)
    (ho : o.op = .call { callee := .builtin .copy, args := #[sl, x], argTypes := #[t, u] }) (v y v' : Value) (w' : World) (hs : a.eval sl = v) (hx : a.eval x = y) (hr : (Builtin.copy_ #[t, u] o.type #[v, y]).run P w = .ok v' w')
    (h : wpList P ops Q rest (a.put o.dst v') w') : wpList P ops Q (o :: rest) a w := by
  refine wpList_plain hgd fun K hK => ?_
  unfold Oper.wp execOp
  simp only [ho, resolve, invoke, builtin, Sem.run_bind, Sem.run_pure, Result.andThen_ok, List.map_toArray, List.map_cons, List.map_nil, hs, hx, hr]
  exact hK _ _ h
/-- A whole row stored. -/
theorem wpList_stoX {P : Program} {ops : Array Oper} {rest : List Oper} {o : Oper} {a : Act} {w : World} {Q : Exit → Act → World → Prop} (hgd : o.guard = none) (ty : TypeId) (x y : Operand) (ho : o.op = .store ty x y)
    (g : Nat) (cells old : Array Value) (t : TypeId) (hx : a.eval x = .pointer (some ⟨g, 0, none⟩)) (hy : a.eval y = .agg cells) (hg : Bk w g old t) (hi : (P.info? ty).map (·.size) = some cells.size)
    (hold : old.size = cells.size) (h1 : cells.all (·.oneCell') = true) (h : ∀ w', Hid (Bk w' g cells t) → Hid (w.grownBy w' (some g)) → wpList P ops Q rest (a.put o.dst undef) w') : wpList P ops Q (o :: rest) a w := by
  refine wpList_store_row hgd ty x y ho g cells hx hy t old hg hi hold h1 (h _ (setRow_heap _ _ _ _ _ _ hg) ?_)
  refine ⟨rfl, rfl, rfl, by simp [World.setRow], fun k hk hne => ?_⟩
  have : g ≠ k := fun e => hne (by rw [e])
  simp [World.setRow, Array.getElem?_modify, this]
end Go.Proofs.YtbdkacfpeokggaaGreatDoor
/- wire.Reader.Left. -/
namespace Go.Proofs.YtbdkacfpeokggaaGreatDoor
open Go.RowKit
set_option linter.unusedSimpArgs false
set_option linter.unusedVariables false
set_option maxHeartbeats 400000 in
theorem left_any (s : ByteArray) (b : Nat) (w : World) (hs : s.size ≤ maxLen) (hc : w.cell? ⟨b, 0, none⟩ = some (.string s)) :
    Calls Tryz.prog 89 #[.pointer (some ⟨b, 0, none⟩)] w fun e w' => e = .returned (.int .i64 s.size) ∧ w' = w := by
  unfold maxLen at hs
  go_enter Tryz.func89, Tryz.ntmps89
  go_wp2
  go_ret
  exact ⟨rfl, rfl⟩
set_option maxHeartbeats 400000 in
theorem left_nil (w : World) : Calls Tryz.prog 89 #[.pointer none] w fun e w' => e = .returned (.int .i64 0) ∧ w' = w := by
  go_enter Tryz.func89, Tryz.ntmps89
  go_wp2
  go_ret
  exact ⟨rfl, rfl⟩
end Go.Proofs.YtbdkacfpeokggaaGreatDoor
/- idx.takeEntry. -/
namespace Go.Proofs.YtbdkacfpeokggaaGreatDoor
open Go.RowKit
set_option linter.unusedSimpArgs false
set_option linter.unusedVariables false
theorem Step.then {b : Nat} {w w1 w2 : World} {s1 s2 : ByteArray} (h1 : Step b w w1 s1) (h2 : Step b w1 w2 s2) : Step b w w2 s2 :=
  ⟨h2.os.trans h1.os, h2.tape.trans h1.tape, h2.output.trans h1.output, Nat.le_trans h1.size h2.size, h2.cell, h2.frozen, fun k hk hne => (h2.block k (Nat.lt_of_lt_of_le hk h1.size) hne).trans (h1.block k hk hne)⟩
theorem cell_blkX {w w' : World} {r j : Nat} (h : w'.heap[r]? = w.heap[r]?) : w'.cell? ⟨r, j, none⟩ = w.cell? ⟨r, j, none⟩ ∧ w'.frozen? ⟨r, j, none⟩ = w.frozen? ⟨r, j, none⟩ := by simp [World.cell?, World.frozen?, h]
/-- An entry that is being taken: the reader, the entry's block and that of the answer. -/
structure TE (w : World) (b : Nat) (t : ByteArray) (C : Array Value) (wr : World) : Prop where
  rd : Step b w wr t
  rb : Bk wr w.heap.size z35X 34
  nb : Bk wr (w.heap.size + 1) C 34
  bl : b < w.heap.size
theorem TE.step {w wr w' : World} {b : Nat} {t t' : ByteArray} {C : Array Value} (h : TE w b t C wr) (hs : Step b wr w' t') : TE w b t' C w' := by
  have hb := h.bl
  refine ⟨h.rd.then hs, ?_, ?_, hb⟩
  · unfold Bk; rw [hs.block _ h.rb.lt (by omega)]; exact h.rb
  · unfold Bk; rw [hs.block _ h.nb.lt (by omega)]; exact h.nb
theorem TE.turn {w wr w' : World} {b : Nat} {t : ByteArray} {C C' : Array Value} (h : TE w b t C wr) (hg : wr.grownBy w' (some (w.heap.size + 1))) (hn : Bk w' (w.heap.size + 1) C' 34) : TE w b t C' w' := by
  have hb := h.bl
  have hlt : b < wr.heap.size := Nat.lt_of_lt_of_le hb h.rd.size
  have hne : ∀ k, k < w.heap.size → some k ≠ some (w.heap.size + 1) := fun k hk e => by injection e with e; omega
  have q := cell_blkX (j := 0) (hg.block b hlt (hne b hb))
  refine ⟨⟨hg.os.trans h.rd.os, hg.tape.trans h.rd.tape, hg.output.trans h.rd.output, Nat.le_trans h.rd.size hg.size, by rw [q.1]; exact h.rd.cell, by rw [q.2]; exact h.rd.frozen, fun k hk hk2 => (hg.block k (Nat.lt_of_lt_of_le hk h.rd.size) (hne k hk)).trans (h.rd.block k hk hk2)⟩, ?_, hn, hb⟩
  unfold Bk
  rw [hg.block _ h.rb.lt (fun e => by injection e with e; omega)]
  exact h.rb
theorem z35_size : z35X.size = 35 := rfl
theorem xe_eq (C : Array Value) (e : Xe) (h : e.id.size = 32) (hC : C.size = 35) (h1 : ∀ j, j < 32 → C[j]? = (idc e.id)[j]?) (h2 : C[32]? = some (.int .u8 (e.k.toNat : Int))) (h3 : C[33]? = some (.int .i64 e.off)) (h4 : C[34]? = some (.int .i64 e.sz)) : C = xeC e := by
  obtain ⟨k1, k2, k3⟩ := xeC_at e h
  apply Array.ext_getElem?
  intro i
  by_cases q : i < 32
  · have hi : i < (idc e.id).size := by rw [idc_size, h]; exact q
    have := xeC_id e h i _ (Array.getElem?_eq_getElem hi)
    rw [Nat.zero_add] at this
    rw [h1 i q, this, Array.getElem?_eq_getElem hi]
  · by_cases q2 : i < 35
    · have : i = 32 ∨ i = 33 ∨ i = 34 := by omega
      rcases this with rfl | rfl | rfl
      · rw [h2, k1]
      · rw [h3, k2]
      · rw [h4, k3]
    · rw [Array.getElem?_eq_none (by omega), Array.getElem?_eq_none (by rw [xeC_size e h]; omega)]
/-- The name copied in. -/
theorem TE.copy {w wr : World} {b : Nat} {t x : ByteArray} (h : TE w b t z35X wr) (hx : x.size = 32) :
    ∃ w', (∀ ty, (Builtin.copy_ #[93, 9] ty #[.slice (some ⟨w.heap.size + 1, 0, none⟩) 32 32, .string x]).run Tryz.prog wr = .ok (goInt 32) w') ∧ TE w b t (putA z35X 0 (bvc (byl x))) w' := by
  have hi : (Tryz.prog.info? 5).map (·.size) = some 1 := by kernel_rfl
  have hm : Nat.min x.size 32 = 32 := by rw [hx]; rfl
  refine ⟨wr.setCells (w.heap.size + 1) 0 (bvc ((byl x).take 32)), fun ty => ?_, ?_⟩
  · have q := copy_str wr 93 9 ty 5 (w.heap.size + 1) 0 32 32 x Tryz.underlying93 hi (fun j hj => by
      rw [hm] at hj
      rw [h.nb.cell, Nat.zero_add, Array.getElem?_eq_getElem (by rw [z35_size]; omega)]; rfl) (fun j _ => h.nb.frozen _)
    rw [hm] at q
    exact q
  · have e : (byl x).take 32 = byl x := List.take_of_length_le (by rw [byl_length, hx]; omega)
    rw [e]
    exact h.turn (grown_puts _ _ _ (World.grownBy.refl _ _)) (Blk.puts _ _ _ _ h.nb)
theorem bl_ex (t : ByteArray) (k : Nat) : bl (t.extract k t.size) = (bl t).drop k := by
  rw [bl_extract, List.take_of_length_le (by rw [bl_length]; exact Nat.le_refl _)]
theorem ex_size (t : ByteArray) (k : Nat) : (t.extract k t.size).size = t.size - k := by
  rw [← bl_length, bl_ex, List.length_drop, bl_length]
set_option maxHeartbeats 4000000 in
set_option maxRecDepth 100000 in
theorem takeEntry_any (t : ByteArray) (b : Nat) (w : World) (hc : w.cell? ⟨b, 0, none⟩ = some (.string t)) (hf : w.frozen? ⟨b, 0, none⟩ = false) (hb : b < w.heap.size) (ht : 41 ≤ t.size) (hs : t.size ≤ 100000000) :
    Calls Tryz.prog 90 #[.pointer (some ⟨b, 0, none⟩)] w fun e w' => e = .returned (.agg (xeC (rdXe (bl t)))) ∧ Step b w w' (t.extract 41 t.size) := by
  have hm : ∀ {n : Nat}, n ≤ 100000000 → n ≤ maxLen := fun h => by unfold maxLen; omega
  have T0 : Hid (TE w b t z35X ((w.alloc (.cells z35X 34)).alloc (.cells z35X 34))) := by
    have q := bk_new (w.alloc (.cells z35X 34)) z35X 34
    rw [al_size] at q
    exact ⟨Step.of_below (((Below.refl _ _).alloc (Nat.le_refl _) _).alloc (by rw [al_size]; omega) _) hb hc hf, (bk_new _ _ _).alloc _, q, hb⟩
  have hsl := slice32 (w.heap.size + 1)
  obtain ⟨x, hx⟩ : ∃ x, t.extract 0 32 = x := ⟨_, rfl⟩
  obtain ⟨t1, ht1⟩ : ∃ t1, t.extract 32 t.size = t1 := ⟨_, rfl⟩
  obtain ⟨t2, ht2⟩ : ∃ t2, t1.extract 1 t1.size = t2 := ⟨_, rfl⟩
  obtain ⟨t3, ht3⟩ : ∃ t3, t2.extract 4 t2.size = t3 := ⟨_, rfl⟩
  obtain ⟨t4, ht4⟩ : ∃ t4, t3.extract 4 t3.size = t4 := ⟨_, rfl⟩
  have b1 : bl t1 = (bl t).drop 32 := by rw [← ht1]; exact bl_ex t 32
  have b2 : bl t2 = (bl t).drop 33 := by rw [← ht2, bl_ex, b1, List.drop_drop]
  have b3 : bl t3 = (bl t).drop 37 := by rw [← ht3, bl_ex, b2, List.drop_drop]
  have b4 : bl t4 = (bl t).drop 41 := by rw [← ht4, bl_ex, b3, List.drop_drop]
  have s1 : t1.size = t.size - 32 := by rw [← ht1]; exact ex_size t 32
  have s2 : t2.size = t.size - 33 := by rw [← ht2, ex_size, s1]; omega
  have s3 : t3.size = t.size - 37 := by rw [← ht3, ex_size, s2]; omega
  have hxs : x.size = 32 := by rw [← hx, ← bl_length, bl_extract, List.length_drop, List.length_take, bl_length]; omega
  obtain ⟨kz, hkz⟩ : ∃ k, fixV ((bl t1).take 1) = k := ⟨_, rfl⟩
  obtain ⟨oz, hoz⟩ : ∃ k, fixV ((bl t2).take 4) = k := ⟨_, rfl⟩
  obtain ⟨zz, hzz⟩ : ∃ k, fixV ((bl t3).take 4) = k := ⟨_, rfl⟩
  have lk : kz < 256 := by rw [← hkz]; have := fix_lt t1 1 (by omega); omega
  have lo : oz < 4294967296 := by rw [← hoz]; have := fix_lt t2 4 (by omega); omega
  have lz : zz < 4294967296 := by rw [← hzz]; have := fix_lt t3 4 (by omega); omega
  obtain ⟨X, hXe⟩ : ∃ X, xeC (rdXe (bl t)) = X := ⟨_, rfl⟩
  have hid : (rdXe (bl t)).id = x := by
    apply bl_inj
    show (bl t).take 32 = bl x
    rw [← hx, bl_extract, List.drop_zero]
  have hid32 : (rdXe (bl t)).id.size = 32 := by rw [hid, hxs]
  have hkk : ((rdXe (bl t)).k.toNat : Int) = (kz : Int) := by
    have q : (bl t1).take 1 = [((bl t).drop 32).headD 0] := by
      rw [b1]
      cases hq : (bl t).drop 32 with
      | nil =>
        have := congrArg List.length hq
        rw [List.length_drop, bl_length] at this
        simp at this
        omega
      | cons a r => rfl
    rw [← hkz, q]
    show _ = ((fixV [((bl t).drop 32).headD 0] : Nat) : Int)
    simp [fixV, rdXe]
  have HXX : Hid (∀ W, Bk W (w.heap.size + 1) (putA z35X 0 (bvc (byl x))) 34 → Bk (((W.setCell ⟨w.heap.size + 1, 32, none⟩ (.int .u8 (kz : Int))).setCell ⟨w.heap.size + 1, 33, none⟩ (.int .i64 (oz : Int))).setCell ⟨w.heap.size + 1, 34, none⟩ (.int .i64 (zz : Int))) (w.heap.size + 1) X 34) := fun W hW => by
    have q := ((hW.set 32 (.int .u8 (kz : Int))).set 33 (.int .i64 (oz : Int))).set 34 (.int .i64 (zz : Int))
    have hps : (putA z35X 0 (bvc (byl x))).size = 35 := by rw [putA_size, z35_size]
    have e : (((putA z35X 0 (bvc (byl x))).setIfInBounds 32 (.int .u8 (kz : Int))).setIfInBounds 33 (.int .i64 (oz : Int))).setIfInBounds 34 (.int .i64 (zz : Int)) = X := by
      rw [← hXe]
      refine xe_eq _ _ hid32 (by simp [hps]) (fun j hj => ?_) ?_ ?_ ?_
      · rw [Array.getElem?_setIfInBounds_ne (by omega), Array.getElem?_setIfInBounds_ne (by omega), Array.getElem?_setIfInBounds_ne (by omega), putA_get _ _ _ _ (by simp [bvc, byl_length, hxs, z35_size]), if_pos (by simp [bvc, byl_length, hxs]; omega), hid, idc, List.getElem?_toArray, Nat.sub_zero]
      · rw [Array.getElem?_setIfInBounds_ne (by omega), Array.getElem?_setIfInBounds_ne (by omega), Array.getElem?_setIfInBounds_self_of_lt (by rw [hps]; omega), hkk]
      · rw [Array.getElem?_setIfInBounds_ne (by omega), Array.getElem?_setIfInBounds_self_of_lt (by simp [hps])]
        rw [← hoz, b2]; rfl
      · rw [Array.getElem?_setIfInBounds_self_of_lt (by simp [hps])]
        rw [← hzz, b3]; rfl
    rw [e] at q
    exact q
  have HIX : Hid ((Tryz.prog.info? 34).map (·.size) = some X.size ∧ X.all (·.oneCell') = true ∧ X.size = 35) := by rw [← hXe]; exact ⟨info_xe (xeC_size _ hid32), xeC_all _, xeC_size _ hid32⟩
  have h4 : t.extract 41 t.size = t4 := by apply bl_inj; rw [bl_ex, b4]
  have HS : Hid (t1.size = t.size - 32 ∧ t2.size = t.size - 33 ∧ t3.size = t.size - 37) := ⟨s1, s2, s3⟩
  have HT : Hid (t.extract 32 t.size = t1 ∧ t1.extract 1 t1.size = t2 ∧ t2.extract 4 t2.size = t3 ∧ t3.extract 4 t3.size = t4) := ⟨ht1, ht2, ht3, ht4⟩
  have HF : Hid (fixV ((bl t1).take 1) = kz ∧ fixV ((bl t2).take 4) = oz ∧ fixV ((bl t3).take 4) = zz) := ⟨hkz, hoz, hzz⟩
  have hq0 : (putA z35X 0 (bvc (byl x)))[32]? = some (.int .u8 0) ∧ (putA z35X 0 (bvc (byl x)))[33]? = some (.int .i64 0) ∧ (putA z35X 0 (bvc (byl x)))[34]? = some (.int .i64 0) := by
    have hle : 0 + (bvc (byl x)).length ≤ z35X.size := by simp [bvc, byl_length, hxs, z35_size]
    refine ⟨?_, ?_, ?_⟩ <;> (rw [putA_get _ _ _ _ hle, if_neg (by simp [bvc, byl_length, hxs])]; rfl)
  have HQ0 : Hid _ := hq0
  rw [h4, hXe]
  clear hc hf b1 b2 b3 b4 s1 s2 s3 ht1 ht2 ht3 ht4 hkz hoz hzz hid hid32 hkk hXe h4 hq0
  have HX : Hid (t.extract 0 32 = x ∧ x.size = 32) := ⟨hx, hxs⟩
  clear hx hxs
  go_enter Tryz.func90, Tryz.ntmps90
  go_wp2_with fail
  refine (take_ok t b _ (hm hs) T0.out.rd.cell T0.out.rd.frozen (Nat.lt_of_lt_of_le hb T0.out.rd.size) 32 (by omega)).mono ?_
  rintro e w1 ⟨rfl, hst1⟩
  rw [HX.out.1]
  rw [HT.out.1] at hst1
  have T1 : Hid (TE w b t1 z35X w1) := T0.out.step hst1
  obtain ⟨w2, hcp, hT2⟩ := T1.out.copy HX.out.2
  have T2 : Hid (TE w b t1 (putA z35X 0 (bvc (byl x))) w2) := hT2
  clear hst1 T0 hT2 T1
  go_wp2_with (first
    | (refine wpList_copyX rfl (.tmp 18) (.tmp 19) 93 9 rfl (.slice (some ⟨w.heap.size + 1, 0, none⟩) 32 32) (.string x) (goInt 32) w2 rfl rfl (hcp _) ?_)
    | fail)
  refine (fixed_ok t1 b w2 (hm (by rw [HS.out.1]; omega)) T2.out.rd.cell T2.out.rd.frozen (Nat.lt_of_lt_of_le hb T2.out.rd.size) 1 (by omega) (by omega) (by rw [HS.out.1]; omega)).mono ?_
  rintro e w3 ⟨rfl, hst3⟩
  rw [HF.out.1]
  rw [HT.out.2.1] at hst3
  have T3 : Hid (TE w b t2 (putA z35X 0 (bvc (byl x))) w3) := T2.out.step hst3
  clear hst3 T2 hcp hsl
  go_wp2_with fail
  refine (fixed_ok t2 b w3 (hm (by rw [HS.out.2.1]; omega)) T3.out.rd.cell T3.out.rd.frozen (Nat.lt_of_lt_of_le hb T3.out.rd.size) 4 (by omega) (by omega) (by rw [HS.out.2.1]; omega)).mono ?_
  rintro e w4 ⟨rfl, hst4⟩
  rw [HF.out.2.1]
  rw [HT.out.2.2.1] at hst4
  have T4 : Hid (TE w b t3 (putA z35X 0 (bvc (byl x))) w4) := T3.out.step hst4
  clear hst4 T3
  go_wp2_with fail
  refine (fixed_ok t3 b w4 (hm (by rw [HS.out.2.2]; omega)) T4.out.rd.cell T4.out.rd.frozen (Nat.lt_of_lt_of_le hb T4.out.rd.size) 4 (by omega) (by omega) (by rw [HS.out.2.2]; omega)).mono ?_
  rintro e w5 ⟨rfl, hst5⟩
  rw [HF.out.2.2]
  rw [HT.out.2.2.2] at hst5
  have T5 : Hid (TE w b t4 (putA z35X 0 (bvc (byl x))) w5) := T4.out.step hst5
  have y1 : w5.cell? ⟨w.heap.size + 1, 32, none⟩ = some (.int .u8 0) := by rw [T5.out.nb.cell]; exact HQ0.out.1
  have y2 : w5.cell? ⟨w.heap.size + 1, 33, none⟩ = some (.int .i64 0) := by rw [T5.out.nb.cell]; exact HQ0.out.2.1
  have y3 : w5.cell? ⟨w.heap.size + 1, 34, none⟩ = some (.int .i64 0) := by rw [T5.out.nb.cell]; exact HQ0.out.2.2
  have z1 : w5.frozen? ⟨w.heap.size + 1, 32, none⟩ = false := T5.out.nb.frozen _
  have z2 : w5.frozen? ⟨w.heap.size + 1, 33, none⟩ = false := T5.out.nb.frozen _
  have z3 : w5.frozen? ⟨w.heap.size + 1, 34, none⟩ = false := T5.out.nb.frozen _
  have q1 : IntKind.u8.wrap (kz : Int) = (kz : Int) := by simp [IntKind.wrap, IntKind.bits, IntKind.signed]; omega
  have q2 : IntKind.i64.wrap (oz : Int) = (oz : Int) := by rw [IntKind.wrap_i64]; omega
  have q3 : IntKind.i64.wrap (zz : Int) = (zz : Int) := by rw [IntKind.wrap_i64]; omega
  have BX := HXX.out w5 T5.out.nb
  have T6 : Hid (TE w b t4 X (((w5.setCell ⟨w.heap.size + 1, 32, none⟩ (.int .u8 (kz : Int))).setCell ⟨w.heap.size + 1, 33, none⟩ (.int .i64 (oz : Int))).setCell ⟨w.heap.size + 1, 34, none⟩ (.int .i64 (zz : Int)))) := T5.out.turn (Lib.grownBy_setB (Lib.grownBy_setB (Lib.grownBy_setB (World.grownBy.refl _ _) 32 _) 33 _) 34 _) BX
  clear hst5 T4 BX HXX T5
  go_wp2_with (first
    | (refine wpList_get rfl 34 (.tmp 3) rfl (w.heap.size + 1) 0 X X 34 _ rfl T6.out.nb (fun j v hv => by rw [Nat.zero_add]; exact hv) Tryz.underlying34 rfl HIX.out.1 ?_)
    | (refine wpList_stoX rfl 34 (.tmp 2) (.tmp 45) rfl w.heap.size X z35X 34 rfl rfl T6.out.rb HIX.out.1 (by rw [HIX.out.2.2]; rfl) HIX.out.2.1 ?_; intro w7 HB7 HG7)
    | fail)
  refine bodyPost_ret (results_cell_row rfl _ _ w.heap.size 34 X (0, 0) _ rfl HB7.out Tryz.underlying34 rfl HIX.out.1) rfl ⟨rfl, ?_⟩
  have hg := HG7.out
  have h6 := T6.out.rd
  have hne : ∀ k, k < w.heap.size → some k ≠ some w.heap.size := fun k hk e => by injection e with e; omega
  have q := cell_blkX (j := 0) (hg.block b (Nat.lt_of_lt_of_le hb h6.size) (hne b hb))
  exact ⟨hg.os.trans h6.os, hg.tape.trans h6.tape, hg.output.trans h6.output, Nat.le_trans h6.size hg.size, by rw [q.1]; exact h6.cell, by rw [q.2]; exact h6.frozen, fun k hk hk2 => (hg.block k (Nat.lt_of_lt_of_le hk h6.size) (hne k hk)).trans (h6.block k hk hk2)⟩
end Go.Proofs.YtbdkacfpeokggaaGreatDoor
/- Plain facts of an index's label. -/
namespace Go.Proofs.YtbdkacfpeokggaaGreatDoor
open Go.RowKit
set_option linter.unusedSimpArgs false
set_option linter.unusedVariables false
def xF : ByteArray := ⟨#[105, 100, 120, 45]⟩
def xD : ByteArray := ⟨#[45]⟩
def xE : ByteArray := ⟨#[46, 105, 120]⟩
/-- A label of these digits. -/
def lbI (f g : ByteArray) : ByteArray := (((xF ++ f) ++ xD) ++ g) ++ xE
theorem lbI_bl (f g : ByteArray) : bl (lbI f g) = [105, 100, 120, 45] ++ ((bl f ++ 45 :: bl g) ++ [46, 105, 120]) := by
  rw [lbI, bl_append, bl_append, bl_append, bl_append]
  show [105, 100, 120, 45] ++ bl f ++ [45] ++ bl g ++ [46, 105, 120] = _
  simp
/-- A label that says two sums. -/
def IsLb (s f g : ByteArray) : Prop := s = lbI f g ∧ f.size = 64 ∧ g.size = 64 ∧ uhE f = 0 ∧ uhE g = 0
theorem dash_one : ∀ (a a' b b' : List UInt8), (45 : UInt8) ∉ a → (45 : UInt8) ∉ a' → a ++ 45 :: b = a' ++ 45 :: b' → a = a' ∧ b = b'
  | [], [], b, b', _, _, h => by simpa using h
  | [], x :: a', b, b', _, h2, h => by
    simp only [List.nil_append, List.cons_append, List.cons.injEq] at h
    exact absurd (by rw [← h.1]; exact List.mem_cons_self) h2
  | x :: a, [], b, b', h1, _, h => by
    simp only [List.nil_append, List.cons_append, List.cons.injEq] at h
    exact absurd (by rw [h.1]; exact List.mem_cons_self) h1
  | x :: a, y :: a', b, b', h1, h2, h => by
    simp only [List.cons_append, List.cons.injEq] at h
    obtain ⟨q1, q2⟩ := dash_one a a' b b' (fun q => h1 (List.mem_cons_of_mem _ q)) (fun q => h2 (List.mem_cons_of_mem _ q)) h.2
    exact ⟨by rw [h.1, q1], q2⟩
theorem unhex_dash : ∀ (l : List UInt8), (unhexL l).isSome = true → (45 : UInt8) ∉ l
  | [], _ => by simp
  | [_], h => by simp [unhexL] at h
  | a :: b :: r, h => by
    have hd : dvl (45 : UInt8).toNat = none := by decide
    rw [unhexL] at h
    cases ha : dvl a.toNat with
    | none => rw [ha] at h; simp at h
    | some x =>
      cases hb : dvl b.toNat with
      | none => rw [ha, hb] at h; simp at h
      | some y =>
        cases hr : unhexL r with
        | none => rw [ha, hb, hr] at h; simp at h
        | some m =>
          have ih := unhex_dash r (by rw [hr]; rfl)
          intro q
          simp only [List.mem_cons] at q
          rcases q with q | q | q
          · rw [← q, hd] at ha; cases ha
          · rw [← q, hd] at hb; cases hb
          · exact ih q
theorem IsLb.dash {s f g : ByteArray} (h : IsLb s f g) : (45 : UInt8) ∉ bl f := by
  refine unhex_dash _ ?_
  have := h.2.2.2.1
  unfold uhE at this
  split at this
  · assumption
  · omega
theorem lbI_one {f g f' g' : ByteArray} (h : lbI f g = lbI f' g') (h1 : (45 : UInt8) ∉ bl f) (h2 : (45 : UInt8) ∉ bl f') : f = f' ∧ g = g' := by
  have := congrArg bl h
  rw [lbI_bl, lbI_bl] at this
  have q := List.append_cancel_right (List.append_cancel_left this)
  obtain ⟨q1, q2⟩ := dash_one _ _ _ _ h1 h2 q
  exact ⟨bl_inj q1, bl_inj q2⟩
theorem pfB_iff (s q : ByteArray) : pfB s q = true ↔ ∃ r, s = q ++ r := by
  unfold pfB
  rw [Bool.and_eq_true, decide_eq_true_eq, beq_iff_eq]
  constructor
  · rintro ⟨h1, h2⟩
    refine ⟨s.extract q.size s.size, ?_⟩
    apply bl_inj
    rw [extract_take s _ h1] at h2
    rw [bl_append, bl_ex, ← h2, List.take_append_drop]
  · rintro ⟨r, rfl⟩
    refine ⟨by rw [ByteArray.size_append]; omega, ?_⟩
    rw [extract_take _ _ (by rw [ByteArray.size_append]; omega), bl_append, ← bl_length, List.take_left]
theorem cpX_eq (q r : ByteArray) : cpX (q ++ r) q = r := by
  rw [cpX, if_pos ((pfB_iff _ _).2 ⟨r, rfl⟩)]
  exact drop_front _ q r _ rfl rfl
theorem sfB_iff (s q : ByteArray) : sfB s q = true ↔ ∃ r, s = r ++ q := by
  unfold sfB
  rw [Bool.and_eq_true, decide_eq_true_eq, beq_iff_eq]
  constructor
  · rintro ⟨h1, h2⟩
    refine ⟨s.extract 0 (s.size - q.size), ?_⟩
    apply bl_inj
    rw [bl_append, ← h2, bl_ex, extract_take _ _ (by omega), List.take_append_drop]
  · rintro ⟨r, rfl⟩
    refine ⟨by rw [ByteArray.size_append]; omega, ?_⟩
    rw [drop_front (r ++ q) r q _ rfl (by rw [ByteArray.size_append]; omega)]
theorem csX_eq (r q : ByteArray) : csX (r ++ q) q = r := by
  rw [csX, if_pos ((sfB_iff _ _).2 ⟨r, rfl⟩)]
  apply bl_inj
  rw [extract_take _ _ (by omega), bl_append, ByteArray.size_append, Nat.add_sub_cancel, ← bl_length, List.take_left]
/-- A label comes apart. -/
theorem lbI_parts (f g : ByteArray) : pfB (lbI f g) xF = true ∧ sfB (cpX (lbI f g) xF) xE = true ∧ csX (cpX (lbI f g) xF) xE = (f ++ xD) ++ g := by
  have e : lbI f g = xF ++ (((f ++ xD) ++ g) ++ xE) := by
    apply bl_inj
    simp only [lbI, bl_append, List.append_assoc]
  rw [e, cpX_eq, csX_eq]
  exact ⟨(pfB_iff _ _).2 ⟨_, rfl⟩, (sfB_iff _ _).2 ⟨_, rfl⟩, rfl⟩
theorem lbI_of {s d : ByteArray} {i : Nat} (h1 : pfB s xF = true) (h2 : sfB (cpX s xF) xE = true) (hd : csX (cpX s xF) xE = d) (hi : (bl d)[i]? = some 45) (hi2 : i < d.size) : s = lbI (d.extract 0 i) (d.extract (i + 1) d.size) := by
  obtain ⟨r, rfl⟩ := (pfB_iff _ _).1 h1
  rw [cpX_eq] at h2 hd
  obtain ⟨t, rfl⟩ := (sfB_iff _ _).1 h2
  rw [csX_eq] at hd
  subst hd
  apply bl_inj
  rw [lbI_bl, bl_append, bl_append, extract_take _ _ (by omega), bl_ex]
  have e : bl t = (bl t).take i ++ 45 :: (bl t).drop (i + 1) := by
    obtain ⟨hl, hv⟩ := List.getElem?_eq_some_iff.1 hi
    rw [← hv, ← List.drop_eq_getElem_cons hl, List.take_append_drop]
  show [105, 100, 120, 45] ++ (bl t ++ [46, 105, 120]) = _
  rw [← e]
/-- The digits of a name, and their label. -/
def tx32 (s : ByteArray) : ByteArray := sb (hexL (bl s))
def ilb (a b : ByteArray) : ByteArray := lbI (tx32 a) (tx32 b)
theorem tx32_size {s : ByteArray} (h : s.size = 32) : (tx32 s).size = 64 := by rw [tx32, sb_size, hexL_length, bl_length, h]
theorem ilb_is {a b : ByteArray} (ha : a.size = 32) (hb : b.size = 32) : IsLb (ilb a b) (tx32 a) (tx32 b) := ⟨rfl, tx32_size ha, tx32_size hb, (uh_hex a).2, (uh_hex b).2⟩
theorem pid_tx {a : ByteArray} (ha : a.size = 32) : pid (tx32 a) = idc a := by
  obtain ⟨u1, u2⟩ := uh_hex a
  unfold tx32
  rw [pid_ok _ (by rw [u1]; exact ha), u1]
/-- What Sums tells. -/
def SmI (s : ByteArray) (e : Ending) : Prop :=
  (∃ f g, IsLb s f g ∧ e = .returned (.tuple #[.agg (pid f), .agg (pid g), .int .i64 0])) ∨ ((∀ f g, ¬ IsLb s f g) ∧ e = .returned (.tuple #[.agg z32c, .agg z32c, .int .i64 10]))
theorem SmI.ilb {a b : ByteArray} {e : Ending} (ha : a.size = 32) (hb : b.size = 32) (h : SmI (ilb a b) e) : e = .returned (.tuple #[.agg (idc a), .agg (idc b), .int .i64 0]) := by
  have hi := ilb_is ha hb
  rcases h with ⟨f, g, h1, rfl⟩ | ⟨h1, _⟩
  · obtain ⟨rfl, rfl⟩ := lbI_one (h1.1.symm.trans hi.1) h1.dash hi.dash
    rw [pid_tx ha, pid_tx hb]
  · exact absurd hi (h1 _ _)
end Go.Proofs.YtbdkacfpeokggaaGreatDoor
/- bytes.Compare, digest.Less. -/
namespace Go.Proofs.YtbdkacfpeokggaaGreatDoor
open Go.RowKit
set_option linter.unusedSimpArgs false
set_option linter.unusedVariables false
theorem byl_back (s : ByteArray) : Lib.bytesOf ((byl s).map Int.ofNat) = s.data.toList := by
  simp only [Lib.bytesOf, byl, List.map_map]
  conv => rhs; rw [← List.map_id s.data.toList]
  apply List.map_congr_left
  intro x _
  simp
theorem load_id (s : ByteArray) (g : Nat) (T : TypeId) (w : World) (hs : s.size = 32) (hB : Blk w g (idc s) T) {P : Program} :
    (Extern.Bytes.bytesOf (.slice (some ⟨g, 0, none⟩) 32 32)).run P w = .ok s w := by
  have h := Lib.run_loadBytesX (P := P) w ((byl s).map Int.ofNat) ⟨g, 0, none⟩ .empty (fun j x hj => by
    have hjl : j < s.size := by have := (List.getElem?_eq_some_iff.1 hj).1; simpa [byl_length] using this
    rw [Addr.add_mid, Nat.zero_add, hB.cell, idc_get s j hjl]
    rw [List.getElem?_map, byl_getD s j hjl] at hj
    simp only [Option.map_some, Option.some.injEq] at hj
    rw [← hj]; rfl)
  rw [byl_back, show ((byl s).map Int.ofNat).length = 32 from by simp [byl_length, hs]] at h
  show (Extern.Bytes.loadBytes ⟨g, 0, none⟩ 32 .empty).run P w = _
  rw [h]
  congr 1
  apply ByteArray.ext
  simp [ByteArray.empty, ByteArray.emptyWithCapacity]
  rfl
/-- What bytes.Compare says of two names. -/
def cmpId (a b : ByteArray) : Int := Lib.compareBytes a.data.toList b.data.toList
theorem compare_ids (a b : ByteArray) (ga gb : Nat) (Ta Tb : TypeId) (w : World) (ha : a.size = 32) (hb : b.size = 32) (hA : Blk w ga (idc a) Ta) (hB : Blk w gb (idc b) Tb) {P : Program} :
    (Extern.BytealgCompare.compare #[.slice (some ⟨ga, 0, none⟩) 32 32, .slice (some ⟨gb, 0, none⟩) 32 32]).run P w = .ok (.int .i64 (cmpId a b)) w := by
  change Sem.run P (do pure (goInt (Extern.BytealgCompare.cmp (← Extern.Bytes.bytesOf (.slice (some ⟨ga, 0, none⟩) 32 32)) (← Extern.Bytes.bytesOf (.slice (some ⟨gb, 0, none⟩) 32 32))))) w = _
  simp only [Sem.run_bind, load_id a ga Ta w ha hA, load_id b gb Tb w hb hB, Result.andThen, Sem.run_pure]
  rw [Lib.cmp_eq]
  rfl
set_option maxHeartbeats 400000 in
set_option maxRecDepth 100000 in
theorem bcompare_any (a b : ByteArray) (ga gb : Nat) (Ta Tb : TypeId) (w : World) (ha : a.size = 32) (hb : b.size = 32) (hA : Blk w ga (idc a) Ta) (hB : Blk w gb (idc b) Tb) :
    Calls Tryz.prog 103 #[.slice (some ⟨ga, 0, none⟩) 32 32, .slice (some ⟨gb, 0, none⟩) 32 32] w fun e w' => e = .returned (.int .i64 (cmpId a b)) ∧ w' = w := by
  have HC := compare_ids a b ga gb Ta Tb w ha hb hA hB (P := Tryz.prog)
  have HH : Hid ((Extern.BytealgCompare.compare #[.slice (some ⟨ga, 0, none⟩) 32 32, .slice (some ⟨gb, 0, none⟩) 32 32]).run Tryz.prog w = .ok (.int .i64 (cmpId a b)) w) := HC
  clear HC hA hB
  go_enter Tryz.func103, Tryz.ntmps103
  go_wp2
  rw [run_callFunc_extern Tryz.func135 (by kernel_rfl) (by kernel_rfl) (by kernel_rfl) (e := Extern.BytealgCompare.compare) (by kernel_rfl), HH.out]
  simp only [Result.andThen]
  rw [Oper.upon_value]
  go_wp2
  go_ret
  exact ⟨rfl, rfl⟩
def lessB (a b : ByteArray) : Bool := decide (cmpId a b < 0)
set_option maxHeartbeats 400000 in
set_option maxRecDepth 100000 in
theorem less_any (a b : ByteArray) (w : World) (ha : a.size = 32) (hb : b.size = 32) :
    Calls Tryz.prog 71 #[.agg (idc a), .agg (idc b)] w fun e w' => e = .returned (.bool (lessB a b)) ∧ Below w.heap.size w w' := by
  have h1 := slice32 w.heap.size
  have h2 := slice32 (w.heap.size + 1)
  go_enter Tryz.func71, Tryz.ntmps71
  go_wp2
  have hA : Blk ((w.alloc (.cells (idc a) 23)).alloc (.cells (idc b) 23)) w.heap.size (idc a) 23 := Blk.grown (blk_new w _) (World.grownBy_alloc _ _ none) (by simp)
  have hB : Blk ((w.alloc (.cells (idc a) 23)).alloc (.cells (idc b) 23)) (w.heap.size + 1) (idc b) 23 := by
    have e := blk_new (w.alloc (.cells (idc a) 23)) (.cells (idc b) 23)
    rwa [alloc_size] at e
  have HAB : Hid (Blk ((w.alloc (.cells (idc a) 23)).alloc (.cells (idc b) 23)) w.heap.size (idc a) 23 ∧ Blk ((w.alloc (.cells (idc a) 23)).alloc (.cells (idc b) 23)) (w.heap.size + 1) (idc b) 23) := ⟨hA, hB⟩
  clear hA hB
  go_quiet ((go_at_call 103; exact Calls.quiet_of_same (bcompare_any a b _ _ 23 23 _ ha hb (HAB.out.1.drewN _) (HAB.out.2.drewN _))))
  go_wp2
  go_ret
  refine ⟨rfl, ?_⟩
  exact below_of_grown (((World.grownBy_alloc w _ none).trans (World.grownBy_alloc _ _ none)).trans (grown_drewN _ nq none))
end Go.Proofs.YtbdkacfpeokggaaGreatDoor
