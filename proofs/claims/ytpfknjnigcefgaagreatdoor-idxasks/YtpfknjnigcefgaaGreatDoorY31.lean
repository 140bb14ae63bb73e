import Derived.Test.YtpfknjnigcefgaaGreatDoorY27
import Derived.Test.YtpfknjnigcefgaaGreatDoorY30
import Derived.Great.BuildSlice
import Derived.Maps.AppendAt
import Derived.OwnWalk
/- Entries in memory: what a list of them is, and how one is built. -/
namespace Go.Proofs.YtpfknjnigcefgaaGreatDoor
open Go.RowKit
set_option linter.unusedSimpArgs false
set_option linter.unusedVariables false
/-- An entry's cells. -/
def enC (e : Ent) : Array Value := ((idc e.id).toList ++ [Value.int .u8 (e.k.toNat : Int), Value.int .i64 (e.off : Int), Value.int .i64 (e.sz : Int)]).toArray
theorem enC_size (e : Ent) (h : e.id.size = 32) : (enC e).size = 35 := by simp [enC, idc_size, h]
theorem idc_one (s : ByteArray) : ∀ v ∈ (idc s).toList, v.oneCell' = true := by
  intro v hv
  rw [idc] at hv
  exact bvc_one _ v (by simpa using hv)
theorem enC_one (e : Ent) : ∀ v ∈ (enC e).toList, v.oneCell' = true := by
  intro v hv
  simp only [enC, List.mem_append, List.mem_cons] at hv
  rcases hv with h | h | h | h | h
  · exact idc_one _ v h
  · subst h; rfl
  · subst h; rfl
  · subst h; rfl
  · cases h
theorem enC_all (e : Ent) : (enC e).all (·.oneCell') = true := Array.all_eq_true_iff_forall_mem.2 (fun v hv => enC_one e v (by simpa using hv))
theorem idc_all (s : ByteArray) : (idc s).all (·.oneCell') = true := Array.all_eq_true_iff_forall_mem.2 (fun v hv => idc_one s v (by simpa using hv))
theorem enC_id (e : Ent) (h : e.id.size = 32) (j : Nat) (v : Value) (hv : (idc e.id)[j]? = some v) : (enC e)[0 + j]? = some v := by
  have hj : j < 32 := by
    have := (Array.getElem?_eq_some_iff.1 hv).1
    rwa [idc_size, h] at this
  rw [Nat.zero_add, enC, List.getElem?_toArray, List.getElem?_append_left (by rw [Array.length_toList, idc_size]; omega), Array.getElem?_toList]
  exact hv
theorem enC_at (e : Ent) (h : e.id.size = 32) : (enC e)[32]? = some (.int .u8 (e.k.toNat : Int)) ∧ (enC e)[33]? = some (.int .i64 (e.off : Int)) ∧ (enC e)[34]? = some (.int .i64 (e.sz : Int)) := by
  have hl : (idc e.id).toList.length = 32 := by rw [Array.length_toList, idc_size, h]
  refine ⟨?_, ?_, ?_⟩ <;> rw [enC, List.getElem?_toArray, List.getElem?_append_right (by omega), hl] <;> rfl
theorem list32 (l : List Value) (h : l.length = 32) : ∃ a0 a1 a2 a3 a4 a5 a6 a7 a8 a9 a10 a11 a12 a13 a14 a15 a16 a17 a18 a19 a20 a21 a22 a23 a24 a25 a26 a27 a28 a29 a30 a31, l = [a0, a1, a2, a3, a4, a5, a6, a7, a8, a9, a10, a11, a12, a13, a14, a15, a16, a17, a18, a19, a20, a21, a22, a23, a24, a25, a26, a27, a28, a29, a30, a31] := by
  match l, h with
  | [a0, a1, a2, a3, a4, a5, a6, a7, a8, a9, a10, a11, a12, a13, a14, a15, a16, a17, a18, a19, a20, a21, a22, a23, a24, a25, a26, a27, a28, a29, a30, a31], _ => exact ⟨_, _, _, _, _, _, _, _, _, _, _, _, _, _, _, _, _, _, _, _, _, _, _, _, _, _, _, _, _, _, _, _, rfl⟩
set_option maxRecDepth 100000 in
theorem built32 (a0 a1 a2 a3 a4 a5 a6 a7 a8 a9 a10 a11 a12 a13 a14 a15 a16 a17 a18 a19 a20 a21 a22 a23 a24 a25 a26 a27 a28 a29 a30 a31 : Value) (k a n : Int) : Tryz.prog.built 34 [(0, .agg #[a0, a1, a2, a3, a4, a5, a6, a7, a8, a9, a10, a11, a12, a13, a14, a15, a16, a17, a18, a19, a20, a21, a22, a23, a24, a25, a26, a27, a28, a29, a30, a31]), (1, .int .u8 k), (2, .int .i64 a), (3, .int .i64 n)] = some #[a0, a1, a2, a3, a4, a5, a6, a7, a8, a9, a10, a11, a12, a13, a14, a15, a16, a17, a18, a19, a20, a21, a22, a23, a24, a25, a26, a27, a28, a29, a30, a31, .int .u8 k, .int .i64 a, .int .i64 n] := by kernel_rfl
theorem build_en (e : Ent) (h : e.id.size = 32) (w : World) : (Instr.build 34 #[(0, .agg (idc e.id)), (1, .int .u8 (e.k.toNat : Int)), (2, .int .i64 (e.off : Int)), (3, .int .i64 (e.sz : Int))]).run Tryz.prog w = .ok (.agg (enC e)) w := by
  refine run_build w _ _ _ ?_
  obtain ⟨a0, a1, a2, a3, a4, a5, a6, a7, a8, a9, a10, a11, a12, a13, a14, a15, a16, a17, a18, a19, a20, a21, a22, a23, a24, a25, a26, a27, a28, a29, a30, a31, hl⟩ := list32 (idc e.id).toList (by rw [Array.length_toList, idc_size, h])
  have e1 : idc e.id = #[a0, a1, a2, a3, a4, a5, a6, a7, a8, a9, a10, a11, a12, a13, a14, a15, a16, a17, a18, a19, a20, a21, a22, a23, a24, a25, a26, a27, a28, a29, a30, a31] := by rw [← Array.toArray_toList (xs := idc e.id), hl]
  have e2 : enC e = #[a0, a1, a2, a3, a4, a5, a6, a7, a8, a9, a10, a11, a12, a13, a14, a15, a16, a17, a18, a19, a20, a21, a22, a23, a24, a25, a26, a27, a28, a29, a30, a31, .int .u8 (e.k.toNat : Int), .int .i64 (e.off : Int), .int .i64 (e.sz : Int)] := by rw [enC, hl]; rfl
  rw [e1, e2]
  exact built32 _ _ _ _ _ _ _ _ _ _ _ _ _ _ _ _ _ _ _ _ _ _ _ _ _ _ _ _ _ _ _ _ _ _ _
/-- An entry of nothing. -/
def z35 : Array Value := #[.int .u8 0, .int .u8 0, .int .u8 0, .int .u8 0, .int .u8 0, .int .u8 0, .int .u8 0, .int .u8 0, .int .u8 0, .int .u8 0, .int .u8 0, .int .u8 0, .int .u8 0, .int .u8 0, .int .u8 0, .int .u8 0, .int .u8 0, .int .u8 0, .int .u8 0, .int .u8 0, .int .u8 0, .int .u8 0, .int .u8 0, .int .u8 0, .int .u8 0, .int .u8 0, .int .u8 0, .int .u8 0, .int .u8 0, .int .u8 0, .int .u8 0, .int .u8 0, .int .u8 0, .int .i64 0, .int .i64 0]
theorem inf_en : (Tryz.prog.info? 34).map (fun i => (i.zero, i.size, i.bytes)) = some (some (.agg z35), 35, 56) := by kernel_rfl
theorem inf_en35 : (Tryz.prog.info? 34).map (·.size) = some 35 := by kernel_rfl
theorem info_en {C : Array Value} (h : C.size = 35) : (Tryz.prog.info? 34).map (·.size) = some C.size := by rw [h]; exact inf_en35
set_option maxRecDepth 100000 in
theorem fill35 (a0 a1 a2 a3 a4 a5 a6 a7 a8 a9 a10 a11 a12 a13 a14 a15 a16 a17 a18 a19 a20 a21 a22 a23 a24 a25 a26 a27 a28 a29 a30 a31 : Value) (k a n : Int) : Instr.fill (fun i => some (i * 35, 35)) ((Array.range (1 * 35)).map (z35[· % z35.size]!)) [(0, .agg #[a0, a1, a2, a3, a4, a5, a6, a7, a8, a9, a10, a11, a12, a13, a14, a15, a16, a17, a18, a19, a20, a21, a22, a23, a24, a25, a26, a27, a28, a29, a30, a31, .int .u8 k, .int .i64 a, .int .i64 n])] = some #[a0, a1, a2, a3, a4, a5, a6, a7, a8, a9, a10, a11, a12, a13, a14, a15, a16, a17, a18, a19, a20, a21, a22, a23, a24, a25, a26, a27, a28, a29, a30, a31, .int .u8 k, .int .i64 a, .int .i64 n] := by kernel_rfl
theorem slice_en (e : Ent) (h : e.id.size = 32) (w : World) : (Instr.buildSlice 25 1 #[(0, .agg (enC e))]).run Tryz.prog w = .ok (.slice (some ⟨w.heap.size, 0, none⟩) 1 1) (w.alloc (.cells (enC e) 34)) := by
  obtain ⟨i0, hi, hz0, hz1, hz2⟩ := info_parts inf_en
  refine run_buildSlice w _ 34 1 _ _ i0 (.agg z35) Tryz.underlying25 hi hz0 (by rw [hz1]; decide) (by rw [hz1]; decide) ?_
  obtain ⟨a0, a1, a2, a3, a4, a5, a6, a7, a8, a9, a10, a11, a12, a13, a14, a15, a16, a17, a18, a19, a20, a21, a22, a23, a24, a25, a26, a27, a28, a29, a30, a31, hl⟩ := list32 (idc e.id).toList (by rw [Array.length_toList, idc_size, h])
  have e2 : enC e = #[a0, a1, a2, a3, a4, a5, a6, a7, a8, a9, a10, a11, a12, a13, a14, a15, a16, a17, a18, a19, a20, a21, a22, a23, a24, a25, a26, a27, a28, a29, a30, a31, .int .u8 (e.k.toNat : Int), .int .i64 (e.off : Int), .int .i64 (e.sz : Int)] := by rw [enC, hl]; rfl
  rw [e2, hz1]
  exact fill35 _ _ _ _ _ _ _ _ _ _ _ _ _ _ _ _ _ _ _ _ _ _ _ _ _ _ _ _ _ _ _ _ _ _ _
/-- Entries as cells. -/
def env (l : List Ent) : List Value := l.flatMap (fun e => (enC e).toList)
theorem env_snoc (l : List Ent) (e : Ent) : env (l ++ [e]) = env l ++ (enC e).toList := by simp [env]
/-- What is kept: all but blocks of objects and names that the call made. -/
structure Kx (B : Nat) (w w' : World) : Prop where
  os : w'.os = w.os
  tape : w'.tape = w.tape
  output : w'.output = w.output
  size : w.heap.size ≤ w'.heap.size
  blk : ∀ k o, w.heap[k]? = some o → (k < B ∨ ∀ C T F, o = .cells C T F → T ≠ 157 ∧ T ≠ 23) → w'.heap[k]? = some o
theorem Kx.of {B : Nat} {w w' : World} (h : Below w.heap.size w w') : Kx B w w' :=
  ⟨h.os, h.tape, h.output, h.size, fun k o hk _ => (h.block k (Array.getElem?_eq_some_iff.1 hk).1).trans hk⟩
theorem Kx.trans {B : Nat} {w w' w'' : World} (h : Kx B w w') (g : Kx B w' w'') : Kx B w w'' :=
  ⟨g.os.trans h.os, g.tape.trans h.tape, g.output.trans h.output, Nat.le_trans h.size g.size, fun k o hk hT => g.blk k o (h.blk k o hk hT) hT⟩
theorem Kx.set {B b : Nat} {w w' : World} {C : Array Value} {T : TypeId} (hb : Bk w b C T) (hT : T = 157 ∨ T = 23) (hB : B ≤ b) (hg : w.grownBy w' (some b)) : Kx B w w' :=
  ⟨hg.os, hg.tape, hg.output, hg.size, fun k o hk ho => by
    refine (hg.block k (Array.getElem?_eq_some_iff.1 hk).1 (fun e => ?_)).trans hk
    injection e with e
    subst e
    rcases ho with ho | ho
    · omega
    · have : o = .cells C T (0, 0) := by
        have h2 : w.heap[k]? = some (.cells C T (0, 0)) := hb
        rw [hk] at h2
        exact Option.some.inj h2
      have := ho C T (0, 0) this
      rcases hT with h | h
      · exact this.1 h
      · exact this.2 h⟩
theorem Kx.below {B : Nat} {w0 w w' : World} (h : Kx B w w') (hb : Below B w0 w) (hB : B ≤ w0.heap.size) : Below B w0 w' := by
  refine ⟨h.os.trans hb.os, h.tape.trans hb.tape, h.output.trans hb.output, Nat.le_trans hb.size h.size, fun k hk => ?_⟩
  have h1 := hb.block k hk
  have h2 : k < w0.heap.size := by omega
  have h3 : w.heap[k]? = some (w0.heap[k]) := by rw [h1, Array.getElem?_eq_getElem h2]
  rw [h.blk k _ h3 (.inl hk), Array.getElem?_eq_getElem h2]
theorem Kx.bk {B b : Nat} {w w' : World} {C : Array Value} {T : TypeId} (h : Kx B w w') (hb : Bk w b C T) (hT : T ≠ 157 ∧ T ≠ 23) : Bk w' b C T :=
  h.blk b _ hb (.inr (fun C' T' F' e => by injection e with _ e2; rw [← e2]; exact hT))
theorem Kx.rows {B b n k : Nat} {w w' : World} {v : Value} {xs : List Value} {T : TypeId} (h : Kx B w w') (ho : w.ownsRow b T k v n xs) (hT : T ≠ 157 ∧ T ≠ 23) : w'.ownsRow b T k v n xs := by
  refine ⟨ho.1, ?_⟩
  rcases ho.2 with h1 | ⟨g, cap, cur, h1, h2, hc, h3⟩
  · exact .inl h1
  · exact .inr ⟨g, cap, cur, h1, h2, h.bk hc hT, h3⟩
/-- Entries told so far, in a slice of the call's own behind a box. -/
structure SvS (w0 : World) (lb : Nat) (l : List Ent) (w : World) : Prop where
  row : ∃ v, Bk w lb #[v] 25 ∧ w.ownsRow w0.heap.size 34 35 v l.length (env l)
  lb : w0.heap.size ≤ lb
  bel : Below w0.heap.size w0 w
  lst : Lst w0
theorem SvS.keep {w0 w w' : World} {lb : Nat} {l : List Ent} (h : SvS w0 lb l w) (hk : Kx w0.heap.size w w') : SvS w0 lb l w' := by
  obtain ⟨v, h1, h2⟩ := h.row
  exact ⟨⟨v, hk.bk h1 (by decide), hk.rows h2 (by decide)⟩, h.lb, hk.below h.bel (Nat.le_refl _), h.lst⟩
theorem SvS.all {w0 w : World} {lb : Nat} {l : List Ent} (h : SvS w0 lb l w) : Lst w := h.lst.below h.bel
theorem row_slice {B n k : Nat} {w : World} {v : Value} {xs : List Value} {T : TypeId} (h : w.ownsRow B T k v n xs) : ∃ a c, v = .slice a n c := by
  rcases h.2 with ⟨rfl, rfl⟩ | ⟨g, cap, cur, rfl, _⟩
  · exact ⟨_, _, rfl⟩
  · exact ⟨_, _, rfl⟩
/-- One is appended. -/
theorem SvS.app {w0 w : World} {lb : Nat} {l : List Ent} {v : Value} (h : SvS w0 lb l w) (hv : Bk w lb #[v] 25) (e : Ent) (he : e.id.size = 32) (hn : l.length < 1048576) :
    ∃ v' w7, (Builtin.append_ #[25, 25] 25 #[v, .slice (some ⟨w.heap.size, 0, none⟩) 1 1]).run Tryz.prog (w.alloc (.cells (enC e) 34)) = .ok v' w7 ∧ Bk w7 lb #[v] 25 ∧ v'.oneCell' = true ∧
      SvS w0 lb (l ++ [e]) (w7.setCell ⟨lb, 0, none⟩ v') ∧ (∀ (m : Nat) es c, w.heap[m]? = some (Obj.map es c) → w7.heap[m]? = some (Obj.map es c)) ∧ (∀ b C T, Bk w b C T → T ≠ 34 → Bk w7 b C T) := by
  obtain ⟨v0, h1, h2⟩ := h.row
  obtain rfl : v0 = v := by
    have q : some (Obj.cells #[v0] 25 (0, 0)) = some (Obj.cells #[v] 25 (0, 0)) := h1.symm.trans hv
    injection q with q
    injection q with q
    injection q with q
    simpa using q
  obtain ⟨i0, hi, hz0, hz1, hz2⟩ := info_parts inf_en
  have hz := h.bel.size
  have hlt := h1.lt
  obtain ⟨v', w7, hrun, hown, hgrow, _, hat⟩ := run_append_own_at (P := Tryz.prog) (w := w.alloc (.cells (enC e) 34)) w0.heap.size 25 25 34 i0 (.agg z35) 35 56 Tryz.underlying25 hi hz0 hz1 hz2 rfl (by decide) v0 l.length (env l) (h2.alloc _) ⟨w.heap.size, 0, none⟩ 1 1 (enC e).toList
    (by rw [Array.length_toList, enC_size e he]) (fun j u hu => by
      rw [WideShapes.add_plain, Nat.zero_add, World.cell?_alloc_new]
      rwa [Array.getElem?_toList] at hu) (enC_one e) (by unfold maxLen; omega) (by omega) (by rw [al_size]; omega)
  have hrow : ∀ b, v0.ownBlock = some b → ∃ cur, w.heap[b]? = some (.cells cur 34 (0, 0)) := by
    intro b hb
    rcases h2.2 with ⟨rfl, _⟩ | ⟨g, cap, cur, rfl, _, hc, _⟩
    · cases hb
    · simp [Value.ownBlock] at hb; subst hb; exact ⟨cur, hc⟩
  have hkeep : ∀ (b : Nat) (o : Obj), w.heap[b]? = some o → (∀ cur, o ≠ .cells cur 34 (0, 0)) → w7.heap[b]? = some o := by
    intro b o hb ho
    have hbl := (Array.getElem?_eq_some_iff.1 hb).1
    have a1 : (w.alloc (.cells (enC e) 34)).heap[b]? = some o := by
      rw [(MapKept.heap_alloc w _).2 b hbl]; exact hb
    refine (hgrow.block b (by rw [al_size]; omega) (fun q => ?_)).trans a1
    obtain ⟨cur, hc⟩ := hrow b q.symm
    rw [hb] at hc
    exact ho cur (Option.some.inj hc)
  have b1 : Bk w7 lb #[v0] 25 := hkeep lb _ h1 (fun cur q => by injection q with _ q2; exact absurd q2 (by decide))
  have b4 : Below w0.heap.size w0 w7 := rows_bel (h.bel.alloc hz _) (by rw [al_size]; omega) (h2.alloc _) (Nat.le_refl _) hgrow
  have ho : w7.ownsRow w0.heap.size 34 35 v' (l.length + 1) (env (l ++ [e])) := by rw [env_snoc]; exact hown
  obtain ⟨a', c', hv'⟩ := row_slice ho
  have hg : w7.grownBy (w7.setCell ⟨lb, 0, none⟩ v') (some lb) := Lib.grownBy_setB (World.grownBy.refl _ _) 0 _
  refine ⟨v', w7, hrun, b1, by rw [hv']; rfl, ⟨⟨v', b1.set 0 v', ?_⟩, h.lb, below_own b4 b4.size hg h.lb, h.lst⟩, fun m es c hm => hkeep m _ hm (by simp), fun b C T hb hT => hkeep b _ hb (fun cur q => by injection q with _ q2; exact hT q2)⟩
  rw [List.length_append, List.length_singleton]
  refine ⟨ho.1, ?_⟩
  rcases ho.2 with q | ⟨g, cap, cur, q1, q2, hc, q3⟩
  · exact .inl q
  · refine .inr ⟨g, cap, cur, q1, q2, ?_, q3⟩
    refine (hg.block g (Array.getElem?_eq_some_iff.1 hc).1 (fun q => ?_)).trans hc
    injection q with q
    subst q
    have q9 : some (Obj.cells cur 34 (0, 0)) = some (Obj.cells #[v0] 25 (0, 0)) := hc.symm.trans b1
    injection q9 with q9
    injection q9 with _ q9
    exact absurd q9 (by decide)
end Go.Proofs.YtpfknjnigcefgaaGreatDoor
/- The closures of Salvage and Scan. -/
namespace Go.Proofs.YtpfknjnigcefgaaGreatDoor
open Go.RowKit
set_option linter.unusedSimpArgs false
set_option linter.unusedVariables false
theorem ret_b11 {a b : Bool} (h : b = a) : Ending.returned (.bool a) = .returned (.bool b) := by rw [h]
theorem wpList_appR {P : Program} {ops : Array Oper} {rest : List Oper} {o : Oper} {a : Act} {w : World} {Q : Exit → Act → World → Prop} (hgd : o.guard = none) (sl x : Operand) (t u : TypeId)
    (ho : o.op = .call { callee := .builtin .append, args := #[sl, x], argTypes := #[t, u] }) (v y v' : Value) (w' : World) (hs : a.eval sl = v) (hx : a.eval x = y) (hr : (Builtin.append_ #[t, u] o.type #[v, y]).run P w = .ok v' w')
    (h : wpList P ops Q rest (a.put o.dst v') w') : wpList P ops Q (o :: rest) a w := by
  refine wpList_plain hgd fun K hK => ?_
  unfold Oper.wp execOp
  simp only [ho, resolve, invoke, builtin, Sem.run_bind, Sem.run_pure, Result.andThen_ok, List.map_toArray, List.map_cons, List.map_nil, hs, hx, hr]
  exact hK _ _ h
theorem wpList_bsR {P : Program} {ops : Array Oper} {rest : List Oper} {o : Oper} {a : Act} {w : World} {Q : Exit → Act → World → Prop} (hgd : o.guard = none) (t : TypeId) (x : Operand)
    (ho : o.op = .buildSlice t 1 #[(0, x)]) (v r : Value) (w' : World) (hx : a.eval x = v) (hr : (Instr.buildSlice t 1 #[(0, v)]).run P w = .ok r w')
    (h : wpList P ops Q rest (a.put o.dst r) w') : wpList P ops Q (o :: rest) a w := by
  refine wpList_plain hgd fun K hK => ?_
  unfold Oper.wp execOp
  simp only [ho, Sem.run_bind, Sem.run_pure, Result.andThen_ok, List.map_toArray, List.map_cons, List.map_nil, hx, hr]
  exact hK _ _ h
theorem wpList_bdR {P : Program} {ops : Array Oper} {rest : List Oper} {o : Oper} {a : Act} {w : World} {Q : Exit → Act → World → Prop} (hgd : o.guard = none) (t : TypeId) (x0 x1 x2 x3 : Operand)
    (ho : o.op = .build t #[(0, x0), (1, x1), (2, x2), (3, x3)]) (v0 v1 v2 v3 r : Value) (h0 : a.eval x0 = v0) (h1 : a.eval x1 = v1) (h2 : a.eval x2 = v2) (h3 : a.eval x3 = v3) (hr : (Instr.build t #[(0, v0), (1, v1), (2, v2), (3, v3)]).run P w = .ok r w)
    (h : wpList P ops Q rest (a.put o.dst r) w) : wpList P ops Q (o :: rest) a w := by
  refine wpList_plain hgd fun K hK => ?_
  unfold Oper.wp execOp
  simp only [ho, Sem.run_bind, Sem.run_pure, Result.andThen_ok, List.map_toArray, List.map_cons, List.map_nil, h0, h1, h2, h3, hr]
  exact hK _ _ h
def svN (l : List Ent) (e : Ent) : List Ent := if tkA l e = true then l ++ [e] else l
/-- Entries and their names, told so far. -/
structure ScS (w0 : World) (lb mb m : Nat) (l : List Ent) (w : World) : Prop where
  sv : SvS w0 lb l w
  mb : Bk w mb #[.map (some m)] 57
  st : St (fun v => v = .agg #[]) w m (l.map (·.id))
  mlb : w0.heap.size ≤ m
theorem ScS.keep {w0 w w' : World} {lb mb m : Nat} {l : List Ent} (h : ScS w0 lb mb m l w) (hk : Kx w0.heap.size w w') : ScS w0 lb mb m l w' := by
  obtain ⟨es, c, hm⟩ := h.st.isMap
  exact ⟨h.sv.keep hk, hk.bk h.mb (by decide), h.st.keep ((hk.blk m _ hm (.inr (by simp))).trans hm.symm), h.mlb⟩
theorem hasE_on (l : List Ent) (x : ByteArray) : onL (l.map (·.id)) x = hasE l x := by
  rw [onL, hasE, List.any_map]; rfl
theorem zero_unit (w : World) : (zeroValue 59).run Tryz.prog w = .ok (.agg #[]) w := by kernel_rfl
def scN (l : List Ent) (e : Ent) : List Ent := if tkS l e = true then l ++ [e] else l
set_option maxHeartbeats 1000000 in
set_option maxRecDepth 100000 in
theorem scan1_met (w0 : World) (lb mb m : Nat) (l : List Ent) (e : Ent) (w : World) (h : ScS w0 lb mb m l w) (he : e.id.size = 32) (hh : hasE l e.id = true) :
    Calls Tryz.prog 70 #[.agg (enC e), .pointer (some ⟨mb, 0, none⟩), .pointer (some ⟨lb, 0, none⟩)] w fun r w' => r = .returned (.bool (tkS l e)) ∧ ScS w0 lb mb m (scN l e) w' := by
  have h1 : ScS w0 lb mb m l (w.alloc (.cells (enC e) 34)) := h.keep (Kx.of ((Below.refl _ _).alloc (Nat.le_refl _) _))
  have hbx : Bk (w.alloc (.cells (enC e) 34)) w.heap.size (enC e) 34 := bk_new _ _ _
  have hi35 := info_en (enC_size e he)
  have hi32 : (Tryz.prog.info? 23).map (·.size) = some (idc e.id).size := info_32 (by rw [idc_size, he])
  have HX : Hid (Bk (w.alloc (.cells (enC e) 34)) w.heap.size (enC e) 34) := hbx
  have HI : Hid (∀ j v, (idc e.id)[j]? = some v → (enC e)[0 + j]? = some v) := enC_id e he
  obtain ⟨v, hlook, hv⟩ := h1.st.look Tryz.underlying57 (zero_unit _) rfl e.id he
  subst hv
  rw [hasE_on, hh] at hlook
  have c0 : (w.alloc (.cells (enC e) 34)).cell? ⟨mb, 0, none⟩ = some (.map (some m)) := by rw [h1.mb.cell]; rfl
  have HN : Hid (tkS l e = false) := by show tkS l e = false; rw [tkS, hh]; rfl
  have H2 : Hid (ScS w0 lb mb m l ((w.alloc (.cells (enC e) 34)).alloc (.cells #[] 59))) := h1.keep (Kx.of ((Below.refl _ _).alloc (Nat.le_refl _) _))
  clear h h1 hbx hh
  go_enter Tryz.func70, Tryz.ntmps70
  go_wp2_with (first
    | (refine wpList_get rfl 23 (.tmp 9) rfl w.heap.size 0 (enC e) (idc e.id) 34 _ rfl HX.out HI.out Tryz.underlying23 rfl hi32 ?_)
    | fail)
  go_ret
  refine ⟨ret_b11 HN.out, ?_⟩
  rw [scN, HN.out]
  exact H2.out
theorem SvS.mapped {w0 w w' : World} {lb m : Nat} {l : List Ent} (h : SvS w0 lb l w) (hm : ∃ es c, w.heap[m]? = some (.map es c)) (hg : w.grownBy w' (some m)) (hB : w0.heap.size ≤ m) : SvS w0 lb l w' := by
  obtain ⟨v, h1, h2⟩ := h.row
  obtain ⟨es, c, hm⟩ := hm
  have ne : ∀ (b : Nat) C T F, w.heap[b]? = some (.cells C T F) → some m ≠ some b := fun b C T F hb q => by
    injection q with q
    subst q
    rw [hm] at hb
    cases hb
  refine ⟨⟨v, h1.grown hg (ne _ _ _ _ h1), h2.1, ?_⟩, h.lb, below_own h.bel h.bel.size hg hB, h.lst⟩
  rcases h2.2 with q | ⟨g, cap, cur, q1, q2, hc, q3⟩
  · exact .inl q
  · exact .inr ⟨g, cap, cur, q1, q2, (hg.block g (Array.getElem?_eq_some_iff.1 hc).1 (fun q => ne _ _ _ _ hc q.symm)).trans hc, q3⟩
set_option maxHeartbeats 1000000 in
set_option maxRecDepth 100000 in
theorem scan1_new (w0 : World) (lb mb m : Nat) (l : List Ent) (e : Ent) (w : World) (h : ScS w0 lb mb m l w) (he : e.id.size = 32) (hh : hasE l e.id = false) (hl : l.length ≤ 65536) :
    Calls Tryz.prog 70 #[.agg (enC e), .pointer (some ⟨mb, 0, none⟩), .pointer (some ⟨lb, 0, none⟩)] w fun r w' => r = .returned (.bool (tkS l e)) ∧ ScS w0 lb mb m (scN l e) w' := by
  have h1 : ScS w0 lb mb m l (w.alloc (.cells (enC e) 34)) := h.keep (Kx.of ((Below.refl _ _).alloc (Nat.le_refl _) _))
  have hbx : Bk (w.alloc (.cells (enC e) 34)) w.heap.size (enC e) 34 := bk_new _ _ _
  have hi35 := info_en (enC_size e he)
  have hi32 : (Tryz.prog.info? 23).map (·.size) = some (idc e.id).size := info_32 (by rw [idc_size, he])
  have HX : Hid (Bk (w.alloc (.cells (enC e) 34)) w.heap.size (enC e) 34) := hbx
  have HI : Hid (∀ j v, (idc e.id)[j]? = some v → (enC e)[0 + j]? = some v) := enC_id e he
  obtain ⟨v, hlook, hv⟩ := h1.st.look Tryz.underlying57 (zero_unit _) rfl e.id he
  subst hv
  rw [hasE_on, hh] at hlook
  have c0 : (w.alloc (.cells (enC e) 34)).cell? ⟨mb, 0, none⟩ = some (.map (some m)) := by rw [h1.mb.cell]; rfl
  have h2 : ScS w0 lb mb m l ((w.alloc (.cells (enC e) 34)).alloc (.cells #[] 59)) := h1.keep (Kx.of ((Below.refl _ _).alloc (Nat.le_refl _) _))
  have hbx2 := hbx.alloc (.cells #[] 59)
  have HX2 : Hid (Bk ((w.alloc (.cells (enC e) 34)).alloc (.cells #[] 59)) w.heap.size (enC e) 34) := hbx2
  obtain ⟨v, hb, hr⟩ := h2.sv.row
  obtain ⟨a, c, hv⟩ := row_slice hr
  subst hv
  have c1 : ((w.alloc (.cells (enC e) 34)).alloc (.cells #[] 59)).cell? ⟨lb, 0, none⟩ = some (.slice a l.length c) := by rw [hb.cell]; rfl
  have c2 : ((w.alloc (.cells (enC e) 34)).alloc (.cells #[] 59)).cell? ⟨mb, 0, none⟩ = some (.map (some m)) := by rw [h2.mb.cell]; rfl
  obtain ⟨w3, hput, hst3, hg3⟩ := h2.st.put Tryz.underlying57 (by rw [List.length_map]; omega) e.id he (.agg #[]) rfl
  have hmp := h2.st.isMap
  have h3 : SvS w0 lb l w3 := h2.sv.mapped hmp hg3 h2.mlb
  have nem : ∀ (b : Nat) C T, Bk ((w.alloc (.cells (enC e) 34)).alloc (.cells #[] 59)) b C T → some m ≠ some b := fun b C T hb q => by
    injection q with q
    subst q
    obtain ⟨es, cc, hm⟩ := hmp
    have : ((w.alloc (.cells (enC e) 34)).alloc (.cells #[] 59)).heap[m]? = some (.cells C T (0, 0)) := hb
    rw [hm] at this
    cases this
  have hb3 : Bk w3 lb #[.slice a l.length c] 25 := hb.grown hg3 (nem _ _ _ hb)
  have hbx3 : Bk w3 w.heap.size (enC e) 34 := hbx2.grown hg3 (nem _ _ _ hbx2)
  have hmb3 : Bk w3 mb #[.map (some m)] 57 := h2.mb.grown hg3 (nem _ _ _ h2.mb)
  have HX3 : Hid (Bk w3 w.heap.size (enC e) 34) := hbx3
  have c3 : w3.cell? ⟨lb, 0, none⟩ = some (.slice a l.length c) := by rw [hb3.cell]; rfl
  have hse1 := slice_en e he w3
  obtain ⟨v', w7, hrun, hb7, hv7, h7, hm7, hk7⟩ := h3.app hb3 e he (by omega)
  obtain ⟨a', c', hv'⟩ : ∃ a' c', v' = .slice a' (l.length + 1) c' := by
    obtain ⟨v2, q1, q2⟩ := h7.row
    obtain rfl : v2 = v' := by
      have q3 : (w7.setCell ⟨lb, 0, none⟩ v').cell? ⟨lb, 0, none⟩ = some v2 := by rw [q1.cell]; rfl
      have q4 : (w7.setCell ⟨lb, 0, none⟩ v').cell? ⟨lb, 0, none⟩ = some v' := by rw [(hb7.set 0 v').cell]; rfl
      rw [q3] at q4; exact Option.some.inj q4
    rw [List.length_append, List.length_singleton] at q2
    exact row_slice q2
  subst hv'
  have c7 : w7.cell? ⟨lb, 0, none⟩ = some (.slice a l.length c) := by rw [hb7.cell]; rfl
  have f7 := hb7.frozen 0
  have H2 : Hid (ScS w0 lb mb m l ((w.alloc (.cells (enC e) 34)).alloc (.cells #[] 59))) := h2
  have H7 : Hid (ScS w0 lb mb m (l ++ [e]) (w7.setCell ⟨lb, 0, none⟩ (.slice a' (l.length + 1) c'))) := by
    have hg : w7.grownBy (w7.setCell ⟨lb, 0, none⟩ (.slice a' (l.length + 1) c')) (some lb) := Lib.grownBy_setB (World.grownBy.refl _ _) 0 _
    obtain ⟨es, cc, hm3⟩ := hst3.isMap
    have hm8 := hm7 m es cc hm3
    have st7 : St (fun v => v = .agg #[]) w7 m (l.map (·.id) ++ [e.id]) := hst3.keep (hm8.trans hm3.symm)
    have mb7 := hk7 mb _ _ hmb3 (by decide)
    refine ⟨h7, mb7.grown hg (fun q => ?_), ?_, h2.mlb⟩
    · injection q with q
      subst q
      have q9 : some (Obj.cells #[Value.map (some m)] 57 (0, 0)) = some (Obj.cells #[Value.slice a l.length c] 25 (0, 0)) := mb7.symm.trans hb7
      injection q9 with q9
      injection q9 with _ q9
      exact absurd q9 (by decide)
    · rw [List.map_append]
      refine st7.grown hg (fun q => ?_)
      injection q with q
      subst q
      have q9 : some (Obj.map es cc) = some (Obj.cells #[Value.slice a l.length c] 25 (0, 0)) := hm8.symm.trans hb7
      cases q9
  clear h h1 hbx h2 hbx2 hb hr hst3 hg3 hmp h3 nem hb3 hbx3 hmb3 hb7 hv7 h7 hm7 hk7
  by_cases hn : l.length = 65536
  · have HN : Hid (tkS l e = false) := by show tkS l e = false; simp [tkS, hn]
    have hz : ((l.length : Int) == 65536) = true := by rw [beq_iff_eq]; omega
    generalize l.length = n at c1 hz
    clear hn hrun hput c3 c7 H7 hse1 HX3 f7
    go_enter Tryz.func70, Tryz.ntmps70
    go_wp2_with (first
      | (refine wpList_get rfl 23 (.tmp 9) rfl w.heap.size 0 (enC e) (idc e.id) 34 _ rfl HX.out HI.out Tryz.underlying23 rfl hi32 ?_)
      | fail)
    go_ret
    refine ⟨ret_b11 HN.out, ?_⟩
    rw [scN, HN.out]
    exact H2.out
  · have HN : Hid (tkS l e = true) := by show tkS l e = true; simp [tkS, hn, hh]
    have hz : ((l.length : Int) == 65536) = false := by rw [beq_eq_false_iff_ne]; omega
    clear hn H2
    generalize l.length = n at c1 c3 c7 hz hrun hl H7
    go_enter Tryz.func70, Tryz.ntmps70
    go_wp2_with (first
      | (refine wpList_get rfl 23 (.tmp 9) rfl w.heap.size 0 (enC e) (idc e.id) 34 _ rfl HX.out HI.out Tryz.underlying23 rfl hi32 ?_)
      | (refine wpList_get rfl 23 (.tmp 21) rfl w.heap.size 0 (enC e) (idc e.id) 34 _ rfl HX2.out HI.out Tryz.underlying23 rfl hi32 ?_)
      | (refine wpList_get rfl 34 (.tmp 3) rfl w.heap.size 0 (enC e) (enC e) 34 _ rfl HX3.out (fun j u hu => by rw [Nat.zero_add]; exact hu) Tryz.underlying34 rfl hi35 ?_)
      | (refine wpList_bsR rfl 25 (.tmp 25) rfl (.agg (enC e)) (.slice (some ⟨w3.heap.size, 0, none⟩) 1 1) (w3.alloc (.cells (enC e) 34)) rfl hse1 ?_)
      | (refine wpList_appR rfl (.tmp 24) (.tmp 26) 25 25 rfl (.slice a n c) (.slice (some ⟨w3.heap.size, 0, none⟩) 1 1) (.slice a' (n + 1) c') w7 rfl rfl hrun ?_)
      | fail)
    go_ret
    refine ⟨ret_b11 HN.out, ?_⟩
    rw [scN, HN.out]
    exact H7.out
theorem scan1 (w0 : World) (lb mb m : Nat) (l : List Ent) (e : Ent) (w : World) (h : ScS w0 lb mb m l w) (he : e.id.size = 32) (hl : l.length ≤ 65536) :
    Calls Tryz.prog 70 #[.agg (enC e), .pointer (some ⟨mb, 0, none⟩), .pointer (some ⟨lb, 0, none⟩)] w fun r w' => r = .returned (.bool (tkS l e)) ∧ ScS w0 lb mb m (scN l e) w' := by
  cases hh : hasE l e.id with
  | true => exact scan1_met w0 lb mb m l e w h he hh
  | false => exact scan1_new w0 lb mb m l e w h he hh hl
end Go.Proofs.YtpfknjnigcefgaaGreatDoor
