import Derived.Test.YtbfoiocbmhhdbaaGreatY1
import Derived.Test.YtbfoiocbmhhdbaaGreatY2
import Derived.Great.BuildSlice
import Derived.Maps.AppendAt
import Derived.OwnWalk
import Derived.Laws.StructEq
import Derived.Test.YtbfoiocbmhhdbaaGreatRows
import Derived.WalkKit
import Derived.Handy
import Derived.Maps.OwnSet
import Derived.Maps.OwnOps
import Derived.Maps.RangeWalk
import Derived.Maps.Ext
import Derived.StringKeys
import Derived.DeepKeys4
/- Entries in memory, as they may come in. -/
namespace Go.Proofs.YtbfoiocbmhhdbaaGreat
open Go.RowKit
set_option linter.unusedSimpArgs false
set_option linter.unusedVariables false
/-- An entry's cells. -/
def xeC (e : Xe) : Array Value := ((idc e.id).toList ++ [Value.int .u8 (e.k.toNat : Int), Value.int .i64 e.off, Value.int .i64 e.sz]).toArray
theorem xeC_size (e : Xe) (h : e.id.size = 32) : (xeC e).size = 35 := by simp [xeC, idc_size, h]
theorem idc_oneX (s : ByteArray) : ∀ v ∈ (idc s).toList, v.oneCell' = true := by
  intro v hv
  rw [idc] at hv
  exact bvc_one _ v (by simpa using hv)
theorem xeC_one (e : Xe) : ∀ v ∈ (xeC e).toList, v.oneCell' = true := by
  intro v hv
  simp only [xeC, List.mem_append, List.mem_cons] at hv
  rcases hv with h | h | h | h | h
  · exact idc_oneX _ v h
  · subst h; rfl
  · subst h; rfl
  · subst h; rfl
  · cases h
theorem xeC_all (e : Xe) : (xeC e).all (·.oneCell') = true := Array.all_eq_true_iff_forall_mem.2 (fun v hv => xeC_one e v (by simpa using hv))
theorem idc_allX (s : ByteArray) : (idc s).all (·.oneCell') = true := Array.all_eq_true_iff_forall_mem.2 (fun v hv => idc_oneX s v (by simpa using hv))
theorem xeC_id (e : Xe) (h : e.id.size = 32) (j : Nat) (v : Value) (hv : (idc e.id)[j]? = some v) : (xeC e)[0 + j]? = some v := by
  have hj : j < 32 := by
    have := (Array.getElem?_eq_some_iff.1 hv).1
    rwa [idc_size, h] at this
  rw [Nat.zero_add, xeC, List.getElem?_toArray, List.getElem?_append_left (by rw [Array.length_toList, idc_size]; omega), Array.getElem?_toList]
  exact hv
theorem xeC_at (e : Xe) (h : e.id.size = 32) : (xeC e)[32]? = some (.int .u8 (e.k.toNat : Int)) ∧ (xeC e)[33]? = some (.int .i64 e.off) ∧ (xeC e)[34]? = some (.int .i64 e.sz) := by
  have hl : (idc e.id).toList.length = 32 := by rw [Array.length_toList, idc_size, h]
  refine ⟨?_, ?_, ?_⟩ <;> rw [xeC, List.getElem?_toArray, List.getElem?_append_right (by omega), hl] <;> rfl
theorem list32X (l : List Value) (h : l.length = 32) : ∃ a0 a1 a2 a3 a4 a5 a6 a7 a8 a9 a10 a11 a12 a13 a14 a15 a16 a17 a18 a19 a20 a21 a22 a23 a24 a25 a26 a27 a28 a29 a30 a31, l = [a0, a1, a2, a3, a4, a5, a6, a7, a8, a9, a10, a11, a12, a13, a14, a15, a16, a17, a18, a19, a20, a21, a22, a23, a24, a25, a26, a27, a28, a29, a30, a31] := by
  match l, h with
  | [a0, a1, a2, a3, a4, a5, a6, a7, a8, a9, a10, a11, a12, a13, a14, a15, a16, a17, a18, a19, a20, a21, a22, a23, a24, a25, a26, a27, a28, a29, a30, a31], _ => exact ⟨_, _, _, _, _, _, _, _, _, _, _, _, _, _, _, _, _, _, _, _, _, _, _, _, _, _, _, _, _, _, _, _, rfl⟩
set_option maxRecDepth 100000 in
theorem built32X (a0 a1 a2 a3 a4 a5 a6 a7 a8 a9 a10 a11 a12 a13 a14 a15 a16 a17 a18 a19 a20 a21 a22 a23 a24 a25 a26 a27 a28 a29 a30 a31 : Value) (k a n : Int) : Tryz.prog.built 50 [(0, .agg #[a0, a1, a2, a3, a4, a5, a6, a7, a8, a9, a10, a11, a12, a13, a14, a15, a16, a17, a18, a19, a20, a21, a22, a23, a24, a25, a26, a27, a28, a29, a30, a31]), (1, .int .u8 k), (2, .int .i64 a), (3, .int .i64 n)] = some #[a0, a1, a2, a3, a4, a5, a6, a7, a8, a9, a10, a11, a12, a13, a14, a15, a16, a17, a18, a19, a20, a21, a22, a23, a24, a25, a26, a27, a28, a29, a30, a31, .int .u8 k, .int .i64 a, .int .i64 n] := by kernel_rfl
theorem build_xe (e : Xe) (h : e.id.size = 32) (w : World) : (Instr.build 50 #[(0, .agg (idc e.id)), (1, .int .u8 (e.k.toNat : Int)), (2, .int .i64 e.off), (3, .int .i64 e.sz)]).run Tryz.prog w = .ok (.agg (xeC e)) w := by
  refine run_build w _ _ _ ?_
  obtain ⟨a0, a1, a2, a3, a4, a5, a6, a7, a8, a9, a10, a11, a12, a13, a14, a15, a16, a17, a18, a19, a20, a21, a22, a23, a24, a25, a26, a27, a28, a29, a30, a31, hl⟩ := list32X (idc e.id).toList (by rw [Array.length_toList, idc_size, h])
  have e1 : idc e.id = #[a0, a1, a2, a3, a4, a5, a6, a7, a8, a9, a10, a11, a12, a13, a14, a15, a16, a17, a18, a19, a20, a21, a22, a23, a24, a25, a26, a27, a28, a29, a30, a31] := by rw [← Array.toArray_toList (xs := idc e.id), hl]
  have e2 : xeC e = #[a0, a1, a2, a3, a4, a5, a6, a7, a8, a9, a10, a11, a12, a13, a14, a15, a16, a17, a18, a19, a20, a21, a22, a23, a24, a25, a26, a27, a28, a29, a30, a31, .int .u8 (e.k.toNat : Int), .int .i64 e.off, .int .i64 e.sz] := by rw [xeC, hl]; rfl
  rw [e1, e2]
  exact built32X _ _ _ _ _ _ _ _ _ _ _ _ _ _ _ _ _ _ _ _ _ _ _ _ _ _ _ _ _ _ _ _ _ _ _
/-- An entry of nothing. -/
def z35X : Array Value := #[.int .u8 0, .int .u8 0, .int .u8 0, .int .u8 0, .int .u8 0, .int .u8 0, .int .u8 0, .int .u8 0, .int .u8 0, .int .u8 0, .int .u8 0, .int .u8 0, .int .u8 0, .int .u8 0, .int .u8 0, .int .u8 0, .int .u8 0, .int .u8 0, .int .u8 0, .int .u8 0, .int .u8 0, .int .u8 0, .int .u8 0, .int .u8 0, .int .u8 0, .int .u8 0, .int .u8 0, .int .u8 0, .int .u8 0, .int .u8 0, .int .u8 0, .int .u8 0, .int .u8 0, .int .i64 0, .int .i64 0]
theorem inf_xe : (Tryz.prog.info? 50).map (fun i => (i.zero, i.size, i.bytes)) = some (some (.agg z35X), 35, 56) := by kernel_rfl
theorem inf_xe35 : (Tryz.prog.info? 50).map (·.size) = some 35 := by kernel_rfl
theorem info_xe {C : Array Value} (h : C.size = 35) : (Tryz.prog.info? 50).map (·.size) = some C.size := by rw [h]; exact inf_xe35
set_option maxRecDepth 100000 in
theorem fill35X (a0 a1 a2 a3 a4 a5 a6 a7 a8 a9 a10 a11 a12 a13 a14 a15 a16 a17 a18 a19 a20 a21 a22 a23 a24 a25 a26 a27 a28 a29 a30 a31 : Value) (k a n : Int) : Instr.fill (fun i => some (i * 35, 35)) ((Array.range (1 * 35)).map (z35X[· % z35X.size]!)) [(0, .agg #[a0, a1, a2, a3, a4, a5, a6, a7, a8, a9, a10, a11, a12, a13, a14, a15, a16, a17, a18, a19, a20, a21, a22, a23, a24, a25, a26, a27, a28, a29, a30, a31, .int .u8 k, .int .i64 a, .int .i64 n])] = some #[a0, a1, a2, a3, a4, a5, a6, a7, a8, a9, a10, a11, a12, a13, a14, a15, a16, a17, a18, a19, a20, a21, a22, a23, a24, a25, a26, a27, a28, a29, a30, a31, .int .u8 k, .int .i64 a, .int .i64 n] := by kernel_rfl
theorem slice_xe (e : Xe) (h : e.id.size = 32) (w : World) : (Instr.buildSlice 66 1 #[(0, .agg (xeC e))]).run Tryz.prog w = .ok (.slice (some ⟨w.heap.size, 0, none⟩) 1 1) (w.alloc (.cells (xeC e) 50)) := by
  obtain ⟨i0, hi, hz0, hz1, hz2⟩ := info_parts inf_xe
  refine run_buildSlice w _ 50 1 _ _ i0 (.agg z35X) Tryz.underlying66 hi hz0 (by rw [hz1]; decide) (by rw [hz1]; decide) ?_
  obtain ⟨a0, a1, a2, a3, a4, a5, a6, a7, a8, a9, a10, a11, a12, a13, a14, a15, a16, a17, a18, a19, a20, a21, a22, a23, a24, a25, a26, a27, a28, a29, a30, a31, hl⟩ := list32X (idc e.id).toList (by rw [Array.length_toList, idc_size, h])
  have e2 : xeC e = #[a0, a1, a2, a3, a4, a5, a6, a7, a8, a9, a10, a11, a12, a13, a14, a15, a16, a17, a18, a19, a20, a21, a22, a23, a24, a25, a26, a27, a28, a29, a30, a31, .int .u8 (e.k.toNat : Int), .int .i64 e.off, .int .i64 e.sz] := by rw [xeC, hl]; rfl
  rw [e2, hz1]
  exact fill35X _ _ _ _ _ _ _ _ _ _ _ _ _ _ _ _ _ _ _ _ _ _ _ _ _ _ _ _ _ _ _ _ _ _ _
/-- Entries as cells. -/
def xvs (l : List Xe) : List Value := l.flatMap (fun e => (xeC e).toList)
theorem xvs_snoc (l : List Xe) (e : Xe) : xvs (l ++ [e]) = xvs l ++ (xeC e).toList := by simp [xvs]
theorem xvs_len : ∀ {l : List Xe}, (∀ e ∈ l, e.id.size = 32) → (xvs l).length = l.length * 35
  | [], _ => rfl
  | e :: l, h => by
    have ih := xvs_len (l := l) (fun x hx => h x (List.mem_cons_of_mem _ hx))
    show ((xeC e).toList ++ xvs l).length = _
    rw [List.length_append, ih, Array.length_toList, xeC_size e (h e (List.mem_cons_self ..)), List.length_cons]; omega
theorem xvs_one (l : List Xe) : ∀ v ∈ xvs l, v.oneCell' = true := by
  intro v hv
  obtain ⟨e, _, h⟩ := List.mem_flatMap.1 hv
  exact xeC_one e v h
theorem xvs_get : ∀ {l : List Xe}, (∀ e ∈ l, e.id.size = 32) → ∀ {i : Nat} {e : Xe}, l[i]? = some e → ∀ j, j < 35 → (xvs l)[i * 35 + j]? = (xeC e)[j]?
  | [], _, i, e, h, _, _ => by simp at h
  | x :: l, hs, 0, e, h, j, hj => by
    simp only [List.getElem?_cons_zero, Option.some.injEq] at h
    subst h
    show ((xeC x).toList ++ xvs l)[0 * 35 + j]? = _
    rw [Nat.zero_mul, Nat.zero_add, List.getElem?_append_left (by rw [Array.length_toList, xeC_size x (hs x (List.mem_cons_self ..))]; exact hj), Array.getElem?_toList]
  | x :: l, hs, i + 1, e, h, j, hj => by
    rw [List.getElem?_cons_succ] at h
    show ((xeC x).toList ++ xvs l)[(i + 1) * 35 + j]? = _
    rw [List.getElem?_append_right (by rw [Array.length_toList, xeC_size x (hs x (List.mem_cons_self ..))]; omega), Array.length_toList, xeC_size x (hs x (List.mem_cons_self ..)), ← xvs_get (l := l) (fun y hy => hs y (List.mem_cons_of_mem _ hy)) h j hj]
    congr 1
    omega
/-- Entries of a slice. -/
def XeL (w : World) (a : Option Addr) (l : List Xe) : Prop := ∀ i e, l[i]? = some e → e.id.size = 32 ∧ ∃ g o, a = some ⟨g, o, none⟩ ∧ g < w.heap.size ∧ ∀ j v, (xeC e)[j]? = some v → w.cell? ⟨g, o + i * 35 + j, none⟩ = some v
theorem XeL.below {w w' : World} {a : Option Addr} {l : List Xe} (h : XeL w a l) (hb : Below w.heap.size w w') : XeL w' a l := fun i e he => by
  obtain ⟨h1, g, o, h2, h3, h4⟩ := h i e he
  exact ⟨h1, g, o, h2, Nat.lt_of_lt_of_le h3 hb.size, fun j v hv => by rw [hb.cell (p := ⟨g, o + i * 35 + j, none⟩) h3]; exact h4 j v hv⟩
theorem XeL.ids {w : World} {a : Option Addr} {l : List Xe} (h : XeL w a l) : ∀ e ∈ l, e.id.size = 32 := fun e he => by
  obtain ⟨i, hi⟩ := List.getElem?_of_mem he
  exact (h i e hi).1
theorem own_xel {w : World} {B n : Nat} {v : Value} {T : TypeId} {l : List Xe} (h : w.ownsRow B T 35 v n (xvs l)) (hn : l.length = n) (hs : ∀ e ∈ l, e.id.size = 32) : ∃ a c, v = .slice a n c ∧ XeL w a l ∧ n ≤ c ∧ (a = none ∧ n = 0 ∨ ∃ g, a = some ⟨g, 0, none⟩ ∧ B ≤ g) := by
  rcases h.2 with ⟨h1, h0⟩ | ⟨g, cap, cur, h1, hle, hg, hnc, hsz, hone, ht⟩
  · subst h1
    refine ⟨none, 0, by rw [h0], fun i e he => ?_, by omega, .inl ⟨rfl, h0⟩⟩
    have : l = [] := List.length_eq_zero_iff.1 (by omega)
    rw [this] at he
    cases he
  · refine ⟨some ⟨g, 0, none⟩, cap, h1, fun i e he => ?_, hnc, .inr ⟨g, rfl, hle⟩⟩
    have hb : Bk w g cur T := hg
    have hi : i < l.length := (List.getElem?_eq_some_iff.1 he).1
    refine ⟨hs e (List.mem_of_getElem? he), g, 0, rfl, hb.lt, fun j u hu => ?_⟩
    have hj : j < 35 := by
      have := (Array.getElem?_eq_some_iff.1 hu).1
      rwa [xeC_size e (hs e (List.mem_of_getElem? he))] at this
    have := xvs_get hs he j hj
    rw [hu, ← ht, List.getElem?_take, if_pos (by omega), Array.getElem?_toList] at this
    rw [hb.cell, Nat.zero_add]
    exact this
end Go.Proofs.YtbfoiocbmhhdbaaGreat
/- Two entries compared. -/
namespace Go.Proofs.YtbfoiocbmhhdbaaGreat
open Go.RowKit
set_option linter.unusedSimpArgs false
set_option linter.unusedVariables false
theorem eqItems_idsQ (d : Nat) (a b : ByteArray) (ha : a.size = 32) (hb : b.size = 32) (w : World) : ∀ is : List Nat, (∀ i ∈ is, i < 32) →
    (Op.eqItems (d + 1) 5 1 (idc a) (idc b) is).run Tryz.prog w = .ok (is.all fun i => (byl a).getD i 0 == (byl b).getD i 0) w
  | [], _ => by simp [Op.eqItems]
  | i :: is, h => by
    have hi : i < 32 := h i (List.mem_cons_self ..)
    have ih := eqItems_idsQ d a b ha hb w is (fun j hj => h j (List.mem_cons_of_mem _ hj))
    have e1 : (byl a).getD i 0 = a[i].toNat := by rw [List.getD, byl_getD a i (by omega)]; rfl
    have e2 : (byl b).getD i 0 = b[i].toNat := by rw [List.getD, byl_getD b i (by omega)]; rfl
    have e3 := run_equalIn_int (P := Tryz.prog) w d 5 .u8 .u8 (a[i].toNat : Int) (b[i].toNat : Int) Tryz.underlying5
    simp only [Op.eqItems, Sem.run_bind, Nat.mul_one, part_id a i (by omega), part_id b i (by omega), Result.andThen_ok, e3, List.all_cons, e1, e2]
    by_cases e : a[i].toNat = b[i].toNat
    · have e4 : ((a[i].toNat : Int) == (b[i].toNat : Int)) = true := by rw [e]; simp
      simp only [e4, Bool.not_true, Bool.false_eq_true, if_false, ih, e, beq_self_eq_true, Bool.true_and]
    · have e4 : ((a[i].toNat : Int) == (b[i].toNat : Int)) = false := by rw [beq_eq_false_iff_ne]; omega
      have e5 : (a[i].toNat == b[i].toNat) = false := by rw [beq_eq_false_iff_ne]; exact e
      simp only [e4, Bool.not_false, if_true, Sem.run_pure, e5, Bool.false_and]
theorem equalIn_idsQ (d : Nat) (a b : ByteArray) (ha : a.size = 32) (hb : b.size = 32) (w : World) : (Op.equalIn (d + 2) 48 (.agg (idc a)) (.agg (idc b))).run Tryz.prog w = .ok (decide (a = b)) w := by
  have hc : Tryz.prog.cellsOf 5 = 1 := by kernel_rfl
  obtain ⟨i0, hi⟩ := info_of_underlying Tryz.underlying5
  have hu : Tryz.prog.underlying 48 = some (.array 32 5) := Tryz.underlying48
  rw [run_equalIn_array w (d + 1) (idc a) (idc b) hu hi, hc, eqItems_idsQ d a b ha hb w _ (fun i hi => by simpa using hi), ids_all a b ha hb]
/-- Whether two entries are the same. -/
def xeQ (e f : Xe) : Bool := decide (e.id = f.id) && (((e.k.toNat : Int) == (f.k.toNat : Int)) && (((e.off : Int) == (f.off : Int)) && ((e.sz : Int) == (f.sz : Int))))
theorem xeQ_self (e : Xe) : xeQ e e = true := by simp [xeQ]
theorem xeQ_iff (e f : Xe) : xeQ e f = true ↔ e = f := by
  constructor
  · intro h
    simp only [xeQ, Bool.and_eq_true, decide_eq_true_eq, beq_iff_eq] at h
    obtain ⟨h1, h2, h3, h4⟩ := h
    obtain ⟨a, b, c, d⟩ := e
    obtain ⟨a', b', c', d'⟩ := f
    simp only at h1 h2 h3 h4
    subst h1
    have h2' : b = b' := UInt8.toNat.inj (by omega)
    subst h2'
    have h3' : c = c' := by omega
    have h4' : d = d' := by omega
    subst h3' h4'
    rfl
  · rintro rfl; exact xeQ_self e
theorem part_idQ (e : Xe) (h : e.id.size = 32) (w : World) : (part 48 (xeC e) 0).run Tryz.prog w = .ok (.agg (idc e.id)) w := by
  have ha : (isAgg 48).run Tryz.prog w = .ok true w := by kernel_rfl
  have hs : (sizeOf 48).run Tryz.prog w = .ok 32 w := by kernel_rfl
  have hx : (xeC e).extract 0 32 = idc e.id := by
    apply Array.ext'
    rw [Array.toList_extract, xeC]
    have hl : (idc e.id).toList.length = 32 := by rw [Array.length_toList, idc_size, h]
    simp only [List.extract_eq_take_drop, List.drop_zero, Nat.sub_zero]
    rw [List.take_append_of_le_length (by omega), List.take_of_length_le (by omega)]
  simp [part, ha, hs, hx]
theorem part_cellQ {t : TypeId} (C : Array Value) (j : Nat) (v : Value) (w : World) (ha : (isAgg t).run Tryz.prog w = .ok false w) (h : C[j]? = some v) : (part t C j).run Tryz.prog w = .ok v w := by
  simp [part, ha, h]
set_option maxRecDepth 100000 in
theorem equalIn_xe (e f : Xe) (he : e.id.size = 32) (hf : f.id.size = 32) (w : World) : (Op.equalIn 10000 50 (.agg (xeC e)) (.agg (xeC f))).run Tryz.prog w = .ok (xeQ e f) w := by
  have hu : Tryz.prog.underlying 50 = some (.struct (Tryz.prog.fieldsOf 50)) := by kernel_rfl
  have hst : Tryz.prog.stoodInHeld 50 = false := by kernel_rfl
  have hfs : (Tryz.prog.fieldsOf 50).toList.map (fun q => (q.name != "_", q.type, q.offset)) = [(true, 48, 0), (true, 5, 32), (true, 3, 33), (true, 3, 34)] := by kernel_rfl
  rw [run_equalIn_struct w 9999 50 (xeC e) (xeC f) hu hst]
  generalize (Tryz.prog.fieldsOf 50).toList = fs at hfs
  have hlen : fs.length = 4 := by have := congrArg List.length hfs; simpa using this
  match fs, hlen, hfs with
  | [f0, f1, f2, f3], _, hfs =>
    simp only [List.map_cons, List.map_nil, List.cons.injEq, Prod.mk.injEq, and_true, bne_iff_ne] at hfs
    obtain ⟨⟨n0, t0, o0⟩, ⟨n1, t1, o1⟩, ⟨n2, t2, o2⟩, n3, t3, o3⟩ := hfs
    obtain ⟨a1, a2, a3⟩ := xeC_at e he
    obtain ⟨b1, b2, b3⟩ := xeC_at f hf
    have u8a : (isAgg 5).run Tryz.prog w = .ok false w := by kernel_rfl
    have i64a : (isAgg 3).run Tryz.prog w = .ok false w := by kernel_rfl
    have q0 := equalIn_idsQ 9997 e.id f.id he hf w
    have q1 := run_equalIn_int (P := Tryz.prog) w 9998 5 .u8 .u8 (e.k.toNat : Int) (f.k.toNat : Int) Tryz.underlying5
    have q2 := run_equalIn_int (P := Tryz.prog) w 9998 3 .i64 .i64 (e.off : Int) (f.off : Int) Tryz.underlying3
    have q3 := run_equalIn_int (P := Tryz.prog) w 9998 3 .i64 .i64 (e.sz : Int) (f.sz : Int) Tryz.underlying3
    simp only [Op.eqFields, n0, n1, n2, n3, t0, t1, t2, t3, o0, o1, o2, o3, ne_eq, not_false_eq_true, if_true, Sem.run_bind, part_idQ e he, part_idQ f hf, part_cellQ _ _ _ w u8a a1, part_cellQ _ _ _ w u8a b1, part_cellQ _ _ _ w i64a a2, part_cellQ _ _ _ w i64a b2, part_cellQ _ _ _ w i64a a3, part_cellQ _ _ _ w i64a b3, Result.andThen_ok]
    rw [q0, Result.andThen_ok, xeQ]
    cases decide (e.id = f.id) with
    | false => rfl
    | true =>
      simp only [Bool.not_true, Bool.false_eq_true, if_false, Bool.true_and, Sem.run_bind, part_cellQ _ _ _ w u8a a1, part_cellQ _ _ _ w u8a b1, Result.andThen_ok, q1]
      cases ((e.k.toNat : Int) == (f.k.toNat : Int)) with
      | false => rfl
      | true =>
        simp only [Bool.not_true, Bool.false_eq_true, if_false, Bool.true_and, Sem.run_bind, part_cellQ _ _ _ w i64a a2, part_cellQ _ _ _ w i64a b2, Result.andThen_ok, q2]
        cases ((e.off : Int) == (f.off : Int)) with
        | false => rfl
        | true =>
          simp only [Bool.not_true, Bool.false_eq_true, if_false, Bool.true_and, Sem.run_bind, part_cellQ _ _ _ w i64a a3, part_cellQ _ _ _ w i64a b3, Result.andThen_ok, q3]
          cases ((e.sz : Int) == (f.sz : Int)) with
          | false => rfl
          | true => rfl
theorem neq_xe (e f : Xe) (he : e.id.size = 32) (hf : f.id.size = 32) (w : World) : (binOp .neq 50 (.agg (xeC e)) (.agg (xeC f))).run Tryz.prog w = .ok (.bool (!xeQ e f)) w := by
  rw [run_neq_struct, equalIn_xe e f he hf]; rfl
end Go.Proofs.YtbfoiocbmhhdbaaGreat
/- Maps whose elements are held as they lie: what a look-up, a store, a delete, a count do to them. -/
namespace Go.Proofs.YtbfoiocbmhhdbaaGreat
open Go.RowKit Go.Maps
set_option linter.unusedSimpArgs false
set_option linter.unusedVariables false
/-- An element, read as it lies. -/
def hE : Value → Option (DataW Value × List MemPlace) := fun v => some (.held v, [])
theorem hE_mk (v : Value) : hE v = some (.held v, []) := rfl
theorem hE_inv {v : Value} {d : DataW Value} {ps : List MemPlace} (h : hE v = some (d, ps)) : d = .held v := by
  simp only [hE, Option.some.injEq, Prod.mk.injEq] at h; exact h.1.symm
/-- A map in memory, of keys of the type k. -/
def Mp (w : World) (k : TypeId) (b : Nat) (D : DataW Value) : Prop := w.ownsMap Tryz.prog k hE b (Maps.size D) D
theorem owns_size {w : World} {P : Program} {k : TypeId} {R : Value → Option (DataW Value × List MemPlace)} {b n : Nat} {D : DataW Value} (h : w.ownsMap P k R b n D) : w.ownsMap P k R b (Maps.size D) D := by
  obtain ⟨es, clock, hb, F, hs, rfl⟩ := h
  exact ⟨es, clock, hb, F, by simp [Maps.size, length_sorted], rfl⟩
theorem Mp.lt {w : World} {k : TypeId} {b : Nat} {D : DataW Value} (h : Mp w k b D) : b < w.heap.size := World.ownsMap.lt h
theorem Mp.grown {w w' : World} {k : TypeId} {b : Nat} {D : DataW Value} {r : Option Nat} (h : Mp w k b D) (hg : w.grownBy w' r) (hr : r ≠ some b) : Mp w' k b D := World.ownsMap.kept h hg (fun e => hr e.symm)
theorem Mp.made (w : World) (k : TypeId) : Mp (w.alloc (.map #[] 0)) k w.heap.size (.map []) := World.ownsMap_made w _ k hE
/-- A key that is a text; one that is a number. -/
theorem sKey : Keyed Tryz.prog 9 := string_keyed Tryz.underlying9
theorem iKey : Keyed Tryz.prog 3 := int_keyed Tryz.underlying3
def sL (s : ByteArray) : Lit := .string s.data.toList
def iL (n : Int) : Lit := .int .i64 n
theorem sL_inj {s t : ByteArray} (h : sL s = sL t) : s = t := by
  simp only [sL, Lit.string.injEq] at h
  exact ByteArray.ext (Array.ext' h)
theorem sL_key (s : ByteArray) (h : s.size ≤ maxLen) : keyOf Tryz.prog 9 (.string s) = some (sL s) := WideMaps.keyOf_string_mk Tryz.underlying9 h
theorem wf_int (n : Int) (h1 : -9223372036854775808 ≤ n) (h2 : n ≤ 9223372036854775807) : (Lit.int .i64 n).wf = true := by
  show (decide (IntKind.i64.min ≤ n) && decide (n ≤ IntKind.i64.max)) = true
  have e1 : IntKind.i64.min = -9223372036854775808 := by decide
  have e2 : IntKind.i64.max = 9223372036854775807 := by decide
  rw [e1, e2]; simp [h1, h2]
theorem iL_key (n : Int) (h1 : -9223372036854775808 ≤ n) (h2 : n ≤ 9223372036854775807) : keyOf Tryz.prog 3 (.int .i64 n) = some (iL n) := keyOf_int_mk Tryz.underlying3 (wf_int n h1 h2)
theorem zero_int (w : World) : (zeroValue 3).run Tryz.prog w = .ok (.int .i64 0) w := by kernel_rfl
/-- What lies at a key. -/
def hAt (D : DataW Value) (k : Lit) : Option Value := if Maps.has D k then (match D.atKey k .nil with | .held v => some v | _ => none) else none
section
variable {w : World} {b : Nat} {D : DataW Value} {k e t : TypeId}
theorem Mp.at_held (h : Mp w k b D) (K : Keyed Tryz.prog k) (ht : Tryz.prog.underlying t = some (.map k e)) {z : Value} (hz : (zeroValue e).run Tryz.prog w = .ok z w) {key : Value} {kl : Lit} (hkey : keyOf Tryz.prog k key = some kl) :
    (Instr.lookup t (.map (some b)) key true).run Tryz.prog w = .ok (.tuple #[(hAt D kl).getD z, .bool (hAt D kl).isSome]) w ∧ (Instr.lookup t (.map (some b)) key false).run Tryz.prog w = .ok ((hAt D kl).getD z) w := by
  obtain ⟨v, ps, h1, h2⟩ := World.ownsMap.look_ok h K ht hz (hE_mk z) hkey
  obtain ⟨v', ps', h3, h4⟩ := World.ownsMap.lookup h K ht hz (hE_mk z) hkey
  have e2 := hE_inv h2
  have e4 := hE_inv h4
  have hv : v' = v := by rw [e2] at e4; simpa using e4.symm
  have key : Maps.has D kl = (hAt D kl).isSome ∧ (hAt D kl).getD z = v := by
    unfold hAt
    cases hh : Maps.has D kl with
    | false =>
      rw [Maps.atKey_of_not_has hh] at e2
      simp at e2
      simp [e2]
    | true =>
      have ind : D.atKey kl .nil = .held v := by
        rw [← e2]
        obtain ⟨es, rfl⟩ := World.ownsMap.isMap h
        have h5 : es.any (fun p => p.1.sameKey kl) = true := hh
        obtain ⟨p, hp, hs⟩ := List.any_eq_true.1 h5
        unfold DataW.atKey
        simp only
        cases hf : es.find? (fun p => p.1.sameKey kl) with
        | none => exact absurd hs (by simpa using List.find?_eq_none.1 hf p hp)
        | some q => rfl
      rw [ind]; simp
  rw [key.2, ← key.1]
  exact ⟨h1, by rw [← hv]; exact h3⟩
theorem Mp.canon (h : Mp w k b D) (K : Keyed Tryz.prog k) : Canon D := World.ownsMap.canon h K
theorem Mp.put (h : Mp w k b D) (K : Keyed Tryz.prog k) (ht : Tryz.prog.underlying t = some (.map k e)) (hn : Maps.size D < maxLen) {key : Value} {kl : Lit} (hkey : keyOf Tryz.prog k key = some kl) (v : Value) :
    ∃ w', (Instr.mapUpdate t (.map (some b)) key v).run Tryz.prog w = .ok () w' ∧ Mp w' k b (D.put kl (.held v)) ∧ w.grownBy w' (some b) := by
  obtain ⟨w', h1, h2, h3⟩ := World.ownsMap.store h K ht hn hkey (hE_mk v)
  exact ⟨w', h1, owns_size h2, h3.grown⟩
theorem Mp.del (h : Mp w k b D) (K : Keyed Tryz.prog k) (ht : Tryz.prog.underlying t = some (.map k e)) {key : Value} {kl : Lit} (hkey : keyOf Tryz.prog k key = some kl) (ty : TypeId) :
    ∃ w', (Builtin.delete_ #[t, k] ty #[.map (some b), key]).run Tryz.prog w = .ok (.tuple #[]) w' ∧ Mp w' k b (D.del kl) ∧ w.grownBy w' (some b) := by
  obtain ⟨w', h1, h2, h3⟩ := World.ownsMap.drop h K ht hkey ty
  exact ⟨w', h1, owns_size h2, h3.grown⟩
theorem Mp.len (h : Mp w k b D) (ht : Tryz.prog.underlying t = some (.map k e)) (ty : TypeId) : (Builtin.len_ #[t] ty #[.map (some b)]).run Tryz.prog w = .ok (.int .i64 (Maps.size D)) w := World.ownsMap.len h ht ty
end
/-- A view of a map: what lies at each key. -/
theorem hAt_has {D : DataW Value} {k : Lit} {v : Value} (h : hAt D k = some v) : Maps.has D k = true := by
  unfold hAt at h
  split at h
  · assumption
  · cases h
theorem hAt_put_same {D : DataW Value} (hD : IsMap D) {k : Lit} (hk : WideAt.IsKeyLit k) (v : Value) : hAt (D.put k (.held v)) k = some v := by
  unfold hAt
  rw [has_put_same hD hk, atKey_put_same hD hk]; rfl
theorem hAt_put_other {D : DataW Value} {k k' : Lit} (hne : k' ≠ k) (v : Value) : hAt (D.put k (.held v)) k' = hAt D k' := by
  unfold hAt
  rw [has_put_other hne, atKey_put_other hne]
theorem hAt_del_same (D : DataW Value) (k : Lit) : hAt (D.del k) k = none := by
  unfold hAt
  rw [has_del_same]; rfl
theorem hAt_del_other {D : DataW Value} {k k' : Lit} (hne : k' ≠ k) : hAt (D.del k) k' = hAt D k' := by
  unfold hAt
  rw [has_del_other hne, atKey_del_other hne]
theorem hAt_empty (k : Lit) : hAt (.map []) k = none := rfl
theorem sL_lit (s : ByteArray) : WideAt.IsKeyLit (sL s) := trivial
theorem iL_lit (n : Int) : WideAt.IsKeyLit (iL n) := trivial
/-- A nil map. -/
theorem nil_at {w : World} {k e t : TypeId} (K : Keyed Tryz.prog k) (ht : Tryz.prog.underlying t = some (.map k e)) {z : Value} (hz : (zeroValue e).run Tryz.prog w = .ok z w) {key : Value} {kl : Lit} (hkey : keyOf Tryz.prog k key = some kl) :
    (Instr.lookup t (.map none) key true).run Tryz.prog w = .ok (.tuple #[z, .bool false]) w ∧ (Instr.lookup t (.map none) key false).run Tryz.prog w = .ok z w :=
  ⟨Maps.look_nil true K ht hz hkey, Maps.look_nil false K ht hz hkey⟩
end Go.Proofs.YtbfoiocbmhhdbaaGreat
/- Names as keys; sets of names. -/
namespace Go.Proofs.YtbfoiocbmhhdbaaGreat
open Go.RowKit Go.Maps
set_option linter.unusedSimpArgs false
set_option linter.unusedVariables false
theorem laidOut11 : laidOutB Tryz.prog = true := by kernel_rfl
theorem idRow : (48 : TypeId) < Tryz.prog.types.size := of_decide_eq_true (by kernel_rfl)
theorem idLaw : WideMaps.KeyLaw Tryz.prog 48 := deep_law_laid laidOut11 (m := 2) (by omega) idRow (by kernel_rfl) (by kernel_rfl)
theorem idKey : Keyed Tryz.prog 48 := Keyed.of_law idLaw
theorem mapM_some {β : Type} (f : Nat → Option β) : ∀ l : List Nat, (∀ i ∈ l, ∃ y, f i = some y) → ∃ ys, l.mapM f = some ys
  | [], _ => ⟨[], rfl⟩
  | i :: l, h => by
    obtain ⟨y, hy⟩ := h i (by simp)
    obtain ⟨ys, hys⟩ := mapM_some f l (fun j hj => h j (by simp [hj]))
    exact ⟨y :: ys, by simp [List.mapM_cons, hy, hys]⟩
theorem u8wf (n : Nat) (h : n < 256) : (Lit.int .u8 (n : Int)).wf = true := by
  show (decide (IntKind.u8.min ≤ (n : Int)) && decide ((n : Int) ≤ IntKind.u8.max)) = true
  have e1 : IntKind.u8.min = 0 := by decide
  have e2 : IntKind.u8.max = 255 := by decide
  rw [e1, e2]; simp; omega
theorem lits_u8 {P : Program} {e : TypeId} (he : P.underlying e = some (.int .u8)) (d n : Nat) (h : n < 256) : P.keyLits (d + 1) e [.int .u8 (n : Int)] = some [.int .u8 (n : Int)] := by
  unfold Program.keyLits
  rw [he]
  simp [u8wf n h]
theorem lits_arr {P : Program} {k e : TypeId} (d : Nat) (cs ys) (hk : P.underlying k = some (.array 32 e)) (hc : cs.length = P.cellsOf k) (h : ((List.range 32).mapM fun i => P.keyLits d e ((cs.drop (i * P.cellsOf e)).take (P.cellsOf e))) = some ys) :
    P.keyLits (d + 1) k cs = some ys.flatten := by
  unfold Program.keyLits
  rw [hk]
  simp only [hc, if_true, h, Option.map_some]
theorem key_gen {P : Program} {k e : TypeId} (hu : P.underlying k = some (.array 32 e)) (he : P.underlying e = some (.int .u8)) (hk : P.keyType k = true) (c1 : P.cellsOf k = 32) (c2 : P.cellsOf e = 1) (hn : 0 < P.types.size) (s : ByteArray) (hs : s.size = 32) :
    ∃ l, keyOf P k (.agg (idc s)) = some l := by
  have hf : (Value.agg (idc s)).formed P k = true := by
    unfold Value.formed
    rw [hu]
    simp [idc_size, hs, c1]
  have hc : (idc s).toList.length = 32 := by rw [Array.length_toList, idc_size, hs]
  obtain ⟨m, hm⟩ : ∃ m, P.types.size = m + 1 := ⟨P.types.size - 1, by omega⟩
  obtain ⟨ys, hys⟩ := mapM_some (fun i => P.keyLits (m + 1) e (((idc s).toList.drop (i * P.cellsOf e)).take (P.cellsOf e))) (List.range 32) (fun i hi => by
    have hi' : i < 32 := List.mem_range.1 hi
    have hg := idc_get s i (by omega)
    have e1 : ((idc s).toList.drop (i * P.cellsOf e)).take (P.cellsOf e) = [.int .u8 (s[i].toNat : Int)] := by
      have h1 : i < (idc s).toList.length := by omega
      rw [c2, Nat.mul_one, List.drop_eq_getElem_cons h1]
      have : (idc s).toList[i]? = some (.int .u8 (s[i].toNat : Int)) := by rw [Array.getElem?_toList]; exact hg
      rw [List.getElem?_eq_getElem h1] at this
      injection this with this
      rw [this]; rfl
    rw [e1]
    exact ⟨_, lits_u8 he m _ s[i].toNat_lt⟩)
  refine ⟨.string (keyBytes ys.flatten), ?_⟩
  unfold keyOf
  rw [hu]
  simp only [hk, hf, Bool.and_self, if_true]
  rw [show (Value.agg (idc s)).cells.toList = (idc s).toList from rfl, lits_arr (P.types.size) _ ys hu (by rw [hc, c1]) (by rw [hm]; exact hys)]
  rfl
theorem key_some (s : ByteArray) (hs : s.size = 32) : ∃ l, keyOf Tryz.prog 48 (.agg (idc s)) = some l :=
  key_gen (P := Tryz.prog) (k := 48) (e := 5) (by kernel_rfl) Tryz.underlying5 (by kernel_rfl) (by kernel_rfl) (by kernel_rfl) (of_decide_eq_true (by kernel_rfl)) s hs
/-- A name as a key. -/
noncomputable def kI (s : ByteArray) : Lit := @Classical.epsilon Lit ⟨.bool true⟩ (fun l => keyOf Tryz.prog 48 (.agg (idc s)) = some l)
theorem kI_key (s : ByteArray) (hs : s.size = 32) : keyOf Tryz.prog 48 (.agg (idc s)) = some (kI s) := @Classical.epsilon_spec Lit (fun l => keyOf Tryz.prog 48 (.agg (idc s)) = some l) (key_some s hs)
theorem idc_inj {s t : ByteArray} (h : idc s = idc t) : s = t := by
  have hz : s.size = t.size := by rw [← idc_size, h, idc_size]
  apply bl_inj
  apply List.ext_getElem?
  intro i
  by_cases hi : i < s.size
  · have h1 := idc_get s i hi
    have h2 := idc_get t i (by omega)
    rw [h, h2] at h1
    have e : t[i].toNat = s[i].toNat := by
      simp only [Option.some.injEq, Value.int.injEq, true_and] at h1
      omega
    have e2 : s[i] = t[i]'(by omega) := UInt8.toNat.inj e.symm
    have h5 : i < s.data.size := hi
    have h6 : i < t.data.size := by have : i < t.size := by omega
                                    exact this
    rw [bl, bl, Array.getElem?_toList, Array.getElem?_toList, Array.getElem?_eq_getElem h5, Array.getElem?_eq_getElem h6]
    exact congrArg some e2
  · rw [List.getElem?_eq_none (by rw [bl_length]; omega), List.getElem?_eq_none (by rw [bl_length]; omega)]
theorem kI_inj {s t : ByteArray} (hs : s.size = 32) (ht : t.size = 32) (h : kI s = kI t) : s = t := by
  have h1 := kI_key s hs
  have h2 := kI_key t ht
  rw [h] at h1
  exact idc_inj (Value.agg.inj (idKey.inj h1 h2))
/-- Whether a name is on a list. -/
def onL (d : List ByteArray) (x : ByteArray) : Bool := d.any (fun y => bl y == bl x)
theorem onL_snoc (d : List ByteArray) (y x : ByteArray) : onL (d ++ [y]) x = (onL d x || (bl y == bl x)) := by simp [onL]
/-- Block m is a map whose keys are these names, each with an element as E says. -/
def St (E : Value → Prop) (w : World) (m : Nat) (d : List ByteArray) : Prop :=
  ∃ D, Mp w 48 m D ∧ Maps.size D ≤ d.length ∧ ∀ x, x.size = 32 → (hAt D (kI x)).isSome = onL d x ∧ ∀ v, hAt D (kI x) = some v → E v
theorem St.lt {E : Value → Prop} {w : World} {m : Nat} {d : List ByteArray} (h : St E w m d) : m < w.heap.size := by
  obtain ⟨D, h1, _⟩ := h; exact h1.lt
theorem St.keep {E : Value → Prop} {w w' : World} {m : Nat} {d : List ByteArray} (h : St E w m d) (hb : w'.heap[m]? = w.heap[m]?) : St E w' m d := by
  obtain ⟨D, ⟨es, c, h1, h2, h3, h4⟩, h5⟩ := h
  exact ⟨D, ⟨es, c, hb.trans h1, h2, h3, h4⟩, h5⟩
theorem St.grown {E : Value → Prop} {w w' : World} {m : Nat} {d : List ByteArray} {r : Option Nat} (h : St E w m d) (hg : w.grownBy w' r) (hr : some m ≠ r) : St E w' m d := h.keep (hg.block m h.lt hr)
theorem St.below {E : Value → Prop} {w w' : World} {m : Nat} {d : List ByteArray} (h : St E w m d) (hb : Below w.heap.size w w') : St E w' m d := h.keep (hb.block m h.lt)
theorem St.alloc {E : Value → Prop} {w : World} {m : Nat} {d : List ByteArray} (h : St E w m d) (o : Obj) : St E (w.alloc o) m d := h.grown (World.grownBy_alloc w o none) (by simp)
theorem St.isMap {E : Value → Prop} {w : World} {m : Nat} {d : List ByteArray} (h : St E w m d) : ∃ es c, w.heap[m]? = some (.map es c) := by
  obtain ⟨D, ⟨es, c, h1, _⟩, _⟩ := h
  exact ⟨es, c, h1⟩
theorem St.made (E : Value → Prop) (w : World) : St E (w.alloc (.map #[] 0)) w.heap.size [] :=
  ⟨.map [], Mp.made w _, Nat.le_refl _, fun x _ => ⟨rfl, fun v hv => by rw [hAt_empty] at hv; cases hv⟩⟩
theorem St.look {E : Value → Prop} {w : World} {m : Nat} {d : List ByteArray} {t e : TypeId} (h : St E w m d) (ht : Tryz.prog.underlying t = some (.map 48 e)) {z : Value} (hz : (zeroValue e).run Tryz.prog w = .ok z w) (hE : E z) (x : ByteArray) (hx : x.size = 32) :
    ∃ v, (Instr.lookup t (.map (some m)) (.agg (idc x)) true).run Tryz.prog w = .ok (.tuple #[v, .bool (onL d x)]) w ∧ E v := by
  obtain ⟨D, h1, _, h3⟩ := h
  obtain ⟨a, b⟩ := h3 x hx
  refine ⟨(hAt D (kI x)).getD z, ?_, ?_⟩
  · rw [← a]; exact (h1.at_held idKey ht hz (kI_key x hx)).1
  · cases hv : hAt D (kI x) with
    | none => exact hE
    | some v => exact b v hv
theorem St.put {E : Value → Prop} {w : World} {m : Nat} {d : List ByteArray} {t e : TypeId} (h : St E w m d) (ht : Tryz.prog.underlying t = some (.map 48 e)) (hn : d.length < 1048576) (x : ByteArray) (hx : x.size = 32) (v : Value) (hE : E v) :
    ∃ w', (Instr.mapUpdate t (.map (some m)) (.agg (idc x)) v).run Tryz.prog w = .ok () w' ∧ St E w' m (d ++ [x]) ∧ w.grownBy w' (some m) := by
  obtain ⟨D, h1, h2, h3⟩ := h
  obtain ⟨w', g1, g2, g3⟩ := h1.put idKey ht (by unfold maxLen; omega) (kI_key x hx) v
  have hk := idKey.key (kI_key x hx)
  have hD : IsMap D := World.ownsMap.isMap h1
  have htd : Tidy D := World.ownsMap.tidy h1 idKey
  refine ⟨w', g1, ⟨_, g2, ?_, ?_⟩, g3⟩
  · rw [Maps.size_put htd, List.length_append, List.length_singleton]
    split <;> omega
  · intro y hy
    rw [onL_snoc]
    by_cases e : y = x
    · subst e
      rw [hAt_put_same hD hk]
      refine ⟨by simp, fun u hu => ?_⟩
      injection hu with hu
      rw [← hu]; exact hE
    · have ne : kI y ≠ kI x := fun h => e (kI_inj hy hx h)
      rw [hAt_put_other ne]
      have : (bl x == bl y) = false := by
        rw [beq_eq_false_iff_ne]
        intro h
        exact e (bl_inj h).symm
      rw [this, Bool.or_false]
      exact h3 y hy
end Go.Proofs.YtbfoiocbmhhdbaaGreat
