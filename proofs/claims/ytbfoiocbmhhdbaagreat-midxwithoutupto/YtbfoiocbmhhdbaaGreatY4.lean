import Derived.Test.YtbfoiocbmhhdbaaGreatY3
import Derived.Test.YtbfoiocbmhhdbaaGreatY2
import Derived.Test.YtbfoiocbmhhdbaaGreatY1
import Derived.Great.BuildSlice
import Derived.Maps.AppendAt
import Derived.OwnWalk
import Derived.Test.YtbfoiocbmhhdbaaGreatRows
import Derived.ProofKit
import Derived.Deep.Slices
import Derived.Lib.SmallJoins
import Derived.SizedLaws
import Derived.OpenShut
import Derived.Deep.Strs
/- Entries in memory, as they may come in. -/
namespace Go.Proofs.YtbfoiocbmhhdbaaGreat
open Go.RowKit
set_option linter.unusedSimpArgs false
set_option linter.unusedVariables false
/-- An entry's cells. -/
def xeC (e : Xe) : Array Value := ((idc e.id).toList ++ [Value.int .u8 (e.k.toNat : Int), Value.int .i64 e.off, Value.int .i64 e.sz]).toArray
theorem xeC_size (e : Xe) (h : e.id.size = 32) : (xeC e).size = 35 := by simp [xeC, idc_size, h]
theorem idc_oneX (s : ByteArray) : ∀ v ∈ (idc s).toList, v.oneCell' = true := by
  intro v hv
  rw [idc] at hv
  exact bvc_one _ v (by simpa using hv)
theorem xeC_one (e : Xe) : ∀ v ∈ (xeC e).toList, v.oneCell' = true := by
  intro v hv
  simp only [xeC, List.mem_append, List.mem_cons] at hv
  rcases hv with h | h | h | h | h
  · exact idc_oneX _ v h
  · subst h; rfl
  · subst h; rfl
  · subst h; rfl
  · cases h
theorem xeC_all (e : Xe) : (xeC e).all (·.oneCell') = true := Array.all_eq_true_iff_forall_mem.2 (fun v hv => xeC_one e v (by simpa using hv))
theorem idc_allX (s : ByteArray) : (idc s).all (·.oneCell') = true := Array.all_eq_true_iff_forall_mem.2 (fun v hv => idc_oneX s v (by simpa using hv))
theorem xeC_id (e : Xe) (h : e.id.size = 32) (j : Nat) (v : Value) (hv : (idc e.id)[j]? = some v) : (xeC e)[0 + j]? = some v := by
  have hj : j < 32 := by
    have := (Array.getElem?_eq_some_iff.1 hv).1
    rwa [idc_size, h] at this
  rw [Nat.zero_add, xeC, List.getElem?_toArray, List.getElem?_append_left (by rw [Array.length_toList, idc_size]; omega), Array.getElem?_toList]
  exact hv
theorem xeC_at (e : Xe) (h : e.id.size = 32) : (xeC e)[32]? = some (.int .u8 (e.k.toNat : Int)) ∧ (xeC e)[33]? = some (.int .i64 e.off) ∧ (xeC e)[34]? = some (.int .i64 e.sz) := by
  have hl : (idc e.id).toList.length = 32 := by rw [Array.length_toList, idc_size, h]
  refine ⟨?_, ?_, ?_⟩ <;> rw [xeC, List.getElem?_toArray, List.getElem?_append_right (by omega), hl] <;> rfl
theorem list32X (l : List Value) (h : l.length = 32) : ∃ a0 a1 a2 a3 a4 a5 a6 a7 a8 a9 a10 a11 a12 a13 a14 a15 a16 a17 a18 a19 a20 a21 a22 a23 a24 a25 a26 a27 a28 a29 a30 a31, l = [a0, a1, a2, a3, a4, a5, a6, a7, a8, a9, a10, a11, a12, a13, a14, a15, a16, a17, a18, a19, a20, a21, a22, a23, a24, a25, a26, a27, a28, a29, a30, a31] := by
  match l, h with
  | [a0, a1, a2, a3, a4, a5, a6, a7, a8, a9, a10, a11, a12, a13, a14, a15, a16, a17, a18, a19, a20, a21, a22, a23, a24, a25, a26, a27, a28, a29, a30, a31], _ => exact ⟨_, _, _, _, _, _, _, _, _, _, _, _, _, _, _, _, _, _, _, _, _, _, _, _, _, _, _, _, _, _, _, _, rfl⟩
set_option maxRecDepth 100000 in
theorem built32X (a0 a1 a2 a3 a4 a5 a6 a7 a8 a9 a10 a11 a12 a13 a14 a15 a16 a17 a18 a19 a20 a21 a22 a23 a24 a25 a26 a27 a28 a29 a30 a31 : Value) (k a n : Int) : Tryz.prog.built 50 [(0, .agg #[a0, a1, a2, a3, a4, a5, a6, a7, a8, a9, a10, a11, a12, a13, a14, a15, a16, a17, a18, a19, a20, a21, a22, a23, a24, a25, a26, a27, a28, a29, a30, a31]), (1, .int .u8 k), (2, .int .i64 a), (3, .int .i64 n)] = some #[a0, a1, a2, a3, a4, a5, a6, a7, a8, a9, a10, a11, a12, a13, a14, a15, a16, a17, a18, a19, a20, a21, a22, a23, a24, a25, a26, a27, a28, a29, a30, a31, .int .u8 k, .int .i64 a, .int .i64 n] := by kernel_rfl
theorem build_xe (e : Xe) (h : e.id.size = 32) (w : World) : (Instr.build 50 #[(0, .agg (idc e.id)), (1, .int .u8 (e.k.toNat : Int)), (2, .int .i64 e.off), (3, .int .i64 e.sz)]).run Tryz.prog w = .ok (.agg (xeC e)) w := by
  refine run_build w _ _ _ ?_
  obtain ⟨a0, a1, a2, a3, a4, a5, a6, a7, a8, a9, a10, a11, a12, a13, a14, a15, a16, a17, a18, a19, a20, a21, a22, a23, a24, a25, a26, a27, a28, a29, a30, a31, hl⟩ := list32X (idc e.id).toList (by rw [Array.length_toList, idc_size, h])
  have e1 : idc e.id = #[a0, a1, a2, a3, a4, a5, a6, a7, a8, a9, a10, a11, a12, a13, a14, a15, a16, a17, a18, a19, a20, a21, a22, a23, a24, a25, a26, a27, a28, a29, a30, a31] := by rw [← Array.toArray_toList (xs := idc e.id), hl]
  have e2 : xeC e = #[a0, a1, a2, a3, a4, a5, a6, a7, a8, a9, a10, a11, a12, a13, a14, a15, a16, a17, a18, a19, a20, a21, a22, a23, a24, a25, a26, a27, a28, a29, a30, a31, .int .u8 (e.k.toNat : Int), .int .i64 e.off, .int .i64 e.sz] := by rw [xeC, hl]; rfl
  rw [e1, e2]
  exact built32X _ _ _ _ _ _ _ _ _ _ _ _ _ _ _ _ _ _ _ _ _ _ _ _ _ _ _ _ _ _ _ _ _ _ _
/-- An entry of nothing. -/
def z35X : Array Value := #[.int .u8 0, .int .u8 0, .int .u8 0, .int .u8 0, .int .u8 0, .int .u8 0, .int .u8 0, .int .u8 0, .int .u8 0, .int .u8 0, .int .u8 0, .int .u8 0, .int .u8 0, .int .u8 0, .int .u8 0, .int .u8 0, .int .u8 0, .int .u8 0, .int .u8 0, .int .u8 0, .int .u8 0, .int .u8 0, .int .u8 0, .int .u8 0, .int .u8 0, .int .u8 0, .int .u8 0, .int .u8 0, .int .u8 0, .int .u8 0, .int .u8 0, .int .u8 0, .int .u8 0, .int .i64 0, .int .i64 0]
theorem inf_xe : (Tryz.prog.info? 50).map (fun i => (i.zero, i.size, i.bytes)) = some (some (.agg z35X), 35, 56) := by kernel_rfl
theorem inf_xe35 : (Tryz.prog.info? 50).map (·.size) = some 35 := by kernel_rfl
theorem info_xe {C : Array Value} (h : C.size = 35) : (Tryz.prog.info? 50).map (·.size) = some C.size := by rw [h]; exact inf_xe35
set_option maxRecDepth 100000 in
theorem fill35X (a0 a1 a2 a3 a4 a5 a6 a7 a8 a9 a10 a11 a12 a13 a14 a15 a16 a17 a18 a19 a20 a21 a22 a23 a24 a25 a26 a27 a28 a29 a30 a31 : Value) (k a n : Int) : Instr.fill (fun i => some (i * 35, 35)) ((Array.range (1 * 35)).map (z35X[· % z35X.size]!)) [(0, .agg #[a0, a1, a2, a3, a4, a5, a6, a7, a8, a9, a10, a11, a12, a13, a14, a15, a16, a17, a18, a19, a20, a21, a22, a23, a24, a25, a26, a27, a28, a29, a30, a31, .int .u8 k, .int .i64 a, .int .i64 n])] = some #[a0, a1, a2, a3, a4, a5, a6, a7, a8, a9, a10, a11, a12, a13, a14, a15, a16, a17, a18, a19, a20, a21, a22, a23, a24, a25, a26, a27, a28, a29, a30, a31, .int .u8 k, .int .i64 a, .int .i64 n] := by kernel_rfl
theorem slice_xe (e : Xe) (h : e.id.size = 32) (w : World) : (Instr.buildSlice 66 1 #[(0, .agg (xeC e))]).run Tryz.prog w = .ok (.slice (some ⟨w.heap.size, 0, none⟩) 1 1) (w.alloc (.cells (xeC e) 50)) := by
  obtain ⟨i0, hi, hz0, hz1, hz2⟩ := info_parts inf_xe
  refine run_buildSlice w _ 50 1 _ _ i0 (.agg z35X) Tryz.underlying66 hi hz0 (by rw [hz1]; decide) (by rw [hz1]; decide) ?_
  obtain ⟨a0, a1, a2, a3, a4, a5, a6, a7, a8, a9, a10, a11, a12, a13, a14, a15, a16, a17, a18, a19, a20, a21, a22, a23, a24, a25, a26, a27, a28, a29, a30, a31, hl⟩ := list32X (idc e.id).toList (by rw [Array.length_toList, idc_size, h])
  have e2 : xeC e = #[a0, a1, a2, a3, a4, a5, a6, a7, a8, a9, a10, a11, a12, a13, a14, a15, a16, a17, a18, a19, a20, a21, a22, a23, a24, a25, a26, a27, a28, a29, a30, a31, .int .u8 (e.k.toNat : Int), .int .i64 e.off, .int .i64 e.sz] := by rw [xeC, hl]; rfl
  rw [e2, hz1]
  exact fill35X _ _ _ _ _ _ _ _ _ _ _ _ _ _ _ _ _ _ _ _ _ _ _ _ _ _ _ _ _ _ _ _ _ _ _
/-- Entries as cells. -/
def xvs (l : List Xe) : List Value := l.flatMap (fun e => (xeC e).toList)
theorem xvs_snoc (l : List Xe) (e : Xe) : xvs (l ++ [e]) = xvs l ++ (xeC e).toList := by simp [xvs]
theorem xvs_len : ∀ {l : List Xe}, (∀ e ∈ l, e.id.size = 32) → (xvs l).length = l.length * 35
  | [], _ => rfl
  | e :: l, h => by
    have ih := xvs_len (l := l) (fun x hx => h x (List.mem_cons_of_mem _ hx))
    show ((xeC e).toList ++ xvs l).length = _
    rw [List.length_append, ih, Array.length_toList, xeC_size e (h e (List.mem_cons_self ..)), List.length_cons]; omega
theorem xvs_one (l : List Xe) : ∀ v ∈ xvs l, v.oneCell' = true := by
  intro v hv
  obtain ⟨e, _, h⟩ := List.mem_flatMap.1 hv
  exact xeC_one e v h
theorem xvs_get : ∀ {l : List Xe}, (∀ e ∈ l, e.id.size = 32) → ∀ {i : Nat} {e : Xe}, l[i]? = some e → ∀ j, j < 35 → (xvs l)[i * 35 + j]? = (xeC e)[j]?
  | [], _, i, e, h, _, _ => by simp at h
  | x :: l, hs, 0, e, h, j, hj => by
    simp only [List.getElem?_cons_zero, Option.some.injEq] at h
    subst h
    show ((xeC x).toList ++ xvs l)[0 * 35 + j]? = _
    rw [Nat.zero_mul, Nat.zero_add, List.getElem?_append_left (by rw [Array.length_toList, xeC_size x (hs x (List.mem_cons_self ..))]; exact hj), Array.getElem?_toList]
  | x :: l, hs, i + 1, e, h, j, hj => by
    rw [List.getElem?_cons_succ] at h
    show ((xeC x).toList ++ xvs l)[(i + 1) * 35 + j]? = _
    rw [List.getElem?_append_right (by rw [Array.length_toList, xeC_size x (hs x (List.mem_cons_self ..))]; omega), Array.length_toList, xeC_size x (hs x (List.mem_cons_self ..)), ← xvs_get (l := l) (fun y hy => hs y (List.mem_cons_of_mem _ hy)) h j hj]
    congr 1
    omega
/-- Entries of a slice. -/
def XeL (w : World) (a : Option Addr) (l : List Xe) : Prop := ∀ i e, l[i]? = some e → e.id.size = 32 ∧ ∃ g o, a = some ⟨g, o, none⟩ ∧ g < w.heap.size ∧ ∀ j v, (xeC e)[j]? = some v → w.cell? ⟨g, o + i * 35 + j, none⟩ = some v
theorem XeL.below {w w' : World} {a : Option Addr} {l : List Xe} (h : XeL w a l) (hb : Below w.heap.size w w') : XeL w' a l := fun i e he => by
  obtain ⟨h1, g, o, h2, h3, h4⟩ := h i e he
  exact ⟨h1, g, o, h2, Nat.lt_of_lt_of_le h3 hb.size, fun j v hv => by rw [hb.cell (p := ⟨g, o + i * 35 + j, none⟩) h3]; exact h4 j v hv⟩
theorem XeL.ids {w : World} {a : Option Addr} {l : List Xe} (h : XeL w a l) : ∀ e ∈ l, e.id.size = 32 := fun e he => by
  obtain ⟨i, hi⟩ := List.getElem?_of_mem he
  exact (h i e hi).1
theorem own_xel {w : World} {B n : Nat} {v : Value} {T : TypeId} {l : List Xe} (h : w.ownsRow B T 35 v n (xvs l)) (hn : l.length = n) (hs : ∀ e ∈ l, e.id.size = 32) : ∃ a c, v = .slice a n c ∧ XeL w a l ∧ n ≤ c ∧ (a = none ∧ n = 0 ∨ ∃ g, a = some ⟨g, 0, none⟩ ∧ B ≤ g) := by
  rcases h.2 with ⟨h1, h0⟩ | ⟨g, cap, cur, h1, hle, hg, hnc, hsz, hone, ht⟩
  · subst h1
    refine ⟨none, 0, by rw [h0], fun i e he => ?_, by omega, .inl ⟨rfl, h0⟩⟩
    have : l = [] := List.length_eq_zero_iff.1 (by omega)
    rw [this] at he
    cases he
  · refine ⟨some ⟨g, 0, none⟩, cap, h1, fun i e he => ?_, hnc, .inr ⟨g, rfl, hle⟩⟩
    have hb : Bk w g cur T := hg
    have hi : i < l.length := (List.getElem?_eq_some_iff.1 he).1
    refine ⟨hs e (List.mem_of_getElem? he), g, 0, rfl, hb.lt, fun j u hu => ?_⟩
    have hj : j < 35 := by
      have := (Array.getElem?_eq_some_iff.1 hu).1
      rwa [xeC_size e (hs e (List.mem_of_getElem? he))] at this
    have := xvs_get hs he j hj
    rw [hu, ← ht, List.getElem?_take, if_pos (by omega), Array.getElem?_toList] at this
    rw [hb.cell, Nat.zero_add]
    exact this
end Go.Proofs.YtbfoiocbmhhdbaaGreat
/- A slice of structs that came in, opened at an index: plain laws on readings, over any program. -/
namespace Go.Proofs.YtbfoiocbmhhdbaaGreat
open Go.ChangeShapes Go.WideShapes Go.ChangeAt Go.RowKit
set_option linter.unusedSimpArgs false
set_option linter.unusedVariables false
theorem weightsAll_mem {H : Type} {P : Program} {e : TypeId} : ∀ {l : List (DataW H)} {d : DataW H}, d ∈ l → ∀ n ∈ d.weights P e, n ∈ DataW.weightsAll P e l
  | [], _, h, _, _ => by simp at h
  | x :: l, d, hd, n, hn => by
    simp only [DataW.weightsAll, List.mem_append]
    rcases List.mem_cons.1 hd with rfl | h
    · exact Or.inl hn
    · exact Or.inr (weightsAll_mem h n hn)
theorem open_elem {H : Type} {enc : TypeId × Value → H} {P : Program} {w : World} {t e : TypeId} {d : DataW H} {ps : List MemPlace} {a0 : Option Addr} {len cap : Nat}
    (ht : P.underlying t = some (.slice e)) (hce : 0 < P.cellsOf e) (h : DataW.Trod enc P w 0 (fun _ => true) true t (.slice a0 len cap) d ps) :
    len ≤ maxLen ∧ ∀ i, i < len → ∃ (b off : Nat) (cs : List Value) (D : DataW H) (Pl : List MemPlace) (n : Nat), a0 = some ⟨b, off, none⟩ ∧ b < w.heap.size ∧ cs.length = P.cellsOf e ∧
      (∀ j, j < P.cellsOf e → w.cell? ⟨b, off + i * P.cellsOf e + j, none⟩ = cs[j]?) ∧ DataW.trod enc P w 0 (fun _ => true) true n e cs = some (D, Pl) ∧ ∀ q ∈ D.weights P e, q ∈ d.weights P t := by
  obtain ⟨fuel, hf⟩ := h
  have hcs : (Value.slice a0 len cap).cells.toList = [.slice a0 len cap] := by simp [Value.cells]
  rw [hcs] at hf
  rcases Go.Deep.open_slice ht hf with ⟨h1, _⟩ | ⟨a, l, c, m, n, D, Pl, h1, _, hl, hm, hmm, hx, hi⟩
  · simp only [List.cons.injEq, Value.slice.injEq, and_true] at h1
    obtain ⟨rfl, rfl, rfl⟩ := h1
    exact ⟨by unfold maxLen; omega, fun i hi => by omega⟩
  · simp only [List.cons.injEq, Value.slice.injEq, and_true] at h1
    obtain ⟨rfl, rfl, rfl⟩ := h1
    have hmc : m = cap := by simpa using hmm
    refine ⟨by omega, fun i hil => ?_⟩
    obtain ⟨cs, h2, h3⟩ := hi i (by omega)
    obtain ⟨_, hlen, hcell⟩ := World.cells?_some h2
    obtain ⟨b, off, spot⟩ := a
    have hsp : spot = none := by
      obtain ⟨cs0, k2, _⟩ := hi 0 (by omega)
      obtain ⟨_, klen, kcell⟩ := World.cells?_some k2
      have kc := kcell 0 hce
      rw [Go.Deep.add_add, Nat.zero_mul, Nat.zero_add, show (⟨b, off, spot⟩ : Addr).add 0 = ⟨b, off, spot⟩ from rfl, List.getElem?_eq_getElem (by omega)] at kc
      exact World.cell?_spot kc
    subst hsp
    have hc0 := hcell 0 hce
    rw [Go.Deep.add_add, add_plain, List.getElem?_eq_getElem (by omega)] at hc0
    refine ⟨b, off, cs, D i, Pl i, n, rfl, block_lt_of_cell hc0, hlen, fun j hj => ?_, h3, fun q hq => ?_⟩
    · have := hcell j hj
      rw [Go.Deep.add_add, add_plain, ← Nat.add_assoc] at this
      exact this
    · simp only [Prod.mk.injEq] at hx
      rw [hx.1]
      simp only [DataW.weights, ht, List.mem_cons, List.mem_append]
      exact Or.inr (Or.inl (weightsAll_mem (List.mem_map.2 ⟨i, by simpa using hil, rfl⟩) q hq))
theorem open_cap {H : Type} {enc : TypeId × Value → H} {P : Program} {w : World} {t e : TypeId} {d : DataW H} {ps : List MemPlace} {a0 : Option Addr} {len cap : Nat}
    (ht : P.underlying t = some (.slice e)) (h : DataW.Trod enc P w 0 (fun _ => true) true t (.slice a0 len cap) d ps) : len ≤ cap ∧ cap ≤ maxLen := by
  obtain ⟨fuel, hf⟩ := h
  have hcs : (Value.slice a0 len cap).cells.toList = [.slice a0 len cap] := by simp [Value.cells]
  rw [hcs] at hf
  rcases Go.Deep.open_slice ht hf with ⟨h1, _⟩ | ⟨a, l, c, m, n, D, Pl, h1, _, hl, hm, hmm, hx, hi⟩
  · simp only [List.cons.injEq, Value.slice.injEq, and_true] at h1
    obtain ⟨rfl, rfl, rfl⟩ := h1
    exact ⟨Nat.le_refl _, by unfold maxLen; omega⟩
  · simp only [List.cons.injEq, Value.slice.injEq, and_true] at h1
    obtain ⟨rfl, rfl, rfl⟩ := h1
    have hmc : m = cap := by simpa using hmm
    omega
end Go.Proofs.YtbfoiocbmhhdbaaGreat
/- Lists of the document's entries, and of names, that came in, opened. -/
namespace Go.Proofs.YtbfoiocbmhhdbaaGreat
open Go.ChangeShapes Go.WideShapes Go.ChangeAt Go.RowKit Go.Joins
set_option linter.unusedSimpArgs false
set_option linter.unusedVariables false
section
variable {H : Type} {enc : TypeId × Value → H} {P : Program} {w : World} {base : Nat} {spare : Nat → Bool} {held : Bool}
theorem trod4x {t : TypeId} {f0 f1 f2 f3 : Field} {fuel : Nat} {cs : List Value} {x : DataW H × List MemPlace} (ht : P.underlying t = some (.struct #[f0, f1, f2, f3])) (h : DataW.trod enc P w base spare held fuel t cs = some x) :
    ∃ y0 y1 y2 y3 n, x.1 = .agg [y0.1, y1.1, y2.1, y3.1] ∧ cs.length = P.cellsOf t ∧ DataW.trod enc P w base spare held n f0.type ((cs.drop f0.offset).take (P.cellsOf f0.type)) = some y0 ∧
      DataW.trod enc P w base spare held n f1.type ((cs.drop f1.offset).take (P.cellsOf f1.type)) = some y1 ∧ DataW.trod enc P w base spare held n f2.type ((cs.drop f2.offset).take (P.cellsOf f2.type)) = some y2 ∧
      DataW.trod enc P w base spare held n f3.type ((cs.drop f3.offset).take (P.cellsOf f3.type)) = some y3 := by
  obtain ⟨xs, n, _, rfl, hl, hlen, hf⟩ := DataW.trod_struct ht h
  match xs, hlen with
  | [y0, y1, y2, y3], _ => exact ⟨y0, y1, y2, y3, n, by simp, hl, by simpa using hf 0 f0 rfl, by simpa using hf 1 f1 rfl, by simpa using hf 2 f2 rfl, by simpa using hf 3 f3 rfl⟩
theorem open_lenx {t e : TypeId} {d : DataW H} {ps : List MemPlace} {a0 : Option Addr} {len cap : Nat} (ht : P.underlying t = some (.slice e)) (h : DataW.Trod enc P w 0 (fun _ => true) true t (.slice a0 len cap) d ps)
    (hsz : ∀ q ∈ d.weights P t, q ≤ reachBytes) : len * P.bytesOf e ≤ reachBytes := by
  obtain ⟨fuel, hf⟩ := h
  have hcs : (Value.slice a0 len cap).cells.toList = [.slice a0 len cap] := by simp [Value.cells]
  rw [hcs] at hf
  rcases Go.Deep.open_slice ht hf with ⟨h1, _⟩ | ⟨a, l, c, m, n, D, Pl, h1, _, hl, hm, hmm, hx, hi⟩
  · simp only [List.cons.injEq, Value.slice.injEq, and_true] at h1
    obtain ⟨rfl, rfl, rfl⟩ := h1
    simp
  · simp only [List.cons.injEq, Value.slice.injEq, and_true] at h1
    obtain ⟨rfl, rfl, rfl⟩ := h1
    simp only [Prod.mk.injEq] at hx
    have := hsz _ (by rw [hx.1]; simp only [DataW.weights, ht]; exact List.mem_cons_self ..)
    refine Nat.le_trans ?_ this
    simp only [List.length_map, List.length_range]
    exact Nat.mul_le_mul_right _ (by omega)
end
theorem u8_valx (a : Int) (h : (Lit.int .u8 a).wf = true) : ∃ x : UInt8, a = (x.toNat : Int) := by
  have h' : 0 ≤ a ∧ a ≤ 255 := by simpa [Lit.wf, IntKind.min, IntKind.max, IntKind.signed, IntKind.bits] using h
  refine ⟨UInt8.ofNat a.toNat, ?_⟩
  simp
  omega
theorem cells_idx (cs : List Value) (hsz : cs.length = 32) (h : ∀ i, i < 32 → ∃ n : Nat, cs[i]? = some (.int .u8 (n : Int)) ∧ n < 256) : ∃ s : ByteArray, s.size = 32 ∧ cs = (idc s).toList := by
  obtain ⟨f, hf⟩ := Go.Deep.choose_lt h
  have hl : ∀ x ∈ (List.range 32).map f, x < 256 := by
    intro x hx
    simp only [List.mem_map, List.mem_range] at hx
    obtain ⟨i, hi, rfl⟩ := hx
    exact (hf i hi).2
  refine ⟨sb ((List.range 32).map f), by rw [sb_size]; simp, ?_⟩
  unfold idc
  rw [byl_sb _ hl]
  apply List.ext_getElem?
  intro i
  by_cases hi : i < 32
  · rw [(hf i hi).1]
    simp [bvc, hi]
  · rw [List.getElem?_eq_none (by omega), List.getElem?_eq_none (by simp [bvc]; omega)]
/-- The cells of a name. -/
theorem trod_idx {H : Type} {enc : TypeId × Value → H} {w : World} {base : Nat} {spare : Nat → Bool} {held : Bool} {fuel : Nat} {cs : List Value} {x : DataW H × List MemPlace}
    (h : DataW.trod enc Tryz.prog w base spare held fuel 48 cs = some x) : ∃ s : ByteArray, s.size = 32 ∧ cs = (idc s).toList := by
  have hu : Tryz.prog.underlying 48 = some (.array 32 5) := Tryz.underlying48
  have hc : Tryz.prog.cellsOf 5 = 1 := by kernel_rfl
  have hct : Tryz.prog.cellsOf 48 = 32 := by kernel_rfl
  obtain ⟨xs, m, _, _, hl, hn, hi⟩ := DataW.trod_array hu h
  rw [hct] at hl
  refine cells_idx cs hl (fun i hlt => ?_)
  have := hi i hlt
  rw [hc, Nat.mul_one, List.getElem?_eq_getElem (by omega)] at this
  have e1 : (cs.drop i).take 1 = [cs[i]'(by omega)] := by
    rw [List.drop_eq_getElem_cons (by omega), List.take_succ_cons, List.take_zero]
  rw [e1] at this
  obtain ⟨n, e, _, wn⟩ := DataW.trod_int Tryz.underlying5 this
  have hb : 0 ≤ n ∧ n ≤ 255 := by simpa [Lit.wf, IntKind.min, IntKind.max, IntKind.signed, IntKind.bits] using wn
  simp at e
  refine ⟨n.toNat, ?_, by omega⟩
  rw [List.getElem?_eq_getElem (by omega), e, show ((n.toNat : Nat) : Int) = n from by omega]
set_option maxRecDepth 100000 in
theorem open_xes {H : Type} {enc : TypeId × Value → H} {w : World} {d : DataW H} {ps : List MemPlace} {a0 : Option Addr} {len cap : Nat}
    (h : DataW.Trod enc Tryz.prog w 0 (fun _ => true) true 93 (.slice a0 len cap) d ps) (hsz : ∀ q ∈ d.weights Tryz.prog 93, q ≤ reachBytes) :
    ∃ l, l.length = len ∧ XeL w a0 l ∧ (len + 1) * 56 ≤ 140737488355328 ∧ ∀ e ∈ l, -9223372036854775808 ≤ e.off ∧ e.off ≤ 9223372036854775807 ∧ -9223372036854775808 ≤ e.sz ∧ e.sz ≤ 9223372036854775807 := by
  have ce : Tryz.prog.cellsOf 91 = 35 := by kernel_rfl
  have be : Tryz.prog.bytesOf 91 = 56 := by kernel_rfl
  have c9 : Tryz.prog.cellsOf 3 = 1 := by kernel_rfl
  have c5 : Tryz.prog.cellsOf 5 = 1 := by kernel_rfl
  have c32 : Tryz.prog.cellsOf 48 = 32 := by kernel_rfl
  have hl := open_lenx Tryz.underlying93 h hsz
  rw [be] at hl
  unfold reachBytes at hl
  obtain ⟨_, hall⟩ := open_elem Tryz.underlying93 (by rw [ce]; omega) h
  have one : ∀ i, i < len → ∃ x : Xe, (x.id.size = 32 ∧ ∃ g o, a0 = some ⟨g, o, none⟩ ∧ g < w.heap.size ∧ ∀ j v, (xeC x)[j]? = some v → w.cell? ⟨g, o + i * 35 + j, none⟩ = some v) ∧ -9223372036854775808 ≤ x.off ∧ x.off ≤ 9223372036854775807 ∧ -9223372036854775808 ≤ x.sz ∧ x.sz ≤ 9223372036854775807 := by
    intro i hi
    obtain ⟨b, off, cs, D, Pl, n, ha, hb, hlen, hcell, htrod, hw⟩ := hall i hi
    rw [ce] at hlen hcell
    obtain ⟨y0, y1, y2, y3, m, hx, _, t0, t1, t2, t3⟩ := trod4x Tryz.underlying91 htrod
    simp only [c9, c5, c32] at t0 t1 t2 t3
    obtain ⟨s, hs, e0⟩ := trod_idx t0
    obtain ⟨k1, e1, _, w1⟩ := DataW.trod_int Tryz.underlying5 t1
    obtain ⟨k2, e2, _, w2⟩ := DataW.trod_int Tryz.underlying3 t2
    obtain ⟨k3, e3, _, w3⟩ := DataW.trod_int Tryz.underlying3 t3
    obtain ⟨kk, rfl⟩ := u8_valx k1 w1
    have b2 : -9223372036854775808 ≤ k2 ∧ k2 ≤ 9223372036854775807 := by simpa [Lit.wf, IntKind.min, IntKind.max, IntKind.signed, IntKind.bits] using w2
    have b3 : -9223372036854775808 ≤ k3 ∧ k3 ≤ 9223372036854775807 := by simpa [Lit.wf, IntKind.min, IntKind.max, IntKind.signed, IntKind.bits] using w3
    have hcs : cs = (xeC ⟨s, kk, k2, k3⟩).toList := by
      have q : cs = (cs.take 32) ++ ((cs.drop 32).take 1 ++ ((cs.drop 33).take 1 ++ (cs.drop 34).take 1)) := by
        have r1 : (cs.drop 34).take 1 = cs.drop 34 := List.take_of_length_le (by rw [List.length_drop]; omega)
        rw [r1]
        conv => lhs; rw [← List.take_append_drop 32 cs]
        congr 1
        conv => lhs; rw [← List.take_append_drop 1 (cs.drop 32), List.drop_drop]
        congr 1
        conv => lhs; rw [← List.take_append_drop 1 (cs.drop 33), List.drop_drop]
      refine q.trans ?_
      rw [e1, e2, e3]
      have e0' : cs.take 32 = (idc s).toList := by simpa using e0
      rw [e0']
      simp [xeC]
    exact ⟨⟨s, kk, k2, k3⟩, ⟨hs, b, off, ha, hb, fun j v hv => by
      have hj : j < 35 := by
        have := (Array.getElem?_eq_some_iff.1 hv).1
        rw [xeC_size _ hs] at this
        exact this
      rw [hcell j hj, hcs, Array.getElem?_toList, hv]⟩, b2.1, b2.2, b3.1, b3.2⟩
  haveI : Inhabited Xe := ⟨⟨⟨#[]⟩, 0, 0, 0⟩⟩
  obtain ⟨q, hq⟩ := Go.Deep.choose_lt one
  refine ⟨(List.range len).map q, by simp, fun i x hx => ?_, by omega, fun e he => ?_⟩
  · rw [List.getElem?_map] at hx
    obtain ⟨j, hj, rfl⟩ := Option.map_eq_some_iff.1 hx
    have hi : i < len := by have := (List.getElem?_eq_some_iff.1 hj).1; simpa using this
    have : j = i := by rw [List.getElem?_range hi] at hj; cases hj; rfl
    subst this
    exact (hq j hi).1
  · obtain ⟨j, hj, rfl⟩ := List.mem_map.1 he
    exact (hq j (List.mem_range.1 hj)).2
/-- Names of a slice. -/
def NmL (w : World) (a : Option Addr) (l : List ByteArray) : Prop := ∀ i s, l[i]? = some s → s.size = 32 ∧ ∃ g o, a = some ⟨g, o, none⟩ ∧ g < w.heap.size ∧ ∀ j v, (idc s)[j]? = some v → w.cell? ⟨g, o + i * 32 + j, none⟩ = some v
theorem NmL.below {w w' : World} {a : Option Addr} {l : List ByteArray} (h : NmL w a l) (hb : Below w.heap.size w w') : NmL w' a l := fun i s hs => by
  obtain ⟨h1, g, o, h2, h3, h4⟩ := h i s hs
  exact ⟨h1, g, o, h2, Nat.lt_of_lt_of_le h3 hb.size, fun j v hv => by rw [hb.cell h3]; exact h4 j v hv⟩
theorem open_nms {H : Type} {enc : TypeId × Value → H} {w : World} {d : DataW H} {ps : List MemPlace} {a0 : Option Addr} {len cap : Nat}
    (h : DataW.Trod enc Tryz.prog w 0 (fun _ => true) true 42 (.slice a0 len cap) d ps) :
    ∃ l, l.length = len ∧ NmL w a0 l ∧ len ≤ maxLen := by
  have ce : Tryz.prog.cellsOf 48 = 32 := by kernel_rfl
  obtain ⟨hl, hall⟩ := open_elem Tryz.underlying42 (by rw [ce]; omega) h
  have one : ∀ i, i < len → ∃ x : ByteArray, x.size = 32 ∧ ∃ g o, a0 = some ⟨g, o, none⟩ ∧ g < w.heap.size ∧ ∀ j v, (idc x)[j]? = some v → w.cell? ⟨g, o + i * 32 + j, none⟩ = some v := by
    intro i hi
    obtain ⟨b, off, cs, D, Pl, n, ha, hb, hlen, hcell, htrod, hw⟩ := hall i hi
    rw [ce] at hlen hcell
    obtain ⟨s, hs, rfl⟩ := trod_idx htrod
    exact ⟨s, hs, b, off, ha, hb, fun j v hv => by
      have hj : j < 32 := by
        have := (Array.getElem?_eq_some_iff.1 hv).1
        rw [idc_size, hs] at this
        exact this
      rw [hcell j hj, Array.getElem?_toList, hv]⟩
  haveI : Inhabited ByteArray := ⟨⟨#[]⟩⟩
  obtain ⟨q, hq⟩ := Go.Deep.choose_lt one
  refine ⟨(List.range len).map q, by simp, fun i x hx => ?_, hl⟩
  rw [List.getElem?_map] at hx
  obtain ⟨j, hj, rfl⟩ := Option.map_eq_some_iff.1 hx
  have hi : i < len := by have := (List.getElem?_eq_some_iff.1 hj).1; simpa using this
  have : j = i := by rw [List.getElem?_range hi] at hj; cases hj; rfl
  subst this
  exact hq j hi
end Go.Proofs.YtbfoiocbmhhdbaaGreat
/- Rows of a merged index in memory. -/
namespace Go.Proofs.YtbfoiocbmhhdbaaGreat
open Go.RowKit
set_option linter.unusedSimpArgs false
set_option linter.unusedVariables false
/-- A row's cells. -/
def mrC (r : Mr) : Array Value := ((idc r.p).toList ++ (xeC r.e).toList).toArray
theorem mrC_size (r : Mr) (hp : r.p.size = 32) (h : r.e.id.size = 32) : (mrC r).size = 67 := by
  have := xeC_size r.e h
  simp [mrC, idc_size, hp, this]
theorem mrC_one (r : Mr) : ∀ v ∈ (mrC r).toList, v.oneCell' = true := by
  intro v hv
  simp only [mrC, List.mem_append] at hv
  rcases hv with h | h
  · exact idc_oneX _ v h
  · exact xeC_one _ v h
theorem mrC_all (r : Mr) : (mrC r).all (·.oneCell') = true := Array.all_eq_true_iff_forall_mem.2 (fun v hv => mrC_one r v (by simpa using hv))
theorem mrC_p (r : Mr) (hp : r.p.size = 32) (j : Nat) (v : Value) (hv : (idc r.p)[j]? = some v) : (mrC r)[0 + j]? = some v := by
  have hj : j < 32 := by
    have := (Array.getElem?_eq_some_iff.1 hv).1
    rwa [idc_size, hp] at this
  rw [Nat.zero_add, mrC, List.getElem?_toArray, List.getElem?_append_left (by rw [Array.length_toList, idc_size]; omega), Array.getElem?_toList]
  exact hv
theorem mrC_e (r : Mr) (hp : r.p.size = 32) (j : Nat) (v : Value) (hv : (xeC r.e)[j]? = some v) : (mrC r)[32 + j]? = some v := by
  have hl : (idc r.p).toList.length = 32 := by rw [Array.length_toList, idc_size, hp]
  rw [mrC, List.getElem?_toArray, List.getElem?_append_right (by omega), hl, show 32 + j - 32 = j from by omega, Array.getElem?_toList]
  exact hv
theorem mrC_id (r : Mr) (hp : r.p.size = 32) (h : r.e.id.size = 32) (j : Nat) (v : Value) (hv : (idc r.e.id)[j]? = some v) : (mrC r)[32 + j]? = some v :=
  mrC_e r hp j v (by have := xeC_id r.e h j v hv; rwa [Nat.zero_add] at this)
set_option maxRecDepth 100000 in
theorem built67 (a0 a1 a2 a3 a4 a5 a6 a7 a8 a9 a10 a11 a12 a13 a14 a15 a16 a17 a18 a19 a20 a21 a22 a23 a24 a25 a26 a27 a28 a29 a30 a31 b0 b1 b2 b3 b4 b5 b6 b7 b8 b9 b10 b11 b12 b13 b14 b15 b16 b17 b18 b19 b20 b21 b22 b23 b24 b25 b26 b27 b28 b29 b30 b31 : Value) (k a n : Int) : Tryz.prog.built 52 [(0, .agg #[a0, a1, a2, a3, a4, a5, a6, a7, a8, a9, a10, a11, a12, a13, a14, a15, a16, a17, a18, a19, a20, a21, a22, a23, a24, a25, a26, a27, a28, a29, a30, a31]), (1, .agg #[b0, b1, b2, b3, b4, b5, b6, b7, b8, b9, b10, b11, b12, b13, b14, b15, b16, b17, b18, b19, b20, b21, b22, b23, b24, b25, b26, b27, b28, b29, b30, b31, .int .u8 k, .int .i64 a, .int .i64 n])] = some #[a0, a1, a2, a3, a4, a5, a6, a7, a8, a9, a10, a11, a12, a13, a14, a15, a16, a17, a18, a19, a20, a21, a22, a23, a24, a25, a26, a27, a28, a29, a30, a31, b0, b1, b2, b3, b4, b5, b6, b7, b8, b9, b10, b11, b12, b13, b14, b15, b16, b17, b18, b19, b20, b21, b22, b23, b24, b25, b26, b27, b28, b29, b30, b31, .int .u8 k, .int .i64 a, .int .i64 n] := by kernel_rfl
theorem build_mr (r : Mr) (hp : r.p.size = 32) (h : r.e.id.size = 32) (w : World) : (Instr.build 52 #[(0, .agg (idc r.p)), (1, .agg (xeC r.e))]).run Tryz.prog w = .ok (.agg (mrC r)) w := by
  refine run_build w _ _ _ ?_
  obtain ⟨a0, a1, a2, a3, a4, a5, a6, a7, a8, a9, a10, a11, a12, a13, a14, a15, a16, a17, a18, a19, a20, a21, a22, a23, a24, a25, a26, a27, a28, a29, a30, a31, hl⟩ := list32X (idc r.p).toList (by rw [Array.length_toList, idc_size, hp])
  obtain ⟨b0, b1, b2, b3, b4, b5, b6, b7, b8, b9, b10, b11, b12, b13, b14, b15, b16, b17, b18, b19, b20, b21, b22, b23, b24, b25, b26, b27, b28, b29, b30, b31, hm⟩ := list32X (idc r.e.id).toList (by rw [Array.length_toList, idc_size, h])
  have e1 : idc r.p = #[a0, a1, a2, a3, a4, a5, a6, a7, a8, a9, a10, a11, a12, a13, a14, a15, a16, a17, a18, a19, a20, a21, a22, a23, a24, a25, a26, a27, a28, a29, a30, a31] := by rw [← Array.toArray_toList (xs := idc r.p), hl]
  have e2 : xeC r.e = #[b0, b1, b2, b3, b4, b5, b6, b7, b8, b9, b10, b11, b12, b13, b14, b15, b16, b17, b18, b19, b20, b21, b22, b23, b24, b25, b26, b27, b28, b29, b30, b31, .int .u8 (r.e.k.toNat : Int), .int .i64 r.e.off, .int .i64 r.e.sz] := by rw [xeC, hm]; rfl
  have e3 : mrC r = #[a0, a1, a2, a3, a4, a5, a6, a7, a8, a9, a10, a11, a12, a13, a14, a15, a16, a17, a18, a19, a20, a21, a22, a23, a24, a25, a26, a27, a28, a29, a30, a31, b0, b1, b2, b3, b4, b5, b6, b7, b8, b9, b10, b11, b12, b13, b14, b15, b16, b17, b18, b19, b20, b21, b22, b23, b24, b25, b26, b27, b28, b29, b30, b31, .int .u8 (r.e.k.toNat : Int), .int .i64 r.e.off, .int .i64 r.e.sz] := by rw [mrC, hl, e2]; rfl
  rw [e1, e2, e3]
  exact built67 _ _ _ _ _ _ _ _ _ _ _ _ _ _ _ _ _ _ _ _ _ _ _ _ _ _ _ _ _ _ _ _ _ _ _ _ _ _ _ _ _ _ _ _ _ _ _ _ _ _ _ _ _ _ _ _ _ _ _ _ _ _ _ _ _ _ _
/-- A row of nothing. -/
def z67 : Array Value := (z32c.toList ++ z35X.toList).toArray
theorem z67_size : z67.size = 67 := by decide +kernel
theorem z67_is : z67 = mrC zMr := by kernel_rfl
theorem build_mz (w : World) : (Instr.build 52 #[]).run Tryz.prog w = .ok (.agg z67) w := run_build w _ _ _ (by kernel_rfl)
theorem inf_mr : (Tryz.prog.info? 52).map (fun i => (i.zero, i.size, i.bytes)) = some (some (.agg z67), 67, 88) := by kernel_rfl
theorem inf_mr67 : (Tryz.prog.info? 52).map (·.size) = some 67 := by kernel_rfl
theorem info_mr {C : Array Value} (h : C.size = 67) : (Tryz.prog.info? 52).map (·.size) = some C.size := by rw [h]; exact inf_mr67
/-- Rows as cells. -/
def mvs (l : List Mr) : List Value := l.flatMap (fun r => (mrC r).toList)
theorem mvs_snoc (l : List Mr) (r : Mr) : mvs (l ++ [r]) = mvs l ++ (mrC r).toList := by simp [mvs]
theorem mvs_one (l : List Mr) : ∀ v ∈ mvs l, v.oneCell' = true := by
  intro v hv
  obtain ⟨e, _, h⟩ := List.mem_flatMap.1 hv
  exact mrC_one e v h
/-- Rows of a slice. -/
def MrL (w : World) (a : Option Addr) (l : List Mr) : Prop := ∀ i r, l[i]? = some r → (r.p.size = 32 ∧ r.e.id.size = 32) ∧ ∃ g o, a = some ⟨g, o, none⟩ ∧ g < w.heap.size ∧ ∀ j v, (mrC r)[j]? = some v → w.cell? ⟨g, o + i * 67 + j, none⟩ = some v
theorem MrL.below {w w' : World} {a : Option Addr} {l : List Mr} (h : MrL w a l) (hb : Below w.heap.size w w') : MrL w' a l := fun i r hr => by
  obtain ⟨h1, g, o, h2, h3, h4⟩ := h i r hr
  exact ⟨h1, g, o, h2, Nat.lt_of_lt_of_le h3 hb.size, fun j v hv => by rw [hb.cell (p := ⟨g, o + i * 67 + j, none⟩) h3]; exact h4 j v hv⟩
theorem MrL.ids {w : World} {a : Option Addr} {l : List Mr} (h : MrL w a l) : ∀ r ∈ l, r.p.size = 32 ∧ r.e.id.size = 32 := fun r hr => by
  obtain ⟨i, hi⟩ := List.getElem?_of_mem hr
  exact (h i r hi).1
end Go.Proofs.YtbfoiocbmhhdbaaGreat
