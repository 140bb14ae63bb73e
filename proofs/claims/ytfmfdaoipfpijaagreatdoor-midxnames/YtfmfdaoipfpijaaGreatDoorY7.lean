import Derived.Test.YtfmfdaoipfpijaaGreatDoorY6
import Derived.Test.YtfmfdaoipfpijaaGreatDoorY5
import Derived.Great.BuildSlice
import Derived.Maps.AppendAt
import Derived.OwnWalk
import Derived.Test.YtfmfdaoipfpijaaGreatDoorRows
import Derived.ProofKit
import Derived.Deep.Slices
import Derived.Lib.SmallJoins
import Derived.SizedLaws
import Derived.OpenShut
import Derived.Deep.Strs
import Derived.Great.FillDense
import Derived.RangeFuncNested
import Derived.RangeFuncBox
import Derived.Sort.MapsRangeIn
import Derived.Shelf.AbstractIn
import Derived.WalkKit
import Derived.OwnWalkIn
import Derived.TacticsInMore
import Derived.RegionIn
import Derived.LoopNIn
import Derived.LoopIn
/- Entries in memory, as they may come in. -/
namespace Go.Proofs.YtfmfdaoipfpijaaGreatDoor
open Go.RowKit
set_option linter.unusedSimpArgs false
set_option linter.unusedVariables false
/-- An entry's cells. -/
def xeC (e : Xe) : Array Value := ((idc e.id).toList ++ [Value.int .u8 (e.k.toNat : Int), Value.int .i64 e.off, Value.int .i64 e.sz]).toArray
theorem xeC_size (e : Xe) (h : e.id.size = 32) : (xeC e).size = 35 := by simp [xeC, idc_size, h]
theorem idc_oneX (s : ByteArray) : ∀ v ∈ (idc s).toList, v.oneCell' = true := by
  intro v hv
  rw [idc] at hv
  exact bvc_one _ v (by simpa using hv)
theorem xeC_one (e : Xe) : ∀ v ∈ (xeC e).toList, v.oneCell' = true := by
  intro v hv
  simp only [xeC, List.mem_append, List.mem_cons] at hv
  rcases hv with h | h | h | h | h
  · exact idc_oneX _ v h
  · subst h; rfl
  · subst h; rfl
  · subst h; rfl
  · cases h
theorem xeC_all (e : Xe) : (xeC e).all (·.oneCell') = true := Array.all_eq_true_iff_forall_mem.2 (fun v hv => xeC_one e v (by simpa using hv))
theorem idc_allX (s : ByteArray) : (idc s).all (·.oneCell') = true := Array.all_eq_true_iff_forall_mem.2 (fun v hv => idc_oneX s v (by simpa using hv))
theorem xeC_id (e : Xe) (h : e.id.size = 32) (j : Nat) (v : Value) (hv : (idc e.id)[j]? = some v) : (xeC e)[0 + j]? = some v := by
  have hj : j < 32 := by
    have := (Array.getElem?_eq_some_iff.1 hv).1
    rwa [idc_size, h] at this
  rw [Nat.zero_add, xeC, List.getElem?_toArray, List.getElem?_append_left (by rw [Array.length_toList, idc_size]; omega), Array.getElem?_toList]
  exact hv
theorem xeC_at (e : Xe) (h : e.id.size = 32) : (xeC e)[32]? = some (.int .u8 (e.k.toNat : Int)) ∧ (xeC e)[33]? = some (.int .i64 e.off) ∧ (xeC e)[34]? = some (.int .i64 e.sz) := by
  have hl : (idc e.id).toList.length = 32 := by rw [Array.length_toList, idc_size, h]
  refine ⟨?_, ?_, ?_⟩ <;> rw [xeC, List.getElem?_toArray, List.getElem?_append_right (by omega), hl] <;> rfl
theorem list32X (l : List Value) (h : l.length = 32) : ∃ a0 a1 a2 a3 a4 a5 a6 a7 a8 a9 a10 a11 a12 a13 a14 a15 a16 a17 a18 a19 a20 a21 a22 a23 a24 a25 a26 a27 a28 a29 a30 a31, l = [a0, a1, a2, a3, a4, a5, a6, a7, a8, a9, a10, a11, a12, a13, a14, a15, a16, a17, a18, a19, a20, a21, a22, a23, a24, a25, a26, a27, a28, a29, a30, a31] := by
  match l, h with
  | [a0, a1, a2, a3, a4, a5, a6, a7, a8, a9, a10, a11, a12, a13, a14, a15, a16, a17, a18, a19, a20, a21, a22, a23, a24, a25, a26, a27, a28, a29, a30, a31], _ => exact ⟨_, _, _, _, _, _, _, _, _, _, _, _, _, _, _, _, _, _, _, _, _, _, _, _, _, _, _, _, _, _, _, _, rfl⟩
set_option maxRecDepth 100000 in
theorem built32X (a0 a1 a2 a3 a4 a5 a6 a7 a8 a9 a10 a11 a12 a13 a14 a15 a16 a17 a18 a19 a20 a21 a22 a23 a24 a25 a26 a27 a28 a29 a30 a31 : Value) (k a n : Int) : Tryz.prog.built 26 [(0, .agg #[a0, a1, a2, a3, a4, a5, a6, a7, a8, a9, a10, a11, a12, a13, a14, a15, a16, a17, a18, a19, a20, a21, a22, a23, a24, a25, a26, a27, a28, a29, a30, a31]), (1, .int .u8 k), (2, .int .i64 a), (3, .int .i64 n)] = some #[a0, a1, a2, a3, a4, a5, a6, a7, a8, a9, a10, a11, a12, a13, a14, a15, a16, a17, a18, a19, a20, a21, a22, a23, a24, a25, a26, a27, a28, a29, a30, a31, .int .u8 k, .int .i64 a, .int .i64 n] := by kernel_rfl
theorem build_xe (e : Xe) (h : e.id.size = 32) (w : World) : (Instr.build 26 #[(0, .agg (idc e.id)), (1, .int .u8 (e.k.toNat : Int)), (2, .int .i64 e.off), (3, .int .i64 e.sz)]).run Tryz.prog w = .ok (.agg (xeC e)) w := by
  refine run_build w _ _ _ ?_
  obtain ⟨a0, a1, a2, a3, a4, a5, a6, a7, a8, a9, a10, a11, a12, a13, a14, a15, a16, a17, a18, a19, a20, a21, a22, a23, a24, a25, a26, a27, a28, a29, a30, a31, hl⟩ := list32X (idc e.id).toList (by rw [Array.length_toList, idc_size, h])
  have e1 : idc e.id = #[a0, a1, a2, a3, a4, a5, a6, a7, a8, a9, a10, a11, a12, a13, a14, a15, a16, a17, a18, a19, a20, a21, a22, a23, a24, a25, a26, a27, a28, a29, a30, a31] := by rw [← Array.toArray_toList (xs := idc e.id), hl]
  have e2 : xeC e = #[a0, a1, a2, a3, a4, a5, a6, a7, a8, a9, a10, a11, a12, a13, a14, a15, a16, a17, a18, a19, a20, a21, a22, a23, a24, a25, a26, a27, a28, a29, a30, a31, .int .u8 (e.k.toNat : Int), .int .i64 e.off, .int .i64 e.sz] := by rw [xeC, hl]; rfl
  rw [e1, e2]
  exact built32X _ _ _ _ _ _ _ _ _ _ _ _ _ _ _ _ _ _ _ _ _ _ _ _ _ _ _ _ _ _ _ _ _ _ _
/-- An entry of nothing. -/
def z35X : Array Value := #[.int .u8 0, .int .u8 0, .int .u8 0, .int .u8 0, .int .u8 0, .int .u8 0, .int .u8 0, .int .u8 0, .int .u8 0, .int .u8 0, .int .u8 0, .int .u8 0, .int .u8 0, .int .u8 0, .int .u8 0, .int .u8 0, .int .u8 0, .int .u8 0, .int .u8 0, .int .u8 0, .int .u8 0, .int .u8 0, .int .u8 0, .int .u8 0, .int .u8 0, .int .u8 0, .int .u8 0, .int .u8 0, .int .u8 0, .int .u8 0, .int .u8 0, .int .u8 0, .int .u8 0, .int .i64 0, .int .i64 0]
theorem inf_xe : (Tryz.prog.info? 26).map (fun i => (i.zero, i.size, i.bytes)) = some (some (.agg z35X), 35, 56) := by kernel_rfl
theorem inf_xe35 : (Tryz.prog.info? 26).map (·.size) = some 35 := by kernel_rfl
theorem info_xe {C : Array Value} (h : C.size = 35) : (Tryz.prog.info? 26).map (·.size) = some C.size := by rw [h]; exact inf_xe35
set_option maxRecDepth 100000 in
theorem fill35X (a0 a1 a2 a3 a4 a5 a6 a7 a8 a9 a10 a11 a12 a13 a14 a15 a16 a17 a18 a19 a20 a21 a22 a23 a24 a25 a26 a27 a28 a29 a30 a31 : Value) (k a n : Int) : Instr.fill (fun i => some (i * 35, 35)) ((Array.range (1 * 35)).map (z35X[· % z35X.size]!)) [(0, .agg #[a0, a1, a2, a3, a4, a5, a6, a7, a8, a9, a10, a11, a12, a13, a14, a15, a16, a17, a18, a19, a20, a21, a22, a23, a24, a25, a26, a27, a28, a29, a30, a31, .int .u8 k, .int .i64 a, .int .i64 n])] = some #[a0, a1, a2, a3, a4, a5, a6, a7, a8, a9, a10, a11, a12, a13, a14, a15, a16, a17, a18, a19, a20, a21, a22, a23, a24, a25, a26, a27, a28, a29, a30, a31, .int .u8 k, .int .i64 a, .int .i64 n] := by kernel_rfl
theorem slice_xe (e : Xe) (h : e.id.size = 32) (w : World) : (Instr.buildSlice 74 1 #[(0, .agg (xeC e))]).run Tryz.prog w = .ok (.slice (some ⟨w.heap.size, 0, none⟩) 1 1) (w.alloc (.cells (xeC e) 26)) := by
  obtain ⟨i0, hi, hz0, hz1, hz2⟩ := info_parts inf_xe
  refine run_buildSlice w _ 26 1 _ _ i0 (.agg z35X) Tryz.underlying74 hi hz0 (by rw [hz1]; decide) (by rw [hz1]; decide) ?_
  obtain ⟨a0, a1, a2, a3, a4, a5, a6, a7, a8, a9, a10, a11, a12, a13, a14, a15, a16, a17, a18, a19, a20, a21, a22, a23, a24, a25, a26, a27, a28, a29, a30, a31, hl⟩ := list32X (idc e.id).toList (by rw [Array.length_toList, idc_size, h])
  have e2 : xeC e = #[a0, a1, a2, a3, a4, a5, a6, a7, a8, a9, a10, a11, a12, a13, a14, a15, a16, a17, a18, a19, a20, a21, a22, a23, a24, a25, a26, a27, a28, a29, a30, a31, .int .u8 (e.k.toNat : Int), .int .i64 e.off, .int .i64 e.sz] := by rw [xeC, hl]; rfl
  rw [e2, hz1]
  exact fill35X _ _ _ _ _ _ _ _ _ _ _ _ _ _ _ _ _ _ _ _ _ _ _ _ _ _ _ _ _ _ _ _ _ _ _
/-- Entries as cells. -/
def xvs (l : List Xe) : List Value := l.flatMap (fun e => (xeC e).toList)
theorem xvs_snoc (l : List Xe) (e : Xe) : xvs (l ++ [e]) = xvs l ++ (xeC e).toList := by simp [xvs]
theorem xvs_len : ∀ {l : List Xe}, (∀ e ∈ l, e.id.size = 32) → (xvs l).length = l.length * 35
  | [], _ => rfl
  | e :: l, h => by
    have ih := xvs_len (l := l) (fun x hx => h x (List.mem_cons_of_mem _ hx))
    show ((xeC e).toList ++ xvs l).length = _
    rw [List.length_append, ih, Array.length_toList, xeC_size e (h e (List.mem_cons_self ..)), List.length_cons]; omega
theorem xvs_one (l : List Xe) : ∀ v ∈ xvs l, v.oneCell' = true := by
  intro v hv
  obtain ⟨e, _, h⟩ := List.mem_flatMap.1 hv
  exact xeC_one e v h
theorem xvs_get : ∀ {l : List Xe}, (∀ e ∈ l, e.id.size = 32) → ∀ {i : Nat} {e : Xe}, l[i]? = some e → ∀ j, j < 35 → (xvs l)[i * 35 + j]? = (xeC e)[j]?
  | [], _, i, e, h, _, _ => by simp at h
  | x :: l, hs, 0, e, h, j, hj => by
    simp only [List.getElem?_cons_zero, Option.some.injEq] at h
    subst h
    show ((xeC x).toList ++ xvs l)[0 * 35 + j]? = _
    rw [Nat.zero_mul, Nat.zero_add, List.getElem?_append_left (by rw [Array.length_toList, xeC_size x (hs x (List.mem_cons_self ..))]; exact hj), Array.getElem?_toList]
  | x :: l, hs, i + 1, e, h, j, hj => by
    rw [List.getElem?_cons_succ] at h
    show ((xeC x).toList ++ xvs l)[(i + 1) * 35 + j]? = _
    rw [List.getElem?_append_right (by rw [Array.length_toList, xeC_size x (hs x (List.mem_cons_self ..))]; omega), Array.length_toList, xeC_size x (hs x (List.mem_cons_self ..)), ← xvs_get (l := l) (fun y hy => hs y (List.mem_cons_of_mem _ hy)) h j hj]
    congr 1
    omega
/-- Entries of a slice. -/
def XeL (w : World) (a : Option Addr) (l : List Xe) : Prop := ∀ i e, l[i]? = some e → e.id.size = 32 ∧ ∃ g o, a = some ⟨g, o, none⟩ ∧ g < w.heap.size ∧ ∀ j v, (xeC e)[j]? = some v → w.cell? ⟨g, o + i * 35 + j, none⟩ = some v
theorem XeL.below {w w' : World} {a : Option Addr} {l : List Xe} (h : XeL w a l) (hb : Below w.heap.size w w') : XeL w' a l := fun i e he => by
  obtain ⟨h1, g, o, h2, h3, h4⟩ := h i e he
  exact ⟨h1, g, o, h2, Nat.lt_of_lt_of_le h3 hb.size, fun j v hv => by rw [hb.cell (p := ⟨g, o + i * 35 + j, none⟩) h3]; exact h4 j v hv⟩
theorem XeL.ids {w : World} {a : Option Addr} {l : List Xe} (h : XeL w a l) : ∀ e ∈ l, e.id.size = 32 := fun e he => by
  obtain ⟨i, hi⟩ := List.getElem?_of_mem he
  exact (h i e hi).1
theorem own_xel {w : World} {B n : Nat} {v : Value} {T : TypeId} {l : List Xe} (h : w.ownsRow B T 35 v n (xvs l)) (hn : l.length = n) (hs : ∀ e ∈ l, e.id.size = 32) : ∃ a c, v = .slice a n c ∧ XeL w a l ∧ n ≤ c ∧ (a = none ∧ n = 0 ∨ ∃ g, a = some ⟨g, 0, none⟩ ∧ B ≤ g) := by
  rcases h.2 with ⟨h1, h0⟩ | ⟨g, cap, cur, h1, hle, hg, hnc, hsz, hone, ht⟩
  · subst h1
    refine ⟨none, 0, by rw [h0], fun i e he => ?_, by omega, .inl ⟨rfl, h0⟩⟩
    have : l = [] := List.length_eq_zero_iff.1 (by omega)
    rw [this] at he
    cases he
  · refine ⟨some ⟨g, 0, none⟩, cap, h1, fun i e he => ?_, hnc, .inr ⟨g, rfl, hle⟩⟩
    have hb : Bk w g cur T := hg
    have hi : i < l.length := (List.getElem?_eq_some_iff.1 he).1
    refine ⟨hs e (List.mem_of_getElem? he), g, 0, rfl, hb.lt, fun j u hu => ?_⟩
    have hj : j < 35 := by
      have := (Array.getElem?_eq_some_iff.1 hu).1
      rwa [xeC_size e (hs e (List.mem_of_getElem? he))] at this
    have := xvs_get hs he j hj
    rw [hu, ← ht, List.getElem?_take, if_pos (by omega), Array.getElem?_toList] at this
    rw [hb.cell, Nat.zero_add]
    exact this
end Go.Proofs.YtfmfdaoipfpijaaGreatDoor
/- A slice of structs that came in, opened at an index: plain laws on readings, over any program. -/
namespace Go.Proofs.YtfmfdaoipfpijaaGreatDoor
open Go.ChangeShapes Go.WideShapes Go.ChangeAt Go.RowKit
set_option linter.unusedSimpArgs false
set_option linter.unusedVariables false
theorem weightsAll_mem {H : Type} {P : Program} {e : TypeId} : ∀ {l : List (DataW H)} {d : DataW H}, d ∈ l → ∀ n ∈ d.weights P e, n ∈ DataW.weightsAll P e l
  | [], _, h, _, _ => by simp at h
  | x :: l, d, hd, n, hn => by
    simp only [DataW.weightsAll, List.mem_append]
    rcases List.mem_cons.1 hd with rfl | h
    · exact Or.inl hn
    · exact Or.inr (weightsAll_mem h n hn)
theorem open_elem {H : Type} {enc : TypeId × Value → H} {P : Program} {w : World} {t e : TypeId} {d : DataW H} {ps : List MemPlace} {a0 : Option Addr} {len cap : Nat}
    (ht : P.underlying t = some (.slice e)) (hce : 0 < P.cellsOf e) (h : DataW.Trod enc P w 0 (fun _ => true) true t (.slice a0 len cap) d ps) :
    len ≤ maxLen ∧ ∀ i, i < len → ∃ (b off : Nat) (cs : List Value) (D : DataW H) (Pl : List MemPlace) (n : Nat), a0 = some ⟨b, off, none⟩ ∧ b < w.heap.size ∧ cs.length = P.cellsOf e ∧
      (∀ j, j < P.cellsOf e → w.cell? ⟨b, off + i * P.cellsOf e + j, none⟩ = cs[j]?) ∧ DataW.trod enc P w 0 (fun _ => true) true n e cs = some (D, Pl) ∧ ∀ q ∈ D.weights P e, q ∈ d.weights P t := by
  obtain ⟨fuel, hf⟩ := h
  have hcs : (Value.slice a0 len cap).cells.toList = [.slice a0 len cap] := by simp [Value.cells]
  rw [hcs] at hf
  rcases Go.Deep.open_slice ht hf with ⟨h1, _⟩ | ⟨a, l, c, m, n, D, Pl, h1, _, hl, hm, hmm, hx, hi⟩
  · simp only [List.cons.injEq, Value.slice.injEq, and_true] at h1
    obtain ⟨rfl, rfl, rfl⟩ := h1
    exact ⟨by unfold maxLen; omega, fun i hi => by omega⟩
  · simp only [List.cons.injEq, Value.slice.injEq, and_true] at h1
    obtain ⟨rfl, rfl, rfl⟩ := h1
    have hmc : m = cap := by simpa using hmm
    refine ⟨by omega, fun i hil => ?_⟩
    obtain ⟨cs, h2, h3⟩ := hi i (by omega)
    obtain ⟨_, hlen, hcell⟩ := World.cells?_some h2
    obtain ⟨b, off, spot⟩ := a
    have hsp : spot = none := by
      obtain ⟨cs0, k2, _⟩ := hi 0 (by omega)
      obtain ⟨_, klen, kcell⟩ := World.cells?_some k2
      have kc := kcell 0 hce
      rw [Go.Deep.add_add, Nat.zero_mul, Nat.zero_add, show (⟨b, off, spot⟩ : Addr).add 0 = ⟨b, off, spot⟩ from rfl, List.getElem?_eq_getElem (by omega)] at kc
      exact World.cell?_spot kc
    subst hsp
    have hc0 := hcell 0 hce
    rw [Go.Deep.add_add, add_plain, List.getElem?_eq_getElem (by omega)] at hc0
    refine ⟨b, off, cs, D i, Pl i, n, rfl, block_lt_of_cell hc0, hlen, fun j hj => ?_, h3, fun q hq => ?_⟩
    · have := hcell j hj
      rw [Go.Deep.add_add, add_plain, ← Nat.add_assoc] at this
      exact this
    · simp only [Prod.mk.injEq] at hx
      rw [hx.1]
      simp only [DataW.weights, ht, List.mem_cons, List.mem_append]
      exact Or.inr (Or.inl (weightsAll_mem (List.mem_map.2 ⟨i, by simpa using hil, rfl⟩) q hq))
theorem open_cap {H : Type} {enc : TypeId × Value → H} {P : Program} {w : World} {t e : TypeId} {d : DataW H} {ps : List MemPlace} {a0 : Option Addr} {len cap : Nat}
    (ht : P.underlying t = some (.slice e)) (h : DataW.Trod enc P w 0 (fun _ => true) true t (.slice a0 len cap) d ps) : len ≤ cap ∧ cap ≤ maxLen := by
  obtain ⟨fuel, hf⟩ := h
  have hcs : (Value.slice a0 len cap).cells.toList = [.slice a0 len cap] := by simp [Value.cells]
  rw [hcs] at hf
  rcases Go.Deep.open_slice ht hf with ⟨h1, _⟩ | ⟨a, l, c, m, n, D, Pl, h1, _, hl, hm, hmm, hx, hi⟩
  · simp only [List.cons.injEq, Value.slice.injEq, and_true] at h1
    obtain ⟨rfl, rfl, rfl⟩ := h1
    exact ⟨Nat.le_refl _, by unfold maxLen; omega⟩
  · simp only [List.cons.injEq, Value.slice.injEq, and_true] at h1
    obtain ⟨rfl, rfl, rfl⟩ := h1
    have hmc : m = cap := by simpa using hmm
    omega
end Go.Proofs.YtfmfdaoipfpijaaGreatDoor
/- Lists of the document's entries, and of names, that came in, opened. -/
namespace Go.Proofs.YtfmfdaoipfpijaaGreatDoor
open Go.ChangeShapes Go.WideShapes Go.ChangeAt Go.RowKit Go.Joins
set_option linter.unusedSimpArgs false
set_option linter.unusedVariables false
section
variable {H : Type} {enc : TypeId × Value → H} {P : Program} {w : World} {base : Nat} {spare : Nat → Bool} {held : Bool}
theorem trod4x {t : TypeId} {f0 f1 f2 f3 : Field} {fuel : Nat} {cs : List Value} {x : DataW H × List MemPlace} (ht : P.underlying t = some (.struct #[f0, f1, f2, f3])) (h : DataW.trod enc P w base spare held fuel t cs = some x) :
    ∃ y0 y1 y2 y3 n, x.1 = .agg [y0.1, y1.1, y2.1, y3.1] ∧ cs.length = P.cellsOf t ∧ DataW.trod enc P w base spare held n f0.type ((cs.drop f0.offset).take (P.cellsOf f0.type)) = some y0 ∧
      DataW.trod enc P w base spare held n f1.type ((cs.drop f1.offset).take (P.cellsOf f1.type)) = some y1 ∧ DataW.trod enc P w base spare held n f2.type ((cs.drop f2.offset).take (P.cellsOf f2.type)) = some y2 ∧
      DataW.trod enc P w base spare held n f3.type ((cs.drop f3.offset).take (P.cellsOf f3.type)) = some y3 := by
  obtain ⟨xs, n, _, rfl, hl, hlen, hf⟩ := DataW.trod_struct ht h
  match xs, hlen with
  | [y0, y1, y2, y3], _ => exact ⟨y0, y1, y2, y3, n, by simp, hl, by simpa using hf 0 f0 rfl, by simpa using hf 1 f1 rfl, by simpa using hf 2 f2 rfl, by simpa using hf 3 f3 rfl⟩
theorem open_lenx {t e : TypeId} {d : DataW H} {ps : List MemPlace} {a0 : Option Addr} {len cap : Nat} (ht : P.underlying t = some (.slice e)) (h : DataW.Trod enc P w 0 (fun _ => true) true t (.slice a0 len cap) d ps)
    (hsz : ∀ q ∈ d.weights P t, q ≤ reachBytes) : len * P.bytesOf e ≤ reachBytes := by
  obtain ⟨fuel, hf⟩ := h
  have hcs : (Value.slice a0 len cap).cells.toList = [.slice a0 len cap] := by simp [Value.cells]
  rw [hcs] at hf
  rcases Go.Deep.open_slice ht hf with ⟨h1, _⟩ | ⟨a, l, c, m, n, D, Pl, h1, _, hl, hm, hmm, hx, hi⟩
  · simp only [List.cons.injEq, Value.slice.injEq, and_true] at h1
    obtain ⟨rfl, rfl, rfl⟩ := h1
    simp
  · simp only [List.cons.injEq, Value.slice.injEq, and_true] at h1
    obtain ⟨rfl, rfl, rfl⟩ := h1
    simp only [Prod.mk.injEq] at hx
    have := hsz _ (by rw [hx.1]; simp only [DataW.weights, ht]; exact List.mem_cons_self ..)
    refine Nat.le_trans ?_ this
    simp only [List.length_map, List.length_range]
    exact Nat.mul_le_mul_right _ (by omega)
end
theorem u8_valx (a : Int) (h : (Lit.int .u8 a).wf = true) : ∃ x : UInt8, a = (x.toNat : Int) := by
  have h' : 0 ≤ a ∧ a ≤ 255 := by simpa [Lit.wf, IntKind.min, IntKind.max, IntKind.signed, IntKind.bits] using h
  refine ⟨UInt8.ofNat a.toNat, ?_⟩
  simp
  omega
theorem cells_idx (cs : List Value) (hsz : cs.length = 32) (h : ∀ i, i < 32 → ∃ n : Nat, cs[i]? = some (.int .u8 (n : Int)) ∧ n < 256) : ∃ s : ByteArray, s.size = 32 ∧ cs = (idc s).toList := by
  obtain ⟨f, hf⟩ := Go.Deep.choose_lt h
  have hl : ∀ x ∈ (List.range 32).map f, x < 256 := by
    intro x hx
    simp only [List.mem_map, List.mem_range] at hx
    obtain ⟨i, hi, rfl⟩ := hx
    exact (hf i hi).2
  refine ⟨sb ((List.range 32).map f), by rw [sb_size]; simp, ?_⟩
  unfold idc
  rw [byl_sb _ hl]
  apply List.ext_getElem?
  intro i
  by_cases hi : i < 32
  · rw [(hf i hi).1]
    simp [bvc, hi]
  · rw [List.getElem?_eq_none (by omega), List.getElem?_eq_none (by simp [bvc]; omega)]
/-- The cells of a name. -/
theorem trod_idx {H : Type} {enc : TypeId × Value → H} {w : World} {base : Nat} {spare : Nat → Bool} {held : Bool} {fuel : Nat} {cs : List Value} {x : DataW H × List MemPlace}
    (h : DataW.trod enc Tryz.prog w base spare held fuel 24 cs = some x) : ∃ s : ByteArray, s.size = 32 ∧ cs = (idc s).toList := by
  have hu : Tryz.prog.underlying 24 = some (.array 32 5) := Tryz.underlying24
  have hc : Tryz.prog.cellsOf 5 = 1 := by kernel_rfl
  have hct : Tryz.prog.cellsOf 24 = 32 := by kernel_rfl
  obtain ⟨xs, m, _, _, hl, hn, hi⟩ := DataW.trod_array hu h
  rw [hct] at hl
  refine cells_idx cs hl (fun i hlt => ?_)
  have := hi i hlt
  rw [hc, Nat.mul_one, List.getElem?_eq_getElem (by omega)] at this
  have e1 : (cs.drop i).take 1 = [cs[i]'(by omega)] := by
    rw [List.drop_eq_getElem_cons (by omega), List.take_succ_cons, List.take_zero]
  rw [e1] at this
  obtain ⟨n, e, _, wn⟩ := DataW.trod_int Tryz.underlying5 this
  have hb : 0 ≤ n ∧ n ≤ 255 := by simpa [Lit.wf, IntKind.min, IntKind.max, IntKind.signed, IntKind.bits] using wn
  simp at e
  refine ⟨n.toNat, ?_, by omega⟩
  rw [List.getElem?_eq_getElem (by omega), e, show ((n.toNat : Nat) : Int) = n from by omega]
/-- Names of a slice. -/
def NmL (w : World) (a : Option Addr) (l : List ByteArray) : Prop := ∀ i s, l[i]? = some s → s.size = 32 ∧ ∃ g o, a = some ⟨g, o, none⟩ ∧ g < w.heap.size ∧ ∀ j v, (idc s)[j]? = some v → w.cell? ⟨g, o + i * 32 + j, none⟩ = some v
theorem NmL.below {w w' : World} {a : Option Addr} {l : List ByteArray} (h : NmL w a l) (hb : Below w.heap.size w w') : NmL w' a l := fun i s hs => by
  obtain ⟨h1, g, o, h2, h3, h4⟩ := h i s hs
  exact ⟨h1, g, o, h2, Nat.lt_of_lt_of_le h3 hb.size, fun j v hv => by rw [hb.cell h3]; exact h4 j v hv⟩
theorem open_nms {H : Type} {enc : TypeId × Value → H} {w : World} {d : DataW H} {ps : List MemPlace} {a0 : Option Addr} {len cap : Nat}
    (h : DataW.Trod enc Tryz.prog w 0 (fun _ => true) true 38 (.slice a0 len cap) d ps) :
    ∃ l, l.length = len ∧ NmL w a0 l ∧ len ≤ maxLen := by
  have ce : Tryz.prog.cellsOf 24 = 32 := by kernel_rfl
  obtain ⟨hl, hall⟩ := open_elem Tryz.underlying38 (by rw [ce]; omega) h
  have one : ∀ i, i < len → ∃ x : ByteArray, x.size = 32 ∧ ∃ g o, a0 = some ⟨g, o, none⟩ ∧ g < w.heap.size ∧ ∀ j v, (idc x)[j]? = some v → w.cell? ⟨g, o + i * 32 + j, none⟩ = some v := by
    intro i hi
    obtain ⟨b, off, cs, D, Pl, n, ha, hb, hlen, hcell, htrod, hw⟩ := hall i hi
    rw [ce] at hlen hcell
    obtain ⟨s, hs, rfl⟩ := trod_idx htrod
    exact ⟨s, hs, b, off, ha, hb, fun j v hv => by
      have hj : j < 32 := by
        have := (Array.getElem?_eq_some_iff.1 hv).1
        rw [idc_size, hs] at this
        exact this
      rw [hcell j hj, Array.getElem?_toList, hv]⟩
  haveI : Inhabited ByteArray := ⟨⟨#[]⟩⟩
  obtain ⟨q, hq⟩ := Go.Deep.choose_lt one
  refine ⟨(List.range len).map q, by simp, fun i x hx => ?_, hl⟩
  rw [List.getElem?_map] at hx
  obtain ⟨j, hj, rfl⟩ := Option.map_eq_some_iff.1 hx
  have hi : i < len := by have := (List.getElem?_eq_some_iff.1 hj).1; simpa using this
  have : j = i := by rw [List.getElem?_range hi] at hj; cases hj; rfl
  subst this
  exact hq j hi
end Go.Proofs.YtfmfdaoipfpijaaGreatDoor
/- Rows of a merged index in memory. -/
namespace Go.Proofs.YtfmfdaoipfpijaaGreatDoor
open Go.RowKit
set_option linter.unusedSimpArgs false
set_option linter.unusedVariables false
/-- A row's cells. -/
def mrC (r : Mr) : Array Value := ((idc r.p).toList ++ (xeC r.e).toList).toArray
theorem mrC_size (r : Mr) (hp : r.p.size = 32) (h : r.e.id.size = 32) : (mrC r).size = 67 := by
  have := xeC_size r.e h
  simp [mrC, idc_size, hp, this]
theorem mrC_one (r : Mr) : ∀ v ∈ (mrC r).toList, v.oneCell' = true := by
  intro v hv
  simp only [mrC, List.mem_append] at hv
  rcases hv with h | h
  · exact idc_oneX _ v h
  · exact xeC_one _ v h
theorem mrC_all (r : Mr) : (mrC r).all (·.oneCell') = true := Array.all_eq_true_iff_forall_mem.2 (fun v hv => mrC_one r v (by simpa using hv))
theorem mrC_p (r : Mr) (hp : r.p.size = 32) (j : Nat) (v : Value) (hv : (idc r.p)[j]? = some v) : (mrC r)[0 + j]? = some v := by
  have hj : j < 32 := by
    have := (Array.getElem?_eq_some_iff.1 hv).1
    rwa [idc_size, hp] at this
  rw [Nat.zero_add, mrC, List.getElem?_toArray, List.getElem?_append_left (by rw [Array.length_toList, idc_size]; omega), Array.getElem?_toList]
  exact hv
theorem mrC_e (r : Mr) (hp : r.p.size = 32) (j : Nat) (v : Value) (hv : (xeC r.e)[j]? = some v) : (mrC r)[32 + j]? = some v := by
  have hl : (idc r.p).toList.length = 32 := by rw [Array.length_toList, idc_size, hp]
  rw [mrC, List.getElem?_toArray, List.getElem?_append_right (by omega), hl, show 32 + j - 32 = j from by omega, Array.getElem?_toList]
  exact hv
theorem mrC_id (r : Mr) (hp : r.p.size = 32) (h : r.e.id.size = 32) (j : Nat) (v : Value) (hv : (idc r.e.id)[j]? = some v) : (mrC r)[32 + j]? = some v :=
  mrC_e r hp j v (by have := xeC_id r.e h j v hv; rwa [Nat.zero_add] at this)
set_option maxRecDepth 100000 in
theorem built67 (a0 a1 a2 a3 a4 a5 a6 a7 a8 a9 a10 a11 a12 a13 a14 a15 a16 a17 a18 a19 a20 a21 a22 a23 a24 a25 a26 a27 a28 a29 a30 a31 b0 b1 b2 b3 b4 b5 b6 b7 b8 b9 b10 b11 b12 b13 b14 b15 b16 b17 b18 b19 b20 b21 b22 b23 b24 b25 b26 b27 b28 b29 b30 b31 : Value) (k a n : Int) : Tryz.prog.built 28 [(0, .agg #[a0, a1, a2, a3, a4, a5, a6, a7, a8, a9, a10, a11, a12, a13, a14, a15, a16, a17, a18, a19, a20, a21, a22, a23, a24, a25, a26, a27, a28, a29, a30, a31]), (1, .agg #[b0, b1, b2, b3, b4, b5, b6, b7, b8, b9, b10, b11, b12, b13, b14, b15, b16, b17, b18, b19, b20, b21, b22, b23, b24, b25, b26, b27, b28, b29, b30, b31, .int .u8 k, .int .i64 a, .int .i64 n])] = some #[a0, a1, a2, a3, a4, a5, a6, a7, a8, a9, a10, a11, a12, a13, a14, a15, a16, a17, a18, a19, a20, a21, a22, a23, a24, a25, a26, a27, a28, a29, a30, a31, b0, b1, b2, b3, b4, b5, b6, b7, b8, b9, b10, b11, b12, b13, b14, b15, b16, b17, b18, b19, b20, b21, b22, b23, b24, b25, b26, b27, b28, b29, b30, b31, .int .u8 k, .int .i64 a, .int .i64 n] := by kernel_rfl
theorem build_mr (r : Mr) (hp : r.p.size = 32) (h : r.e.id.size = 32) (w : World) : (Instr.build 28 #[(0, .agg (idc r.p)), (1, .agg (xeC r.e))]).run Tryz.prog w = .ok (.agg (mrC r)) w := by
  refine run_build w _ _ _ ?_
  obtain ⟨a0, a1, a2, a3, a4, a5, a6, a7, a8, a9, a10, a11, a12, a13, a14, a15, a16, a17, a18, a19, a20, a21, a22, a23, a24, a25, a26, a27, a28, a29, a30, a31, hl⟩ := list32X (idc r.p).toList (by rw [Array.length_toList, idc_size, hp])
  obtain ⟨b0, b1, b2, b3, b4, b5, b6, b7, b8, b9, b10, b11, b12, b13, b14, b15, b16, b17, b18, b19, b20, b21, b22, b23, b24, b25, b26, b27, b28, b29, b30, b31, hm⟩ := list32X (idc r.e.id).toList (by rw [Array.length_toList, idc_size, h])
  have e1 : idc r.p = #[a0, a1, a2, a3, a4, a5, a6, a7, a8, a9, a10, a11, a12, a13, a14, a15, a16, a17, a18, a19, a20, a21, a22, a23, a24, a25, a26, a27, a28, a29, a30, a31] := by rw [← Array.toArray_toList (xs := idc r.p), hl]
  have e2 : xeC r.e = #[b0, b1, b2, b3, b4, b5, b6, b7, b8, b9, b10, b11, b12, b13, b14, b15, b16, b17, b18, b19, b20, b21, b22, b23, b24, b25, b26, b27, b28, b29, b30, b31, .int .u8 (r.e.k.toNat : Int), .int .i64 r.e.off, .int .i64 r.e.sz] := by rw [xeC, hm]; rfl
  have e3 : mrC r = #[a0, a1, a2, a3, a4, a5, a6, a7, a8, a9, a10, a11, a12, a13, a14, a15, a16, a17, a18, a19, a20, a21, a22, a23, a24, a25, a26, a27, a28, a29, a30, a31, b0, b1, b2, b3, b4, b5, b6, b7, b8, b9, b10, b11, b12, b13, b14, b15, b16, b17, b18, b19, b20, b21, b22, b23, b24, b25, b26, b27, b28, b29, b30, b31, .int .u8 (r.e.k.toNat : Int), .int .i64 r.e.off, .int .i64 r.e.sz] := by rw [mrC, hl, e2]; rfl
  rw [e1, e2, e3]
  exact built67 _ _ _ _ _ _ _ _ _ _ _ _ _ _ _ _ _ _ _ _ _ _ _ _ _ _ _ _ _ _ _ _ _ _ _ _ _ _ _ _ _ _ _ _ _ _ _ _ _ _ _ _ _ _ _ _ _ _ _ _ _ _ _ _ _ _ _
/-- A row of nothing. -/
def z67 : Array Value := (z32c.toList ++ z35X.toList).toArray
theorem z67_size : z67.size = 67 := by decide +kernel
theorem z67_is : z67 = mrC zMr := by kernel_rfl
theorem build_mz (w : World) : (Instr.build 28 #[]).run Tryz.prog w = .ok (.agg z67) w := run_build w _ _ _ (by kernel_rfl)
theorem inf_mr : (Tryz.prog.info? 28).map (fun i => (i.zero, i.size, i.bytes)) = some (some (.agg z67), 67, 88) := by kernel_rfl
theorem inf_mr67 : (Tryz.prog.info? 28).map (·.size) = some 67 := by kernel_rfl
theorem info_mr {C : Array Value} (h : C.size = 67) : (Tryz.prog.info? 28).map (·.size) = some C.size := by rw [h]; exact inf_mr67
/-- Rows as cells. -/
def mvs (l : List Mr) : List Value := l.flatMap (fun r => (mrC r).toList)
theorem mvs_snoc (l : List Mr) (r : Mr) : mvs (l ++ [r]) = mvs l ++ (mrC r).toList := by simp [mvs]
theorem mvs_one (l : List Mr) : ∀ v ∈ mvs l, v.oneCell' = true := by
  intro v hv
  obtain ⟨e, _, h⟩ := List.mem_flatMap.1 hv
  exact mrC_one e v h
/-- Rows of a slice. -/
def MrL (w : World) (a : Option Addr) (l : List Mr) : Prop := ∀ i r, l[i]? = some r → (r.p.size = 32 ∧ r.e.id.size = 32) ∧ ∃ g o, a = some ⟨g, o, none⟩ ∧ g < w.heap.size ∧ ∀ j v, (mrC r)[j]? = some v → w.cell? ⟨g, o + i * 67 + j, none⟩ = some v
theorem MrL.below {w w' : World} {a : Option Addr} {l : List Mr} (h : MrL w a l) (hb : Below w.heap.size w w') : MrL w' a l := fun i r hr => by
  obtain ⟨h1, g, o, h2, h3, h4⟩ := h i r hr
  exact ⟨h1, g, o, h2, Nat.lt_of_lt_of_le h3 hb.size, fun j v hv => by rw [hb.cell (p := ⟨g, o + i * 67 + j, none⟩) h3]; exact h4 j v hv⟩
theorem MrL.ids {w : World} {a : Option Addr} {l : List Mr} (h : MrL w a l) : ∀ r ∈ l, r.p.size = 32 ∧ r.e.id.size = 32 := fun r hr => by
  obtain ⟨i, hi⟩ := List.getElem?_of_mem hr
  exact (h i r hi).1
end Go.Proofs.YtfmfdaoipfpijaaGreatDoor
/- Maps from names to things that have names: put, looked up, gone through; long rows within a fence. -/
namespace Go.Proofs.YtfmfdaoipfpijaaGreatDoor
open Go.RowKit Go.Maps
set_option linter.unusedSimpArgs false
set_option linter.unusedVariables false
section
variable {α : Type}
/-- The thing of a name; one put in, in the place of the one of its name if there is one. -/
def fdK (ky : α → ByteArray) (d : List α) (x : ByteArray) : Option α := d.find? (fun a => decide (ky a = x))
def ptK (ky : α → ByteArray) : List α → α → List α
  | [], r => [r]
  | q :: d, r => if ky q = ky r then r :: d else q :: ptK ky d r
theorem ptK_new {ky : α → ByteArray} : ∀ {d : List α} {r : α}, (∀ a ∈ d, ky a ≠ ky r) → ptK ky d r = d ++ [r]
  | [], r, _ => rfl
  | q :: d, r, h => by rw [ptK, if_neg (h q (List.mem_cons_self ..)), ptK_new (fun a ha => h a (List.mem_cons_of_mem _ ha))]; rfl
theorem ptK_iff {ky : α → ByteArray} : ∀ {d : List α} {r a : α}, d.Pairwise (fun x y => ky x ≠ ky y) → (a ∈ ptK ky d r ↔ a = r ∨ (a ∈ d ∧ ky a ≠ ky r))
  | [], r, a, _ => by simp [ptK]
  | q :: d, r, a, h => by
    obtain ⟨h1, h2⟩ := List.pairwise_cons.1 h
    rw [ptK]
    split
    · rename_i e
      simp only [List.mem_cons]
      constructor
      · rintro (k | k)
        · exact .inl k
        · exact .inr ⟨.inr k, fun e2 => h1 a k (e.trans e2.symm)⟩
      · rintro (k | ⟨k | k, k2⟩)
        · exact .inl k
        · exact absurd (by rw [k]; exact e) k2
        · exact .inr k
    · rename_i e
      simp only [List.mem_cons]
      rw [ptK_iff h2]
      constructor
      · rintro (k | k | ⟨k, k2⟩)
        · exact .inr ⟨.inl k, by rw [k]; exact e⟩
        · exact .inl k
        · exact .inr ⟨.inr k, k2⟩
      · rintro (k | ⟨k | k, k2⟩)
        · exact .inr (.inl k)
        · exact .inl k
        · exact .inr (.inr ⟨k, k2⟩)
theorem ptK_pair {ky : α → ByteArray} : ∀ {d : List α} {r : α}, d.Pairwise (fun x y => ky x ≠ ky y) → (ptK ky d r).Pairwise (fun x y => ky x ≠ ky y)
  | [], r, _ => List.pairwise_singleton _ _
  | q :: d, r, h => by
    obtain ⟨h1, h2⟩ := List.pairwise_cons.1 h
    rw [ptK]
    split
    · rename_i e
      exact List.pairwise_cons.2 ⟨fun b hb => by rw [← e]; exact h1 b hb, h2⟩
    · rename_i e
      refine List.pairwise_cons.2 ⟨fun b hb => ?_, ptK_pair h2⟩
      rcases (ptK_iff h2).1 hb with k | ⟨k, _⟩
      · rw [k]; exact e
      · exact h1 b k
theorem ptK_len {ky : α → ByteArray} : ∀ {d : List α} {r : α}, (ptK ky d r).length = if (fdK ky d (ky r)).isSome then d.length else d.length + 1
  | [], r => rfl
  | q :: d, r => by
    rw [ptK]
    by_cases e : ky q = ky r
    · rw [if_pos e]
      have : fdK ky (q :: d) (ky r) = some q := by unfold fdK; rw [List.find?_cons]; simp [e]
      rw [this]; rfl
    · rw [if_neg e]
      have : fdK ky (q :: d) (ky r) = fdK ky d (ky r) := by unfold fdK; rw [List.find?_cons]; simp [e]
      rw [this, List.length_cons, ptK_len]
      split <;> rfl
/-- Block m is the map from these things' names to them. -/
def KvM (ky : α → ByteArray) (el : α → Value) (w : World) (m : Nat) (d : List α) : Prop :=
  ∃ D, Mp w 24 m D ∧ Maps.size D = d.length ∧ (∀ a ∈ d, (ky a).size = 32 ∧ hAt D (kI (ky a)) = some (el a)) ∧ (∀ kl, Maps.has D kl = true → ∃ a ∈ d, kl = kI (ky a)) ∧ d.Pairwise (fun a b => ky a ≠ ky b)
variable {ky : α → ByteArray} {el : α → Value}
theorem KvM.lt {w : World} {m : Nat} {d : List α} (h : KvM ky el w m d) : m < w.heap.size := by
  obtain ⟨D, h1, _⟩ := h; exact h1.lt
theorem KvM.keep {w w' : World} {m : Nat} {d : List α} (h : KvM ky el w m d) (hb : w'.heap[m]? = w.heap[m]?) : KvM ky el w' m d := by
  obtain ⟨D, ⟨es, c, h1, h2, h3, h4⟩, h5⟩ := h
  exact ⟨D, ⟨es, c, hb.trans h1, h2, h3, h4⟩, h5⟩
theorem KvM.below {w w' : World} {m : Nat} {d : List α} (h : KvM ky el w m d) (hb : Below w.heap.size w w') : KvM ky el w' m d := h.keep (hb.block m h.lt)
theorem KvM.isMap {w : World} {m : Nat} {d : List α} (h : KvM ky el w m d) : ∃ es c, w.heap[m]? = some (.map es c) := by
  obtain ⟨D, ⟨es, c, h1, _⟩, _⟩ := h
  exact ⟨es, c, h1⟩
theorem KvM.made (ky : α → ByteArray) (el : α → Value) (w : World) : KvM ky el (w.alloc (.map #[] 0)) w.heap.size [] :=
  ⟨.map [], Mp.made w _, rfl, fun a h => (by cases h), fun kl h => (by cases h), List.Pairwise.nil⟩
theorem KvM.find {D : DataW Value} {d : List α} (h1 : ∀ a ∈ d, (ky a).size = 32 ∧ hAt D (kI (ky a)) = some (el a)) (h2 : ∀ kl, Maps.has D kl = true → ∃ a ∈ d, kl = kI (ky a)) {x : ByteArray} (hx : x.size = 32) : hAt D (kI x) = (fdK ky d x).map el := by
  cases hf : fdK ky d x with
  | some a =>
    have m1 := List.mem_of_find?_eq_some hf
    have m2 : ky a = x := of_decide_eq_true (List.find?_some (p := fun a => decide (ky a = x)) hf)
    rw [← m2, (h1 a m1).2]; rfl
  | none =>
    cases hv : hAt D (kI x) with
    | none => rfl
    | some v =>
      obtain ⟨a, a1, a2⟩ := h2 _ (hAt_has hv)
      have e := kI_inj hx (h1 a a1).1 a2
      unfold fdK at hf
      rw [List.find?_eq_none] at hf
      exact absurd (decide_eq_true e.symm) (hf a a1)
theorem KvM.len {w : World} {m : Nat} {d : List α} {t e : TypeId} (h : KvM ky el w m d) (ht : Tryz.prog.underlying t = some (.map 24 e)) (ty : TypeId) : (Builtin.len_ #[t] ty #[.map (some m)]).run Tryz.prog w = .ok (.int .i64 (d.length : Int)) w := by
  obtain ⟨D, h1, h2, _⟩ := h
  rw [h1.len ht ty, h2]
theorem KvM.look {w : World} {m : Nat} {d : List α} {t e : TypeId} (h : KvM ky el w m d) (ht : Tryz.prog.underlying t = some (.map 24 e)) {z : Value} (hz : (zeroValue e).run Tryz.prog w = .ok z w) (x : ByteArray) (hx : x.size = 32) :
    (Instr.lookup t (.map (some m)) (.agg (idc x)) true).run Tryz.prog w = .ok (.tuple #[((fdK ky d x).map el).getD z, .bool (fdK ky d x).isSome]) w := by
  obtain ⟨D, h1, h2, h3, h4, h5⟩ := h
  have := (h1.at_held idKey ht hz (kI_key x hx)).1
  rw [this, KvM.find h3 h4 hx]
  cases fdK ky d x <;> rfl
theorem KvM.put {w : World} {m : Nat} {d : List α} {t e : TypeId} (h : KvM ky el w m d) (ht : Tryz.prog.underlying t = some (.map 24 e)) (hn : d.length < maxLen) (r : α) (hr : (ky r).size = 32) :
    ∃ w', (Instr.mapUpdate t (.map (some m)) (.agg (idc (ky r))) (el r)).run Tryz.prog w = .ok () w' ∧ KvM ky el w' m (ptK ky d r) ∧ w.grownBy w' (some m) := by
  obtain ⟨D, h1, h2, h3, h4, h5⟩ := h
  obtain ⟨w', g1, g2, g3⟩ := h1.put idKey ht (by omega) (kI_key _ hr) (el r)
  have hk := idKey.key (kI_key _ hr)
  have hD : IsMap D := World.ownsMap.isMap h1
  have htd : Tidy D := World.ownsMap.tidy h1 idKey
  have hf := KvM.find h3 h4 hr
  refine ⟨w', g1, ⟨_, g2, ?_, ?_, ?_, ptK_pair h5⟩, g3⟩
  · rw [Maps.size_put htd, ptK_len, h2]
    cases hq : fdK ky d (ky r) with
    | some a =>
      rw [hq] at hf
      rw [hAt_has hf]; rfl
    | none =>
      rw [hq] at hf
      have : Maps.has D (kI (ky r)) = false := by
        cases hh : Maps.has D (kI (ky r)) with
        | false => rfl
        | true =>
          obtain ⟨a, a1, a2⟩ := h4 _ hh
          unfold fdK at hq
          rw [List.find?_eq_none] at hq
          exact absurd (decide_eq_true (kI_inj hr (h3 a a1).1 a2).symm) (hq a a1)
      rw [this]; rfl
  · intro a ha
    rcases (ptK_iff h5).1 ha with rfl | ⟨k1, k2⟩
    · exact ⟨hr, hAt_put_same hD hk _⟩
    · refine ⟨(h3 a k1).1, ?_⟩
      rw [hAt_put_other (fun e => k2 (kI_inj (h3 a k1).1 hr e))]
      exact (h3 a k1).2
  · intro kl hv
    by_cases e : kl = kI (ky r)
    · exact ⟨r, (ptK_iff h5).2 (.inl rfl), e⟩
    · rw [has_put_other e] at hv
      obtain ⟨a, a1, a2⟩ := h4 kl hv
      exact ⟨a, (ptK_iff h5).2 (.inr ⟨a1, fun e2 => e (by rw [a2, e2])⟩), a2⟩
/-- What has come while a map is gone through. -/
structure CoK (ky : α → ByteArray) (d : List α) (left : Lit → Bool) (ls : List α) : Prop where
  ap : ls.Pairwise (fun a b => ky a ≠ ky b)
  sub : ∀ a ∈ ls, a ∈ d
  iff : ∀ a ∈ d, (a ∈ ls ↔ left (kI (ky a)) = false)
theorem CoK.step {d : List α} {left : Lit → Bool} {ls : List α} (h : CoK ky d left ls) (hd : d.Pairwise (fun a b => ky a ≠ ky b)) (h32 : ∀ a ∈ d, (ky a).size = 32) {a : α} (ha : a ∈ d) (hl : left (kI (ky a)) = true) : CoK ky d (fun z => left z && !z.sameKey (kI (ky a))) (ls ++ [a]) := by
  have huq : ∀ b ∈ d, ky b = ky a → b = a := fun b hb e => by
    obtain ⟨i, hi, rfl⟩ := List.getElem_of_mem hb
    obtain ⟨j, hj, rfl⟩ := List.getElem_of_mem ha
    rw [List.pairwise_iff_getElem] at hd
    rcases Nat.lt_trichotomy i j with k | k | k
    · exact absurd e (hd i j hi hj k)
    · subst k; rfl
    · exact absurd e.symm (hd j i hj hi k)
  have hnew : a ∉ ls := fun hx => by have := (h.iff a ha).1 hx; rw [hl] at this; cases this
  refine ⟨List.pairwise_append.2 ⟨h.ap, List.pairwise_singleton _ _, fun b hb c hc => ?_⟩, fun b hb => ?_, fun b hb => ?_⟩
  · rw [List.mem_singleton.1 hc]
    intro e
    exact hnew (huq b (h.sub b hb) e ▸ hb)
  · rcases List.mem_append.1 hb with k | k
    · exact h.sub b k
    · rw [List.mem_singleton.1 k]; exact ha
  · rw [List.mem_append, List.mem_singleton, h.iff b hb]
    by_cases e : ky b = ky a
    · have := huq b hb e
      subst this
      simp [WideAt.sameKey_self (idKey.key (kI_key _ (h32 b hb)))]
    · have ne : kI (ky b) ≠ kI (ky a) := fun q => e (kI_inj (h32 b hb) (h32 a ha) q)
      have ne2 : b ≠ a := fun q => e (by rw [q])
      simp [sameKey_ne ne, ne2]
theorem CoK.perm {d : List α} {left : Lit → Bool} {ls : List α} (h : CoK ky d left ls) (hd : d.Pairwise (fun a b => ky a ≠ ky b)) (hl : ∀ kl, left kl = false) : ls.Perm d :=
  perm_of_mem (h.ap.imp (fun {a b} q e => q (by rw [e]))) (hd.imp (fun {a b} q e => q (by rw [e]))) (fun a => ⟨h.sub a, fun ha => (h.iff a ha).2 (hl _)⟩)
end
/-! Long rows within a fence. -/
section
variable {F : Fence} {n : Nat} {P : Program} {ops : Array Oper} {rest : List Oper} {op : Oper} {a : Act} {w : World} {Q : Exit → Act → World → Prop}
theorem wpListIn_rowGet (hgd : op.guard = none) (ty : TypeId) (x : Operand) (ho : op.op = .load ty x)
    (b o : Nat) (C cells : Array Value) (T : TypeId) (d : TypeDesc) (hx : a.eval x = .pointer (some ⟨b, o, none⟩))
    (hB : Bk w b C T) (hc : ∀ j v, cells[j]? = some v → C[o + j]? = some v) (hu : P.underlying ty = some d) (hd : d.isRow = true) (hi : (P.info? ty).map (·.size) = some cells.size)
    (h : wpListIn F n P ops Q rest (a.put op.dst (.agg cells)) w) : wpListIn F n P ops Q (op :: rest) a w := by
  refine wpListIn_plain hgd fun K hK => ?_
  have hr : w.rangeAt b o cells.toList := fun j v hv => by rw [hB.cell]; exact hc j v (by rwa [Array.getElem?_toList] at hv)
  have hrun : (execOp a.eval op).run P w = .ok (.value (.agg cells)) w := by
    unfold execOp
    simp only [ho, hx, Instr.loadAt, Instr.sureAddr, Sem.run_bind, Sem.run_pure, Result.andThen_ok, run_loadVar_mid (P := P) w b o ty cells.toList d hr hu hd (by rw [hi]; simp)]
  unfold Oper.wpIn
  refine ⟨by simp [Oper.about, ho], ?_⟩
  rw [Oper.semAt_plain F _ _ (by rw [ho]; intro c hc'; cases hc'), hrun]
  exact hK _ _ h
theorem wpListIn_rowNew (hgd : op.guard = none) (ty : TypeId) (x y : Operand) (ho : op.op = .store ty x y)
    (cells old : Array Value) (t : TypeId) (H : Nat) (hH : w.heap.size = H) (hx : a.eval x = .pointer (some ⟨H, 0, none⟩)) (hy : a.eval y = .agg cells)
    (hi : (P.info? ty).map (·.size) = some cells.size) (hold : old.size = cells.size) (h1 : cells.all (·.oneCell') = true)
    (h : wpListIn F n P ops Q rest (a.put op.dst undef) (w.alloc (.cells cells t))) : wpListIn F n P ops Q (op :: rest) a (w.alloc (.cells old t)) := by
  refine wpListIn_plain hgd fun K hK => ?_
  subst hH
  have hg : (w.alloc (.cells old t)).heap[w.heap.size]? = some (.cells old t (0, 0)) := blk_new _ _
  have hrun : (execOp a.eval op).run P (w.alloc (.cells old t)) = .ok .skip (w.alloc (.cells cells t)) := by
    unfold execOp
    simp only [ho, hx, hy, Instr.storeAt, Instr.sureAddr, Sem.run_bind, Sem.run_pure, Result.andThen_ok, run_storeVar_row (P := P) (w.alloc (.cells old t)) w.heap.size t ty old cells hg hi hold h1, World.setRow_alloc_new]
  unfold Oper.wpIn
  refine ⟨by simp [Oper.about, ho], ?_⟩
  rw [Oper.semAt_plain F _ _ (by rw [ho]; intro c hc'; cases hc'), hrun]
  exact hK _ _ h
theorem wpListIn_bs1 (hgd : op.guard = none) (t : TypeId) (x : Operand) (ho : op.op = .buildSlice t 1 #[(0, x)]) (v r : Value) (w' : World) (hx : a.eval x = v) (hr : (Instr.buildSlice t 1 #[(0, v)]).run P w = .ok r w')
    (h : wpListIn F n P ops Q rest (a.put op.dst r) w') : wpListIn F n P ops Q (op :: rest) a w := by
  refine wpListIn_plain hgd fun K hK => ?_
  have hrun : (execOp a.eval op).run P w = .ok (.value r) w' := by
    unfold execOp
    simp only [ho, Sem.run_bind, Sem.run_pure, Result.andThen_ok, List.map_toArray, List.map_cons, List.map_nil, hx, hr]
  unfold Oper.wpIn
  refine ⟨by simp [Oper.about, ho], ?_⟩
  rw [Oper.semAt_plain F _ _ (by rw [ho]; intro c hc'; cases hc'), hrun]
  exact hK _ _ h
end
/-- A slice of one row. -/
theorem slice1_any {t e : TypeId} {z : Value} {k : Nat} {b : Nat} (hu : Tryz.prog.underlying t = some (.slice e)) (hi : (Tryz.prog.info? e).map (fun i => (i.zero, i.size, i.bytes)) = some (some z, k, b)) (hk : 0 < k) (hk2 : k ≤ 16777216) (cells : Array Value) (hc : cells.size = k) (w : World) :
    (Instr.buildSlice t 1 #[(0, .agg cells)]).run Tryz.prog w = .ok (.slice (some ⟨w.heap.size, 0, none⟩) 1 1) (w.alloc (.cells cells e)) := by
  obtain ⟨i0, hi, hz0, hz1, hz2⟩ := info_parts hi
  refine run_buildSlice w _ e 1 _ _ i0 z hu hi hz0 (by rw [hz1]; omega) (by rw [hz1]; omega) ?_
  rw [hz1]
  have := Go.Great.fill_whole hk [.agg cells] ((Array.range (1 * k)).map (z.cells[· % z.cells.size]!)) (fun v hv => by rw [List.mem_singleton.1 hv]; exact hc) (by simp)
  simp only [List.zipIdx_cons, List.zipIdx_nil, List.map_cons, List.map_nil, List.flatMap_cons, List.flatMap_nil, List.append_nil] at this
  rw [this]
  rfl
end Go.Proofs.YtfmfdaoipfpijaaGreatDoor
