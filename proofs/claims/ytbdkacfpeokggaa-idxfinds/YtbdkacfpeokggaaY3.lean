import Derived.Test.YtbdkacfpeokggaaY1
import Derived.Test.YtbdkacfpeokggaaY2
import Derived.Great.BuildSlice
import Derived.Maps.AppendAt
import Derived.OwnWalk
import Derived.Lib.BytesEntry
import Derived.Laws.Externs
import Derived.Deep.QuietTactic
import Derived.BigQuiet
import Derived.Sort.Grow
import Derived.Deep.Draws
import Derived.BigCall
import Derived.BigRegion
import Derived.RegionTactic
import Derived.Deep.RegionHeld3
/- Entries in memory, as they may come in. -/
namespace Go.Proofs.Ytbdkacfpeokggaa
open Go.RowKit
set_option linter.unusedSimpArgs false
set_option linter.unusedVariables false
/-- An entry's cells. -/
def xeC (e : Xe) : Array Value := ((idc e.id).toList ++ [Value.int .u8 (e.k.toNat : Int), Value.int .i64 e.off, Value.int .i64 e.sz]).toArray
theorem xeC_size (e : Xe) (h : e.id.size = 32) : (xeC e).size = 35 := by simp [xeC, idc_size, h]
theorem idc_oneX (s : ByteArray) : ∀ v ∈ (idc s).toList, v.oneCell' = true := by
  intro v hv
  rw [idc] at hv
  exact bvc_one _ v (by simpa using hv)
theorem xeC_one (e : Xe) : ∀ v ∈ (xeC e).toList, v.oneCell' = true := by
  intro v hv
  simp only [xeC, List.mem_append, List.mem_cons] at hv
  rcases hv with h | h | h | h | h
  · exact idc_oneX _ v h
  · subst h; rfl
  · subst h; rfl
  · subst h; rfl
  · cases h
theorem xeC_all (e : Xe) : (xeC e).all (·.oneCell') = true := Array.all_eq_true_iff_forall_mem.2 (fun v hv => xeC_one e v (by simpa using hv))
theorem idc_allX (s : ByteArray) : (idc s).all (·.oneCell') = true := Array.all_eq_true_iff_forall_mem.2 (fun v hv => idc_oneX s v (by simpa using hv))
theorem xeC_id (e : Xe) (h : e.id.size = 32) (j : Nat) (v : Value) (hv : (idc e.id)[j]? = some v) : (xeC e)[0 + j]? = some v := by
  have hj : j < 32 := by
    have := (Array.getElem?_eq_some_iff.1 hv).1
    rwa [idc_size, h] at this
  rw [Nat.zero_add, xeC, List.getElem?_toArray, List.getElem?_append_left (by rw [Array.length_toList, idc_size]; omega), Array.getElem?_toList]
  exact hv
theorem xeC_at (e : Xe) (h : e.id.size = 32) : (xeC e)[32]? = some (.int .u8 (e.k.toNat : Int)) ∧ (xeC e)[33]? = some (.int .i64 e.off) ∧ (xeC e)[34]? = some (.int .i64 e.sz) := by
  have hl : (idc e.id).toList.length = 32 := by rw [Array.length_toList, idc_size, h]
  refine ⟨?_, ?_, ?_⟩ <;> rw [xeC, List.getElem?_toArray, List.getElem?_append_right (by omega), hl] <;> rfl
theorem list32X (l : List Value) (h : l.length = 32) : ∃ a0 a1 a2 a3 a4 a5 a6 a7 a8 a9 a10 a11 a12 a13 a14 a15 a16 a17 a18 a19 a20 a21 a22 a23 a24 a25 a26 a27 a28 a29 a30 a31, l = [a0, a1, a2, a3, a4, a5, a6, a7, a8, a9, a10, a11, a12, a13, a14, a15, a16, a17, a18, a19, a20, a21, a22, a23, a24, a25, a26, a27, a28, a29, a30, a31] := by
  match l, h with
  | [a0, a1, a2, a3, a4, a5, a6, a7, a8, a9, a10, a11, a12, a13, a14, a15, a16, a17, a18, a19, a20, a21, a22, a23, a24, a25, a26, a27, a28, a29, a30, a31], _ => exact ⟨_, _, _, _, _, _, _, _, _, _, _, _, _, _, _, _, _, _, _, _, _, _, _, _, _, _, _, _, _, _, _, _, rfl⟩
set_option maxRecDepth 100000 in
theorem built32X (a0 a1 a2 a3 a4 a5 a6 a7 a8 a9 a10 a11 a12 a13 a14 a15 a16 a17 a18 a19 a20 a21 a22 a23 a24 a25 a26 a27 a28 a29 a30 a31 : Value) (k a n : Int) : Try.prog.built 38 [(0, .agg #[a0, a1, a2, a3, a4, a5, a6, a7, a8, a9, a10, a11, a12, a13, a14, a15, a16, a17, a18, a19, a20, a21, a22, a23, a24, a25, a26, a27, a28, a29, a30, a31]), (1, .int .u8 k), (2, .int .i64 a), (3, .int .i64 n)] = some #[a0, a1, a2, a3, a4, a5, a6, a7, a8, a9, a10, a11, a12, a13, a14, a15, a16, a17, a18, a19, a20, a21, a22, a23, a24, a25, a26, a27, a28, a29, a30, a31, .int .u8 k, .int .i64 a, .int .i64 n] := by kernel_rfl
theorem build_xe (e : Xe) (h : e.id.size = 32) (w : World) : (Instr.build 38 #[(0, .agg (idc e.id)), (1, .int .u8 (e.k.toNat : Int)), (2, .int .i64 e.off), (3, .int .i64 e.sz)]).run Try.prog w = .ok (.agg (xeC e)) w := by
  refine run_build w _ _ _ ?_
  obtain ⟨a0, a1, a2, a3, a4, a5, a6, a7, a8, a9, a10, a11, a12, a13, a14, a15, a16, a17, a18, a19, a20, a21, a22, a23, a24, a25, a26, a27, a28, a29, a30, a31, hl⟩ := list32X (idc e.id).toList (by rw [Array.length_toList, idc_size, h])
  have e1 : idc e.id = #[a0, a1, a2, a3, a4, a5, a6, a7, a8, a9, a10, a11, a12, a13, a14, a15, a16, a17, a18, a19, a20, a21, a22, a23, a24, a25, a26, a27, a28, a29, a30, a31] := by rw [← Array.toArray_toList (xs := idc e.id), hl]
  have e2 : xeC e = #[a0, a1, a2, a3, a4, a5, a6, a7, a8, a9, a10, a11, a12, a13, a14, a15, a16, a17, a18, a19, a20, a21, a22, a23, a24, a25, a26, a27, a28, a29, a30, a31, .int .u8 (e.k.toNat : Int), .int .i64 e.off, .int .i64 e.sz] := by rw [xeC, hl]; rfl
  rw [e1, e2]
  exact built32X _ _ _ _ _ _ _ _ _ _ _ _ _ _ _ _ _ _ _ _ _ _ _ _ _ _ _ _ _ _ _ _ _ _ _
/-- An entry of nothing. -/
def z35X : Array Value := #[.int .u8 0, .int .u8 0, .int .u8 0, .int .u8 0, .int .u8 0, .int .u8 0, .int .u8 0, .int .u8 0, .int .u8 0, .int .u8 0, .int .u8 0, .int .u8 0, .int .u8 0, .int .u8 0, .int .u8 0, .int .u8 0, .int .u8 0, .int .u8 0, .int .u8 0, .int .u8 0, .int .u8 0, .int .u8 0, .int .u8 0, .int .u8 0, .int .u8 0, .int .u8 0, .int .u8 0, .int .u8 0, .int .u8 0, .int .u8 0, .int .u8 0, .int .u8 0, .int .u8 0, .int .i64 0, .int .i64 0]
theorem inf_xe : (Try.prog.info? 38).map (fun i => (i.zero, i.size, i.bytes)) = some (some (.agg z35X), 35, 56) := by kernel_rfl
theorem inf_xe35 : (Try.prog.info? 38).map (·.size) = some 35 := by kernel_rfl
theorem info_xe {C : Array Value} (h : C.size = 35) : (Try.prog.info? 38).map (·.size) = some C.size := by rw [h]; exact inf_xe35
set_option maxRecDepth 100000 in
theorem fill35X (a0 a1 a2 a3 a4 a5 a6 a7 a8 a9 a10 a11 a12 a13 a14 a15 a16 a17 a18 a19 a20 a21 a22 a23 a24 a25 a26 a27 a28 a29 a30 a31 : Value) (k a n : Int) : Instr.fill (fun i => some (i * 35, 35)) ((Array.range (1 * 35)).map (z35X[· % z35X.size]!)) [(0, .agg #[a0, a1, a2, a3, a4, a5, a6, a7, a8, a9, a10, a11, a12, a13, a14, a15, a16, a17, a18, a19, a20, a21, a22, a23, a24, a25, a26, a27, a28, a29, a30, a31, .int .u8 k, .int .i64 a, .int .i64 n])] = some #[a0, a1, a2, a3, a4, a5, a6, a7, a8, a9, a10, a11, a12, a13, a14, a15, a16, a17, a18, a19, a20, a21, a22, a23, a24, a25, a26, a27, a28, a29, a30, a31, .int .u8 k, .int .i64 a, .int .i64 n] := by kernel_rfl
theorem slice_xe (e : Xe) (h : e.id.size = 32) (w : World) : (Instr.buildSlice 24 1 #[(0, .agg (xeC e))]).run Try.prog w = .ok (.slice (some ⟨w.heap.size, 0, none⟩) 1 1) (w.alloc (.cells (xeC e) 38)) := by
  obtain ⟨i0, hi, hz0, hz1, hz2⟩ := info_parts inf_xe
  refine run_buildSlice w _ 38 1 _ _ i0 (.agg z35X) Try.underlying24 hi hz0 (by rw [hz1]; decide) (by rw [hz1]; decide) ?_
  obtain ⟨a0, a1, a2, a3, a4, a5, a6, a7, a8, a9, a10, a11, a12, a13, a14, a15, a16, a17, a18, a19, a20, a21, a22, a23, a24, a25, a26, a27, a28, a29, a30, a31, hl⟩ := list32X (idc e.id).toList (by rw [Array.length_toList, idc_size, h])
  have e2 : xeC e = #[a0, a1, a2, a3, a4, a5, a6, a7, a8, a9, a10, a11, a12, a13, a14, a15, a16, a17, a18, a19, a20, a21, a22, a23, a24, a25, a26, a27, a28, a29, a30, a31, .int .u8 (e.k.toNat : Int), .int .i64 e.off, .int .i64 e.sz] := by rw [xeC, hl]; rfl
  rw [e2, hz1]
  exact fill35X _ _ _ _ _ _ _ _ _ _ _ _ _ _ _ _ _ _ _ _ _ _ _ _ _ _ _ _ _ _ _ _ _ _ _
/-- Entries as cells. -/
def xvs (l : List Xe) : List Value := l.flatMap (fun e => (xeC e).toList)
theorem xvs_snoc (l : List Xe) (e : Xe) : xvs (l ++ [e]) = xvs l ++ (xeC e).toList := by simp [xvs]
theorem xvs_len : ∀ {l : List Xe}, (∀ e ∈ l, e.id.size = 32) → (xvs l).length = l.length * 35
  | [], _ => rfl
  | e :: l, h => by
    have ih := xvs_len (l := l) (fun x hx => h x (List.mem_cons_of_mem _ hx))
    show ((xeC e).toList ++ xvs l).length = _
    rw [List.length_append, ih, Array.length_toList, xeC_size e (h e (List.mem_cons_self ..)), List.length_cons]; omega
theorem xvs_one (l : List Xe) : ∀ v ∈ xvs l, v.oneCell' = true := by
  intro v hv
  obtain ⟨e, _, h⟩ := List.mem_flatMap.1 hv
  exact xeC_one e v h
theorem xvs_get : ∀ {l : List Xe}, (∀ e ∈ l, e.id.size = 32) → ∀ {i : Nat} {e : Xe}, l[i]? = some e → ∀ j, j < 35 → (xvs l)[i * 35 + j]? = (xeC e)[j]?
  | [], _, i, e, h, _, _ => by simp at h
  | x :: l, hs, 0, e, h, j, hj => by
    simp only [List.getElem?_cons_zero, Option.some.injEq] at h
    subst h
    show ((xeC x).toList ++ xvs l)[0 * 35 + j]? = _
    rw [Nat.zero_mul, Nat.zero_add, List.getElem?_append_left (by rw [Array.length_toList, xeC_size x (hs x (List.mem_cons_self ..))]; exact hj), Array.getElem?_toList]
  | x :: l, hs, i + 1, e, h, j, hj => by
    rw [List.getElem?_cons_succ] at h
    show ((xeC x).toList ++ xvs l)[(i + 1) * 35 + j]? = _
    rw [List.getElem?_append_right (by rw [Array.length_toList, xeC_size x (hs x (List.mem_cons_self ..))]; omega), Array.length_toList, xeC_size x (hs x (List.mem_cons_self ..)), ← xvs_get (l := l) (fun y hy => hs y (List.mem_cons_of_mem _ hy)) h j hj]
    congr 1
    omega
/-- Entries of a slice. -/
def XeL (w : World) (a : Option Addr) (l : List Xe) : Prop := ∀ i e, l[i]? = some e → e.id.size = 32 ∧ ∃ g o, a = some ⟨g, o, none⟩ ∧ g < w.heap.size ∧ ∀ j v, (xeC e)[j]? = some v → w.cell? ⟨g, o + i * 35 + j, none⟩ = some v
theorem XeL.below {w w' : World} {a : Option Addr} {l : List Xe} (h : XeL w a l) (hb : Below w.heap.size w w') : XeL w' a l := fun i e he => by
  obtain ⟨h1, g, o, h2, h3, h4⟩ := h i e he
  exact ⟨h1, g, o, h2, Nat.lt_of_lt_of_le h3 hb.size, fun j v hv => by rw [hb.cell (p := ⟨g, o + i * 35 + j, none⟩) h3]; exact h4 j v hv⟩
theorem XeL.ids {w : World} {a : Option Addr} {l : List Xe} (h : XeL w a l) : ∀ e ∈ l, e.id.size = 32 := fun e he => by
  obtain ⟨i, hi⟩ := List.getElem?_of_mem he
  exact (h i e hi).1
theorem own_xel {w : World} {B n : Nat} {v : Value} {T : TypeId} {l : List Xe} (h : w.ownsRow B T 35 v n (xvs l)) (hn : l.length = n) (hs : ∀ e ∈ l, e.id.size = 32) : ∃ a c, v = .slice a n c ∧ XeL w a l ∧ n ≤ c ∧ (a = none ∧ n = 0 ∨ ∃ g, a = some ⟨g, 0, none⟩ ∧ B ≤ g) := by
  rcases h.2 with ⟨h1, h0⟩ | ⟨g, cap, cur, h1, hle, hg, hnc, hsz, hone, ht⟩
  · subst h1
    refine ⟨none, 0, by rw [h0], fun i e he => ?_, by omega, .inl ⟨rfl, h0⟩⟩
    have : l = [] := List.length_eq_zero_iff.1 (by omega)
    rw [this] at he
    cases he
  · refine ⟨some ⟨g, 0, none⟩, cap, h1, fun i e he => ?_, hnc, .inr ⟨g, rfl, hle⟩⟩
    have hb : Bk w g cur T := hg
    have hi : i < l.length := (List.getElem?_eq_some_iff.1 he).1
    refine ⟨hs e (List.mem_of_getElem? he), g, 0, rfl, hb.lt, fun j u hu => ?_⟩
    have hj : j < 35 := by
      have := (Array.getElem?_eq_some_iff.1 hu).1
      rwa [xeC_size e (hs e (List.mem_of_getElem? he))] at this
    have := xvs_get hs he j hj
    rw [hu, ← ht, List.getElem?_take, if_pos (by omega), Array.getElem?_toList] at this
    rw [hb.cell, Nat.zero_add]
    exact this
end Go.Proofs.Ytbdkacfpeokggaa
/- bytes.Compare, digest.Less. -/
namespace Go.Proofs.Ytbdkacfpeokggaa
open Go.RowKit
set_option linter.unusedSimpArgs false
set_option linter.unusedVariables false
theorem byl_back (s : ByteArray) : Lib.bytesOf ((byl s).map Int.ofNat) = s.data.toList := by
  simp only [Lib.bytesOf, byl, List.map_map]
  conv => rhs; rw [← List.map_id s.data.toList]
  apply List.map_congr_left
  intro x _
  simp
theorem load_id (s : ByteArray) (g : Nat) (T : TypeId) (w : World) (hs : s.size = 32) (hB : Blk w g (idc s) T) {P : Program} :
    (Extern.Bytes.bytesOf (.slice (some ⟨g, 0, none⟩) 32 32)).run P w = .ok s w := by
  have h := Lib.run_loadBytesX (P := P) w ((byl s).map Int.ofNat) ⟨g, 0, none⟩ .empty (fun j x hj => by
    have hjl : j < s.size := by have := (List.getElem?_eq_some_iff.1 hj).1; simpa [byl_length] using this
    rw [Addr.add_mid, Nat.zero_add, hB.cell, idc_get s j hjl]
    rw [List.getElem?_map, byl_getD s j hjl] at hj
    simp only [Option.map_some, Option.some.injEq] at hj
    rw [← hj]; rfl)
  rw [byl_back, show ((byl s).map Int.ofNat).length = 32 from by simp [byl_length, hs]] at h
  show (Extern.Bytes.loadBytes ⟨g, 0, none⟩ 32 .empty).run P w = _
  rw [h]
  congr 1
  apply ByteArray.ext
  simp [ByteArray.empty, ByteArray.emptyWithCapacity]
  rfl
/-- What bytes.Compare says of two names. -/
def cmpId (a b : ByteArray) : Int := Lib.compareBytes a.data.toList b.data.toList
theorem compare_ids (a b : ByteArray) (ga gb : Nat) (Ta Tb : TypeId) (w : World) (ha : a.size = 32) (hb : b.size = 32) (hA : Blk w ga (idc a) Ta) (hB : Blk w gb (idc b) Tb) {P : Program} :
    (Extern.BytealgCompare.compare #[.slice (some ⟨ga, 0, none⟩) 32 32, .slice (some ⟨gb, 0, none⟩) 32 32]).run P w = .ok (.int .i64 (cmpId a b)) w := by
  change Sem.run P (do pure (goInt (Extern.BytealgCompare.cmp (← Extern.Bytes.bytesOf (.slice (some ⟨ga, 0, none⟩) 32 32)) (← Extern.Bytes.bytesOf (.slice (some ⟨gb, 0, none⟩) 32 32))))) w = _
  simp only [Sem.run_bind, load_id a ga Ta w ha hA, load_id b gb Tb w hb hB, Result.andThen, Sem.run_pure]
  rw [Lib.cmp_eq]
  rfl
set_option maxHeartbeats 400000 in
set_option maxRecDepth 100000 in
theorem bcompare_any (a b : ByteArray) (ga gb : Nat) (Ta Tb : TypeId) (w : World) (ha : a.size = 32) (hb : b.size = 32) (hA : Blk w ga (idc a) Ta) (hB : Blk w gb (idc b) Tb) :
    Calls Try.prog 26 #[.slice (some ⟨ga, 0, none⟩) 32 32, .slice (some ⟨gb, 0, none⟩) 32 32] w fun e w' => e = .returned (.int .i64 (cmpId a b)) ∧ w' = w := by
  have HC := compare_ids a b ga gb Ta Tb w ha hb hA hB (P := Try.prog)
  have HH : Hid ((Extern.BytealgCompare.compare #[.slice (some ⟨ga, 0, none⟩) 32 32, .slice (some ⟨gb, 0, none⟩) 32 32]).run Try.prog w = .ok (.int .i64 (cmpId a b)) w) := HC
  clear HC hA hB
  go_enter Try.func26, Try.ntmps26
  go_wp2
  rw [run_callFunc_extern Try.func39 (by kernel_rfl) (by kernel_rfl) (by kernel_rfl) (e := Extern.BytealgCompare.compare) (by kernel_rfl), HH.out]
  simp only [Result.andThen]
  rw [Oper.upon_value]
  go_wp2
  go_ret
  exact ⟨rfl, rfl⟩
def lessB (a b : ByteArray) : Bool := decide (cmpId a b < 0)
set_option maxHeartbeats 400000 in
set_option maxRecDepth 100000 in
theorem less_any (a b : ByteArray) (w : World) (ha : a.size = 32) (hb : b.size = 32) :
    Calls Try.prog 14 #[.agg (idc a), .agg (idc b)] w fun e w' => e = .returned (.bool (lessB a b)) ∧ Below w.heap.size w w' := by
  have h1 := slice32 w.heap.size
  have h2 := slice32 (w.heap.size + 1)
  go_enter Try.func14, Try.ntmps14
  go_wp2
  have hA : Blk ((w.alloc (.cells (idc a) 30)).alloc (.cells (idc b) 30)) w.heap.size (idc a) 30 := Blk.grown (blk_new w _) (World.grownBy_alloc _ _ none) (by simp)
  have hB : Blk ((w.alloc (.cells (idc a) 30)).alloc (.cells (idc b) 30)) (w.heap.size + 1) (idc b) 30 := by
    have e := blk_new (w.alloc (.cells (idc a) 30)) (.cells (idc b) 30)
    rwa [alloc_size] at e
  have HAB : Hid (Blk ((w.alloc (.cells (idc a) 30)).alloc (.cells (idc b) 30)) w.heap.size (idc a) 30 ∧ Blk ((w.alloc (.cells (idc a) 30)).alloc (.cells (idc b) 30)) (w.heap.size + 1) (idc b) 30) := ⟨hA, hB⟩
  clear hA hB
  go_quiet ((go_at_call 26; exact Calls.quiet_of_same (bcompare_any a b _ _ 30 30 _ ha hb (HAB.out.1.drewN _) (HAB.out.2.drewN _))))
  go_wp2
  go_ret
  refine ⟨rfl, ?_⟩
  exact below_of_grown (((World.grownBy_alloc w _ none).trans (World.grownBy_alloc _ _ none)).trans (grown_drewN _ nq none))
end Go.Proofs.Ytbdkacfpeokggaa
/- idx.mayBeIndexed, digest.Less and idx.order with what they leave behind. -/
namespace Go.Proofs.Ytbdkacfpeokggaa
open Go.RowKit
set_option linter.unusedSimpArgs false
set_option linter.unusedVariables false
theorem okX_eq (e : Xe) (r : Bool) (h : r = true ↔ (1 ≤ (e.k.toNat : Int) ∧ (e.k.toNat : Int) ≤ 5 ∧ 4 ≤ e.off ∧ e.off ≤ 67108864 ∧ 0 ≤ e.sz ∧ e.sz ≤ 2097152)) : r = okX e := by
  rw [Bool.eq_iff_iff, h, okX_iff]
  omega
theorem retBX {a b : Bool} (h : a = b) : Ending.returned (.bool a) = .returned (.bool b) := by rw [h]
set_option maxHeartbeats 4000000 in
set_option maxRecDepth 100000 in
theorem maybe_any (e : Xe) (w : World) (h : e.id.size = 32) : Calls Try.prog 16 #[.agg (xeC e)] w fun r w' => r = .returned (.bool (okX e)) ∧ w' = w.alloc (.cells (xeC e) 38) := by
  obtain ⟨c1, c2, c3⟩ := xeC_at e h
  have hb := bk_new w (xeC e) 38
  have k1 : (w.alloc (.cells (xeC e) 38)).cell? ⟨w.heap.size, 32, none⟩ = some (.int .u8 (e.k.toNat : Int)) := by rw [hb.cell]; exact c1
  have k2 : (w.alloc (.cells (xeC e) 38)).cell? ⟨w.heap.size, 33, none⟩ = some (.int .i64 e.off) := by rw [hb.cell]; exact c2
  have k3 : (w.alloc (.cells (xeC e) 38)).cell? ⟨w.heap.size, 34, none⟩ = some (.int .i64 e.sz) := by rw [hb.cell]; exact c3
  clear hb c1 c2 c3
  have HE := okX_eq e
  obtain ⟨r, hr⟩ : ∃ r, okX e = r := ⟨_, rfl⟩
  rw [hr] at HE ⊢
  obtain ⟨C, hC⟩ : ∃ C, xeC e = C := ⟨_, rfl⟩
  rw [hC] at k1 k2 k3 ⊢
  obtain ⟨ei, ek, eo, ez⟩ := e
  simp only at k1 k2 k3 HE
  obtain ⟨K, hK⟩ : ∃ K : Int, (ek.toNat : Int) = K := ⟨_, rfl⟩
  rw [hK] at k1 HE
  have HH : Hid (∀ (q : Bool), (q = true ↔ 1 ≤ K ∧ K ≤ 5 ∧ 4 ≤ eo ∧ eo ≤ 67108864 ∧ 0 ≤ ez ∧ ez ≤ 2097152) → q = r) := HE
  clear HE hr hC h hK
  by_cases g1 : 1 ≤ K
  · by_cases g2 : K ≤ 5
    · by_cases g3 : 4 ≤ eo
      · by_cases g4 : eo ≤ 67108864
        · by_cases g5 : 0 ≤ ez
          · go_enter Try.func16, Try.ntmps16
            go_wp2
            go_ret
            exact ⟨retBX (HH.out _ (by simp [g1, g2, g3, g4, g5] <;> omega)), rfl⟩
          · go_enter Try.func16, Try.ntmps16
            go_wp2
            go_ret
            exact ⟨retBX (HH.out _ (by simp [g1, g2, g3, g4, g5] <;> omega)), rfl⟩
        · go_enter Try.func16, Try.ntmps16
          go_wp2
          go_ret
          exact ⟨retBX (HH.out _ (by simp [g1, g2, g3, g4] <;> omega)), rfl⟩
      · go_enter Try.func16, Try.ntmps16
        go_wp2
        go_ret
        exact ⟨retBX (HH.out _ (by simp [g1, g2, g3] <;> omega)), rfl⟩
    · go_enter Try.func16, Try.ntmps16
      go_wp2
      go_ret
      exact ⟨retBX (HH.out _ (by simp [g1, g2] <;> omega)), rfl⟩
  · go_enter Try.func16, Try.ntmps16
    go_wp2
    go_ret
    exact ⟨retBX (HH.out _ (by simp [g1] <;> omega)), rfl⟩
set_option maxHeartbeats 400000 in
set_option maxRecDepth 100000 in
/-- digest.Less, with what it leaves behind. -/
theorem less_grow (a b : ByteArray) (w : World) (ha : a.size = 32) (hb : b.size = 32) :
    Calls Try.prog 14 #[.agg (idc a), .agg (idc b)] w fun e w' => e = .returned (.bool (ltN a b)) ∧ ∃ q os, w' = Sort.grow (w.drewN q) os := by
  have h1 := slice32 w.heap.size
  have h2 := slice32 (w.heap.size + 1)
  go_enter Try.func14, Try.ntmps14
  go_wp2
  have hA : Blk ((w.alloc (.cells (idc a) 30)).alloc (.cells (idc b) 30)) w.heap.size (idc a) 30 := Blk.grown (blk_new w _) (World.grownBy_alloc _ _ none) (by simp)
  have hB : Blk ((w.alloc (.cells (idc a) 30)).alloc (.cells (idc b) 30)) (w.heap.size + 1) (idc b) 30 := by
    have e := blk_new (w.alloc (.cells (idc a) 30)) (.cells (idc b) 30)
    rwa [alloc_size] at e
  have HAB : Hid (Blk ((w.alloc (.cells (idc a) 30)).alloc (.cells (idc b) 30)) w.heap.size (idc a) 30 ∧ Blk ((w.alloc (.cells (idc a) 30)).alloc (.cells (idc b) 30)) (w.heap.size + 1) (idc b) 30) := ⟨hA, hB⟩
  clear hA hB
  go_quiet ((go_at_call 26; exact Calls.quiet_of_same (bcompare_any a b _ _ 30 30 _ ha hb (HAB.out.1.drewN _) (HAB.out.2.drewN _))))
  go_wp2
  go_ret
  refine ⟨rfl, nq, #[.cells (idc a) 30, .cells (idc b) 30], ?_⟩
  rw [Sort.alloc_eq_grow, Sort.alloc_eq_grow, Sort.grow_grow]
  rfl
/-- What order says. -/
def ordI (a b : Xe) : Int := if a.id = b.id then 0 else if ltN a.id b.id = true then -1 else 1
theorem grow_below (w : World) (q : Nat) (os : Array Obj) : Below w.heap.size w (Sort.grow (w.drewN q) os) := by
  refine ⟨rfl, rfl, rfl, ?_, fun i hi => ?_⟩
  · show w.heap.size ≤ (w.heap ++ os).size
    rw [Array.size_append]; omega
  · show (w.heap ++ os)[i]? = _
    rw [Array.getElem?_append_left hi]
theorem retIX {a b : Int} (h : a = b) : Ending.returned (.int .i64 a) = .returned (.int .i64 b) := by rw [h]
set_option maxHeartbeats 4000000 in
set_option maxRecDepth 100000 in
theorem order_any (a b : Xe) (w : World) (ha : a.id.size = 32) (hb : b.id.size = 32) :
    Calls Try.prog 19 #[.agg (xeC a), .agg (xeC b)] w fun e w' => e = .returned (.int .i64 (ordI a b)) ∧ ∃ q os, w' = Sort.grow (w.drewN q) os := by
  have HE : Hid (∀ u, (binOp .eql 30 (.agg (idc a.id)) (.agg (idc b.id))).run Try.prog u = .ok (.bool (decide (a.id = b.id))) u) := eql_ids a.id b.id ha hb
  have HL : Hid (∀ u, Calls Try.prog 14 #[.agg (idc a.id), .agg (idc b.id)] u fun e w' => e = .returned (.bool (ltN a.id b.id)) ∧ ∃ q os, w' = Sort.grow (u.drewN q) os) := fun u => less_grow a.id b.id u ha hb
  have HI : Hid ((Try.prog.info? 30).map (·.size) = some (idc a.id).size ∧ (Try.prog.info? 30).map (·.size) = some (idc b.id).size) := ⟨info_32 (by rw [idc_size, ha]), info_32 (by rw [idc_size, hb])⟩
  obtain ⟨A, hA⟩ : ∃ A, idc a.id = A := ⟨_, rfl⟩
  obtain ⟨B, hB⟩ : ∃ B, idc b.id = B := ⟨_, rfl⟩
  have HCA : Hid (∀ j v, A[j]? = some v → (xeC a)[0 + j]? = some v) := fun j v hv => xeC_id a ha j v (by rw [hA]; exact hv)
  have HCB : Hid (∀ j v, B[j]? = some v → (xeC b)[0 + j]? = some v) := fun j v hv => xeC_id b hb j v (by rw [hB]; exact hv)
  rw [hA, hB] at HE HL HI
  obtain ⟨O, hO⟩ : ∃ O, ordI a b = O := ⟨_, rfl⟩
  rw [hO]
  obtain ⟨D, hD⟩ : ∃ D, decide (a.id = b.id) = D := ⟨_, rfl⟩
  obtain ⟨L, hL⟩ : ∃ L, ltN a.id b.id = L := ⟨_, rfl⟩
  have HOO : Hid (O = if D = true then 0 else if L = true then -1 else 1) := by
    show O = _
    rw [← hO, ← hD, ← hL, ordI]
    by_cases h : a.id = b.id <;> simp [h]
  rw [hD] at HE
  rw [hL] at HL
  obtain ⟨XA, hXA⟩ : ∃ X, xeC a = X := ⟨_, rfl⟩
  obtain ⟨XB, hXB⟩ : ∃ X, xeC b = X := ⟨_, rfl⟩
  rw [hXA] at HCA ⊢
  rw [hXB] at HCB ⊢
  clear hA hB hO hD hL hXA hXB ha hb a b
  have b1 := (bk_new w XA 38).alloc (.cells XB 38)
  have b2 := bk_new (w.alloc (.cells XA 38)) XB 38
  rw [al_size] at b2
  have HB1 : Hid (Bk ((w.alloc (.cells XA 38)).alloc (.cells XB 38)) w.heap.size XA 38) := b1
  have HB2 : Hid (Bk ((w.alloc (.cells XA 38)).alloc (.cells XB 38)) (w.heap.size + 1) XB 38) := b2
  have HW0 : Hid (∃ os, (w.alloc (.cells XA 38)).alloc (.cells XB 38) = Sort.grow w os) := ⟨_, by rw [Sort.alloc_eq_grow, Sort.alloc_eq_grow, Sort.grow_grow]⟩
  have hE := HE.out
  clear b1 b2 HE
  have arm1 := Try.underlying30
  cases D with
  | true =>
    have hO : O = 0 := HOO.out
    subst hO
    go_enter Try.func19, Try.ntmps19
    go_wp2_with (first
      | (refine wpList_get rfl 30 (.tmp 6) rfl w.heap.size 0 XA A 38 _ rfl HB1.out HCA.out arm1 rfl HI.out.1 ?_)
      | (refine wpList_get rfl 30 (.tmp 8) rfl (w.heap.size + 1) 0 XB B 38 _ rfl HB2.out HCB.out arm1 rfl HI.out.2 ?_))
    go_ret
    obtain ⟨os, h⟩ := HW0.out
    rw [h]
    exact ⟨rfl, 0, os, rfl⟩
  | false =>
    have hO' : O = if L = true then -1 else 1 := HOO.out
    cases L with
    | true =>
      have hO : O = -1 := hO'
      subst hO
      go_enter Try.func19, Try.ntmps19
      go_wp2_with (first
        | (go_at_call 14; refine (HL.out _).mono ?_; rintro e w1 ⟨rfl, q, os, rfl⟩)
        | (refine wpList_get rfl 30 (.tmp 6) rfl w.heap.size 0 XA A 38 _ rfl HB1.out HCA.out arm1 rfl HI.out.1 ?_)
        | (refine wpList_get rfl 30 (.tmp 8) rfl (w.heap.size + 1) 0 XB B 38 _ rfl HB2.out HCB.out arm1 rfl HI.out.2 ?_)
        | (refine wpList_get rfl 30 (.tmp 12) rfl w.heap.size 0 XA A 38 _ rfl HB1.out HCA.out arm1 rfl HI.out.1 ?_)
        | (refine wpList_get rfl 30 (.tmp 14) rfl (w.heap.size + 1) 0 XB B 38 _ rfl HB2.out HCB.out arm1 rfl HI.out.2 ?_))
      go_ret
      obtain ⟨os0, h⟩ := HW0.out
      rw [h]
      exact ⟨rfl, q, os0 ++ os, by rw [← Sort.grow_grow]; rfl⟩
    | false =>
      have hO : O = 1 := hO'
      subst hO
      go_enter Try.func19, Try.ntmps19
      go_wp2_with (first
        | (go_at_call 14; refine (HL.out _).mono ?_; rintro e w1 ⟨rfl, q, os, rfl⟩)
        | (refine wpList_get rfl 30 (.tmp 6) rfl w.heap.size 0 XA A 38 _ rfl HB1.out HCA.out arm1 rfl HI.out.1 ?_)
        | (refine wpList_get rfl 30 (.tmp 8) rfl (w.heap.size + 1) 0 XB B 38 _ rfl HB2.out HCB.out arm1 rfl HI.out.2 ?_)
        | (refine wpList_get rfl 30 (.tmp 12) rfl w.heap.size 0 XA A 38 _ rfl HB1.out HCA.out arm1 rfl HI.out.1 ?_)
        | (refine wpList_get rfl 30 (.tmp 14) rfl (w.heap.size + 1) 0 XB B 38 _ rfl HB2.out HCB.out arm1 rfl HI.out.2 ?_))
      go_ret
      obtain ⟨os0, h⟩ := HW0.out
      rw [h]
      exact ⟨rfl, q, os0 ++ os, by rw [← Sort.grow_grow]; rfl⟩
end Go.Proofs.Ytbdkacfpeokggaa
/- idx.indexOf: an index in memory. -/
namespace Go.Proofs.Ytbdkacfpeokggaa
open Go.RowKit
set_option linter.unusedSimpArgs false
set_option linter.unusedVariables false
/-- The fan-out's cells. -/
def fnC (f : Nat → Nat) : List Value := (List.range 256).map (fun b => Value.int .i64 (f b : Int))
theorem fnC_len (f : Nat → Nat) : (fnC f).length = 256 := by simp [fnC]
theorem fnC_get (f : Nat → Nat) (j : Nat) (h : j < 256) : (fnC f)[j]? = some (.int .i64 (f j : Int)) := by
  simp [fnC, h]
theorem fnC_set (f : Nat → Nat) (j m : Nat) (h : j < 256) : (fnC f).set j (.int .i64 (m : Int)) = fnC (fun b => if b = j then m else f b) := by
  apply List.ext_getElem?
  intro i
  rw [List.getElem?_set]
  by_cases hi : i < 256
  · rw [fnC_get (fun b => if b = j then m else f b) i hi]
    by_cases e : j = i
    · subst e
      rw [if_pos rfl, if_pos (by rw [fnC_len]; exact h)]
      simp
    · rw [if_neg e, fnC_get f i hi]
      have e2 : ¬ i = j := fun q => e q.symm
      simp [e2]
  · rw [List.getElem?_eq_none (by rw [fnC_len]; omega), List.getElem?_eq_none (by rw [fnC_len]; omega)]
    split
    · rw [if_neg (by rw [fnC_len]; omega)]
    · rfl
/-- An index's cells. -/
def ixC (s : ByteArray) (f : Nat → Nat) (v : Value) : Array Value := ((idc s).toList ++ (fnC f ++ [v])).toArray
theorem ixC_size (s : ByteArray) (f : Nat → Nat) (v : Value) (h : s.size = 32) : (ixC s f v).size = 289 := by simp [ixC, idc_size, fnC_len, h]
theorem ixC_id (s : ByteArray) (f : Nat → Nat) (v : Value) (h : s.size = 32) (j : Nat) (u : Value) (hu : (idc s)[j]? = some u) : (ixC s f v)[0 + j]? = some u := by
  have hj : j < 32 := by
    have := (Array.getElem?_eq_some_iff.1 hu).1
    rwa [idc_size, h] at this
  rw [Nat.zero_add, ixC, List.getElem?_toArray, List.getElem?_append_left (by rw [Array.length_toList, idc_size]; omega), Array.getElem?_toList]
  exact hu
theorem ixC_fan (s : ByteArray) (f : Nat → Nat) (v : Value) (h : s.size = 32) (j : Nat) (hj : j < 256) : (ixC s f v)[32 + j]? = some (.int .i64 (f j : Int)) := by
  have hl : (idc s).toList.length = 32 := by rw [Array.length_toList, idc_size, h]
  rw [ixC, List.getElem?_toArray, List.getElem?_append_right (by omega), hl, show 32 + j - 32 = j from by omega, List.getElem?_append_left (by rw [fnC_len]; exact hj), fnC_get f j hj]
theorem ixC_row (s : ByteArray) (f : Nat → Nat) (v : Value) (h : s.size = 32) : (ixC s f v)[288]? = some v := by
  have hl : (idc s).toList.length = 32 := by rw [Array.length_toList, idc_size, h]
  rw [ixC, List.getElem?_toArray, List.getElem?_append_right (by omega), hl, List.getElem?_append_right (by rw [fnC_len]; omega), fnC_len]
  rfl
theorem ixC_set (s : ByteArray) (f : Nat → Nat) (v : Value) (h : s.size = 32) (j m : Nat) (hj : j < 256) : (ixC s f v).setIfInBounds (32 + j) (.int .i64 (m : Int)) = ixC s (fun b => if b = j then m else f b) v := by
  have hl : (idc s).toList.length = 32 := by rw [Array.length_toList, idc_size, h]
  unfold ixC
  rw [List.setIfInBounds_toArray, List.set_append_right _ _ (by omega), hl, show 32 + j - 32 = j from by omega, List.set_append_left _ _ (by rw [fnC_len]; exact hj), fnC_set f j m hj]
/-- How many have this first byte among the first of them; sums. -/
def cnt8 (l : List Xe) (b : Nat) : Nat := l.countP (fun e => decide (fst8 e = b))
theorem cnt8_snoc (l : List Xe) (e : Xe) (b : Nat) : cnt8 (l ++ [e]) b = if b = fst8 e then cnt8 l b + 1 else cnt8 l b := by
  unfold cnt8
  rw [List.countP_append]
  by_cases h : b = fst8 e
  · rw [if_pos h]; simp [h]
  · rw [if_neg h]; simp; exact fun q => h q.symm
theorem fanL_zero (l : List Xe) : fanL l 0 = cnt8 l 0 := by
  unfold fanL cnt8
  congr 1
  funext e
  exact decide_eq_decide.2 (by omega)
theorem fanL_step (l : List Xe) (b : Nat) : fanL l (b + 1) = cnt8 l (b + 1) + fanL l b := by
  induction l with
  | nil => rfl
  | cons e l ih =>
    unfold fanL cnt8 at *
    rw [List.countP_cons, List.countP_cons, List.countP_cons, ih]
    by_cases h1 : fst8 e ≤ b
    · have d1 : decide (fst8 e ≤ b) = true := decide_eq_true h1
      have d2 : decide (fst8 e ≤ b + 1) = true := decide_eq_true (by omega)
      have d3 : decide (fst8 e = b + 1) = false := decide_eq_false (by omega)
      rw [d1, d2, d3]; simp; omega
    · have d1 : decide (fst8 e ≤ b) = false := decide_eq_false h1
      by_cases h2 : fst8 e = b + 1
      · have d2 : decide (fst8 e ≤ b + 1) = true := decide_eq_true (by omega)
        have d3 : decide (fst8 e = b + 1) = true := decide_eq_true h2
        rw [d1, d2, d3]; simp; omega
      · have d2 : decide (fst8 e ≤ b + 1) = false := decide_eq_false (by omega)
        have d3 : decide (fst8 e = b + 1) = false := decide_eq_false h2
        rw [d1, d2, d3]; simp
/-- An address that a slice of entries may have. -/
def AdS (a : Option Addr) : Prop := a = none ∨ ∃ g o, a = some ⟨g, o, none⟩
/-- An index that lies in memory. -/
structure IxS (w : World) (g : Nat) (s : ByteArray) (l : List Xe) : Prop where
  row : ∃ a n c, Bk w g (ixC s (fanL l) (.slice a n c)) 63 ∧ XeL w a l ∧ l.length = n ∧ n ≤ c ∧ AdS a
  id : s.size = 32
theorem IxS.below {w w' : World} {g : Nat} {s : ByteArray} {l : List Xe} (h : IxS w g s l) (hb : Below w.heap.size w w') : IxS w' g s l := by
  obtain ⟨a, n, c, h1, h2, h3, h4, h5⟩ := h.row
  exact ⟨⟨a, n, c, h1.below hb h1.lt, h2.below hb, h3, h4, h5⟩, h.id⟩
theorem inf_ix : (Try.prog.info? 63).map (·.size) = some 289 := by kernel_rfl
end Go.Proofs.Ytbdkacfpeokggaa
/- Operations that build something or append, by their run's equation; no program named. -/
namespace Go.Proofs.Ytbdkacfpeokggaa
open Go.RowKit
set_option linter.unusedSimpArgs false
set_option linter.unusedVariables false
theorem wpList_bdX2 {P : Program} {ops : Array Oper} {rest : List Oper} {o : Oper} {a : Act} {w : World} {Q : Exit → Act → World → Prop} (hgd : o.guard = none) (t : TypeId) (i j : Nat) (x0 x1 : Operand)
    (ho : o.op = .build t #[(i, x0), (j, x1)]) (v0 v1 r : Value) (h0 : a.eval x0 = v0) (h1 : a.eval x1 = v1) (hr : (Instr.build t #[(i, v0), (j, v1)]).run P w = .ok r w)
    (h : wpList P ops Q rest (a.put o.dst r) w) : wpList P ops Q (o :: rest) a w := by
  refine wpList_plain hgd fun K hK => ?_
  unfold Oper.wp execOp
  simp only [ho, Sem.run_bind, Sem.run_pure, Result.andThen_ok, List.map_toArray, List.map_cons, List.map_nil, h0, h1, hr]
  exact hK _ _ h
theorem wpList_bdX1 {P : Program} {ops : Array Oper} {rest : List Oper} {o : Oper} {a : Act} {w : World} {Q : Exit → Act → World → Prop} (hgd : o.guard = none) (t : TypeId) (i : Nat) (x0 : Operand)
    (ho : o.op = .build t #[(i, x0)]) (v0 r : Value) (h0 : a.eval x0 = v0) (hr : (Instr.build t #[(i, v0)]).run P w = .ok r w)
    (h : wpList P ops Q rest (a.put o.dst r) w) : wpList P ops Q (o :: rest) a w := by
  refine wpList_plain hgd fun K hK => ?_
  unfold Oper.wp execOp
  simp only [ho, Sem.run_bind, Sem.run_pure, Result.andThen_ok, List.map_toArray, List.map_cons, List.map_nil, h0, hr]
  exact hK _ _ h
theorem wpList_bdX0 {P : Program} {ops : Array Oper} {rest : List Oper} {o : Oper} {a : Act} {w : World} {Q : Exit → Act → World → Prop} (hgd : o.guard = none) (t : TypeId)
    (ho : o.op = .build t #[]) (r : Value) (hr : (Instr.build t #[]).run P w = .ok r w)
    (h : wpList P ops Q rest (a.put o.dst r) w) : wpList P ops Q (o :: rest) a w := by
  refine wpList_plain hgd fun K hK => ?_
  unfold Oper.wp execOp
  simp only [ho, Sem.run_bind, Sem.run_pure, Result.andThen_ok, List.map_toArray, List.map_nil, hr]
  exact hK _ _ h
theorem wpList_bdX4 {P : Program} {ops : Array Oper} {rest : List Oper} {o : Oper} {a : Act} {w : World} {Q : Exit → Act → World → Prop} (hgd : o.guard = none) (t : TypeId) (x0 x1 x2 x3 : Operand)
    (ho : o.op = .build t #[(0, x0), (1, x1), (2, x2), (3, x3)]) (v0 v1 v2 v3 r : Value) (h0 : a.eval x0 = v0) (h1 : a.eval x1 = v1) (h2 : a.eval x2 = v2) (h3 : a.eval x3 = v3) (hr : (Instr.build t #[(0, v0), (1, v1), (2, v2), (3, v3)]).run P w = .ok r w)
    (h : wpList P ops Q rest (a.put o.dst r) w) : wpList P ops Q (o :: rest) a w := by
  refine wpList_plain hgd fun K hK => ?_
  unfold Oper.wp execOp
  simp only [ho, Sem.run_bind, Sem.run_pure, Result.andThen_ok, List.map_toArray, List.map_cons, List.map_nil, h0, h1, h2, h3, hr]
  exact hK _ _ h
theorem wpList_bsX {P : Program} {ops : Array Oper} {rest : List Oper} {o : Oper} {a : Act} {w : World} {Q : Exit → Act → World → Prop} (hgd : o.guard = none) (t : TypeId) (x : Operand)
    (ho : o.op = .buildSlice t 1 #[(0, x)]) (v r : Value) (w' : World) (hx : a.eval x = v) (hr : (Instr.buildSlice t 1 #[(0, v)]).run P w = .ok r w')
    (h : wpList P ops Q rest (a.put o.dst r) w') : wpList P ops Q (o :: rest) a w := by
  refine wpList_plain hgd fun K hK => ?_
  unfold Oper.wp execOp
  simp only [ho, Sem.run_bind, Sem.run_pure, Result.andThen_ok, List.map_toArray, List.map_cons, List.map_nil, hx, hr]
  exact hK _ _ h
theorem wpList_appX {P : Program} {ops : Array Oper} {rest : List Oper} {o : Oper} {a : Act} {w : World} {Q : Exit → Act → World → Prop} (hgd : o.guard = none) (sl x : Operand) (t u : TypeId)
    (ho : o.op = .call { callee := .builtin .append, args := #[sl, x], argTypes := #[t, u] }) (v y v' : Value) (w' : World) (hs : a.eval sl = v) (hx : a.eval x = y) (hr : (Builtin.append_ #[t, u] o.type #[v, y]).run P w = .ok v' w')
    (h : wpList P ops Q rest (a.put o.dst v') w') : wpList P ops Q (o :: rest) a w := by
  refine wpList_plain hgd fun K hK => ?_
  unfold Oper.wp execOp
  simp only [ho, resolve, invoke, builtin, Sem.run_bind, Sem.run_pure, Result.andThen_ok, List.map_toArray, List.map_cons, List.map_nil, hs, hx, hr]
  exact hK _ _ h
theorem wpList_copyX {P : Program} {ops : Array Oper} {rest : List Oper} {o : Oper} {a : Act} {w : World} {Q : Exit → Act → World → Prop} (hgd : o.guard = none) (sl x : Operand) (t u : TypeId)
    (ho : o.op = .call { callee := .builtin .copy, args := #[sl, x], argTypes := #[t, u] }) (v y v' : Value) (w' : World) (hs : a.eval sl = v) (hx : a.eval x = y) (hr : (Builtin.copy_ #[t, u] o.type #[v, y]).run P w = .ok v' w')
    (h : wpList P ops Q rest (a.put o.dst v') w') : wpList P ops Q (o :: rest) a w := by
  refine wpList_plain hgd fun K hK => ?_
  unfold Oper.wp execOp
  simp only [ho, resolve, invoke, builtin, Sem.run_bind, Sem.run_pure, Result.andThen_ok, List.map_toArray, List.map_cons, List.map_nil, hs, hx, hr]
  exact hK _ _ h
/-- A whole row stored. -/
theorem wpList_stoX {P : Program} {ops : Array Oper} {rest : List Oper} {o : Oper} {a : Act} {w : World} {Q : Exit → Act → World → Prop} (hgd : o.guard = none) (ty : TypeId) (x y : Operand) (ho : o.op = .store ty x y)
    (g : Nat) (cells old : Array Value) (t : TypeId) (hx : a.eval x = .pointer (some ⟨g, 0, none⟩)) (hy : a.eval y = .agg cells) (hg : Bk w g old t) (hi : (P.info? ty).map (·.size) = some cells.size)
    (hold : old.size = cells.size) (h1 : cells.all (·.oneCell') = true) (h : ∀ w', Hid (Bk w' g cells t) → Hid (w.grownBy w' (some g)) → wpList P ops Q rest (a.put o.dst undef) w') : wpList P ops Q (o :: rest) a w := by
  refine wpList_store_row hgd ty x y ho g cells hx hy t old hg hi hold h1 (h _ (setRow_heap _ _ _ _ _ _ hg) ?_)
  refine ⟨rfl, rfl, rfl, by simp [World.setRow], fun k hk hne => ?_⟩
  have : g ≠ k := fun e => hne (by rw [e])
  simp [World.setRow, Array.getElem?_modify, this]
end Go.Proofs.Ytbdkacfpeokggaa
