import Derived.Test.YtblmblbkfdcbjaaY14
import Derived.Test.YtblmblbkfdcbjaaY9
import Derived.Lib.AppendStr
import Derived.Laws.AppendOwn
import Derived.Laws.CopyRow
import Derived.Test.YtblmblbkfdcbjaaY5
import Derived.Test.YtblmblbkfdcbjaaY10
import Derived.Test.YtblmblbkfdcbjaaY12
import Derived.Test.YtblmblbkfdcbjaaY4
/- The document's Rank. -/
namespace Go.Proofs.Ytblmblbkfdcbjaa
open Go.RowKit
set_option linter.unusedSimpArgs false
set_option linter.unusedVariables false
set_option maxHeartbeats 2000000 in
set_option maxRecDepth 100000 in
theorem rrank_any (a : Option Addr) (c : Nat) (xs : List ByteArray) (w : World) (hx : TxL w a xs) (nx : xs.length ≤ 4611686018427387904) (hs : ∀ x ∈ xs, x.size ≤ 4611686018427387904) :
    Calls Try.prog 16 #[.slice a xs.length c] w fun e w' => e = .returned (.tuple #[.int .i64 (rkM xs), .int .i64 (ckE xs)]) ∧ Below w.heap.size w w' := by
  have hck := rcheck_any a c xs w hx nx hs
  by_cases hm : isM xs = true
  · obtain ⟨k1, k2, k3⟩ := ck_yes xs hm
    obtain ⟨p1, p2, p3⟩ := isM_parts xs hm
    rw [k1, k2, k3] at hck
    have hrk : rkM xs = rk (arrL xs) := by rw [rkM, hm, if_pos rfl, rk, arrL, List.length_map]
    rw [hrk, k3]
    have hrw := fun W hW => rrows_any a c (wid xs) xs.length xs W hW rfl p1.1 p1.2 p3 p2.2
    obtain ⟨n, hn⟩ : ∃ n, wid xs = n := ⟨_, rfl⟩
    obtain ⟨R, hR⟩ : ∃ R, xs.length = R := ⟨_, rfl⟩
    have HXL : Hid ((arrL xs).length = R) := by show (arrL xs).length = R; rw [arrL, List.length_map, hR]
    have HW : Hid (∀ r ∈ arrL xs, r.length = 64) := arrL_wide xs (fun x h => by rw [p3 x h]; exact p2.2)
    have HZ : Hid (∀ r ∈ arrL xs, zc n r) := by
      intro r hr
      obtain ⟨x, hx', rfl⟩ := List.mem_map.1 hr
      exact rowOf_zc x n (by rw [p3 x hx', hn]; exact Nat.le_refl _) (by rw [← hn]; exact p2.2)
    rw [hn, hR] at hck hrw
    rw [hR] at p1 ⊢
    rw [hn] at p2
    have C1 : Hid _ := hck
    have C2 : Hid _ := hrw
    have HX : Hid (TxL w a xs) := hx
    clear hck hrw hx hm k1 k2 k3 p3 hs hrk hn hR nx
    obtain ⟨pr1, pr2⟩ := p1
    obtain ⟨pn1, pn2⟩ := p2
    go_enter Try.func16, Try.ntmps16
    go_wp2_with fail
    refine Calls.mono C1.out ?_
    rintro e w1 ⟨rfl, hb1⟩
    have HX1 : Hid (TxL w1 a xs) := HX.out.below hb1
    have B1 : Hid (Below w.heap.size w w1) := hb1
    clear hb1
    go_wp2_with fail
    refine Calls.mono (C2.out _ HX1.out) ?_
    rintro e w2 ⟨gm, cm, h, rfl, ⟨hrws, _⟩, hb2⟩
    have HEm : Hid (Em w1 w1.heap.size gm R n n (mat (arrL xs)) 0 0 w2) := ⟨⟨h, _, _, hrws, El.start _ _ R n n (Nat.le_refl _) (fun _ _ _ _ => rfl)⟩, hb2, hb2.size⟩
    clear hrws hb2
    go_wp2_with fail
    refine Calls.mono (relim_any w1 w1.heap.size gm R n n cm (mat (arrL xs)) w2 pr2 (by omega) (Nat.le_refl _) HEm.out) ?_
    rintro e w3 ⟨t, c', rfl, hem, hd⟩
    have ht : t = rk (arrL xs) := by
      obtain ⟨⟨h', pv, M, _, hel⟩, _, _⟩ := hem
      rw [← HXL.out] at hel hd
      refine El.rank HW.out (by rw [HXL.out]; exact pr2) pn2 (fun i j hi hj hj2 => ?_) hel hd
      have e : (arrL xs).getD i zr = (arrL xs)[i] := by rw [List.getD, List.getElem?_eq_getElem hi]; rfl
      show ((arrL xs).getD i zr).getD j 0 = 0
      rw [e]
      exact HZ.out _ (List.getElem_mem hi) j hj hj2
    have B3 : Hid (Below w.heap.size w w3) := B1.out.trans (hem.b.mono B1.out.size)
    have HT : Hid (t = rk (arrL xs)) := ht
    clear hem hd ht
    go_wp2
    go_ret2
    exact ⟨by rw [← HT.out]; rfl, B3.out⟩
  · obtain ⟨k1, k2, k3⟩ := ck_no xs (by simpa using hm)
    rw [k1, k2, k3] at hck
    have hrk : rkM xs = 0 := by rw [rkM, if_neg hm]
    rw [hrk, k3]
    have C1 : Hid _ := hck
    clear hck hx hs k1 k2 k3 hrk
    go_enter Try.func16, Try.ntmps16
    go_wp2_with fail
    refine Calls.mono C1.out ?_
    rintro e w1 ⟨rfl, hb1⟩
    have B1 : Hid (Below w.heap.size w w1) := hb1
    clear hb1
    go_wp2
    go_ret2
    exact ⟨rfl, B1.out⟩
end Go.Proofs.Ytblmblbkfdcbjaa
/- A text's bytes appended to a row that a conversion made. -/
namespace Go.Proofs.Ytblmblbkfdcbjaa
open Go.RowKit
set_option linter.unusedSimpArgs false
set_option linter.unusedVariables false
theorem store_free (P : Program) (g o : Nat) (t : TypeId) (fz : Nat × Nat) : ∀ (vs : List Value) (i : Nat) (cur : Array Value) (w : World), w.heap[g]? = some (.cells cur t fz) → (∀ j, j < cur.size → ¬ (fz.1 ≤ j ∧ j < fz.2)) → o + i + vs.length ≤ cur.size → (∀ v ∈ vs, v.oneCell' = true) →
    (storeCells ⟨g, o, none⟩ vs i).run P w = .ok () (w.setRow g (cur.toList.take (o + i) ++ vs ++ cur.toList.drop (o + i + vs.length)).toArray)
  | [], i, cur, w, hg, _, _, _ => by
    have e : w.setRow g cur = w := setRow_self w g cur t fz hg
    simp [storeCells, e]
  | x :: xs, i, cur, w, hg, hfr, hl, h1 => by
    rw [List.length_cons] at hl
    have hin : o + i < cur.size := by omega
    have ha : (⟨g, o, none⟩ : Addr).add i = ⟨g, o + i, none⟩ := WideShapes.add_plain _ _ _
    have hc : w.cell? ⟨g, o + i, none⟩ = some cur[o + i] := by rw [cell_of_row w g (o + i) cur t fz hg, Array.getElem?_eq_getElem hin]
    have hf : w.frozen? ⟨g, o + i, none⟩ = false := by
      have h' := hfr (o + i) hin
      simp only [World.frozen?, hg]
      simp only [Bool.and_eq_false_iff, decide_eq_false_iff_not]
      omega
    have hs : (store ((⟨g, o, none⟩ : Addr).add i) x).run P w = .ok () (w.setRow g (cur.setIfInBounds (o + i) x)) := by
      rw [ha, run_store P w _ x _ (h1 x (List.mem_cons_self ..)), hc]
      simp [hf, setCell_eq_setRow w g (o + i) cur t fz x hg]
    have ih := store_free P g o t fz xs (i + 1) (cur.setIfInBounds (o + i) x) (w.setRow g (cur.setIfInBounds (o + i) x)) (setRow_heap w g cur _ t _ hg) (by simpa using hfr) (by simp; omega) (fun v hv => h1 v (List.mem_cons_of_mem _ hv))
    have e := list_seg_step cur.toList (o + i) x xs (by simp; omega)
    simp only [storeCells, Sem.run_bind, hs, Result.andThen_ok, ih, setRow_setRow]
    congr 3
    simpa [Array.toList_setIfInBounds, Nat.add_assoc] using e
theorem app_grow {W : World} {g n cap : Nat} {C : Array Value} (hc : Cvr W g C) (hC : C.size = cap) (hn : n ≤ cap) (s : ByteArray) (hs : n + s.size ≤ 128) (hg : cap < n + s.size) (ty : TypeId) :
    ∃ cap' C', (Builtin.append_ #[44, 9] ty #[.slice (some ⟨g, 0, none⟩) n cap, .string s]).run Try.prog W = .ok (.slice (some ⟨W.heap.size, 0, none⟩) (n + s.size) cap') (W.drew.alloc (.cells C' 5)) ∧ n + s.size ≤ cap' ∧
      ∀ j, j < n + s.size → C'[j]? = if j < n then C[j]? else (Lib.strCells s)[j - n]? := by
  obtain ⟨i0, hi, hz0, hz1, hz2⟩ := info_parts inf_byte
  have hr := Lib.run_append_grow_string (P := Try.prog) W 44 9 ty 5 i0 (.int .u8 0) Try.underlying44 Try.underlying9 hi hz0 ⟨g, 0, none⟩ n cap (C.toList.take n) (by rw [hz1, List.length_take, Array.length_toList]; omega)
    (fun j v hv => by
      rw [WideShapes.add_plain, Nat.zero_add, hc.cell]
      rw [List.getElem?_take] at hv
      by_cases e : j < n
      · rw [if_pos e, Array.getElem?_toList] at hv; exact hv
      · rw [if_neg e] at hv; cases hv) s (by omega) (by omega) (by rw [hz2]; exact growslice_fits (by omega) (by omega))
  refine ⟨_, _, hr, grownCap_ge _ _ _ _, fun j hj => ?_⟩
  rw [Array.getElem?_append_left (by simp [Lib.strCells_length]; omega)]
  by_cases e : j < n
  · rw [if_pos e, Array.getElem?_append_left (by simp; omega)]
    simp [e]
  · rw [if_neg e, Array.getElem?_append_right (by simp; omega)]
    simp
    congr 1
    omega
theorem app_room {W : World} {g n cap : Nat} {C : Array Value} (hc : Cvr W g C) (hC : C.size = cap) (s : ByteArray) (hg : n + s.size ≤ cap) (ty : TypeId) :
    (Builtin.append_ #[44, 9] ty #[.slice (some ⟨g, 0, none⟩) n cap, .string s]).run Try.prog W = .ok (.slice (some ⟨g, 0, none⟩) (n + s.size) cap) (W.setRow g (C.toList.take n ++ Lib.strCells s ++ C.toList.drop (n + s.size)).toArray) := by
  obtain ⟨i0, hi, hz0, hz1, hz2⟩ := info_parts inf_byte
  have hf := Lib.run_firstCells_string (P := Try.prog) W 1 s
  have hst := store_free Try.prog g n 5 _ (Lib.strCells s) 0 C W hc (fun j hj => by omega) (by simpa [Lib.strCells_length] using (by omega : n + s.size ≤ C.size)) (Lib.strCells_oneCell s)
  simp only [Nat.add_zero, Lib.strCells_length] at hst
  simp [Builtin.append_, run_underlying Try.underlying44, run_underlying Try.underlying9, sizeOf, typeInfo, hi, hz1, Builtin.lenOf, hg, hf, Addr.add_lit, hst]
/-- A text's bytes behind a row that a conversion made. -/
theorem app_row {W : World} {g n cap : Nat} {C : Array Value} (hc : Cvr W g C) (hC : C.size = cap) (hn : n ≤ cap) (s : ByteArray) (hs : n + s.size ≤ 128) (ty : TypeId) :
    ∃ g' cap' W', (Builtin.append_ #[44, 9] ty #[.slice (some ⟨g, 0, none⟩) n cap, .string s]).run Try.prog W = .ok (.slice (some ⟨g', 0, none⟩) (n + s.size) cap') W' ∧ W.grownBy W' (some g) ∧ (g' = g ∨ g' = W.heap.size) ∧ g' < W'.heap.size ∧ n + s.size ≤ cap' ∧
      (∀ j, j < n + s.size → W'.cell? ⟨g', j, none⟩ = if j < n then C[j]? else (Lib.strCells s)[j - n]?) ∧ ∀ j, j < n + s.size → W'.frozen? ⟨g', j, none⟩ = false := by
  by_cases hg : n + s.size ≤ cap
  · have hr := app_room hc hC s hg ty
    have hlt := hc.lt
    have hh := setRow_heap W g C (C.toList.take n ++ Lib.strCells s ++ C.toList.drop (n + s.size)).toArray 5 _ hc
    refine ⟨g, cap, _, hr, ⟨rfl, rfl, rfl, by simp [World.setRow], fun k _ hk => setRow_other W g k _ (fun e => hk (by rw [e]))⟩, .inl rfl, by simpa [World.setRow] using hlt, hg, fun j hj => ?_, fun j hj => ?_⟩
    · rw [cell_of_row _ g j _ _ _ hh, List.getElem?_toArray, List.append_assoc]
      by_cases e : j < n
      · rw [if_pos e, List.getElem?_append_left (by simp; omega), List.getElem?_take, if_pos e, Array.getElem?_toList]
      · rw [if_neg e, List.getElem?_append_right (by simp; omega), List.getElem?_append_left (by rw [Lib.strCells_length]; simp; omega)]
        congr 1
        simp; omega
    · simp only [World.frozen?, hh]
      simp
      omega
  · obtain ⟨cap', C', hr, hcp, hC'⟩ := app_grow hc hC hn s hs (by omega) ty
    have hB := bk_new W.drew C' 5
    refine ⟨W.heap.size, cap', _, hr, (gr_of_below ((Below.refl W.heap.size W).drew.alloc (Nat.le_refl _) _) _), .inr rfl, by rw [al_size]; exact Nat.lt_succ_self _, hcp, fun j hj => ?_, fun j hj => ?_⟩
    · rw [← hC' j hj]; exact hB.cell j
    · exact hB.frozen j
end Go.Proofs.Ytblmblbkfdcbjaa
/- The document's Inverse: the rows with the unit beside them. -/
namespace Go.Proofs.Ytblmblbkfdcbjaa
open Go.RowKit
set_option linter.unusedSimpArgs false
set_option linter.unusedVariables false
/-- The rows, i of them with the unit's row behind. -/
structure Ri (B gm R n : Nat) (A : Nat → Nat → UInt8) (h : Nat → Nat × Nat) (i : Nat) (W : World) : Prop where
  tc : ∀ k, k < R → W.cell? ⟨gm, k, none⟩ = some (.slice (some ⟨(h k).1, 0, none⟩) (if k < i then n + n else n) (h k).2)
  tf : ∀ k, k < R → W.frozen? ⟨gm, k, none⟩ = false
  rc : ∀ k j, k < i → j < n + n → W.cell? ⟨(h k).1, j, none⟩ = some (.int .u8 ((bes n A k j).toNat : Int))
  rf : ∀ k j, k < i → j < n + n → W.frozen? ⟨(h k).1, j, none⟩ = false
  ro : ∀ k, i ≤ k → k < R → ∃ C, Cvr W (h k).1 C ∧ (C.size = (h k).2 ∧ n ≤ (h k).2) ∧ ∀ j, j < n → C[j]? = some (.int .u8 ((A k j).toNat : Int))
  ap : ∀ k l, k < R → l < R → k ≠ l → (h k).1 ≠ (h l).1
  tp : ∀ k, k < R → gm ≠ (h k).1
  lo : B ≤ gm ∧ gm < W.heap.size
  lr : ∀ k, k < R → B ≤ (h k).1 ∧ (h k).1 < W.heap.size
  cp : ∀ k, k < R → (if k < i then n + n else n) ≤ (h k).2
theorem Ri.start {B gm R n : Nat} {A : Nat → Nat → UInt8} {h : Nat → Nat × Nat} {W : World} (h1 : Rws B gm R h n A W) (h2 : Rb B n A h R W) : Ri B gm R n A h 0 W :=
  ⟨fun k hk => by rw [if_neg (by omega)]; exact h1.tc k hk, h1.tf, fun k j hk => by omega, fun k j hk => by omega, fun k _ hk => h2.row k hk, h1.ap, h1.tp, h1.lo, h1.lr, fun k hk => by rw [if_neg (by omega)]; exact h1.cp k hk⟩
theorem Ri.done {B gm R n : Nat} {A : Nat → Nat → UInt8} {h : Nat → Nat × Nat} {W : World} (h1 : Ri B gm R n A h R W) : Rws B gm R h (n + n) (bes n A) W :=
  ⟨fun k hk => by have := h1.tc k hk; rw [if_pos hk] at this; exact this, h1.tf, fun k j hk hj => h1.rc k j hk hj, fun k j hk hj => h1.rf k j hk hj, h1.ap, h1.tp, h1.lo, h1.lr, fun k hk => by have := h1.cp k hk; rw [if_pos hk] at this; exact this⟩
theorem Ri.next {B gm R n i g' cap' : Nat} {A : Nat → Nat → UInt8} {h : Nat → Nat × Nat} {W W' : World} (hr : Ri B gm R n A h i W) (hi : i < R) (hB : B ≤ W.heap.size) (hg : W.grownBy W' (some (h i).1)) (he : g' = (h i).1 ∨ g' = W.heap.size) (hlt : g' < W'.heap.size)
    (hc : ∀ j, j < n + n → W'.cell? ⟨g', j, none⟩ = some (.int .u8 ((bes n A i j).toNat : Int))) (hf : ∀ j, j < n + n → W'.frozen? ⟨g', j, none⟩ = false) (hcp : n + n ≤ cap') :
    Ri B gm R n A (fun k => if k = i then (g', cap') else h k) (i + 1) (W'.setCell ⟨gm, i, none⟩ (.slice (some ⟨g', 0, none⟩) (n + n) cap')) := by
  have hgi := hr.lr i hi
  have hgm : gm ≠ g' := by
    rcases he with rfl | rfl
    · exact hr.tp i hi
    · have := hr.lo.2; omega
  have hap : ∀ k, k < R → k ≠ i → (h k).1 ≠ g' := by
    intro k hk hki
    rcases he with rfl | rfl
    · exact hr.ap k i hk hi hki
    · have := (hr.lr k hk).2; omega
  have hbk : ∀ k, k < R → k ≠ i → W'.heap[(h k).1]? = W.heap[(h k).1]? := fun k hk hki => hg.block _ (hr.lr k hk).2 (fun e => hr.ap k i hk hi hki (by simpa using e))
  have hbm : W'.heap[gm]? = W.heap[gm]? := hg.block _ hr.lo.2 (fun e => hr.tp i hi (by simpa using e))
  have hcm : ∀ k, W'.cell? ⟨gm, k, none⟩ = W.cell? ⟨gm, k, none⟩ := fun k => World.cell?_of_block (w := W) (a := ⟨gm, k, none⟩) hbm
  have hck : ∀ k j, k < R → k ≠ i → W'.cell? ⟨(h k).1, j, none⟩ = W.cell? ⟨(h k).1, j, none⟩ := fun k j hk hki => World.cell?_of_block (w := W) (a := ⟨(h k).1, j, none⟩) (hbk k hk hki)
  have hfk : ∀ k j, k < R → k ≠ i → W'.frozen? ⟨(h k).1, j, none⟩ = W.frozen? ⟨(h k).1, j, none⟩ := fun k j hk hki => World.frozen?_of_block (w := W) (a := ⟨(h k).1, j, none⟩) (hbk k hk hki)
  refine ⟨fun k hk => ?_, fun k hk => ?_, fun k j hk hj => ?_, fun k j hk hj => ?_, fun k hik hk => ?_, fun k l hk hl hkl => ?_, fun k hk => ?_, ⟨hr.lo.1, by have := hr.lo.2; have := hg.size; simp [World.setCell]; omega⟩, fun k hk => ?_, fun k hk => ?_⟩
  · by_cases e : k = i
    · subst e
      simp only [if_pos, Nat.lt_succ_self]
      exact cel_same (by rw [hcm]; exact hr.tc k hk)
    · rw [cel_other (by intro e2; exact e (Addr.mk.inj e2).2.1.symm), hcm]
      simp only [if_neg e]
      have : (k < i + 1) = (k < i) := by apply propext; omega
      simp only [this]
      exact hr.tc k hk
  · rw [World.frozen?_setCell, World.frozen?_of_block (w := W) (a := ⟨gm, k, none⟩) hbm]; exact hr.tf k hk
  · by_cases e : k = i
    · subst e
      simp only [if_pos]
      rw [cel_other (by intro e2; exact hgm (Addr.mk.inj e2).1)]
      exact hc j hj
    · simp only [if_neg e]
      rw [cel_other (by intro e2; exact hr.tp k (by omega) (Addr.mk.inj e2).1), hck k j (by omega) e]
      exact hr.rc k j (by omega) hj
  · by_cases e : k = i
    · subst e
      simp only [if_pos]
      rw [World.frozen?_setCell]; exact hf j hj
    · simp only [if_neg e]
      rw [World.frozen?_setCell, hfk k j (by omega) e]
      exact hr.rf k j (by omega) hj
  · obtain ⟨C, h1, h2⟩ := hr.ro k (by omega) hk
    simp only [if_neg (show ¬ k = i by omega)]
    refine ⟨C, ?_, h2⟩
    show (W'.setCell _ _).heap[(h k).1]? = _
    rw [Below.heap_setCell _ _ _ _ (fun e => hr.tp k hk e.symm), hbk k hk (by omega)]
    exact h1
  · by_cases e : k = i
    · simp only [if_pos e, if_neg (show ¬ l = i by omega)]
      exact fun e2 => hap l hl (by omega) e2.symm
    · simp only [if_neg e]
      by_cases e2 : l = i
      · simp only [if_pos e2]; exact hap k hk e
      · simp only [if_neg e2]; exact hr.ap k l hk hl hkl
  · by_cases e : k = i
    · simp only [if_pos e]; exact hgm
    · simp only [if_neg e]; exact hr.tp k hk
  · have hz := hg.size
    by_cases e : k = i
    · simp only [if_pos e]
      refine ⟨?_, by simpa [World.setCell] using hlt⟩
      rcases he with rfl | rfl
      · exact hgi.1
      · exact hB
    · simp only [if_neg e]
      exact ⟨(hr.lr k hk).1, by have := (hr.lr k hk).2; simp [World.setCell]; omega⟩
  · by_cases e : k = i
    · simp only [if_pos e, if_pos (show k < i + 1 by omega)]; exact hcp
    · simp only [if_neg e]
      have : (k < i + 1) = (k < i) := by apply propext; omega
      simp only [this]
      exact hr.cp k hk
end Go.Proofs.Ytblmblbkfdcbjaa
/- The document's Product. -/
namespace Go.Proofs.Ytblmblbkfdcbjaa
open Go.RowKit
set_option linter.unusedSimpArgs false
set_option linter.unusedVariables false
/-- One term of a product's byte. -/
def trm (r : List UInt8) (B : List (List UInt8)) (j l : Nat) : UInt8 := mul (r.getD l 0) ((B.getD l zr).getD j 0)
/-- The first j bytes of a row of a product. -/
def prB (r : List UInt8) (B : List (List UInt8)) (c n j : Nat) : List UInt8 := (List.range n).map fun t => if t < j then Sx c (trm r B t) else 0
theorem prB_len (r : List UInt8) (B : List (List UInt8)) (c n j : Nat) : (prB r B c n j).length = n := by simp [prB]
theorem prB_at (r : List UInt8) (B : List (List UInt8)) (c n j t : Nat) (h : t < n) : (prB r B c n j)[t]? = some (if t < j then Sx c (trm r B t) else 0) := by
  rw [prB, List.getElem?_map, List.getElem?_range h]; rfl
theorem prB_zero (r : List UInt8) (B : List (List UInt8)) (c n : Nat) : prB r B c n 0 = List.replicate n 0 := by
  apply List.ext_getElem?
  intro t
  by_cases h : t < n
  · rw [prB_at _ _ _ _ _ _ h, List.getElem?_replicate, if_pos h]; simp
  · rw [List.getElem?_eq_none (by rw [prB_len]; omega), List.getElem?_eq_none (by simp; omega)]
theorem prB_self (r : List UInt8) (B : List (List UInt8)) (c n j : Nat) : (prB r B c n j).set j 0 = prB r B c n j := by
  apply List.ext_getElem?
  intro t
  rw [List.getElem?_set]
  by_cases e : j = t
  · subst e
    rw [if_pos rfl, prB_len]
    by_cases h : j < n
    · rw [if_pos h, prB_at _ _ _ _ _ _ h]; simp
    · rw [if_neg h, List.getElem?_eq_none (by rw [prB_len]; omega)]
  · rw [if_neg e]
theorem prB_next (r : List UInt8) (B : List (List UInt8)) (c n j : Nat) : (prB r B c n j).set j (Sx c (trm r B j)) = prB r B c n (j + 1) := by
  apply List.ext_getElem?
  intro t
  rw [List.getElem?_set]
  by_cases h : t < n
  · rw [prB_at _ _ _ _ _ _ h, prB_at _ _ _ _ _ _ h, prB_len]
    by_cases e : j = t
    · subst e; simp [h]
    · rw [if_neg e]
      have : (t < j + 1) = (t < j) := by apply propext; omega
      simp only [this]
  · rw [List.getElem?_eq_none (l := prB r B c n j) (by rw [prB_len]; omega), List.getElem?_eq_none (l := prB r B c n (j + 1)) (by rw [prB_len]; omega), prB_len]
    by_cases e : j = t
    · rw [if_pos e, if_neg (by omega)]
    · rw [if_neg e]
theorem prB_all (r : List UInt8) (B : List (List UInt8)) (n : Nat) (hn : n ≤ 64) (hB : ∀ r ∈ B, r.length = 64) : prB r B B.length n n = (prodR B r).take n := by
  apply List.ext_getElem?
  intro t
  by_cases h : t < n
  · rw [prB_at _ _ _ _ _ _ h, if_pos h, List.getElem?_take, if_pos h]
    have hl : (prodR B r).length = 64 := prodK_len r B hB _
    have e := prodK_getD r B hB t (by omega) B.length
    rw [List.getElem?_eq_getElem (by omega)]
    have e2 : (prodR B r).getD t 0 = (prodR B r)[t]'(by omega) := by rw [List.getD, List.getElem?_eq_getElem (by omega)]; rfl
    rw [← e2]
    show some (Sx B.length (trm r B t)) = some ((prodK r B B.length).getD t 0)
    rw [e]; rfl
  · rw [List.getElem?_eq_none (by rw [prB_len]; omega), List.getElem?_eq_none (by rw [List.length_take]; omega)]
end Go.Proofs.Ytblmblbkfdcbjaa
/- The document's Product: the walk. -/
namespace Go.Proofs.Ytblmblbkfdcbjaa
open Go.RowKit
set_option linter.unusedSimpArgs false
set_option linter.unusedVariables false
theorem index_tx (l : List UInt8) (j : Nat) (x : UInt8) (h : l[j]? = some x) (w : World) : (Instr.index 9 (.string (mkT l)) (.int .i64 j)).run Try.prog w = .ok (c8 x) w := by
  have hj := (List.getElem?_eq_some_iff.1 h).1
  have e : (mkT l)[((j : Int)).toNat]? = some x := by
    rw [Int.toNat_natCast]
    have : j < (mkT l).size := by rw [mkT_size]; exact hj
    rw [getElem?_pos (mkT l) j this]
    show some ((l.toArray)[j]'(by simpa using hj)) = some x
    rw [List.getElem_toArray, (List.getElem?_eq_some_iff.1 h).2]
  simp only [Instr.index, asIntOf, Sem.run_bind, Sem.run_pure, Result.andThen_ok, run_underlying Try.underlying9 w]
  rw [if_pos (by omega), e]
  rfl
theorem mk_self (x : ByteArray) : mkT x.data.toList = x := by cases x; simp [mkT]
theorem row_byte (x : ByteArray) (h : x.size ≤ 64) (j : Nat) (hj : j < x.size) : x.data.toList[j]? = some ((rowOf x).getD j 0) := by
  have e := rowOf_get x h j hj
  obtain ⟨v, hv⟩ : ∃ v, x.data.toList[j]? = some v := ⟨_, List.getElem?_eq_getElem (by rw [Array.length_toList]; exact hj)⟩
  rw [hv] at e
  rw [hv, List.getD, e]; rfl
theorem quiet_txt {o : Oper} {a : Act} {C : World → Prop} {K : Act → Prop} (x : Operand) (ho : o.op = .load 9 x) (g f : Nat) (s : ByteArray) (hx : a.eval x = .pointer (some ⟨g, f, none⟩))
    (hc : ∀ w, C w → w.cell? ⟨g, f, none⟩ = some (.string s)) (hn : K (a.put o.dst (.string s))) : o.quiet Try.prog a C K :=
  quiet_val (.string s) (fun w hw => by
    have h := hc w hw
    have ha : (isAgg 9).run Try.prog w = .ok false w := by kernel_rfl
    unfold execOp
    simp [ho, hx, Instr.loadAt, Instr.sureAddr, loadVar, ha, h]) hn
theorem TxL.at {w : World} {g o : Nat} {xs : List ByteArray} (h : TxL w (some ⟨g, o, none⟩) xs) {i : Nat} {x : ByteArray} (hx : xs[i]? = some x) : w.cell? ⟨g, o + i, none⟩ = some (.string x) := by
  obtain ⟨g2, o2, e, _, hc⟩ := h i x hx
  obtain ⟨rfl, rfl⟩ : g = g2 ∧ o = o2 := by simpa using e
  exact hc
/-- The worlds of the innermost region: a row of the call's own, nothing else changed. -/
structure Pd (w0 : World) (l : List UInt8) (W : World) : Prop where
  r : Bk W w0.heap.size (rc l) 5
  b : Below w0.heap.size w0 W
theorem Pd.below {w0 W W' : World} {l : List UInt8} (h : Pd w0 l W) (hb : Below W.heap.size W W') : Pd w0 l W' :=
  ⟨h.r.grown (gr_of_below hb none) (by simp), h.b.trans (hb.mono h.b.size)⟩
theorem Pd.drew {w0 W : World} {l : List UInt8} (h : Pd w0 l W) : Pd w0 l W.drew := h.below (Below.refl _ _).drew
theorem Pd.step {w0 W : World} {l : List UInt8} (h : Pd w0 l W) (j : Nat) (v : UInt8) : Pd w0 (l.set j v) (W.setCell ⟨w0.heap.size, j, none⟩ (c8 v)) :=
  ⟨by rw [← rc_set]; exact h.r.set j _, below_own h.b h.b.size (Lib.grownBy_setB (World.grownBy.refl _ _) _ _) (Nat.le_refl _)⟩
set_option maxHeartbeats 2000000 in
set_option maxRecDepth 100000 in
theorem rproduct_yes (a b : Option Addr) (ca cb : Nat) (xs ys : List ByteArray) (w : World) (hx : TxL w a xs) (hy : TxL w b ys) (mx : isM xs = true) (my : isM ys = true) (he : wid xs = ys.length) :
    Calls Try.prog 11 #[.slice a xs.length ca, .slice b ys.length cb] w fun e w' => ∃ v, e = .returned (.tuple #[v, .int .i64 0]) ∧ w'.ownsRow w.heap.size 9 1 v xs.length (sv (txtL (wid ys) (prodL (arrL xs) (arrL ys)))) ∧ Below w.heap.size w w' := by
  obtain ⟨px1, px2, px3⟩ := isM_parts xs mx
  obtain ⟨py1, py2, py3⟩ := isM_parts ys my
  obtain ⟨i0, hi, hz0, hz1, hz2⟩ := info_parts inf_str
  obtain ⟨x0, hx0⟩ : ∃ x, xs[0]? = some x := ⟨_, List.getElem?_eq_getElem (by omega)⟩
  obtain ⟨y0, hy0⟩ : ∃ y, ys[0]? = some y := ⟨_, List.getElem?_eq_getElem (by omega)⟩
  obtain ⟨ga, oa, rfl, hga, _⟩ := hx 0 x0 hx0
  obtain ⟨gb, ob, rfl, hgb, _⟩ := hy 0 y0 hy0
  clear hx0 hy0
  have HX : Hid (TxL w (some ⟨ga, oa, none⟩) xs) := hx
  have HY : Hid (TxL w (some ⟨gb, ob, none⟩) ys) := hy
  have HXS : Hid (∀ x ∈ xs, x.size = ys.length) := fun x h => by rw [px3 x h, he]
  have HYS : Hid (∀ x ∈ ys, x.size = wid ys) := py3
  have hcx := fun W hW => rcheck_any (some ⟨ga, oa, none⟩) ca xs W hW (by omega) (fun x h => by have := HXS.out x h; omega)
  have hcy := fun W hW => rcheck_any (some ⟨gb, ob, none⟩) cb ys W hW (by omega) (fun x h => by have := HYS.out x h; omega)
  obtain ⟨k1, k2, k3⟩ := ck_yes xs mx
  obtain ⟨l1, l2, l3⟩ := ck_yes ys my
  rw [k1, k2, k3] at hcx
  rw [l1, l2, l3] at hcy
  obtain ⟨B, hB⟩ : ∃ B, arrL ys = B := ⟨_, rfl⟩
  obtain ⟨n, hn⟩ : ∃ n, xs.length = n := ⟨_, rfl⟩
  obtain ⟨m, hm⟩ : ∃ m, ys.length = m := ⟨_, rfl⟩
  obtain ⟨c, hc⟩ : ∃ c, wid ys = c := ⟨_, rfl⟩
  have HXN : Hid (xs.length = n) := hn
  have HYN : Hid (ys.length = m) := hm
  have HBE : Hid (arrL ys = B) := hB
  have HBL : Hid (B.length = m) := by show B.length = m; rw [← hB, ← hm]; simp [arrL]
  have HBW : Hid (∀ r ∈ B, r.length = 64) := by rw [← hB]; exact arrL_wide ys (fun x h => by rw [py3 x h]; exact py2.2)
  rw [hB]
  rw [he, hm, hn] at hcx
  rw [hc, hm] at hcy
  rw [hn] at px1 ⊢
  rw [hm] at py1 HXS ⊢
  rw [hc] at py2 HYS ⊢
  have C1 : Hid _ := hcx
  have C2 : Hid _ := hcy
  obtain ⟨pn1, pn2⟩ := px1
  obtain ⟨pm1, pm2⟩ := py1
  obtain ⟨pc1, pc2⟩ := py2
  have hmk := make_bytes c pc2
  clear hx hy mx my he px2 px3 py3 k1 k2 k3 l1 l2 l3 hcx hcy hB hn hm hc
  go_enter Try.func11, Try.ntmps11
  go_wp2_with fail
  refine Calls.mono (C1.out _ HX.out) ?_
  rintro e w1 ⟨rfl, hb1⟩
  have HX1 : Hid (TxL w1 (some ⟨ga, oa, none⟩) xs) := HX.out.below hb1
  have HY1 : Hid (TxL w1 (some ⟨gb, ob, none⟩) ys) := HY.out.below hb1
  have B1 : Hid (Below w.heap.size w w1) := hb1
  clear hb1
  go_wp2_with fail
  refine Calls.mono (C2.out _ HY1.out) ?_
  rintro e w2 ⟨rfl, hb2⟩
  have HX2 : Hid (TxL w2 (some ⟨ga, oa, none⟩) xs) := HX1.out.below hb2
  have HY2 : Hid (TxL w2 (some ⟨gb, ob, none⟩) ys) := HY1.out.below hb2
  have B2 : Hid (Below w.heap.size w w2) := B1.out.trans (hb2.mono B1.out.size)
  clear hb2 B1 HX1 HY1 HX HY C1 C2
  go_wp2_with fail
  go_loopw [12, 13] (fun v t wr => ∃ i : Nat, i ≤ n ∧ t = .int .i64 i ∧ Hid (wr.ownsRow w2.heap.size 9 1 v i (sv ((txtL c (prodL (arrL xs) B)).take i))) ∧ Hid (Below w2.heap.size w2 wr)) (fun _ t _ => n - (intOf t).toNat)
  case atStart => exact ⟨0, by omega, rfl, World.ownsRow_nil _ _ _ _, Below.refl _ _⟩
  case round =>
    obtain ⟨i, hin, rfl, HO, HB⟩ := hrel
    have hzr : w2.heap.size ≤ wr.heap.size := HB.out.size
    by_cases hlt : i < n
    · have hiz : (i : Int) < (n : Nat) := by omega
      obtain ⟨x, hx⟩ : ∃ x, xs[i]? = some x := ⟨_, List.getElem?_eq_getElem (by rw [HXN.out]; omega)⟩
      have HXI : Hid (xs[i]? = some x) := hx
      have hxs : x.size = m := HXS.out x (List.mem_of_getElem? hx)
      have HPI : Hid ((prodL (arrL xs) B)[i]? = some (prodR B (rowOf x))) := by
        show (prodL (arrL xs) B)[i]? = _
        rw [prodL, List.getElem?_map, arrL, List.getElem?_map, hx]; rfl
      have HT : Hid ((txtL c (prodL (arrL xs) B)).take (i + 1) = (txtL c (prodL (arrL xs) B)).take i ++ [mkT ((prodR B (rowOf x)).take c)]) := txtL_take c i _ _ HPI.out
      have HAL : Hid (prB (rowOf x) B m c c = (prodR B (rowOf x)).take c) := by
        show _ = _
        rw [← HBL.out]; exact prB_all (rowOf x) B c pc2 HBW.out
      have HXB : Hid (∀ k, k < m → x.data.toList[k]? = some ((rowOf x).getD k 0)) := fun k hk => row_byte x (by omega) k (by omega)
      obtain ⟨r, hr⟩ : ∃ r, rowOf x = r := ⟨_, rfl⟩
      rw [hr] at HPI HT HAL HXB
      clear hx hr
      obtain ⟨w3, hw3⟩ : ∃ w3, wr = w3 := ⟨_, rfl⟩
      rw [hw3] at HO HB hzr ⊢
      clear hw3
      have HP0 : Hid (Pd w3 (prB r B m c 0) (w3.alloc (.cells (rc (List.replicate c 0)) 5))) := ⟨by rw [prB_zero]; exact bk_new _ _ _, (Below.refl _ _).alloc (Nat.le_refl _) _⟩
      have HX3 : Hid (TxL w3 (some ⟨ga, oa, none⟩) xs) := HX2.out.below HB.out
      have HY3 : Hid (TxL w3 (some ⟨gb, ob, none⟩) ys) := HY2.out.below HB.out
      go_wp2_with fail
      go_loopw [15] (fun t W => ∃ j : Nat, j ≤ c ∧ t = .int .i64 j ∧ Hid (Pd w3 (prB r B m c j) W)) (fun t _ => c - (intOf t).toNat)
      case atStart => exact ⟨0, by omega, rfl, HP0.out⟩
      case round =>
        obtain ⟨j, hjc, rfl, HPj⟩ := hrel
        by_cases hlj : j < c
        · have hjz : (j : Int) < (c : Nat) := by omega
          have HPk : Hid (Pd w3 ((prB r B m c j).set j (Sx 0 (trm r B j))) wr) := by
            show Pd _ _ _
            rw [show Sx 0 (trm r B j) = 0 from rfl, prB_self]; exact HPj.out
          clear HPj
          go_wp2_with fail
          go_loopw [16] (fun t W => ∃ k : Nat, k ≤ m ∧ t = .int .i64 k ∧ Hid (Pd w3 ((prB r B m c j).set j (Sx k (trm r B j))) W)) (fun t _ => m - (intOf t).toNat)
          case atStart => exact ⟨0, by omega, rfl, HPk.out⟩
          case round =>
            obtain ⟨k, hkm, rfl, HP⟩ := hrel
            by_cases hlk : k < m
            · have hkz : (k : Int) < (m : Nat) := by omega
              obtain ⟨y, hy⟩ : ∃ y, ys[k]? = some y := ⟨_, List.getElem?_eq_getElem (by rw [HYN.out]; omega)⟩
              have HYI : Hid (ys[k]? = some y) := hy
              have hys : y.size = c := HYS.out y (List.mem_of_getElem? hy)
              have hgB : B.getD k zr = rowOf y := by rw [← HBE.out, arrL, List.getD, List.getElem?_map, hy]; rfl
              obtain ⟨p, hp⟩ : ∃ p, r.getD k 0 = p := ⟨_, rfl⟩
              obtain ⟨q, hq⟩ : ∃ q, (rowOf y).getD j 0 = q := ⟨_, rfl⟩
              have hi1 := fun W => index_tx x.data.toList k p (by rw [HXB.out k hlk, hp]) W
              have hi2 := fun W => index_tx y.data.toList j q (by rw [row_byte y (by omega) j (by omega), hq]) W
              rw [mk_self] at hi1 hi2
              obtain ⟨v, hv⟩ : ∃ v, Sx k (trm r B j) = v := ⟨_, rfl⟩
              have HN : Hid (Sx (k + 1) (trm r B j) = v ^^^ mul p q) := by
                show Sx k (trm r B j) ^^^ trm r B j k = _
                rw [hv, trm, hgB, hp, hq]
              obtain ⟨l, hl⟩ : ∃ l, (prB r B m c j).set j v = l := ⟨_, rfl⟩
              have HL : Hid (l[j]? = some v) := by show l[j]? = _; rw [← hl, List.getElem?_set]; simp [prB_len, hlj]
              have HLS : Hid (∀ u, l.set j u = (prB r B m c j).set j u) := fun u => by rw [← hl]; simp
              have HPl : Hid (Pd w3 l wr) := by show Pd _ _ _; rw [← hl, ← hv]; exact HP.out
              have hx8 := xor8 v (mul p q)
              clear hy hgB hp hq hv hl HP
              have HI1 : Hid _ := hi1
              have HI2 : Hid _ := hi2
              clear hi1 hi2
              go_wp2_with fail
              refine wp_region_tail (Pd w3 l) 20 (by kernel_rfl) (by kernel_rfl) HPl.out.drew ?_
              simp only [List.take_succ_cons, List.take_zero, List.drop_succ_cons, List.drop_zero]
              iterate 4 (go_big_quiet_step (fail))
              go_big_quiet_want
              refine quiet_val (.pointer (some ⟨w3.heap.size, j, none⟩)) ?_ ?_
              · intro W hW; go_simp; done
              go_big_quiet_on; simp only [Act.put, List.setIfInBounds_toArray, List.set_cons_zero, List.set_cons_succ]
              go_big_quiet_want
              refine quiet_byte (.tmp 62) rfl w3.heap.size j v rfl (fun W hW => by rw [hW.r.cell, rc_get, HL.out]; rfl) ?_
              go_big_quiet_on; simp only [Act.put, List.setIfInBounds_toArray, List.set_cons_zero, List.set_cons_succ]
              iterate 2 (go_big_quiet_step (fail))
              go_big_quiet_want
              refine quiet_val (.pointer (some ⟨ga, oa + i, none⟩)) ?_ ?_
              · intro W hW; go_simp; done
              go_big_quiet_on; simp only [Act.put, List.setIfInBounds_toArray, List.set_cons_zero, List.set_cons_succ]
              go_big_quiet_want
              refine quiet_txt (.tmp 66) rfl ga (oa + i) x rfl (fun W hW => (HX3.out.below hW.b).at HXI.out) ?_
              go_big_quiet_on; simp only [Act.put, List.setIfInBounds_toArray, List.set_cons_zero, List.set_cons_succ]
              go_big_quiet_step (fail)
              go_big_quiet_want
              refine quiet_val (c8 p) ?_ ?_
              · intro W hW; have h := HI1.out W; unfold execOp; simp [Act.eval, h]; done
              go_big_quiet_on; simp only [Act.put, List.setIfInBounds_toArray, List.set_cons_zero, List.set_cons_succ]
              iterate 2 (go_big_quiet_step (fail))
              go_big_quiet_want
              refine quiet_val (.pointer (some ⟨gb, ob + k, none⟩)) ?_ ?_
              · intro W hW; go_simp; done
              go_big_quiet_on; simp only [Act.put, List.setIfInBounds_toArray, List.set_cons_zero, List.set_cons_succ]
              go_big_quiet_want
              refine quiet_txt (.tmp 72) rfl gb (ob + k) y rfl (fun W hW => (HY3.out.below hW.b).at HYI.out) ?_
              go_big_quiet_on; simp only [Act.put, List.setIfInBounds_toArray, List.set_cons_zero, List.set_cons_succ]
              go_big_quiet_step (fail)
              go_big_quiet_want
              refine quiet_val (c8 q) ?_ ?_
              · intro W hW; have h := HI2.out W; unfold execOp; simp [Act.eval, h]; done
              go_big_quiet_on; simp only [Act.put, List.setIfInBounds_toArray, List.set_cons_zero, List.set_cons_succ]
              go_big_quiet_want
              refine quiet_call (c8 (mul p q)) 34 #[c8 p, c8 q] ?_ ?_ ?_
              · intro W hW; go_simp; done
              · intro W hW; exact (rtimes_any p q W).mono (fun _ _ h => ⟨h.1, by rw [h.2]; exact hW⟩)
              go_big_quiet_on; simp only [Act.put, List.setIfInBounds_toArray, List.set_cons_zero, List.set_cons_succ]
              go_big_quiet_want
              refine quiet_val (c8 (v ^^^ mul p q)) ?_ ?_
              · intro W hW; go_simp; done
              go_big_quiet_on; simp only [Act.put, List.setIfInBounds_toArray, List.set_cons_zero, List.set_cons_succ]
              refine wpQuiet_nil ?_
              intro w9 hw9
              have HP9 : Hid (Pd w3 l w9) := hw9
              have hcl : w9.cell? ⟨w3.heap.size, j, none⟩ = some (c8 v) := by rw [hw9.r.cell, rc_get, HL.out]; rfl
              have hfr := hw9.r.frozen j
              have HPn : Hid (Pd w3 ((prB r B m c j).set j (Sx (k + 1) (trm r B j))) (w9.setCell ⟨w3.heap.size, j, none⟩ (c8 (v ^^^ mul p q)))) := by
                show Pd _ _ _
                rw [HN.out, ← HLS.out]; exact hw9.step j _
              clear hw9 HPl
              go_wp2
              go_roundw
              case rel => exact ⟨k + 1, by omega, by go_num, HPn.out⟩
              case measure => simp [intOf]; omega
            · have hkm2 : k = m := by omega
              have HPn : Hid (Pd w3 (prB r B m c (j + 1)) wr) := by
                have h := HP.out
                rw [hkm2, prB_next] at h
                exact h
              clear hkm2 HP
              go_wp2
              go_roundw
              case rel => exact ⟨j + 1, by omega, by go_num, HPn.out⟩
              case measure => simp [intOf]; omega
        · have hjc2 : j = c := by omega
          have hcv := conv_front (prB r B m c j) w3.heap.size c c 5 wr (by rw [prB_len]; omega) HPj.out.r
          rw [List.take_of_length_le (by rw [prB_len]; omega), hjc2, HAL.out] at hcv
          obtain ⟨pt, hpt⟩ : ∃ pt, mkT ((prodR B r).take c) = pt := ⟨_, rfl⟩
          rw [hpt] at hcv HT
          have HOo : Hid (wr.ownsRow w2.heap.size 9 1 u12 i (sv ((txtL c (prodL (arrL xs) B)).take i))) := own_kept HO.out HPj.out.b
          have HBo : Hid (Below w2.heap.size w2 wr) := HB.out.trans (HPj.out.b.mono hzr)
          have hzo : w2.heap.size ≤ wr.heap.size := HBo.out.size
          have HC1 : Hid (∀ (j : Nat) (u : Value), [Value.string pt][j]? = some u → (wr.alloc (.cells #[Value.string pt] 9)).cell? ((⟨wr.heap.size, 0, none⟩ : Addr).add j) = some u) := news_one _ _ _
          clear HPj hpt hjc2 HO HB
          go_wp2_with (at_builtin; refine wpList_append_own _ rfl _ _ 22 rfl w2.heap.size 9 i0 (.string ⟨#[]⟩) 1 16 Try.underlying22 hi hz0 hz1 hz2 rfl (by decide) _ _ _ rfl (HOo.out.alloc _) ⟨wr.heap.size, 0, none⟩ 1 1 [.string pt] rfl rfl HC1.out (one_str _) (by unfold maxLen; omega) (by omega) (by simp; omega) ?_)
          intro v' w7 hown1 hgrow _
          have HO7 : Hid (w7.ownsRow w2.heap.size 9 1 v' (i + 1) (sv ((txtL c (prodL (arrL xs) B)).take (i + 1)))) := by
            show w7.ownsRow w2.heap.size 9 1 v' (i + 1) (sv ((txtL c (prodL (arrL xs) B)).take (i + 1)))
            rw [HT.out, sv_append]; exact hown1
          have HB7 : Hid (Below w2.heap.size w2 w7) := apn_bel HBo.out (by omega) HOo.out hgrow
          clear hown1 hgrow HOo HBo HC1 hcv
          go_wp2
          go_roundw
          case rel => exact ⟨i + 1, by omega, by go_num, HO7.out, HB7.out⟩
          case measure => simp [intOf]; omega
    · have hin2 : i = n := by omega
      have HOe : Hid (wr.ownsRow w2.heap.size 9 1 u12 n (sv (txtL c (prodL (arrL xs) B)))) := by
        have h := HO.out
        rw [hin2, List.take_of_length_le (by rw [txtL_len, prodL_len, arrL, List.length_map, HXN.out]; omega)] at h
        exact h
      clear hin2 HO
      go_wp2
      go_ret2
      exact ⟨_, rfl, HOe.out.lower B2.out.size, B2.out.trans (HB.out.mono B2.out.size)⟩
end Go.Proofs.Ytblmblbkfdcbjaa
