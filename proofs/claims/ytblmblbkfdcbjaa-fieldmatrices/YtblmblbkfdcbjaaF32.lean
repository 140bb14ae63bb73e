/- A text's bytes appended to a row that a conversion made. -/
import Derived.Test.YtblmblbkfdcbjaaF30
import Derived.Lib.AppendStr
import Derived.Laws.AppendOwn
import Derived.Laws.CopyRow
namespace Go.Proofs.Ytblmblbkfdcbjaa
open Go.RowKit
set_option linter.unusedSimpArgs false
set_option linter.unusedVariables false
theorem store_free (P : Program) (g o : Nat) (t : TypeId) (fz : Nat × Nat) : ∀ (vs : List Value) (i : Nat) (cur : Array Value) (w : World), w.heap[g]? = some (.cells cur t fz) → (∀ j, j < cur.size → ¬ (fz.1 ≤ j ∧ j < fz.2)) → o + i + vs.length ≤ cur.size → (∀ v ∈ vs, v.oneCell' = true) →
    (storeCells ⟨g, o, none⟩ vs i).run P w = .ok () (w.setRow g (cur.toList.take (o + i) ++ vs ++ cur.toList.drop (o + i + vs.length)).toArray)
  | [], i, cur, w, hg, _, _, _ => by
    have e : w.setRow g cur = w := setRow_self w g cur t fz hg
    simp [storeCells, e]
  | x :: xs, i, cur, w, hg, hfr, hl, h1 => by
    rw [List.length_cons] at hl
    have hin : o + i < cur.size := by omega
    have ha : (⟨g, o, none⟩ : Addr).add i = ⟨g, o + i, none⟩ := WideShapes.add_plain _ _ _
    have hc : w.cell? ⟨g, o + i, none⟩ = some cur[o + i] := by rw [cell_of_row w g (o + i) cur t fz hg, Array.getElem?_eq_getElem hin]
    have hf : w.frozen? ⟨g, o + i, none⟩ = false := by
      have h' := hfr (o + i) hin
      simp only [World.frozen?, hg]
      simp only [Bool.and_eq_false_iff, decide_eq_false_iff_not]
      omega
    have hs : (store ((⟨g, o, none⟩ : Addr).add i) x).run P w = .ok () (w.setRow g (cur.setIfInBounds (o + i) x)) := by
      rw [ha, run_store P w _ x _ (h1 x (List.mem_cons_self ..)), hc]
      simp [hf, setCell_eq_setRow w g (o + i) cur t fz x hg]
    have ih := store_free P g o t fz xs (i + 1) (cur.setIfInBounds (o + i) x) (w.setRow g (cur.setIfInBounds (o + i) x)) (setRow_heap w g cur _ t _ hg) (by simpa using hfr) (by simp; omega) (fun v hv => h1 v (List.mem_cons_of_mem _ hv))
    have e := list_seg_step cur.toList (o + i) x xs (by simp; omega)
    simp only [storeCells, Sem.run_bind, hs, Result.andThen_ok, ih, setRow_setRow]
    congr 3
    simpa [Array.toList_setIfInBounds, Nat.add_assoc] using e
theorem app_grow {W : World} {g n cap : Nat} {C : Array Value} (hc : Cvr W g C) (hC : C.size = cap) (hn : n ≤ cap) (s : ByteArray) (hs : n + s.size ≤ 128) (hg : cap < n + s.size) (ty : TypeId) :
    ∃ cap' C', (Builtin.append_ #[44, 9] ty #[.slice (some ⟨g, 0, none⟩) n cap, .string s]).run Try.prog W = .ok (.slice (some ⟨W.heap.size, 0, none⟩) (n + s.size) cap') (W.drew.alloc (.cells C' 5)) ∧ n + s.size ≤ cap' ∧
      ∀ j, j < n + s.size → C'[j]? = if j < n then C[j]? else (Lib.strCells s)[j - n]? := by
  obtain ⟨i0, hi, hz0, hz1, hz2⟩ := info_parts inf_byte
  have hr := Lib.run_append_grow_string (P := Try.prog) W 44 9 ty 5 i0 (.int .u8 0) Try.underlying44 Try.underlying9 hi hz0 ⟨g, 0, none⟩ n cap (C.toList.take n) (by rw [hz1, List.length_take, Array.length_toList]; omega)
    (fun j v hv => by
      rw [WideShapes.add_plain, Nat.zero_add, hc.cell]
      rw [List.getElem?_take] at hv
      by_cases e : j < n
      · rw [if_pos e, Array.getElem?_toList] at hv; exact hv
      · rw [if_neg e] at hv; cases hv) s (by omega) (by omega) (by rw [hz2]; exact growslice_fits (by omega) (by omega))
  refine ⟨_, _, hr, grownCap_ge _ _ _ _, fun j hj => ?_⟩
  rw [Array.getElem?_append_left (by simp [Lib.strCells_length]; omega)]
  by_cases e : j < n
  · rw [if_pos e, Array.getElem?_append_left (by simp; omega)]
    simp [e]
  · rw [if_neg e, Array.getElem?_append_right (by simp; omega)]
    simp
    congr 1
    omega
theorem app_room {W : World} {g n cap : Nat} {C : Array Value} (hc : Cvr W g C) (hC : C.size = cap) (s : ByteArray) (hg : n + s.size ≤ cap) (ty : TypeId) :
    (Builtin.append_ #[44, 9] ty #[.slice (some ⟨g, 0, none⟩) n cap, .string s]).run Try.prog W = .ok (.slice (some ⟨g, 0, none⟩) (n + s.size) cap) (W.setRow g (C.toList.take n ++ Lib.strCells s ++ C.toList.drop (n + s.size)).toArray) := by
  obtain ⟨i0, hi, hz0, hz1, hz2⟩ := info_parts inf_byte
  have hf := Lib.run_firstCells_string (P := Try.prog) W 1 s
  have hst := store_free Try.prog g n 5 _ (Lib.strCells s) 0 C W hc (fun j hj => by omega) (by simpa [Lib.strCells_length] using (by omega : n + s.size ≤ C.size)) (Lib.strCells_oneCell s)
  simp only [Nat.add_zero, Lib.strCells_length] at hst
  simp [Builtin.append_, run_underlying Try.underlying44, run_underlying Try.underlying9, sizeOf, typeInfo, hi, hz1, Builtin.lenOf, hg, hf, Addr.add_lit, hst]
/-- A text's bytes behind a row that a conversion made. -/
theorem app_row {W : World} {g n cap : Nat} {C : Array Value} (hc : Cvr W g C) (hC : C.size = cap) (hn : n ≤ cap) (s : ByteArray) (hs : n + s.size ≤ 128) (ty : TypeId) :
    ∃ g' cap' W', (Builtin.append_ #[44, 9] ty #[.slice (some ⟨g, 0, none⟩) n cap, .string s]).run Try.prog W = .ok (.slice (some ⟨g', 0, none⟩) (n + s.size) cap') W' ∧ W.grownBy W' (some g) ∧ (g' = g ∨ g' = W.heap.size) ∧ g' < W'.heap.size ∧ n + s.size ≤ cap' ∧
      (∀ j, j < n + s.size → W'.cell? ⟨g', j, none⟩ = if j < n then C[j]? else (Lib.strCells s)[j - n]?) ∧ ∀ j, j < n + s.size → W'.frozen? ⟨g', j, none⟩ = false := by
  by_cases hg : n + s.size ≤ cap
  · have hr := app_room hc hC s hg ty
    have hlt := hc.lt
    have hh := setRow_heap W g C (C.toList.take n ++ Lib.strCells s ++ C.toList.drop (n + s.size)).toArray 5 _ hc
    refine ⟨g, cap, _, hr, ⟨rfl, rfl, rfl, by simp [World.setRow], fun k _ hk => setRow_other W g k _ (fun e => hk (by rw [e]))⟩, .inl rfl, by simpa [World.setRow] using hlt, hg, fun j hj => ?_, fun j hj => ?_⟩
    · rw [cell_of_row _ g j _ _ _ hh, List.getElem?_toArray, List.append_assoc]
      by_cases e : j < n
      · rw [if_pos e, List.getElem?_append_left (by simp; omega), List.getElem?_take, if_pos e, Array.getElem?_toList]
      · rw [if_neg e, List.getElem?_append_right (by simp; omega), List.getElem?_append_left (by rw [Lib.strCells_length]; simp; omega)]
        congr 1
        simp; omega
    · simp only [World.frozen?, hh]
      simp
      omega
  · obtain ⟨cap', C', hr, hcp, hC'⟩ := app_grow hc hC hn s hs (by omega) ty
    have hB := bk_new W.drew C' 5
    refine ⟨W.heap.size, cap', _, hr, (gr_of_below ((Below.refl W.heap.size W).drew.alloc (Nat.le_refl _) _) _), .inr rfl, by rw [al_size]; exact Nat.lt_succ_self _, hcp, fun j hj => ?_, fun j hj => ?_⟩
    · rw [← hC' j hj]; exact hB.cell j
    · exact hB.frozen j
end Go.Proofs.Ytblmblbkfdcbjaa
