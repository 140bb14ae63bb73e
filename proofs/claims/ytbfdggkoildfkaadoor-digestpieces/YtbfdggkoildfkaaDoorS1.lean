/- A row of bytes of the call's own whose cells are all free, whatever mark stands behind them (what a conversion of a string makes): append onto it. -/
import Derived.Test.YtbfdggkoildfkaaDoorE6
import Derived.Lib.AppendStr
import Derived.Laws.AppendOwn
import Derived.Laws.CopyRow
namespace Go.Proofs.YtbfdggkoildfkaaDoor
open Go.RowKit
set_option linter.unusedSimpArgs false
set_option linter.unusedVariables false
theorem store_free (P : Program) (g o : Nat) (t : TypeId) (fz : Nat × Nat) : ∀ (vs : List Value) (i : Nat) (cur : Array Value) (w : World), w.heap[g]? = some (.cells cur t fz) → (∀ j, j < cur.size → ¬ (fz.1 ≤ j ∧ j < fz.2)) → o + i + vs.length ≤ cur.size → (∀ v ∈ vs, v.oneCell' = true) →
    (storeCells ⟨g, o, none⟩ vs i).run P w = .ok () (w.setRow g (cur.toList.take (o + i) ++ vs ++ cur.toList.drop (o + i + vs.length)).toArray)
  | [], i, cur, w, hg, _, _, _ => by
    have e : w.setRow g cur = w := setRow_self w g cur t fz hg
    simp [storeCells, e]
  | x :: xs, i, cur, w, hg, hfr, hl, h1 => by
    rw [List.length_cons] at hl
    have hin : o + i < cur.size := by omega
    have ha : (⟨g, o, none⟩ : Addr).add i = ⟨g, o + i, none⟩ := WideShapes.add_plain _ _ _
    have hc : w.cell? ⟨g, o + i, none⟩ = some cur[o + i] := by rw [cell_of_row w g (o + i) cur t fz hg, Array.getElem?_eq_getElem hin]
    have hf : w.frozen? ⟨g, o + i, none⟩ = false := by
      have h' := hfr (o + i) hin
      simp only [World.frozen?, hg]
      simp only [Bool.and_eq_false_iff, decide_eq_false_iff_not]
      omega
    have hs : (store ((⟨g, o, none⟩ : Addr).add i) x).run P w = .ok () (w.setRow g (cur.setIfInBounds (o + i) x)) := by
      rw [ha, run_store P w _ x _ (h1 x (List.mem_cons_self ..)), hc]
      simp [hf, setCell_eq_setRow w g (o + i) cur t fz x hg]
    have ih := store_free P g o t fz xs (i + 1) (cur.setIfInBounds (o + i) x) (w.setRow g (cur.setIfInBounds (o + i) x)) (setRow_heap w g cur _ t _ hg) (by simpa using hfr) (by simp; omega) (fun v hv => h1 v (List.mem_cons_of_mem _ hv))
    have e := list_seg_step cur.toList (o + i) x xs (by simp; omega)
    simp only [storeCells, Sem.run_bind, hs, Result.andThen_ok, ih, setRow_setRow]
    congr 3
    simpa [Array.toList_setIfInBounds, Nat.add_assoc] using e
/-- Bytes that the call owns, all its cells free. -/
def Fre (w : World) (B : Nat) (v : Value) (xs : List Value) : Prop :=
  ∃ g cap cur fz, v = .slice (some ⟨g, 0, none⟩) xs.length cap ∧ B ≤ g ∧ w.heap[g]? = some (.cells cur 5 fz) ∧ (∀ j, j < cap → ¬ (fz.1 ≤ j ∧ j < fz.2)) ∧ xs.length ≤ cap ∧ cap ≤ maxLen ∧ cur.size = cap ∧ cur.toList.take xs.length = xs
theorem Fre.kept {w w' : World} {B : Nat} {v : Value} {xs : List Value} {r : Option Nat} (h : Fre w B v xs) (hg : w.grownBy w' r) (hr : ∀ k, r = some k → k < B) : Fre w' B v xs := by
  obtain ⟨g, cap, cur, fz, rfl, h1, h2, h3⟩ := h
  refine ⟨g, cap, cur, fz, rfl, h1, ?_, h3⟩
  rw [hg.block g (blk_lt h2) (fun e => by have := hr g e.symm; omega)]
  exact h2
theorem Fre.cell {w : World} {B : Nat} {v : Value} {xs : List Value} (h : Fre w B v xs) : ∃ g cap, v = .slice (some ⟨g, 0, none⟩) xs.length cap ∧ B ≤ g ∧ xs.length ≤ cap ∧ cap ≤ maxLen ∧ ∀ j, j < xs.length → w.cell? ⟨g, j, none⟩ = xs[j]? := by
  obtain ⟨g, cap, cur, fz, rfl, h1, h2, h3, h4, h5, h6, h7⟩ := h
  refine ⟨g, cap, rfl, h1, h4, h5, fun j hj => ?_⟩
  rw [cell_of_row w g j cur _ fz h2, ← Array.getElem?_toList, ← List.getElem?_take_of_lt hj, h7]
theorem Fre.of_conv (s : ByteArray) (u : World) (hs : s.size ≤ 1048576) : ∃ (v : Value) (W : World), (convert 9 47 (.string s)).run Tryd.prog u = .ok v W ∧
    Below u.heap.size u W ∧ Fre W u.heap.size v (Lib.strCells s) := by
  refine ⟨_, _, Lib.run_convert_string_bytes u _ _ _ s Tryd.underlying9 Tryd.underlying47 Tryd.underlying5, ?_, ?_⟩
  · refine ⟨?_, ?_, ?_, by rw [Lib.bytesWorld_size]; omega, fun k hk => Lib.bytesWorld_at_old _ _ _ _ hk⟩
    all_goals simp [Lib.bytesWorld, World.freeze, World.alloc, World.drew, -World.alloc_eq, -World.drew_eq]
  · have hge := grownCap_ge u s.size 0 5
    have hC : (Lib.bytesCells u 5 s).size = grownCap u s.size 0 5 := by
      have : s.data.size = s.size := rfl
      simp [Lib.bytesCells]; omega
    refine ⟨u.heap.size, grownCap u s.size 0 5, _, _, by rw [Lib.strCells_length], Nat.le_refl _, Lib.bytesWorld_at_new _ _ _, ?_, by rw [Lib.strCells_length]; exact hge, grownCap_le_maxLen _ _ _ _ (by unfold maxLen; omega), hC, ?_⟩
    · intro j hj
      rw [hC]; omega
    · rw [Lib.strCells_length, Lib.bytesCells, Array.toList_append, List.take_left' (by simp)]
      simp [Lib.strCells]
theorem info_by : (Tryd.prog.info? 5).map (fun i => (i.zero, i.size, i.bytes)) = some (some (.int .u8 0), 1, 1) := by kernel_rfl
theorem Fre.push {w : World} {B : Nat} {v : Value} {xs : List Value} (h : Fre w B v xs) (hB : B ≤ w.heap.size) (ty : TypeId) (a : Addr) (c : Nat) (x : Int) (hx : w.cell? a = some (.int .u8 x)) (hl : xs.length ≤ 2097152) :
    ∃ v' w', (Builtin.append_ #[47, 47] ty #[v, .slice (some a) 1 c]).run Tryd.prog w = .ok v' w' ∧ Fre w' B v' (xs ++ [.int .u8 x]) ∧ w.grownBy w' v.ownBlock ∧ (∀ k, v.ownBlock = some k → B ≤ k) := by
  obtain ⟨i0, hi, hz0, hz1, hz2⟩ := info_parts info_by
  obtain ⟨g, cap, cur, fz, rfl, h1, h2, h3, h4, h5, h6, h7⟩ := h
  have hnews : ∀ (j : Nat) (u : Value), [Value.int .u8 x][j]? = some u → w.cell? (a.add j) = some u := by
    intro j u hj
    cases j with
    | zero => simp at hj; subst hj; exact hx
    | succ j => simp at hj
  have hone : ∀ u ∈ [Value.int .u8 x], u.oneCell' = true := by intro u hu; simp at hu; subst hu; rfl
  have hob : ∀ k, (Value.slice (some ⟨g, 0, none⟩) xs.length cap).ownBlock = some k → B ≤ k := by
    intro k hk; simp [Value.ownBlock] at hk; omega
  have holds : ∀ j u, xs[j]? = some u → w.cell? ((⟨g, 0, none⟩ : Addr).add j) = some u := by
    intro j u hj
    have hjl : j < xs.length := (List.getElem?_eq_some_iff.1 hj).1
    rw [WideShapes.add_plain, Nat.zero_add, cell_of_row w g j cur _ fz h2, ← Array.getElem?_toList, ← List.getElem?_take_of_lt hjl, h7, hj]
  by_cases hroom : xs.length + 1 ≤ cap
  · have hf := run_firstCells_some (P := Tryd.prog) w 1 1 a 1 c [.int .u8 x] rfl hnews
    have hst := store_free Tryd.prog g xs.length 5 fz [.int .u8 x] 0 cur w h2 (by rw [h6]; exact h3) (by simp; omega) hone
    simp only [Nat.add_zero, List.length_singleton] at hst
    refine ⟨.slice (some ⟨g, 0, none⟩) (xs.length + 1) cap, w.setRow g (cur.toList.take xs.length ++ [Value.int .u8 x] ++ cur.toList.drop (xs.length + 1)).toArray, ?_, ⟨g, cap, _, fz, by simp, h1, setRow_heap w g cur _ _ _ h2, h3, by simp; omega, h5, ?_, ?_⟩, ⟨rfl, rfl, rfl, by simp, fun k _ hk => setRow_other w g k _ (fun e => hk (by simp [Value.ownBlock, e]))⟩, hob⟩
    · simp [Builtin.append_, run_underlying Tryd.underlying47, sizeOf, typeInfo, hi, hz1, Builtin.lenOf, hroom, hf, Addr.add_lit, hst]
    · simp; omega
    · rw [h7]
      exact List.take_left' rfl
  · have hr := run_append_grow (P := Tryd.prog) w 47 ty 5 i0 (.int .u8 0) Tryd.underlying47 hi hz0 ⟨g, 0, none⟩ xs.length cap xs (by rw [hz1, Nat.mul_one]) holds a 1 c [.int .u8 x] (by rw [hz1]; rfl) hnews (by omega) (by omega) (by rw [hz2]; exact growslice_fits (by omega) (by omega))
    have hge := grownCap_ge w (xs.length + 1) cap 5
    have hcm2 := grownCap_le_maxLen w (xs.length + 1) cap 5 (by unfold maxLen; omega)
    refine ⟨_, _, hr, ⟨w.heap.size, _, _, (0, 0), by simp, hB, heap_alloc_new w.drew _, by simp, by simpa using hge, hcm2, ?_, ?_⟩, ⟨rfl, rfl, rfl, by simp, fun k hk _ => heap_alloc_old w.drew _ hk⟩, hob⟩
    · have hzz : (Value.int IntKind.u8 0).cells.size = 1 := rfl
      simp only [Array.size_append, List.size_toArray, size_zeroCells, hzz, List.length_singleton]
      omega
    · simp only [Array.toList_append, List.append_assoc]
      rw [← List.append_assoc]
      exact List.take_left' (by simp)
theorem Fre.pushS {w : World} {B : Nat} {v : Value} {xs : List Value} (h : Fre w B v xs) (hB : B ≤ w.heap.size) (ty : TypeId) (s : ByteArray) (hs : s.size ≤ 1048576) (hl : xs.length ≤ 2097152) :
    ∃ v' w', (Builtin.append_ #[47, 9] ty #[v, .string s]).run Tryd.prog w = .ok v' w' ∧ Fre w' B v' (xs ++ Lib.strCells s) ∧ w.grownBy w' v.ownBlock ∧ (∀ k, v.ownBlock = some k → B ≤ k) := by
  obtain ⟨i0, hi, hz0, hz1, hz2⟩ := info_parts info_by
  obtain ⟨g, cap, cur, fz, rfl, h1, h2, h3, h4, h5, h6, h7⟩ := h
  have hob : ∀ k, (Value.slice (some ⟨g, 0, none⟩) xs.length cap).ownBlock = some k → B ≤ k := by
    intro k hk; simp [Value.ownBlock] at hk; omega
  have hsl := Lib.strCells_length s
  have holds : ∀ j u, xs[j]? = some u → w.cell? ((⟨g, 0, none⟩ : Addr).add j) = some u := by
    intro j u hj
    have hjl : j < xs.length := (List.getElem?_eq_some_iff.1 hj).1
    rw [WideShapes.add_plain, Nat.zero_add, cell_of_row w g j cur _ fz h2, ← Array.getElem?_toList, ← List.getElem?_take_of_lt hjl, h7, hj]
  by_cases hroom : xs.length + s.size ≤ cap
  · have hf := Lib.run_firstCells_string (P := Tryd.prog) w 1 s
    have hst := store_free Tryd.prog g xs.length 5 fz (Lib.strCells s) 0 cur w h2 (by rw [h6]; exact h3) (by rw [hsl]; omega) (Lib.strCells_oneCell s)
    simp only [Nat.add_zero, hsl] at hst
    refine ⟨.slice (some ⟨g, 0, none⟩) (xs.length + s.size) cap, w.setRow g (cur.toList.take xs.length ++ Lib.strCells s ++ cur.toList.drop (xs.length + s.size)).toArray, ?_, ⟨g, cap, _, fz, by rw [List.length_append, hsl], h1, setRow_heap w g cur _ _ _ h2, h3, by rw [List.length_append, hsl]; omega, h5, ?_, ?_⟩, ⟨rfl, rfl, rfl, by simp, fun k _ hk => setRow_other w g k _ (fun e => hk (by simp [Value.ownBlock, e]))⟩, hob⟩
    · simp [Builtin.append_, run_underlying Tryd.underlying47, run_underlying Tryd.underlying9, sizeOf, typeInfo, hi, hz1, Builtin.lenOf, hroom, hf, Addr.add_lit, hst]
    · simp [hsl]; omega
    · rw [h7]
      exact List.take_left' rfl
  · have hr := Lib.run_append_grow_string (P := Tryd.prog) w 47 9 ty 5 i0 (.int .u8 0) Tryd.underlying47 Tryd.underlying9 hi hz0 ⟨g, 0, none⟩ xs.length cap xs (by rw [hz1, Nat.mul_one]) holds s (by omega) (by omega) (by rw [hz2]; exact growslice_fits (by omega) (by omega))
    have hge := grownCap_ge w (xs.length + s.size) cap 5
    have hcm2 := grownCap_le_maxLen w (xs.length + s.size) cap 5 (by unfold maxLen; omega)
    refine ⟨_, _, hr, ⟨w.heap.size, _, _, (0, 0), by rw [List.length_append, hsl], hB, heap_alloc_new w.drew _, by simp, by rw [List.length_append, hsl]; exact hge, hcm2, ?_, ?_⟩, ⟨rfl, rfl, rfl, by simp, fun k hk _ => heap_alloc_old w.drew _ hk⟩, hob⟩
    · have hzz : (Value.int IntKind.u8 0).cells.size = 1 := rfl
      simp only [Array.size_append, List.size_toArray, size_zeroCells, hzz, hsl]
      omega
    · simp only [Array.toList_append, List.append_assoc]
      rw [← List.append_assoc]
      exact List.take_left' (by simp)
/-- The operations, for a walk. -/
theorem wpList_free_byte {ops : Array Oper} {rest : List Oper} {o : Oper} {a : Act} {w : World} {Q : Exit → Act → World → Prop} (hgd : o.guard = none) (sl x : Operand)
    (ho : o.op = .call { callee := .builtin .append, args := #[sl, x], argTypes := #[47, 47] }) (B : Nat) (v : Value) (xs : List Value) (hs : a.eval sl = v) (hown : Fre w B v xs) (hB : B ≤ w.heap.size)
    (ad : Addr) (c : Nat) (n : Int) (hx : a.eval x = .slice (some ad) 1 c) (hn : w.cell? ad = some (.int .u8 n)) (hl : xs.length ≤ 2097152)
    (h : ∀ v' w', Fre w' B v' (xs ++ [.int .u8 n]) → w.grownBy w' v.ownBlock → (∀ k, v.ownBlock = some k → B ≤ k) → wpList Tryd.prog ops Q rest (a.put o.dst v') w') : wpList Tryd.prog ops Q (o :: rest) a w := by
  refine wpList_plain hgd fun K hK => ?_
  obtain ⟨v', w', hr, h2, h3, h4⟩ := hown.push hB o.type ad c n hn hl
  unfold Oper.wp execOp
  simp only [ho, resolve, invoke, builtin, Sem.run_bind, Sem.run_pure, Result.andThen_ok, List.map_toArray, List.map_cons, List.map_nil, hs, hx, hr]
  exact hK _ _ (h v' w' h2 h3 h4)
theorem wpList_free_text {ops : Array Oper} {rest : List Oper} {o : Oper} {a : Act} {w : World} {Q : Exit → Act → World → Prop} (hgd : o.guard = none) (sl x : Operand)
    (ho : o.op = .call { callee := .builtin .append, args := #[sl, x], argTypes := #[47, 9] }) (B : Nat) (v : Value) (xs : List Value) (hs : a.eval sl = v) (hown : Fre w B v xs) (hB : B ≤ w.heap.size)
    (s : ByteArray) (hx : a.eval x = .string s) (hss : s.size ≤ 1048576) (hl : xs.length ≤ 2097152)
    (h : ∀ v' w', Fre w' B v' (xs ++ Lib.strCells s) → w.grownBy w' v.ownBlock → (∀ k, v.ownBlock = some k → B ≤ k) → wpList Tryd.prog ops Q rest (a.put o.dst v') w') : wpList Tryd.prog ops Q (o :: rest) a w := by
  refine wpList_plain hgd fun K hK => ?_
  obtain ⟨v', w', hr, h2, h3, h4⟩ := hown.pushS hB o.type s hss hl
  unfold Oper.wp execOp
  simp only [ho, resolve, invoke, builtin, Sem.run_bind, Sem.run_pure, Result.andThen_ok, List.map_toArray, List.map_cons, List.map_nil, hs, hx, hr]
  exact hK _ _ (h v' w' h2 h3 h4)
end Go.Proofs.YtbfdggkoildfkaaDoor
