import Derived.Test.YtpfknjnigcefgaaGreatDoorY1
import Derived.Test.YtpfknjnigcefgaaGreatDoorY5
import Derived.Lib.ConvBytes
import Derived.Laws.IdiomStrings
import Derived.Lib.AppendStr
import Derived.Laws.AppendOwn
import Derived.Laws.CopyRow
import Derived.Test.YtpfknjnigcefgaaGreatDoorY6
import Derived.Test.YtpfknjnigcefgaaGreatDoorChecked
import Derived.BigQuiet
import Derived.Deep.QuietTactic
import Derived.StillTail
import Derived.Deep.Quiet
/- A string's bytes as a row of the call's own, and back. -/
namespace Go.Proofs.YtpfknjnigcefgaaGreatDoor
open Go.RowKit
set_option linter.unusedSimpArgs false
set_option linter.unusedVariables false
/-- A row that a conversion has made: its cells; the mark stands behind them. -/
abbrev Cvb (w : World) (g : Nat) (C : Array Value) : Prop := w.heap[g]? = some (.cells C 5 (C.size, C.size + 1))
theorem Cvb.cell {w : World} {g : Nat} {C : Array Value} (h : Cvb w g C) (j : Nat) : w.cell? ⟨g, j, none⟩ = C[j]? := cell_of_row w g j C _ _ h
theorem Cvb.frozen {w : World} {g : Nat} {C : Array Value} (h : Cvb w g C) (j : Nat) (hj : j < C.size) : w.frozen? ⟨g, j, none⟩ = false := by
  have h' : w.heap[g]? = some (.cells C 5 (C.size, C.size + 1)) := h
  simp only [World.frozen?, h']
  simp; omega
theorem Cvb.set {w : World} {g : Nat} {C : Array Value} (h : Cvb w g C) (i : Nat) (v : Value) : Cvb (w.setCell ⟨g, i, none⟩ v) g (C.setIfInBounds i v) := by
  have := Joins.block_setCell (i := i) h v
  unfold Cvb
  rw [this]; simp
theorem conv_bytes (s : ByteArray) (u : World) : ∃ (cap : Nat) (W : World) (C : Array Value), (convert 9 82 (.string s)).run Tryz.prog u = .ok (.slice (some ⟨u.heap.size, 0, none⟩) s.size cap) W ∧
    Below u.heap.size u W ∧ W.heap.size = u.heap.size + 1 ∧ Cvb W u.heap.size C ∧ s.size ≤ C.size ∧ s.size ≤ cap ∧ ∀ j (hj : j < s.size), C[j]? = some (.int .u8 (s[j].toNat : Int)) := by
  refine ⟨grownCap u s.size 0 5, Lib.bytesWorld u 5 s, Lib.bytesCells u 5 s, Lib.run_convert_string_bytes u _ _ _ s Tryz.underlying9 Tryz.underlying82 Tryz.underlying5, ?_, Lib.bytesWorld_size _ _ _, Lib.bytesWorld_at_new _ _ _, ?_, ?_, ?_⟩
  · refine ⟨?_, ?_, ?_, by rw [Lib.bytesWorld_size]; omega, fun k hk => Lib.bytesWorld_at_old _ _ _ _ hk⟩
    all_goals simp [Lib.bytesWorld, World.freeze, World.alloc, World.drew, -World.alloc_eq, -World.drew_eq]
  · simp [Lib.bytesCells]
  · exact grownCap_ge _ _ _ _
  · intro j hj
    have hj' : j < s.data.size := hj
    rw [Lib.bytesCells, Array.getElem?_append_left (by simpa using hj)]
    simp only [Array.getElem?_map, Array.getElem?_eq_getElem hj', Option.map_some]
    rfl
theorem conv_back (w : World) (g cap n : Nat) (C : Array Value) (l : List UInt8) (h : Cvb w g C) (hl : l.length = n) (hC : ∀ j (hj : j < l.length), C[j]? = some (.int .u8 (l[j].toNat : Int))) :
    (convert 82 9 (.slice (some ⟨g, 0, none⟩) n cap)).run Tryz.prog w = .ok (.string ⟨l.toArray⟩) w := by
  subst hl
  refine run_convert_bytes_back w 82 9 5 ⟨g, 0, none⟩ cap l Tryz.underlying82 Tryz.underlying5 Tryz.underlying9 (fun j hj => ?_)
  rw [WideShapes.add_plain, Nat.zero_add, h.cell, hC j hj]
/-- Bytes as numbers, one of them laid anew. -/
def setNums (s : ByteArray) (j : Nat) (X : Int) : List Int := ((bl s).map fun b : UInt8 => (b.toNat : Int)).set j X
theorem setNums_length (s : ByteArray) (j : Nat) (X : Int) : (setNums s j X).length = s.size := by simp [setNums, bl_length]
def trnS (s : ByteArray) (j : Nat) (X : Int) : ByteArray := strOfNums (setNums s j X)
theorem conv_set (s : ByteArray) (w : World) (g cap j : Nat) (C : Array Value) (h : Cvb w g C) (hj : j < s.size) (hz : s.size ≤ C.size) (hC : ∀ j (hj : j < s.size), C[j]? = some (.int .u8 (s[j].toNat : Int))) (X : Int) :
    (convert 82 9 (.slice (some ⟨g, 0, none⟩) s.size cap)).run Tryz.prog (w.setCell ⟨g, j, none⟩ (.int .u8 X)) = .ok (.string (trnS s j X)) (w.setCell ⟨g, j, none⟩ (.int .u8 X)) := by
  refine run_convert_bytes_arg _ 82 5 Tryz.underlying82 Tryz.underlying5 g 0 s.size cap _ (setNums_length s j X) (fun i hi => ?_) 9 Tryz.underlying9
  rw [Nat.zero_add, (h.set j _).cell, Array.getElem?_setIfInBounds, setNums, List.getD, List.getElem?_set]
  by_cases e : j = i
  · subst e
    rw [if_pos rfl, if_pos (by omega), if_pos rfl, if_pos (by simp [bl_length]; exact hj)]
    rfl
  · rw [if_neg e, if_neg e, hC i hi, List.getElem?_map, List.getElem?_eq_getElem (by rw [bl_length]; exact hi)]
    rfl
theorem bl_nums (l : List Int) : bl (strOfNums l) = l.map (fun x => UInt8.ofNat x.toNat) := rfl
theorem bl_trn (s : ByteArray) (j : Nat) (X : Int) : bl (trnS s j X) = (bl s).set j (UInt8.ofNat X.toNat) := by
  rw [trnS, bl_nums, setNums, List.map_set, List.map_map]
  congr 1
  have : ((fun x : Int => UInt8.ofNat x.toNat) ∘ fun b : UInt8 => (b.toNat : Int)) = id := by funext b; simp
  rw [this, List.map_id]
end Go.Proofs.YtpfknjnigcefgaaGreatDoor
/- A row of bytes of the call's own whose cells are all free, whatever mark stands behind them (what a conversion of a string makes): append onto it. -/
namespace Go.Proofs.YtpfknjnigcefgaaGreatDoor
open Go.RowKit
set_option linter.unusedSimpArgs false
set_option linter.unusedVariables false
theorem store_free (P : Program) (g o : Nat) (t : TypeId) (fz : Nat × Nat) : ∀ (vs : List Value) (i : Nat) (cur : Array Value) (w : World), w.heap[g]? = some (.cells cur t fz) → (∀ j, j < cur.size → ¬ (fz.1 ≤ j ∧ j < fz.2)) → o + i + vs.length ≤ cur.size → (∀ v ∈ vs, v.oneCell' = true) →
    (storeCells ⟨g, o, none⟩ vs i).run P w = .ok () (w.setRow g (cur.toList.take (o + i) ++ vs ++ cur.toList.drop (o + i + vs.length)).toArray)
  | [], i, cur, w, hg, _, _, _ => by
    have e : w.setRow g cur = w := setRow_self w g cur t fz hg
    simp [storeCells, e]
  | x :: xs, i, cur, w, hg, hfr, hl, h1 => by
    rw [List.length_cons] at hl
    have hin : o + i < cur.size := by omega
    have ha : (⟨g, o, none⟩ : Addr).add i = ⟨g, o + i, none⟩ := WideShapes.add_plain _ _ _
    have hc : w.cell? ⟨g, o + i, none⟩ = some cur[o + i] := by rw [cell_of_row w g (o + i) cur t fz hg, Array.getElem?_eq_getElem hin]
    have hf : w.frozen? ⟨g, o + i, none⟩ = false := by
      have h' := hfr (o + i) hin
      simp only [World.frozen?, hg]
      simp only [Bool.and_eq_false_iff, decide_eq_false_iff_not]
      omega
    have hs : (store ((⟨g, o, none⟩ : Addr).add i) x).run P w = .ok () (w.setRow g (cur.setIfInBounds (o + i) x)) := by
      rw [ha, run_store P w _ x _ (h1 x (List.mem_cons_self ..)), hc]
      simp [hf, setCell_eq_setRow w g (o + i) cur t fz x hg]
    have ih := store_free P g o t fz xs (i + 1) (cur.setIfInBounds (o + i) x) (w.setRow g (cur.setIfInBounds (o + i) x)) (setRow_heap w g cur _ t _ hg) (by simpa using hfr) (by simp; omega) (fun v hv => h1 v (List.mem_cons_of_mem _ hv))
    have e := list_seg_step cur.toList (o + i) x xs (by simp; omega)
    simp only [storeCells, Sem.run_bind, hs, Result.andThen_ok, ih, setRow_setRow]
    congr 3
    simpa [Array.toList_setIfInBounds, Nat.add_assoc] using e
/-- Bytes that the call owns, all its cells free. -/
def Fre (w : World) (B : Nat) (v : Value) (xs : List Value) : Prop :=
  ∃ g cap cur fz, v = .slice (some ⟨g, 0, none⟩) xs.length cap ∧ B ≤ g ∧ w.heap[g]? = some (.cells cur 5 fz) ∧ (∀ j, j < cap → ¬ (fz.1 ≤ j ∧ j < fz.2)) ∧ xs.length ≤ cap ∧ cap ≤ maxLen ∧ cur.size = cap ∧ cur.toList.take xs.length = xs
theorem Fre.kept {w w' : World} {B : Nat} {v : Value} {xs : List Value} {r : Option Nat} (h : Fre w B v xs) (hg : w.grownBy w' r) (hr : ∀ k, r = some k → k < B) : Fre w' B v xs := by
  obtain ⟨g, cap, cur, fz, rfl, h1, h2, h3⟩ := h
  refine ⟨g, cap, cur, fz, rfl, h1, ?_, h3⟩
  rw [hg.block g (blk_lt h2) (fun e => by have := hr g e.symm; omega)]
  exact h2
theorem Fre.cell {w : World} {B : Nat} {v : Value} {xs : List Value} (h : Fre w B v xs) : ∃ g cap, v = .slice (some ⟨g, 0, none⟩) xs.length cap ∧ B ≤ g ∧ xs.length ≤ cap ∧ cap ≤ maxLen ∧ ∀ j, j < xs.length → w.cell? ⟨g, j, none⟩ = xs[j]? := by
  obtain ⟨g, cap, cur, fz, rfl, h1, h2, h3, h4, h5, h6, h7⟩ := h
  refine ⟨g, cap, rfl, h1, h4, h5, fun j hj => ?_⟩
  rw [cell_of_row w g j cur _ fz h2, ← Array.getElem?_toList, ← List.getElem?_take_of_lt hj, h7]
theorem Fre.of_conv (s : ByteArray) (u : World) (hs : s.size ≤ 140737488351300) : ∃ (v : Value) (W : World), (convert 9 82 (.string s)).run Tryz.prog u = .ok v W ∧
    Below u.heap.size u W ∧ Fre W u.heap.size v (Lib.strCells s) := by
  refine ⟨_, _, Lib.run_convert_string_bytes u _ _ _ s Tryz.underlying9 Tryz.underlying82 Tryz.underlying5, ?_, ?_⟩
  · refine ⟨?_, ?_, ?_, by rw [Lib.bytesWorld_size]; omega, fun k hk => Lib.bytesWorld_at_old _ _ _ _ hk⟩
    all_goals simp [Lib.bytesWorld, World.freeze, World.alloc, World.drew, -World.alloc_eq, -World.drew_eq]
  · have hge := grownCap_ge u s.size 0 5
    have hC : (Lib.bytesCells u 5 s).size = grownCap u s.size 0 5 := by
      have : s.data.size = s.size := rfl
      simp [Lib.bytesCells]; omega
    refine ⟨u.heap.size, grownCap u s.size 0 5, _, _, by rw [Lib.strCells_length], Nat.le_refl _, Lib.bytesWorld_at_new _ _ _, ?_, by rw [Lib.strCells_length]; exact hge, grownCap_le_maxLen _ _ _ _ (by unfold maxLen; omega), hC, ?_⟩
    · intro j hj
      rw [hC]; omega
    · rw [Lib.strCells_length, Lib.bytesCells, Array.toList_append, List.take_left' (by simp)]
      simp [Lib.strCells]
theorem info_by : (Tryz.prog.info? 5).map (fun i => (i.zero, i.size, i.bytes)) = some (some (.int .u8 0), 1, 1) := by kernel_rfl
theorem Fre.push {w : World} {B : Nat} {v : Value} {xs : List Value} (h : Fre w B v xs) (hB : B ≤ w.heap.size) (ty : TypeId) (a : Addr) (c : Nat) (x : Int) (hx : w.cell? a = some (.int .u8 x)) (hl : xs.length ≤ 140737488355200) :
    ∃ v' w', (Builtin.append_ #[82, 82] ty #[v, .slice (some a) 1 c]).run Tryz.prog w = .ok v' w' ∧ Fre w' B v' (xs ++ [.int .u8 x]) ∧ w.grownBy w' v.ownBlock ∧ (∀ k, v.ownBlock = some k → B ≤ k) := by
  obtain ⟨i0, hi, hz0, hz1, hz2⟩ := info_parts info_by
  obtain ⟨g, cap, cur, fz, rfl, h1, h2, h3, h4, h5, h6, h7⟩ := h
  have hnews : ∀ (j : Nat) (u : Value), [Value.int .u8 x][j]? = some u → w.cell? (a.add j) = some u := by
    intro j u hj
    cases j with
    | zero => simp at hj; subst hj; exact hx
    | succ j => simp at hj
  have hone : ∀ u ∈ [Value.int .u8 x], u.oneCell' = true := by intro u hu; simp at hu; subst hu; rfl
  have hob : ∀ k, (Value.slice (some ⟨g, 0, none⟩) xs.length cap).ownBlock = some k → B ≤ k := by
    intro k hk; simp [Value.ownBlock] at hk; omega
  have holds : ∀ j u, xs[j]? = some u → w.cell? ((⟨g, 0, none⟩ : Addr).add j) = some u := by
    intro j u hj
    have hjl : j < xs.length := (List.getElem?_eq_some_iff.1 hj).1
    rw [WideShapes.add_plain, Nat.zero_add, cell_of_row w g j cur _ fz h2, ← Array.getElem?_toList, ← List.getElem?_take_of_lt hjl, h7, hj]
  by_cases hroom : xs.length + 1 ≤ cap
  · have hf := run_firstCells_some (P := Tryz.prog) w 1 1 a 1 c [.int .u8 x] rfl hnews
    have hst := store_free Tryz.prog g xs.length 5 fz [.int .u8 x] 0 cur w h2 (by rw [h6]; exact h3) (by simp; omega) hone
    simp only [Nat.add_zero, List.length_singleton] at hst
    refine ⟨.slice (some ⟨g, 0, none⟩) (xs.length + 1) cap, w.setRow g (cur.toList.take xs.length ++ [Value.int .u8 x] ++ cur.toList.drop (xs.length + 1)).toArray, ?_, ⟨g, cap, _, fz, by simp, h1, setRow_heap w g cur _ _ _ h2, h3, by simp; omega, h5, ?_, ?_⟩, ⟨rfl, rfl, rfl, by simp, fun k _ hk => setRow_other w g k _ (fun e => hk (by simp [Value.ownBlock, e]))⟩, hob⟩
    · simp [Builtin.append_, run_underlying Tryz.underlying82, sizeOf, typeInfo, hi, hz1, Builtin.lenOf, hroom, hf, Addr.add_lit, hst]
    · simp; omega
    · rw [h7]
      exact List.take_left' rfl
  · have hr := run_append_grow (P := Tryz.prog) w 82 ty 5 i0 (.int .u8 0) Tryz.underlying82 hi hz0 ⟨g, 0, none⟩ xs.length cap xs (by rw [hz1, Nat.mul_one]) holds a 1 c [.int .u8 x] (by rw [hz1]; rfl) hnews (by omega) (by omega) (by rw [hz2]; exact growslice_fits (by omega) (by omega))
    have hge := grownCap_ge w (xs.length + 1) cap 5
    have hcm2 := grownCap_le_maxLen w (xs.length + 1) cap 5 (by unfold maxLen; omega)
    refine ⟨_, _, hr, ⟨w.heap.size, _, _, (0, 0), by simp, hB, heap_alloc_new w.drew _, by simp, by simpa using hge, hcm2, ?_, ?_⟩, ⟨rfl, rfl, rfl, by simp, fun k hk _ => heap_alloc_old w.drew _ hk⟩, hob⟩
    · have hzz : (Value.int IntKind.u8 0).cells.size = 1 := rfl
      simp only [Array.size_append, List.size_toArray, size_zeroCells, hzz, List.length_singleton]
      omega
    · simp only [Array.toList_append, List.append_assoc]
      rw [← List.append_assoc]
      exact List.take_left' (by simp)
theorem Fre.pushS {w : World} {B : Nat} {v : Value} {xs : List Value} (h : Fre w B v xs) (hB : B ≤ w.heap.size) (ty : TypeId) (s : ByteArray) (hs : s.size ≤ 64) (hl : xs.length ≤ 140737488355200) :
    ∃ v' w', (Builtin.append_ #[82, 9] ty #[v, .string s]).run Tryz.prog w = .ok v' w' ∧ Fre w' B v' (xs ++ Lib.strCells s) ∧ w.grownBy w' v.ownBlock ∧ (∀ k, v.ownBlock = some k → B ≤ k) := by
  obtain ⟨i0, hi, hz0, hz1, hz2⟩ := info_parts info_by
  obtain ⟨g, cap, cur, fz, rfl, h1, h2, h3, h4, h5, h6, h7⟩ := h
  have hob : ∀ k, (Value.slice (some ⟨g, 0, none⟩) xs.length cap).ownBlock = some k → B ≤ k := by
    intro k hk; simp [Value.ownBlock] at hk; omega
  have hsl := Lib.strCells_length s
  have holds : ∀ j u, xs[j]? = some u → w.cell? ((⟨g, 0, none⟩ : Addr).add j) = some u := by
    intro j u hj
    have hjl : j < xs.length := (List.getElem?_eq_some_iff.1 hj).1
    rw [WideShapes.add_plain, Nat.zero_add, cell_of_row w g j cur _ fz h2, ← Array.getElem?_toList, ← List.getElem?_take_of_lt hjl, h7, hj]
  by_cases hroom : xs.length + s.size ≤ cap
  · have hf := Lib.run_firstCells_string (P := Tryz.prog) w 1 s
    have hst := store_free Tryz.prog g xs.length 5 fz (Lib.strCells s) 0 cur w h2 (by rw [h6]; exact h3) (by rw [hsl]; omega) (Lib.strCells_oneCell s)
    simp only [Nat.add_zero, hsl] at hst
    refine ⟨.slice (some ⟨g, 0, none⟩) (xs.length + s.size) cap, w.setRow g (cur.toList.take xs.length ++ Lib.strCells s ++ cur.toList.drop (xs.length + s.size)).toArray, ?_, ⟨g, cap, _, fz, by rw [List.length_append, hsl], h1, setRow_heap w g cur _ _ _ h2, h3, by rw [List.length_append, hsl]; omega, h5, ?_, ?_⟩, ⟨rfl, rfl, rfl, by simp, fun k _ hk => setRow_other w g k _ (fun e => hk (by simp [Value.ownBlock, e]))⟩, hob⟩
    · simp [Builtin.append_, run_underlying Tryz.underlying82, run_underlying Tryz.underlying9, sizeOf, typeInfo, hi, hz1, Builtin.lenOf, hroom, hf, Addr.add_lit, hst]
    · simp [hsl]; omega
    · rw [h7]
      exact List.take_left' rfl
  · have hr := Lib.run_append_grow_string (P := Tryz.prog) w 82 9 ty 5 i0 (.int .u8 0) Tryz.underlying82 Tryz.underlying9 hi hz0 ⟨g, 0, none⟩ xs.length cap xs (by rw [hz1, Nat.mul_one]) holds s (by omega) (by omega) (by rw [hz2]; exact growslice_fits (by omega) (by omega))
    have hge := grownCap_ge w (xs.length + s.size) cap 5
    have hcm2 := grownCap_le_maxLen w (xs.length + s.size) cap 5 (by unfold maxLen; omega)
    refine ⟨_, _, hr, ⟨w.heap.size, _, _, (0, 0), by rw [List.length_append, hsl], hB, heap_alloc_new w.drew _, by simp, by rw [List.length_append, hsl]; exact hge, hcm2, ?_, ?_⟩, ⟨rfl, rfl, rfl, by simp, fun k hk _ => heap_alloc_old w.drew _ hk⟩, hob⟩
    · have hzz : (Value.int IntKind.u8 0).cells.size = 1 := rfl
      simp only [Array.size_append, List.size_toArray, size_zeroCells, hzz, hsl]
      omega
    · simp only [Array.toList_append, List.append_assoc]
      rw [← List.append_assoc]
      exact List.take_left' (by simp)
/-- The operations, for a walk. -/
theorem wpList_free_byte {ops : Array Oper} {rest : List Oper} {o : Oper} {a : Act} {w : World} {Q : Exit → Act → World → Prop} (hgd : o.guard = none) (sl x : Operand)
    (ho : o.op = .call { callee := .builtin .append, args := #[sl, x], argTypes := #[82, 82] }) (B : Nat) (v : Value) (xs : List Value) (hs : a.eval sl = v) (hown : Fre w B v xs) (hB : B ≤ w.heap.size)
    (ad : Addr) (c : Nat) (n : Int) (hx : a.eval x = .slice (some ad) 1 c) (hn : w.cell? ad = some (.int .u8 n)) (hl : xs.length ≤ 140737488355200)
    (h : ∀ v' w', Fre w' B v' (xs ++ [.int .u8 n]) → w.grownBy w' v.ownBlock → (∀ k, v.ownBlock = some k → B ≤ k) → wpList Tryz.prog ops Q rest (a.put o.dst v') w') : wpList Tryz.prog ops Q (o :: rest) a w := by
  refine wpList_plain hgd fun K hK => ?_
  obtain ⟨v', w', hr, h2, h3, h4⟩ := hown.push hB o.type ad c n hn hl
  unfold Oper.wp execOp
  simp only [ho, resolve, invoke, builtin, Sem.run_bind, Sem.run_pure, Result.andThen_ok, List.map_toArray, List.map_cons, List.map_nil, hs, hx, hr]
  exact hK _ _ (h v' w' h2 h3 h4)
theorem wpList_free_text {ops : Array Oper} {rest : List Oper} {o : Oper} {a : Act} {w : World} {Q : Exit → Act → World → Prop} (hgd : o.guard = none) (sl x : Operand)
    (ho : o.op = .call { callee := .builtin .append, args := #[sl, x], argTypes := #[82, 9] }) (B : Nat) (v : Value) (xs : List Value) (hs : a.eval sl = v) (hown : Fre w B v xs) (hB : B ≤ w.heap.size)
    (s : ByteArray) (hx : a.eval x = .string s) (hss : s.size ≤ 64) (hl : xs.length ≤ 140737488355200)
    (h : ∀ v' w', Fre w' B v' (xs ++ Lib.strCells s) → w.grownBy w' v.ownBlock → (∀ k, v.ownBlock = some k → B ≤ k) → wpList Tryz.prog ops Q rest (a.put o.dst v') w') : wpList Tryz.prog ops Q (o :: rest) a w := by
  refine wpList_plain hgd fun K hK => ?_
  obtain ⟨v', w', hr, h2, h3, h4⟩ := hown.pushS hB o.type s hss hl
  unfold Oper.wp execOp
  simp only [ho, resolve, invoke, builtin, Sem.run_bind, Sem.run_pure, Result.andThen_ok, List.map_toArray, List.map_cons, List.map_nil, hs, hx, hr]
  exact hK _ _ (h v' w' h2 h3 h4)
end Go.Proofs.YtpfknjnigcefgaaGreatDoor
/- The document's own Fixed, of any width. -/
namespace Go.Proofs.YtpfknjnigcefgaaGreatDoor
open Go.RowKit
set_option linter.unusedSimpArgs false
set_option linter.unusedVariables false
set_option maxHeartbeats 400000 in
theorem rfix_any (n d : Nat) (w : World) (hn : n < 18446744073709551616) (hd1 : 1 ≤ d) (hd2 : d ≤ 8) (hfit : n < 256 ^ d) :
    Calls Tryz.prog 67 #[.int .u64 (n : Int), .int .i64 d] w fun e w' => e = .returned (.string ((⟨#[]⟩ : ByteArray) ++ sb (fixN d n))) ∧ Below w.heap.size w w' := by
  go_enter Tryz.func67, Tryz.ntmps67
  go_wp2_with (go_at_call 105; refine (rputFixed_ok ⟨#[]⟩ n d _ hn hd1 hd2 hfit (by decide)).mono ?_; rintro e w1 ⟨rfl, hb1⟩)
  go_ret
  exact ⟨rfl, hb1⟩
end Go.Proofs.YtpfknjnigcefgaaGreatDoor
/- A region that draws its order: its first operations quiet in a class of worlds, in whatever order; the last ones, which wait for all of these, one behind the other. -/
namespace Go.Proofs.YtpfknjnigcefgaaGreatDoor
open Go.RowKit
set_option linter.unusedSimpArgs false
set_option linter.unusedVariables false
theorem quiet_val {P : Program} {o : Oper} {a : Act} {C : World → Prop} {K : Act → Prop} (v : Value) (h : ∀ w, C w → (execOp a.eval o).run P w = .ok (.value v) w) (hn : K (a.put o.dst v)) : o.quiet P a C K :=
  ⟨v, fun w hw => by unfold Oper.quietAt; rw [h w hw]; exact ⟨rfl, rfl⟩, hn⟩
theorem quiet_call {P : Program} {o : Oper} {a : Act} {C : World → Prop} {K : Act → Prop} (v : Value) (f : FuncId) (args : Array Value) (h : ∀ w, C w → (execOp a.eval o).run P w = .ok (.enter f args) w)
    (hc : ∀ w, C w → Calls P f args w (fun e w'' => e = .returned v ∧ C w'')) (hn : K (a.put o.dst v)) : o.quiet P a C K :=
  ⟨v, fun w hw => by unfold Oper.quietAt; rw [h w hw]; exact ⟨rfl, hc w hw⟩, hn⟩
section
variable {P : Program} {ops : Array Oper} {md : Region.Mode} {C : World → Prop}
/-- So many operations of the head come up, in whatever order, then L holds. -/
def headQ (P : Program) (md : Region.Mode) (ops : Array Oper) (C : World → Prop) (n : Nat) (L : Array Bool → Act → Prop) : Nat → Array Bool → Act → Prop
  | 0, listed, a => L listed a
  | f + 1, listed, a => (∃ i, i ∈ Region.ready md ops listed) ∧ ∀ i, i ∈ Region.ready md ops listed → i < n ∧ qOp P ops C i (headQ P md ops C n L f (listed.setIfInBounds i true)) a
theorem any_of_headQ {n g : Nat} {L : Array Bool → Act → Prop} {R : Exit → Act → World → Prop} (hL : ∀ listed a w, C w → L listed a → wpAny P md ops R g listed a w) (f : Nat) :
    ∀ (listed : Array Bool) (a : Act) (w : World), C w → headQ P md ops C n L f listed a → wpAny P md ops R (f + g) listed a w := by
  induction f with
  | zero => intro listed a w hw h; rw [Nat.zero_add]; exact hL _ _ _ hw h
  | succ f ih =>
    intro listed a w hw h
    rw [Nat.add_right_comm]
    refine ⟨fun h0 => ?_, fun i hi => wpOp_of_qOp hw (fun a' w' hw' h' => ih _ a' w' hw' h') (h.2 i hi).2⟩
    obtain ⟨i, hi⟩ := h.1
    rw [h0] at hi; cases hi
/-- One of the head may be taken first. -/
theorem headQ_first {n i : Nat} {oi : Oper} {v : Value} {L : Array Bool → Act → Prop} (hi : ops[i]? = some oi) (hsel : ∀ (j : Nat) (o : Oper) cs b, ops[j]? = some o → o.op ≠ .select cs b)
    (hs : Region.sinkB md ops n = true) (hc : Region.chainB md ops n = true) (hn : n < ops.size) (hin : i < n) (hdone : ∀ listed a, L listed a → ∀ j, j ∈ Region.ready md ops listed → n ≤ j) (f : Nat) :
    ∀ (listed : Array Bool) (a : Act), HeadInv md ops n listed →
      (∀ j oj, ops[j]? = some oj → j ≠ i → listed.getD j true = false → (∀ e ∈ oj.after, Region.binds md e = true → e.on ≠ i) → oi.apart ops oj = true) →
      i ∈ Region.ready md ops listed → YieldsIn P ops C oi v a →
      headQ P md ops C n L f (listed.setIfInBounds i true) (a.put oi.dst v) → headQ P md ops C n L (f + 1) listed a := by
  induction f with
  | zero =>
    intro listed a inv _ hr hy H
    refine ⟨⟨i, hr⟩, fun j hj => ?_⟩
    have hun := (mem_ready.1 hr).1
    have hjn : j < n := Nat.lt_of_not_le fun h => tail_waits hs hc hn inv _ i rfl hin hun j h hj
    by_cases e : j = i
    · subst e; exact ⟨hjn, hy.qOp hi H⟩
    · have := hdone _ _ H j (ready_mono hj e); omega
  | succ f ih =>
    intro listed a inv hfree hr hy H
    refine ⟨⟨i, hr⟩, fun j hj => ?_⟩
    have hun := (mem_ready.1 hr).1
    have hjn : j < n := Nat.lt_of_not_le fun h => tail_waits hs hc hn inv _ i rfl hin hun j h hj
    refine ⟨hjn, ?_⟩
    by_cases e : j = i
    · subst e; exact hy.qOp hi H
    · obtain ⟨hjun, oj, hoj, hall⟩ := mem_ready.1 hj
      have hap : oi.apart ops oj = true := hfree j oj hoj e hjun (fun d hd hb he => by
        have h1 := hall d hd hb
        rw [he, getD_both hun] at h1; cases h1)
      have h2 := qOp_put hoj hap (fun cs b => hsel i oi cs b hi) (fun cs b => hsel j oj cs b hoj) hy (H.2 j (ready_mono hj e)).2
      refine qOp_mono (fun a' h3 => ih _ a' (inv.set hj hjn) (fun k ok hk hki hu hno => hfree k ok hk hki ?_ hno) (ready_mono hr (Ne.symm e)) h3.1 ?_) h2
      · by_cases ejk : j = k
        · subst ejk; exact hjun
        · rwa [getD_set_ne true ejk] at hu
      · rw [Array.setIfInBounds_comm _ _ e]; exact h3.2
theorem headQ_lex {n g : Nat} {Lq : Act → Prop} (hsel : Region.noSelect ops = true) (hs : Region.sinkB md ops n = true) (hc : Region.chainB md ops n = true) (hn : n < ops.size) (l : List Oper) :
    ∀ (k : Nat) (listed : Array Bool) (a : Act), (∀ j, j < l.length → l[j]? = ops[k + j]?) → k + l.length = n → HeadInv md ops n listed → Region.lexHead md ops g l.length k listed = true → wpQuiet P ops C Lq l a →
    headQ P md ops C n (fun listed' a' => Region.seqB md ops g n listed' = true ∧ Lq a') l.length listed a := by
  induction l with
  | nil =>
    intro k listed a _ hk _ hB h
    obtain rfl : k = n := by simpa using hk
    exact ⟨hB, h⟩
  | cons o l ih =>
    intro k listed a hl hk inv hB h
    rw [List.length_cons] at hk
    have h0 : ops[k]? = some o := by have := hl 0 (by simp); simpa using this.symm
    simp only [List.length_cons, Region.lexHead, Bool.and_eq_true] at hB
    have hr : k ∈ Region.ready md ops listed := by simpa using hB.1.1
    have hq : qOp P ops C k (wpQuiet P ops C Lq l) a := by unfold qOp; simp only [h0]; exact h
    obtain ⟨v, hy, hK⟩ := yieldsIn_of_qOp h0 hq
    refine headQ_first h0 (Region.noSelect_spec hsel) hs hc hn (by omega) (fun listed' a' hL => seqB_ready hL.1) l.length listed a inv (Region.free_spec h0 hB.1.2) hr hy ?_
    refine ih (k + 1) _ _ (fun j hj => ?_) (by omega) (inv.set hr (by omega)) hB.2 hK
    have := hl (j + 1) (by simp; omega)
    rw [List.getElem?_cons_succ] at this
    rw [this]; congr 1; omega
theorem wp_region_tail {id : Nat} {Q : Exit → Act → World → Prop} {a : Act} {w : World} {l : List Oper} (C : World → Prop) (n : Nat) (hm : P.follows .mixedOrders = true) (hB : Region.lexTailB .any l.toArray n = true) (hC : C w.drew)
    (h : wpQuiet P l.toArray C (fun a' => ∀ w', C w' → wpList P l.toArray Q (l.drop n) a' w') (l.take n) a) : (Code.region id l.toArray true).wp P Q a w := by
  simp only [Region.lexTailB, Bool.and_eq_true, decide_eq_true_eq] at hB
  obtain ⟨⟨⟨⟨hsel, hn⟩, hs⟩, hc⟩, hlex⟩ := hB
  have hn' : n < l.length := by simpa using hn
  have htl : (l.take n).length = n := by rw [List.length_take]; omega
  have hdl : (l.drop n).length = l.toArray.size - n := by simp
  have inv0 : HeadInv .any l.toArray n (Array.replicate l.toArray.size false) := by
    refine ⟨by simp, fun j oj _ hl => ?_, fun t _ ht => getD_in (by simpa using ht) (getD_replicate_false _ _)⟩
    rw [getD_replicate_false] at hl; cases hl
  have H := headQ_lex (P := P) (C := C) (md := .any) (g := l.toArray.size - n) hsel hs hc hn (l.take n) 0 _ a (fun j hj => by
    rw [htl] at hj
    rw [List.getElem?_take_of_lt hj]; simp) (by omega) inv0 (by rw [htl]; exact hlex) h
  have H2 := any_of_headQ (R := Q) (g := l.toArray.size - n) (fun listed a' w' hw' hL => by
    have := wpAny_of_seq (md := .any) (Q' := Q) (l.drop n) n listed a' w' (fun j => by simp [List.getElem?_drop]) (by rw [hdl]; exact hL.1) (hL.2 w' hw')
    rwa [hdl] at this) _ _ _ _ hC H
  refine wp_region_any hm ?_
  rwa [htl, show n + (l.toArray.size - n) = l.toArray.size from by omega] at H2
end
end Go.Proofs.YtpfknjnigcefgaaGreatDoor
