import Derived.Test.YtbfoiocbmhhdbaaGreatY22
import Derived.Lib.AppendStr
import Derived.Laws.AppendOwn
import Derived.Laws.CopyRow
import Derived.Test.YtbfoiocbmhhdbaaGreatY1
import Derived.Test.YtbfoiocbmhhdbaaGreatY5
import Derived.Test.YtbfoiocbmhhdbaaGreatY14
import Derived.Test.YtbfoiocbmhhdbaaGreatY7
import Derived.Test.YtbfoiocbmhhdbaaGreatY8
/- A row of bytes of the call's own whose cells are all free, whatever mark stands behind them (what a conversion of a string makes): append onto it. -/
namespace Go.Proofs.YtbfoiocbmhhdbaaGreat
open Go.RowKit
set_option linter.unusedSimpArgs false
set_option linter.unusedVariables false
theorem store_free (P : Program) (g o : Nat) (t : TypeId) (fz : Nat × Nat) : ∀ (vs : List Value) (i : Nat) (cur : Array Value) (w : World), w.heap[g]? = some (.cells cur t fz) → (∀ j, j < cur.size → ¬ (fz.1 ≤ j ∧ j < fz.2)) → o + i + vs.length ≤ cur.size → (∀ v ∈ vs, v.oneCell' = true) →
    (storeCells ⟨g, o, none⟩ vs i).run P w = .ok () (w.setRow g (cur.toList.take (o + i) ++ vs ++ cur.toList.drop (o + i + vs.length)).toArray)
  | [], i, cur, w, hg, _, _, _ => by
    have e : w.setRow g cur = w := setRow_self w g cur t fz hg
    simp [storeCells, e]
  | x :: xs, i, cur, w, hg, hfr, hl, h1 => by
    rw [List.length_cons] at hl
    have hin : o + i < cur.size := by omega
    have ha : (⟨g, o, none⟩ : Addr).add i = ⟨g, o + i, none⟩ := WideShapes.add_plain _ _ _
    have hc : w.cell? ⟨g, o + i, none⟩ = some cur[o + i] := by rw [cell_of_row w g (o + i) cur t fz hg, Array.getElem?_eq_getElem hin]
    have hf : w.frozen? ⟨g, o + i, none⟩ = false := by
      have h' := hfr (o + i) hin
      simp only [World.frozen?, hg]
      simp only [Bool.and_eq_false_iff, decide_eq_false_iff_not]
      omega
    have hs : (store ((⟨g, o, none⟩ : Addr).add i) x).run P w = .ok () (w.setRow g (cur.setIfInBounds (o + i) x)) := by
      rw [ha, run_store P w _ x _ (h1 x (List.mem_cons_self ..)), hc]
      simp [hf, setCell_eq_setRow w g (o + i) cur t fz x hg]
    have ih := store_free P g o t fz xs (i + 1) (cur.setIfInBounds (o + i) x) (w.setRow g (cur.setIfInBounds (o + i) x)) (setRow_heap w g cur _ t _ hg) (by simpa using hfr) (by simp; omega) (fun v hv => h1 v (List.mem_cons_of_mem _ hv))
    have e := list_seg_step cur.toList (o + i) x xs (by simp; omega)
    simp only [storeCells, Sem.run_bind, hs, Result.andThen_ok, ih, setRow_setRow]
    congr 3
    simpa [Array.toList_setIfInBounds, Nat.add_assoc] using e
/-- Bytes that the call owns, all its cells free. -/
def Fre (w : World) (B : Nat) (v : Value) (xs : List Value) : Prop :=
  ∃ g cap cur fz, v = .slice (some ⟨g, 0, none⟩) xs.length cap ∧ B ≤ g ∧ w.heap[g]? = some (.cells cur 5 fz) ∧ (∀ j, j < cap → ¬ (fz.1 ≤ j ∧ j < fz.2)) ∧ xs.length ≤ cap ∧ cap ≤ maxLen ∧ cur.size = cap ∧ cur.toList.take xs.length = xs
theorem Fre.kept {w w' : World} {B : Nat} {v : Value} {xs : List Value} {r : Option Nat} (h : Fre w B v xs) (hg : w.grownBy w' r) (hr : ∀ k, r = some k → k < B) : Fre w' B v xs := by
  obtain ⟨g, cap, cur, fz, rfl, h1, h2, h3⟩ := h
  refine ⟨g, cap, cur, fz, rfl, h1, ?_, h3⟩
  rw [hg.block g (blk_lt h2) (fun e => by have := hr g e.symm; omega)]
  exact h2
theorem Fre.cell {w : World} {B : Nat} {v : Value} {xs : List Value} (h : Fre w B v xs) : ∃ g cap, v = .slice (some ⟨g, 0, none⟩) xs.length cap ∧ B ≤ g ∧ xs.length ≤ cap ∧ cap ≤ maxLen ∧ ∀ j, j < xs.length → w.cell? ⟨g, j, none⟩ = xs[j]? := by
  obtain ⟨g, cap, cur, fz, rfl, h1, h2, h3, h4, h5, h6, h7⟩ := h
  refine ⟨g, cap, rfl, h1, h4, h5, fun j hj => ?_⟩
  rw [cell_of_row w g j cur _ fz h2, ← Array.getElem?_toList, ← List.getElem?_take_of_lt hj, h7]
theorem Fre.of_conv (s : ByteArray) (u : World) (hs : s.size ≤ 140737488351300) : ∃ (v : Value) (W : World), (convert 9 131 (.string s)).run Tryz.prog u = .ok v W ∧
    Below u.heap.size u W ∧ Fre W u.heap.size v (Lib.strCells s) := by
  refine ⟨_, _, Lib.run_convert_string_bytes u _ _ _ s Tryz.underlying9 Tryz.underlying131 Tryz.underlying5, ?_, ?_⟩
  · refine ⟨?_, ?_, ?_, by rw [Lib.bytesWorld_size]; omega, fun k hk => Lib.bytesWorld_at_old _ _ _ _ hk⟩
    all_goals simp [Lib.bytesWorld, World.freeze, World.alloc, World.drew, -World.alloc_eq, -World.drew_eq]
  · have hge := grownCap_ge u s.size 0 5
    have hC : (Lib.bytesCells u 5 s).size = grownCap u s.size 0 5 := by
      have : s.data.size = s.size := rfl
      simp [Lib.bytesCells]; omega
    refine ⟨u.heap.size, grownCap u s.size 0 5, _, _, by rw [Lib.strCells_length], Nat.le_refl _, Lib.bytesWorld_at_new _ _ _, ?_, by rw [Lib.strCells_length]; exact hge, grownCap_le_maxLen _ _ _ _ (by unfold maxLen; omega), hC, ?_⟩
    · intro j hj
      rw [hC]; omega
    · rw [Lib.strCells_length, Lib.bytesCells, Array.toList_append, List.take_left' (by simp)]
      simp [Lib.strCells]
theorem info_by : (Tryz.prog.info? 5).map (fun i => (i.zero, i.size, i.bytes)) = some (some (.int .u8 0), 1, 1) := by kernel_rfl
theorem Fre.push {w : World} {B : Nat} {v : Value} {xs : List Value} (h : Fre w B v xs) (hB : B ≤ w.heap.size) (ty : TypeId) (a : Addr) (c : Nat) (x : Int) (hx : w.cell? a = some (.int .u8 x)) (hl : xs.length ≤ 140737488355200) :
    ∃ v' w', (Builtin.append_ #[131, 131] ty #[v, .slice (some a) 1 c]).run Tryz.prog w = .ok v' w' ∧ Fre w' B v' (xs ++ [.int .u8 x]) ∧ w.grownBy w' v.ownBlock ∧ (∀ k, v.ownBlock = some k → B ≤ k) := by
  obtain ⟨i0, hi, hz0, hz1, hz2⟩ := info_parts info_by
  obtain ⟨g, cap, cur, fz, rfl, h1, h2, h3, h4, h5, h6, h7⟩ := h
  have hnews : ∀ (j : Nat) (u : Value), [Value.int .u8 x][j]? = some u → w.cell? (a.add j) = some u := by
    intro j u hj
    cases j with
    | zero => simp at hj; subst hj; exact hx
    | succ j => simp at hj
  have hone : ∀ u ∈ [Value.int .u8 x], u.oneCell' = true := by intro u hu; simp at hu; subst hu; rfl
  have hob : ∀ k, (Value.slice (some ⟨g, 0, none⟩) xs.length cap).ownBlock = some k → B ≤ k := by
    intro k hk; simp [Value.ownBlock] at hk; omega
  have holds : ∀ j u, xs[j]? = some u → w.cell? ((⟨g, 0, none⟩ : Addr).add j) = some u := by
    intro j u hj
    have hjl : j < xs.length := (List.getElem?_eq_some_iff.1 hj).1
    rw [WideShapes.add_plain, Nat.zero_add, cell_of_row w g j cur _ fz h2, ← Array.getElem?_toList, ← List.getElem?_take_of_lt hjl, h7, hj]
  by_cases hroom : xs.length + 1 ≤ cap
  · have hf := run_firstCells_some (P := Tryz.prog) w 1 1 a 1 c [.int .u8 x] rfl hnews
    have hst := store_free Tryz.prog g xs.length 5 fz [.int .u8 x] 0 cur w h2 (by rw [h6]; exact h3) (by simp; omega) hone
    simp only [Nat.add_zero, List.length_singleton] at hst
    refine ⟨.slice (some ⟨g, 0, none⟩) (xs.length + 1) cap, w.setRow g (cur.toList.take xs.length ++ [Value.int .u8 x] ++ cur.toList.drop (xs.length + 1)).toArray, ?_, ⟨g, cap, _, fz, by simp, h1, setRow_heap w g cur _ _ _ h2, h3, by simp; omega, h5, ?_, ?_⟩, ⟨rfl, rfl, rfl, by simp, fun k _ hk => setRow_other w g k _ (fun e => hk (by simp [Value.ownBlock, e]))⟩, hob⟩
    · simp [Builtin.append_, run_underlying Tryz.underlying131, sizeOf, typeInfo, hi, hz1, Builtin.lenOf, hroom, hf, Addr.add_lit, hst]
    · simp; omega
    · rw [h7]
      exact List.take_left' rfl
  · have hr := run_append_grow (P := Tryz.prog) w 131 ty 5 i0 (.int .u8 0) Tryz.underlying131 hi hz0 ⟨g, 0, none⟩ xs.length cap xs (by rw [hz1, Nat.mul_one]) holds a 1 c [.int .u8 x] (by rw [hz1]; rfl) hnews (by omega) (by omega) (by rw [hz2]; exact growslice_fits (by omega) (by omega))
    have hge := grownCap_ge w (xs.length + 1) cap 5
    have hcm2 := grownCap_le_maxLen w (xs.length + 1) cap 5 (by unfold maxLen; omega)
    refine ⟨_, _, hr, ⟨w.heap.size, _, _, (0, 0), by simp, hB, heap_alloc_new w.drew _, by simp, by simpa using hge, hcm2, ?_, ?_⟩, ⟨rfl, rfl, rfl, by simp, fun k hk _ => heap_alloc_old w.drew _ hk⟩, hob⟩
    · have hzz : (Value.int IntKind.u8 0).cells.size = 1 := rfl
      simp only [Array.size_append, List.size_toArray, size_zeroCells, hzz, List.length_singleton]
      omega
    · simp only [Array.toList_append, List.append_assoc]
      rw [← List.append_assoc]
      exact List.take_left' (by simp)
theorem Fre.pushS {w : World} {B : Nat} {v : Value} {xs : List Value} (h : Fre w B v xs) (hB : B ≤ w.heap.size) (ty : TypeId) (s : ByteArray) (hs : s.size ≤ 64) (hl : xs.length ≤ 140737488355200) :
    ∃ v' w', (Builtin.append_ #[131, 9] ty #[v, .string s]).run Tryz.prog w = .ok v' w' ∧ Fre w' B v' (xs ++ Lib.strCells s) ∧ w.grownBy w' v.ownBlock ∧ (∀ k, v.ownBlock = some k → B ≤ k) := by
  obtain ⟨i0, hi, hz0, hz1, hz2⟩ := info_parts info_by
  obtain ⟨g, cap, cur, fz, rfl, h1, h2, h3, h4, h5, h6, h7⟩ := h
  have hob : ∀ k, (Value.slice (some ⟨g, 0, none⟩) xs.length cap).ownBlock = some k → B ≤ k := by
    intro k hk; simp [Value.ownBlock] at hk; omega
  have hsl := Lib.strCells_length s
  have holds : ∀ j u, xs[j]? = some u → w.cell? ((⟨g, 0, none⟩ : Addr).add j) = some u := by
    intro j u hj
    have hjl : j < xs.length := (List.getElem?_eq_some_iff.1 hj).1
    rw [WideShapes.add_plain, Nat.zero_add, cell_of_row w g j cur _ fz h2, ← Array.getElem?_toList, ← List.getElem?_take_of_lt hjl, h7, hj]
  by_cases hroom : xs.length + s.size ≤ cap
  · have hf := Lib.run_firstCells_string (P := Tryz.prog) w 1 s
    have hst := store_free Tryz.prog g xs.length 5 fz (Lib.strCells s) 0 cur w h2 (by rw [h6]; exact h3) (by rw [hsl]; omega) (Lib.strCells_oneCell s)
    simp only [Nat.add_zero, hsl] at hst
    refine ⟨.slice (some ⟨g, 0, none⟩) (xs.length + s.size) cap, w.setRow g (cur.toList.take xs.length ++ Lib.strCells s ++ cur.toList.drop (xs.length + s.size)).toArray, ?_, ⟨g, cap, _, fz, by rw [List.length_append, hsl], h1, setRow_heap w g cur _ _ _ h2, h3, by rw [List.length_append, hsl]; omega, h5, ?_, ?_⟩, ⟨rfl, rfl, rfl, by simp, fun k _ hk => setRow_other w g k _ (fun e => hk (by simp [Value.ownBlock, e]))⟩, hob⟩
    · simp [Builtin.append_, run_underlying Tryz.underlying131, run_underlying Tryz.underlying9, sizeOf, typeInfo, hi, hz1, Builtin.lenOf, hroom, hf, Addr.add_lit, hst]
    · simp [hsl]; omega
    · rw [h7]
      exact List.take_left' rfl
  · have hr := Lib.run_append_grow_string (P := Tryz.prog) w 131 9 ty 5 i0 (.int .u8 0) Tryz.underlying131 Tryz.underlying9 hi hz0 ⟨g, 0, none⟩ xs.length cap xs (by rw [hz1, Nat.mul_one]) holds s (by omega) (by omega) (by rw [hz2]; exact growslice_fits (by omega) (by omega))
    have hge := grownCap_ge w (xs.length + s.size) cap 5
    have hcm2 := grownCap_le_maxLen w (xs.length + s.size) cap 5 (by unfold maxLen; omega)
    refine ⟨_, _, hr, ⟨w.heap.size, _, _, (0, 0), by rw [List.length_append, hsl], hB, heap_alloc_new w.drew _, by simp, by rw [List.length_append, hsl]; exact hge, hcm2, ?_, ?_⟩, ⟨rfl, rfl, rfl, by simp, fun k hk _ => heap_alloc_old w.drew _ hk⟩, hob⟩
    · have hzz : (Value.int IntKind.u8 0).cells.size = 1 := rfl
      simp only [Array.size_append, List.size_toArray, size_zeroCells, hzz, hsl]
      omega
    · simp only [Array.toList_append, List.append_assoc]
      rw [← List.append_assoc]
      exact List.take_left' (by simp)
/-- The operations, for a walk. -/
theorem wpList_free_byte {ops : Array Oper} {rest : List Oper} {o : Oper} {a : Act} {w : World} {Q : Exit → Act → World → Prop} (hgd : o.guard = none) (sl x : Operand)
    (ho : o.op = .call { callee := .builtin .append, args := #[sl, x], argTypes := #[131, 131] }) (B : Nat) (v : Value) (xs : List Value) (hs : a.eval sl = v) (hown : Fre w B v xs) (hB : B ≤ w.heap.size)
    (ad : Addr) (c : Nat) (n : Int) (hx : a.eval x = .slice (some ad) 1 c) (hn : w.cell? ad = some (.int .u8 n)) (hl : xs.length ≤ 140737488355200)
    (h : ∀ v' w', Fre w' B v' (xs ++ [.int .u8 n]) → w.grownBy w' v.ownBlock → (∀ k, v.ownBlock = some k → B ≤ k) → wpList Tryz.prog ops Q rest (a.put o.dst v') w') : wpList Tryz.prog ops Q (o :: rest) a w := by
  refine wpList_plain hgd fun K hK => ?_
  obtain ⟨v', w', hr, h2, h3, h4⟩ := hown.push hB o.type ad c n hn hl
  unfold Oper.wp execOp
  simp only [ho, resolve, invoke, builtin, Sem.run_bind, Sem.run_pure, Result.andThen_ok, List.map_toArray, List.map_cons, List.map_nil, hs, hx, hr]
  exact hK _ _ (h v' w' h2 h3 h4)
theorem wpList_free_text {ops : Array Oper} {rest : List Oper} {o : Oper} {a : Act} {w : World} {Q : Exit → Act → World → Prop} (hgd : o.guard = none) (sl x : Operand)
    (ho : o.op = .call { callee := .builtin .append, args := #[sl, x], argTypes := #[131, 9] }) (B : Nat) (v : Value) (xs : List Value) (hs : a.eval sl = v) (hown : Fre w B v xs) (hB : B ≤ w.heap.size)
    (s : ByteArray) (hx : a.eval x = .string s) (hss : s.size ≤ 64) (hl : xs.length ≤ 140737488355200)
    (h : ∀ v' w', Fre w' B v' (xs ++ Lib.strCells s) → w.grownBy w' v.ownBlock → (∀ k, v.ownBlock = some k → B ≤ k) → wpList Tryz.prog ops Q rest (a.put o.dst v') w') : wpList Tryz.prog ops Q (o :: rest) a w := by
  refine wpList_plain hgd fun K hK => ?_
  obtain ⟨v', w', hr, h2, h3, h4⟩ := hown.pushS hB o.type s hss hl
  unfold Oper.wp execOp
  simp only [ho, resolve, invoke, builtin, Sem.run_bind, Sem.run_pure, Result.andThen_ok, List.map_toArray, List.map_cons, List.map_nil, hs, hx, hr]
  exact hK _ _ (h v' w' h2 h3 h4)
end Go.Proofs.YtbfoiocbmhhdbaaGreat
/- Plain facts: a short number's bytes, one after another. -/
namespace Go.Proofs.YtbfoiocbmhhdbaaGreat
set_option linter.unusedSimpArgs false
set_option linter.unusedVariables false
open Go
theorem encS_small (n : Nat) (h : n < 128) : encS n = [n] := by
  have e : slen n = 1 := by
    have h1 := slen_pos n
    rcases Nat.lt_or_ge 1 (slen n) with g | g
    · have h2 := slen_lo n (by omega) g
      have h3 : 128 ^ 1 ≤ 128 ^ (slen n - 1) := Nat.pow_le_pow_right (by omega) (by omega)
      omega
    · omega
  unfold encS; rw [e]; rfl
theorem encS_step (n : Nat) (h : 128 ≤ n) (hn : n < 2 ^ 64) : encS n = (n % 128 + 128) :: encS (n / 128) := by
  have a1 := slen_pos n
  have a2 := slen_hi n hn
  have q1 := slen_pos (n / 128)
  have q2 := slen_hi (n / 128) (by omega)
  have g : 1 < slen n := by
    rcases Nat.lt_or_ge 1 (slen n) with g | g
    · exact g
    · have : slen n = 1 := by omega
      rw [this] at a2; omega
  have a3 := slen_lo n hn g
  have e : slen n = slen (n / 128) + 1 := by
    rcases Nat.lt_trichotomy (slen n) (slen (n / 128) + 1) with c | c | c
    · have q3 := slen_lo (n / 128) (by omega) (by omega)
      have x1 : 128 ^ (slen n - 1) ≤ 128 ^ (slen (n / 128) - 1) := Nat.pow_le_pow_right (by omega) (by omega)
      have x2 : 128 ^ slen n = 128 ^ (slen n - 1) * 128 := by rw [← Nat.pow_succ]; congr 1; omega
      omega
    · exact c
    · have x1 : 128 ^ slen (n / 128) ≤ 128 ^ (slen n - 2) := Nat.pow_le_pow_right (by omega) (by omega)
      have x2 : 128 ^ (slen n - 1) = 128 ^ (slen n - 2) * 128 := by rw [← Nat.pow_succ]; congr 1; omega
      omega
  unfold encS
  rw [e, show slen (n / 128) + 1 - 1 = (slen (n / 128) - 1) + 1 from by omega, encN]
end Go.Proofs.YtbfoiocbmhhdbaaGreat
/- The document's own fits, and a byte as a string. -/
namespace Go.Proofs.YtbfoiocbmhhdbaaGreat
open Go.RowKit
set_option linter.unusedSimpArgs false
set_option linter.unusedVariables false
/-- One byte, as a slice of its own, as a string. -/
theorem conv1 (w : World) (v : Int) : (convert 131 9 (.slice (some ⟨w.heap.size, 0, none⟩) 1 1)).run Tryz.prog (w.alloc (.cells #[.int .u8 v] 5)) = .ok (.string (strOfNums [v])) (w.alloc (.cells #[.int .u8 v] 5)) :=
  run_convert_bytes_arg _ 131 5 Tryz.underlying131 Tryz.underlying5 _ 0 1 1 [v] rfl (fun i hi => by
    have : i = 0 := by omega
    subst this
    rw [World.cell?_alloc_new]; rfl) 9 Tryz.underlying9
theorem one_size (v : Int) : (strOfNums [v]).size = 1 := strOfNums_size _
theorem one_is (n : Nat) (v : Int) (h : v = n) : strOfNums [v] = sb [n] := by rw [h]; exact sb_nums [n]
end Go.Proofs.YtbfoiocbmhhdbaaGreat
/- The document's own fits, and a byte as a string. -/
namespace Go.Proofs.YtbfoiocbmhhdbaaGreat
open Go.RowKit
set_option linter.unusedSimpArgs false
set_option linter.unusedVariables false
/-- Whether a number fits a width of 1 to 8 bytes. -/
def fitB (n d : Nat) : Bool := decide (n < 256 ^ d)
theorem fitB_yes {n d : Nat} (h : n < 256 ^ d) : fitB n d = true := decide_eq_true h
theorem fitB_no {n d : Nat} (h : 256 ^ d ≤ n) : fitB n d = false := decide_eq_false (by omega)
set_option maxHeartbeats 400000 in
theorem fits_any (n d : Nat) (w : World) (hn : n < 18446744073709551616) (hd1 : 1 ≤ d) (hd2 : d ≤ 8) :
    Calls Tryz.prog 117 #[.int .u64 n, .int .i64 d] w fun e w' => e = .returned (.bool (fitB n d)) ∧ w' = w := by
  have hb : (fitB n d = true ∧ n < 256 ^ d) ∨ (fitB n d = false ∧ 256 ^ d ≤ n) := by
    rcases Nat.lt_or_ge n (256 ^ d) with h | h
    · exact Or.inl ⟨fitB_yes h, h⟩
    · exact Or.inr ⟨fitB_no h, h⟩
  have h8 : d = 1 ∨ d = 2 ∨ d = 3 ∨ d = 4 ∨ d = 5 ∨ d = 6 ∨ d = 7 ∨ d = 8 := by omega
  rcases h8 with h | h | h | h | h | h | h | h
  all_goals subst h
  all_goals rcases hb with ⟨e, h⟩ | ⟨e, h⟩
  all_goals rw [e]
  all_goals clear e
  all_goals simp only [Nat.reducePow] at h
  all_goals first
    | (exfalso; omega)
    | (go_enter Tryz.func117, Tryz.ntmps117
       go_wp2
       go_ret
       refine ⟨ret_bool ?_, rfl⟩
       first | (simp; done) | (simp; omega))
end Go.Proofs.YtbfoiocbmhhdbaaGreat
/- The walk of the document's own PutFixed (munimentref01). -/
namespace Go.Proofs.YtbfoiocbmhhdbaaGreat
open Go.RowKit
set_option linter.unusedSimpArgs false
set_option linter.unusedVariables false
set_option maxHeartbeats 400000 in
theorem rputFixed_no (s : ByteArray) (x d : Int) (w : World) (h0 : 0 ≤ x) (h1 : x ≤ 18446744073709551615) (hno : isW d = true → 256 ^ d.toNat ≤ x.toNat) :
    Calls Tryz.prog 94 #[.string s, .int .u64 x, .int .i64 d] w fun e w' => e = .returned (.tuple #[.string ⟨#[]⟩, .int .i64 1]) ∧ w' = w := by
  have H : Hid (isW d = true → 256 ^ d.toNat ≤ x.toNat) := hno
  clear hno
  by_cases h3 : d < 1
  · clear H
    go_enter Tryz.func94, Tryz.ntmps94
    go_wp2
    go_ret2
    exact ⟨rfl, rfl⟩
  · by_cases h4 : 8 < d
    · clear H
      go_enter Tryz.func94, Tryz.ntmps94
      go_wp2
      go_ret2
      exact ⟨rfl, rfl⟩
    · obtain ⟨m, rfl⟩ := Int.eq_ofNat_of_zero_le (show 0 ≤ d by omega)
      obtain ⟨n, rfl⟩ := Int.eq_ofNat_of_zero_le h0
      have hf : fitB n m = false := fitB_no (by simpa using H.out (isW_yes (by omega) (by omega)))
      clear H
      have h5 : (1 : Int) ≤ m := by omega
      go_enter Tryz.func94, Tryz.ntmps94
      go_wp2_with (go_at_call 117; refine (fits_any n m _ (by omega) (by omega) (by omega)).mono ?_; rintro e w' ⟨rfl, rfl⟩; rw [hf])
      go_ret2
      exact ⟨rfl, rfl⟩
theorem fix_more (s a : ByteArray) (n d k : Nat) (h : a = s ++ sb ((fixN d n).take k)) (hk : k < d) :
    a ++ strOfNums [(n : Int) / 2 ^ (8 * (d - 1 - k)) % 256] = s ++ sb ((fixN d n).take (k + 1)) := by
  have e1 : ((n : Int) / 2 ^ (8 * (d - 1 - k)) % 256) = ((n / 256 ^ (d - 1 - k) % 256 : Nat) : Int) := by
    rw [pow256]; rfl
  have e2 := fixN_get d n (d - 1 - k) (by omega)
  rw [show d - 1 - (d - 1 - k) = k from by omega] at e2
  have hl : k < (fixN d n).length := by rw [fixN_length]; exact hk
  have e3 : (fixN d n).take (k + 1) = (fixN d n).take k ++ [n / 256 ^ (d - 1 - k) % 256] := by
    rw [List.take_succ_eq_append_getElem hl]
    rw [List.getElem?_eq_getElem hl] at e2
    simp only [Option.some.injEq] at e2
    rw [e2]
  rw [one_is _ _ e1, e3, h]
  apply bl_inj
  simp [bl_append, bl_sb, by8]
set_option maxHeartbeats 400000 in
set_option maxRecDepth 100000 in
theorem rputFixed_ok (s : ByteArray) (n : Nat) (d : Nat) (w : World) (hn : n < 18446744073709551616) (hd1 : 1 ≤ d) (hd2 : d ≤ 8) (hfit : n < 256 ^ d) (hs : s.size ≤ 4611686018427387904) :
    Calls Tryz.prog 94 #[.string s, .int .u64 n, .int .i64 d] w fun e w' => e = .returned (.tuple #[.string (s ++ sb (fixN d n)), .int .i64 0]) ∧ Below w.heap.size w w' := by
  have hf : fitB n d = true := fitB_yes hfit
  clear hfit
  have hc1 := conv1
  have hz1 := one_size
  have e1 : ¬ ((d : Int) < 1) := by omega
  have e2 : ¬ ((8 : Int) < d) := by omega
  go_enter Tryz.func94, Tryz.ntmps94
  go_wp2_with (go_at_call 117; refine (fits_any n d _ hn hd1 hd2).mono ?_; rintro e w' ⟨rfl, rfl⟩; rw [hf])
  go_loopw [0, 8] (fun v i wr => ∃ (k : Nat) (a : ByteArray), k ≤ d ∧ i = .int .i64 ((d : Int) - 1 - k) ∧ v = .string a ∧ a.size = s.size + k ∧ Hid (a = s ++ sb ((fixN d n).take k)) ∧ Below w'.heap.size w' wr) (fun _ i _ => (intOf i + 1).toNat)
  case atStart => exact ⟨0, s, by omega, by go_num, rfl, rfl, by show s = _; apply bl_inj; rw [bl_append]; simp [bl_sb, by8], Below.refl _ _⟩
  case round =>
    obtain ⟨k, a, hk, rfl, rfl, haz, HE, hbel⟩ := hrel
    have hb0 := hbel.size
    have hab : a.size ≤ 4611686018427387914 := by omega
    have HZ : Hid (a.size = s.size + k) := haz
    clear haz
    by_cases hlt : k < d
    · go_wp2
      go_roundw
      case rel => exact ⟨k + 1, _, by omega, by go_num, rfl, by rw [append_size, one_size]; have := HZ.out; omega, fix_more s a n d k HE.out hlt, hbel.alloc hb0 _⟩
      case measure => simp [intOf]; omega
    · go_wp2
      go_ret2
      have hkd : k = d := by omega
      refine ⟨ret_se ?_, hbel⟩
      rw [HE.out, hkd, List.take_of_length_le (by rw [fixN_length]; exact Nat.le_refl _)]
end Go.Proofs.YtbfoiocbmhhdbaaGreat
/- The document's own Fixed, of any width. -/
namespace Go.Proofs.YtbfoiocbmhhdbaaGreat
open Go.RowKit
set_option linter.unusedSimpArgs false
set_option linter.unusedVariables false
set_option maxHeartbeats 400000 in
theorem rfix_any (n d : Nat) (w : World) (hn : n < 18446744073709551616) (hd1 : 1 ≤ d) (hd2 : d ≤ 8) (hfit : n < 256 ^ d) :
    Calls Tryz.prog 57 #[.int .u64 (n : Int), .int .i64 d] w fun e w' => e = .returned (.string ((⟨#[]⟩ : ByteArray) ++ sb (fixN d n))) ∧ Below w.heap.size w w' := by
  go_enter Tryz.func57, Tryz.ntmps57
  go_wp2_with (go_at_call 94; refine (rputFixed_ok ⟨#[]⟩ n d _ hn hd1 hd2 hfit (by decide)).mono ?_; rintro e w1 ⟨rfl, hb1⟩)
  go_ret
  exact ⟨rfl, hb1⟩
end Go.Proofs.YtbfoiocbmhhdbaaGreat
/- Bytes that lie in memory appended to a row of the call's own; the mathematics of an index's bytes, piece by piece. -/
namespace Go.Proofs.YtbfoiocbmhhdbaaGreat
open Go.RowKit
set_option linter.unusedSimpArgs false
set_option linter.unusedVariables false
theorem Fre.pushN {w : World} {B : Nat} {v : Value} {xs : List Value} (h : Fre w B v xs) (hB : B ≤ w.heap.size) (ty : TypeId) (a : Addr) (m c : Nat) (ys : List Value) (hm : ys.length = m) (hnews : ∀ (j : Nat) (u : Value), ys[j]? = some u → w.cell? (a.add j) = some u) (hone : ∀ u ∈ ys, u.oneCell' = true) (hm64 : m ≤ 64) (hl : xs.length ≤ 140737488355200) :
    ∃ v' w', (Builtin.append_ #[131, 131] ty #[v, .slice (some a) m c]).run Tryz.prog w = .ok v' w' ∧ Fre w' B v' (xs ++ ys) ∧ w.grownBy w' v.ownBlock ∧ (∀ k, v.ownBlock = some k → B ≤ k) := by
  obtain ⟨i0, hi, hz0, hz1, hz2⟩ := info_parts info_by
  obtain ⟨g, cap, cur, fz, rfl, h1, h2, h3, h4, h5, h6, h7⟩ := h
  have hob : ∀ k, (Value.slice (some ⟨g, 0, none⟩) xs.length cap).ownBlock = some k → B ≤ k := by
    intro k hk; simp [Value.ownBlock] at hk; omega
  have holds : ∀ j u, xs[j]? = some u → w.cell? ((⟨g, 0, none⟩ : Addr).add j) = some u := by
    intro j u hj
    have hjl : j < xs.length := (List.getElem?_eq_some_iff.1 hj).1
    rw [WideShapes.add_plain, Nat.zero_add, cell_of_row w g j cur _ fz h2, ← Array.getElem?_toList, ← List.getElem?_take_of_lt hjl, h7, hj]
  by_cases hroom : xs.length + m ≤ cap
  · have hf := run_firstCells_some (P := Tryz.prog) w 1 m a m c ys (by rw [hm, Nat.mul_one]) hnews
    have hst := store_free Tryz.prog g xs.length 5 fz ys 0 cur w h2 (by rw [h6]; exact h3) (by rw [hm]; omega) hone
    simp only [Nat.add_zero, hm] at hst
    refine ⟨.slice (some ⟨g, 0, none⟩) (xs.length + m) cap, w.setRow g (cur.toList.take xs.length ++ ys ++ cur.toList.drop (xs.length + m)).toArray, ?_, ⟨g, cap, _, fz, by rw [List.length_append, hm], h1, setRow_heap w g cur _ _ _ h2, h3, by rw [List.length_append, hm]; omega, h5, ?_, ?_⟩, ⟨rfl, rfl, rfl, by simp, fun k _ hk => setRow_other w g k _ (fun e => hk (by simp [Value.ownBlock, e]))⟩, hob⟩
    · simp [Builtin.append_, run_underlying Tryz.underlying131, sizeOf, typeInfo, hi, hz1, Builtin.lenOf, hroom, hf, Addr.add_lit, hst]
    · simp [hm]; omega
    · rw [h7]
      exact List.take_left' rfl
  · have hr := run_append_grow (P := Tryz.prog) w 131 ty 5 i0 (.int .u8 0) Tryz.underlying131 hi hz0 ⟨g, 0, none⟩ xs.length cap xs (by rw [hz1, Nat.mul_one]) holds a m c ys (by rw [hz1, hm, Nat.mul_one]) hnews (by omega) (by omega) (by rw [hz2]; exact growslice_fits (by omega) (by omega))
    have hge := grownCap_ge w (xs.length + m) cap 5
    have hcm2 := grownCap_le_maxLen w (xs.length + m) cap 5 (by unfold maxLen; omega)
    refine ⟨_, _, hr, ⟨w.heap.size, _, _, (0, 0), by rw [List.length_append, hm], hB, heap_alloc_new w.drew _, by simp, by rw [List.length_append, hm]; exact hge, hcm2, ?_, ?_⟩, ⟨rfl, rfl, rfl, by simp, fun k hk _ => heap_alloc_old w.drew _ hk⟩, hob⟩
    · have hzz : (Value.int IntKind.u8 0).cells.size = 1 := rfl
      simp only [Array.size_append, List.size_toArray, size_zeroCells, hzz, hm]
      omega
    · simp only [Array.toList_append, List.append_assoc]
      rw [← List.append_assoc]
      exact List.take_left' (by simp)
theorem wpList_free_row {ops : Array Oper} {rest : List Oper} {o : Oper} {a : Act} {w : World} {Q : Exit → Act → World → Prop} (hgd : o.guard = none) (sl x : Operand)
    (ho : o.op = .call { callee := .builtin .append, args := #[sl, x], argTypes := #[131, 131] }) (B : Nat) (v : Value) (xs : List Value) (hs : a.eval sl = v) (hown : Fre w B v xs) (hB : B ≤ w.heap.size)
    (ad : Addr) (m c : Nat) (ys : List Value) (hx : a.eval x = .slice (some ad) m c) (hm : ys.length = m) (hn : ∀ (j : Nat) (u : Value), ys[j]? = some u → w.cell? (ad.add j) = some u) (hone : ∀ u ∈ ys, u.oneCell' = true) (hm64 : m ≤ 64) (hl : xs.length ≤ 140737488355200)
    (h : ∀ v' w', Fre w' B v' (xs ++ ys) → w.grownBy w' v.ownBlock → (∀ k, v.ownBlock = some k → B ≤ k) → wpList Tryz.prog ops Q rest (a.put o.dst v') w') : wpList Tryz.prog ops Q (o :: rest) a w := by
  refine wpList_plain hgd fun K hK => ?_
  obtain ⟨v', w', hr, h2, h3, h4⟩ := hown.pushN hB o.type ad m c ys hm hn hone hm64 hl
  unfold Oper.wp execOp
  simp only [ho, resolve, invoke, builtin, Sem.run_bind, Sem.run_pure, Result.andThen_ok, List.map_toArray, List.map_cons, List.map_nil, hs, hx, hr]
  exact hK _ _ (h v' w' h2 h3 h4)
/-- Bytes as cells. -/
def bcl (l : List UInt8) : List Value := l.map fun b : UInt8 => Value.int .u8 (b.toNat : Int)
theorem bcl_append (a b : List UInt8) : bcl (a ++ b) = bcl a ++ bcl b := by simp [bcl]
theorem bcl_len (l : List UInt8) : (bcl l).length = l.length := by simp [bcl]
theorem bcl_str (s : ByteArray) : Lib.strCells s = bcl (bl s) := rfl
theorem bcl_one (l : List UInt8) : ∀ u ∈ bcl l, u.oneCell' = true := by
  intro u hu
  simp only [bcl, List.mem_map] at hu
  obtain ⟨b, _, rfl⟩ := hu
  rfl
/-- How many of the first entries have a first byte up to one. -/
theorem cnt_next (l : List Xe) (b i : Nat) (e : Xe) (he : l[i]? = some e) : fanL (l.take (i + 1)) b = fanL (l.take i) b + if fst8 e ≤ b then 1 else 0 := by
  unfold fanL
  rw [List.take_add_one, he, Option.toList_some, List.countP_append]
  congr 1
  by_cases h : fst8 e ≤ b <;> simp [h]
theorem ens_next (l : List Xe) (i : Nat) (e : Xe) (he : l[i]? = some e) : ensB (l.take (i + 1)) = ensB (l.take i) ++ enB e := by
  unfold ensB
  rw [List.take_add_one, he, Option.toList_some, List.flatMap_append]
  simp
end Go.Proofs.YtbfoiocbmhhdbaaGreat
