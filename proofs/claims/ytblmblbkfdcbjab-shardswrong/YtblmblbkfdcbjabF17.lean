/- Pairs of rows: built, compared; field.added. -/
import Derived.Test.YtblmblbkfdcbjabF10
import Derived.Laws.StructEq
namespace Go.Proofs.Ytblmblbkfdcbjab
open Go.RowKit
set_option linter.unusedSimpArgs false
set_option linter.unusedVariables false
theorem part_row (r : List UInt8) (i : Nat) (x : UInt8) (h : r[i]? = some x) (w : World) : (part 5 (rc r) i).run Try.prog w = .ok (c8 x) w := by
  have e1 : (rc r)[i]? = some (c8 x) := by rw [rc_get, h]; rfl
  exact run_part_plain w (by kernel_rfl) e1
theorem eqItems_rows (a b : List UInt8) (ha : a.length = 64) (hb : b.length = 64) (w : World) : ∀ is : List Nat, (∀ i ∈ is, i < 64) →
    (Op.eqItems 9999 5 1 (rc a) (rc b) is).run Try.prog w = .ok (is.all fun i => a.getD i 0 == b.getD i 0) w
  | [], _ => by simp [Op.eqItems]
  | i :: is, h => by
    have hi : i < 64 := h i (List.mem_cons_self ..)
    have ih := eqItems_rows a b ha hb w is (fun j hj => h j (List.mem_cons_of_mem _ hj))
    obtain ⟨x, hx⟩ : ∃ x, a[i]? = some x := ⟨_, List.getElem?_eq_getElem (by omega)⟩
    obtain ⟨y, hy⟩ : ∃ y, b[i]? = some y := ⟨_, List.getElem?_eq_getElem (by omega)⟩
    have e1 : a.getD i 0 = x := by rw [List.getD, hx]; rfl
    have e2 : b.getD i 0 = y := by rw [List.getD, hy]; rfl
    have e3 := run_equalIn_int (P := Try.prog) w 9998 5 .u8 .u8 (x.toNat : Int) (y.toNat : Int) Try.underlying5
    simp only [Op.eqItems, Sem.run_bind, Nat.mul_one, part_row a i x hx, part_row b i y hy, Result.andThen_ok, e3, List.all_cons, e1, e2]
    by_cases e : x = y
    · have e4 : ((x.toNat : Int) == (y.toNat : Int)) = true := by rw [e]; simp
      simp only [e4, Bool.not_true, Bool.false_eq_true, if_false, ih, e, beq_self_eq_true, Bool.true_and]
    · have e4 : ((x.toNat : Int) == (y.toNat : Int)) = false := by
        rw [beq_eq_false_iff_ne]
        intro h2
        exact e (UInt8.toNat_inj.1 (by omega))
      have e5 : (x == y) = false := by rw [beq_eq_false_iff_ne]; exact e
      simp only [e4, Bool.not_false, if_true, Sem.run_pure, e5, Bool.false_and]
theorem rows_all (a b : List UInt8) (ha : a.length = 64) (hb : b.length = 64) : ((List.range 64).all fun i => a.getD i 0 == b.getD i 0) = decide (a = b) := by
  rw [Bool.eq_iff_iff, List.all_eq_true, decide_eq_true_iff]
  constructor
  · intro h
    apply List.ext_getElem (by omega)
    intro i h1 h2
    have := h i (by rw [List.mem_range]; omega)
    rw [List.getD, List.getD, List.getElem?_eq_getElem h1, List.getElem?_eq_getElem h2] at this
    exact eq_of_beq this
  · rintro rfl i _
    exact beq_self_eq_true _
theorem equalIn_rows (a b : List UInt8) (ha : a.length = 64) (hb : b.length = 64) (w : World) : (Op.equalIn 10000 56 (.agg (rc a)) (.agg (rc b))).run Try.prog w = .ok (decide (a = b)) w := by
  have hc : Try.prog.cellsOf 5 = 1 := by kernel_rfl
  obtain ⟨i0, hi⟩ := info_of_underlying Try.underlying5
  have hu : Try.prog.underlying 56 = some (.array 64 5) := Try.underlying56
  rw [run_equalIn_array w 9999 (rc a) (rc b) hu hi, hc, eqItems_rows a b ha hb w _ (fun i hi => by simpa using hi), rows_all a b ha hb]
theorem eql_rows (a b : List UInt8) (ha : a.length = 64) (hb : b.length = 64) (w : World) : (binOp .eql 56 (.agg (rc a)) (.agg (rc b))).run Try.prog w = .ok (.bool (decide (a = b))) w := by
  rw [run_eql_struct, equalIn_rows a b ha hb]; rfl
theorem neq_rows (a b : List UInt8) (ha : a.length = 64) (hb : b.length = 64) (w : World) : (binOp .neq 56 (.agg (rc a)) (.agg (rc b))).run Try.prog w = .ok (.bool (!decide (a = b))) w := by
  rw [run_neq_struct, equalIn_rows a b ha hb]; rfl
/-- A pair of nothing. -/
def zp : List UInt8 := List.replicate 128 0
theorem info_pair : (Try.prog.info? 64).map (fun i => (i.zero, i.size)) = some (some (.agg (rc zp)), 128) := by kernel_rfl
theorem size_pair (r : List UInt8) (h : r.length = 128) : (Try.prog.info? 64).map (·.size) = some (rc r).size := by
  have : (Try.prog.info? 64).map (·.size) = some 128 := by kernel_rfl
  rw [this, rc_size, h]
theorem zp_len : zp.length = 128 := by unfold zp; rw [List.length_replicate]
theorem sizeOf_row (w : World) : (sizeOf 56).run Try.prog w = .ok 64 w := by
  have h : (Try.prog.info? 56).map (·.size) = some 64 := by kernel_rfl
  cases hq : Try.prog.info? 56 with
  | none => simp [hq] at h
  | some i => simp [hq] at h; simp [sizeOf, typeInfo, hq, h]
theorem fold_putL (off : Nat) : ∀ (l : List Value) (k : Nat) (C : Array Value), (l.zipIdx k).foldl (fun cs (x : Value × Nat) => cs.setIfInBounds (off + x.2) x.1) C = putC C (off + k) l
  | [], _, _ => rfl
  | v :: l, k, C => by
    rw [List.zipIdx_cons, List.foldl_cons, fold_putL off l (k + 1)]
    rfl
theorem fold_put (off : Nat) (A C : Array Value) : A.zipIdx.foldl (fun cs (x : Value × Nat) => cs.setIfInBounds (off + x.2) x.1) C = putC C off A.toList := by
  have h := fold_putL off A.toList 0 C
  rw [Nat.add_zero] at h
  rw [← h, ← Array.foldl_toList, Array.toList_zipIdx]
theorem pair_put (l r : List UInt8) (hl : l.length = 64) (hr : r.length = 64) : putC (putC (rc zp) 0 (rc l).toList) 64 (rc r).toList = rc (l ++ r) := by
  rw [putC_rc zp 0 l (by rw [zp_len]; omega), putC_rc _ 64 r (by rw [putB_len _ _ _ (by rw [zp_len]; omega), zp_len]; omega)]
  congr 1
  unfold putB
  rw [List.take_zero, List.nil_append, Nat.zero_add, hl, List.take_left' hl, hr, List.drop_eq_nil_of_le (by rw [List.length_append, List.length_drop, zp_len]; omega), List.append_nil]
theorem build_pair (l r : List UInt8) (hl : l.length = 64) (hr : r.length = 64) (w : World) : (Instr.build 64 #[(0, .agg (rc l)), (1, .agg (rc r))]).run Try.prog w = .ok (.agg (rc (l ++ r))) w := by
  have hz := (zero_of_info info_pair).1
  have hu := run_underlying Try.underlying64 w
  have hs := sizeOf_row
  unfold Instr.build
  have hc : ∀ x : List UInt8, (Value.agg (rc x)).cells = rc x := fun x => rfl
  have f1 : ∀ (place : Nat → Option (Nat × Nat)), place 0 = some (0, 64) → place 1 = some (64, 64) → Instr.fill place (rc zp) [(0, .agg (rc l)), (1, .agg (rc r))] = some (rc (l ++ r)) := by
    intro place h0 h1
    rw [Instr.fill, h0]
    simp only [hc, rc_size, hl, zp_len]
    rw [if_neg (by decide), Instr.fill, h1]
    simp only [hc, rc_size, hr]
    rw [show (rc l).zipIdx.foldl (fun cs x => match x with | (c, j) => cs.setIfInBounds (0 + j) c) (rc zp) = putC (rc zp) 0 (rc l).toList from fold_put 0 (rc l) (rc zp)]
    rw [if_neg (by rw [putC_size, rc_size, zp_len]; decide), Instr.fill]
    rw [show (rc r).zipIdx.foldl (fun cs x => match x with | (c, j) => cs.setIfInBounds (64 + j) c) (putC (rc zp) 0 (rc l).toList) = putC (putC (rc zp) 0 (rc l).toList) 64 (rc r).toList from fold_put 64 (rc r) _]
    rw [pair_put l r hl hr]
  simp only [Sem.run_bind, hz, Result.andThen_ok, hu]
  simp [hs]
  rw [hc, f1 _ rfl rfl]; rfl
theorem quiet_pair {o : Oper} {a : Act} {C : World → Prop} {K : Act → Prop} (x y : Operand) (ho : o.op = .build 64 #[(0, x), (1, y)]) (l r : List UInt8) (hx : a.eval x = .agg (rc l)) (hy : a.eval y = .agg (rc r))
    (hl : l.length = 64) (hr : r.length = 64) (hn : K (a.put o.dst (.agg (rc (l ++ r))))) : o.quiet Try.prog a C K :=
  quiet_val (.agg (rc (l ++ r))) (fun w hw => by
    have h := build_pair l r hl hr w
    unfold execOp
    simp [ho, hx, hy, h]) hn
/-- Three pairs of the call's own. -/
structure Sp (w : World) (a b z : List UInt8) (wr : World) : Prop where
  a : Bk wr w.heap.size (rc a) 64
  b : Bk wr (w.heap.size + 1) (rc b) 64
  z : Bk wr (w.heap.size + 2) (rc z) 64
  bel : Below w.heap.size w wr
  sz : w.heap.size + 3 ≤ wr.heap.size
theorem sp_new (w : World) (a b : List UInt8) : Sp w a b zp (((w.alloc (.cells (rc a) 64)).alloc (.cells (rc b) 64)).alloc (.cells (rc zp) 64)) where
  a := ((bk_new w _ _).alloc _).alloc _
  b := by have := bk_new (w.alloc (.cells (rc a) 64)) (rc b) 64; rw [al_size] at this; exact this.alloc _
  z := by have := bk_new ((w.alloc (.cells (rc a) 64)).alloc (.cells (rc b) 64)) (rc zp) 64; rw [al_size, al_size] at this; exact this
  bel := (((Below.refl _ _).alloc (Nat.le_refl _) _).alloc (by simp) _).alloc (by simp; omega) _
  sz := by rw [al_size, al_size, al_size]; omega
theorem Sp.below {w W W' : World} {a b z : List UInt8} (h : Sp w a b z W) (hb : Below W.heap.size W W') : Sp w a b z W' :=
  ⟨h.a.grown (gr_of_below hb none) (by simp), h.b.grown (gr_of_below hb none) (by simp), h.z.grown (gr_of_below hb none) (by simp), h.bel.trans (hb.mono h.bel.size), Nat.le_trans h.sz hb.size⟩
theorem Sp.drew {w W : World} {a b z : List UInt8} (h : Sp w a b z W) : Sp w a b z W.drew := h.below (Below.refl _ _).drew
/-- A pair's two rows. -/
def lf (p : List UInt8) : List UInt8 := p.take 64
def rt (p : List UInt8) : List UInt8 := p.drop 64
theorem lf_len (p : List UInt8) (h : p.length = 128) : (lf p).length = 64 := by simp [lf, h]
theorem rt_len (p : List UInt8) (h : p.length = 128) : (rt p).length = 64 := by simp [rt, h]
theorem lf_get (p : List UInt8) (h : p.length = 128) (j : Nat) (v : Value) (hv : (rc (lf p))[j]? = some v) : (rc p)[j]? = some v := by
  rw [rc_get] at hv ⊢
  have hj : j < 64 := by
    obtain ⟨x, hx, _⟩ := Option.map_eq_some_iff.1 hv
    have := (List.getElem?_eq_some_iff.1 hx).1
    rw [lf_len p h] at this; exact this
  rw [lf, List.getElem?_take, if_pos hj] at hv
  exact hv
theorem rt_get (p : List UInt8) (h : p.length = 128) (j : Nat) (v : Value) (hv : (rc (rt p))[j]? = some v) : (rc p)[64 + j]? = some v := by
  rw [rc_get] at hv ⊢
  rw [rt, List.getElem?_drop] at hv
  exact hv
theorem addR_len2 (a b : List UInt8) (t : UInt8) (ha : a.length = 128) (hb : b.length = 128) : (addR a b t).length = 128 := by simp [addR, ha, hb]
theorem addR_parts (a b : List UInt8) (t : UInt8) (ha : a.length = 128) (hb : b.length = 128) : addR (lf a) (lf b) t ++ addR (rt a) (rt b) t = addR a b t := by
  unfold addR lf rt
  rw [← List.zipWith_append (by simp [ha, hb]), List.take_append_drop, List.take_append_drop]
theorem lf_app (l r : List UInt8) (h : l.length = 64) : lf (l ++ r) = l := by unfold lf; rw [← h, List.take_left]
theorem rt_app (l r : List UInt8) (h : l.length = 64) : rt (l ++ r) = r := by unfold rt; rw [← h, List.drop_left]
set_option maxHeartbeats 1000000 in
set_option maxRecDepth 100000 in
theorem added_any (a b : List UInt8) (t : UInt8) (w : World) (ha : a.length = 128) (hb : b.length = 128) :
    Calls Try.prog 39 #[.agg (rc a), .agg (rc b), c8 t] w fun e w' => e = .returned (.agg (rc (addR a b t))) ∧ Below w.heap.size w w' := by
  have hz := (zero_of_info info_pair).1
  have HS : Hid (Sp w a b zp (((w.alloc (.cells (rc a) 64)).alloc (.cells (rc b) 64)).alloc (.cells (rc zp) 64))) := sp_new w a b
  have HL : Hid (a.length = 128 ∧ b.length = 128) := ⟨ha, hb⟩
  clear ha hb
  go_enter Try.func39, Try.ntmps39
  go_wp2_with fail
  refine wp_region_tail (Sp w a b zp) 13 (by kernel_rfl) (by kernel_rfl) HS.out.drew ?_
  simp only [List.take_succ_cons, List.take_zero, List.drop_succ_cons, List.drop_zero]
  go_big_quiet_want
  refine quiet_val (.pointer (some ⟨w.heap.size, 0, none⟩)) ?_ ?_
  · intro W hW; go_simp; done
  go_big_quiet_on; simp only [Act.put, List.setIfInBounds_toArray, List.set_cons_zero, List.set_cons_succ]
  go_big_quiet_want
  refine quiet_row (.tmp 7) rfl (w.heap.size) 0 (lf a) rfl (lf_len a HL.out.1) (fun W hW j v hv => by rw [hW.a.cell, Nat.zero_add]; exact lf_get a HL.out.1 j v hv) ?_
  go_big_quiet_on; simp only [Act.put, List.setIfInBounds_toArray, List.set_cons_zero, List.set_cons_succ]
  go_big_quiet_want
  refine quiet_val (.pointer (some ⟨w.heap.size + 1, 0, none⟩)) ?_ ?_
  · intro W hW; go_simp; done
  go_big_quiet_on; simp only [Act.put, List.setIfInBounds_toArray, List.set_cons_zero, List.set_cons_succ]
  go_big_quiet_want
  refine quiet_row (.tmp 9) rfl (w.heap.size + 1) 0 (lf b) rfl (lf_len b HL.out.2) (fun W hW j v hv => by rw [hW.b.cell, Nat.zero_add]; exact lf_get b HL.out.2 j v hv) ?_
  go_big_quiet_on; simp only [Act.put, List.setIfInBounds_toArray, List.set_cons_zero, List.set_cons_succ]
  go_big_quiet_step (fail)
  go_big_quiet_want
  refine quiet_call (.agg (rc (addR (lf a) (lf b) t))) 36 #[.agg (rc (lf a)), .agg (rc (lf b)), c8 t] ?_ ?_ ?_
  · intro W hW; go_simp; done
  · intro W hW; exact (sum_any (lf a) (lf b) t W (lf_len a HL.out.1) (lf_len b HL.out.2)).mono (fun _ _ h => ⟨h.1, hW.below h.2⟩)
  go_big_quiet_on; simp only [Act.put, List.setIfInBounds_toArray, List.set_cons_zero, List.set_cons_succ]
  go_big_quiet_want
  refine quiet_val (.pointer (some ⟨w.heap.size, 64, none⟩)) ?_ ?_
  · intro W hW; go_simp; done
  go_big_quiet_on; simp only [Act.put, List.setIfInBounds_toArray, List.set_cons_zero, List.set_cons_succ]
  go_big_quiet_want
  refine quiet_row (.tmp 13) rfl (w.heap.size) 64 (rt a) rfl (rt_len a HL.out.1) (fun W hW j v hv => by rw [hW.a.cell]; exact rt_get a HL.out.1 j v hv) ?_
  go_big_quiet_on; simp only [Act.put, List.setIfInBounds_toArray, List.set_cons_zero, List.set_cons_succ]
  go_big_quiet_want
  refine quiet_val (.pointer (some ⟨w.heap.size + 1, 64, none⟩)) ?_ ?_
  · intro W hW; go_simp; done
  go_big_quiet_on; simp only [Act.put, List.setIfInBounds_toArray, List.set_cons_zero, List.set_cons_succ]
  go_big_quiet_want
  refine quiet_row (.tmp 15) rfl (w.heap.size + 1) 64 (rt b) rfl (rt_len b HL.out.2) (fun W hW j v hv => by rw [hW.b.cell]; exact rt_get b HL.out.2 j v hv) ?_
  go_big_quiet_on; simp only [Act.put, List.setIfInBounds_toArray, List.set_cons_zero, List.set_cons_succ]
  go_big_quiet_step (fail)
  go_big_quiet_want
  refine quiet_call (.agg (rc (addR (rt a) (rt b) t))) 36 #[.agg (rc (rt a)), .agg (rc (rt b)), c8 t] ?_ ?_ ?_
  · intro W hW; go_simp; done
  · intro W hW; exact (sum_any (rt a) (rt b) t W (rt_len a HL.out.1) (rt_len b HL.out.2)).mono (fun _ _ h => ⟨h.1, hW.below h.2⟩)
  go_big_quiet_on; simp only [Act.put, List.setIfInBounds_toArray, List.set_cons_zero, List.set_cons_succ]
  go_big_quiet_want
  refine quiet_pair (.tmp 12) (.tmp 18) rfl (addR (lf a) (lf b) t) (addR (rt a) (rt b) t) rfl rfl (addR_len _ _ _ (lf_len a HL.out.1) (lf_len b HL.out.2)) (addR_len _ _ _ (rt_len a HL.out.1) (rt_len b HL.out.2)) ?_
  rw [addR_parts a b t HL.out.1 HL.out.2]
  go_big_quiet_on; simp only [Act.put, List.setIfInBounds_toArray, List.set_cons_zero, List.set_cons_succ]
  refine wpQuiet_nil ?_
  intro w9 hw9
  have H9 : Hid (Sp w a b zp w9) := hw9
  have HAL : Hid ((addR a b t).length = 128) := addR_len2 a b t HL.out.1 HL.out.2
  have HIa := size_pair (addR a b t) HAL.out
  clear hw9 HS
  go_wp2_with (first
    | (refine wpList_put rfl 64 (.tmp 6) (.tmp 19) rfl (w.heap.size + 2) 0 (rc zp) (rc (addR a b t)) 64 rfl rfl H9.out.z HIa (by rw [rc_size, rc_size, zp_len, HAL.out]; omega) (rc_one _) ?_; intro w2 HB3 HG3 hs3)
    | fail)
  refine bodyPost_ret (results_row rfl _ _ (w.heap.size + 2) 64 (rc (addR a b t)) _ rfl (by have := HB3.out; rw [putC_all _ _ (by rw [zp_len, HAL.out])] at this; exact this) Try.underlying64 rfl HIa) rfl ⟨rfl, below_own H9.out.bel (by have := H9.out.sz; omega) HG3.out (by omega)⟩
end Go.Proofs.Ytblmblbkfdcbjab
