import Derived.Test.YtecpcocnoengiaaY4
import Derived.Laws.StructEq
import Derived.Test.YtecpcocnoengiaaY3
/- Pairs of rows: built, compared; field.added. -/
namespace Go.Proofs.Ytecpcocnoengiaa
open Go.RowKit
set_option linter.unusedSimpArgs false
set_option linter.unusedVariables false
theorem part_row (r : List UInt8) (i : Nat) (x : UInt8) (h : r[i]? = some x) (w : World) : (part 5 (rc r) i).run Try.prog w = .ok (c8 x) w := by
  have e1 : (rc r)[i]? = some (c8 x) := by rw [rc_get, h]; rfl
  exact run_part_plain w (by kernel_rfl) e1
theorem eqItems_rows (a b : List UInt8) (ha : a.length = 64) (hb : b.length = 64) (w : World) : ∀ is : List Nat, (∀ i ∈ is, i < 64) →
    (Op.eqItems 9999 5 1 (rc a) (rc b) is).run Try.prog w = .ok (is.all fun i => a.getD i 0 == b.getD i 0) w
  | [], _ => by simp [Op.eqItems]
  | i :: is, h => by
    have hi : i < 64 := h i (List.mem_cons_self ..)
    have ih := eqItems_rows a b ha hb w is (fun j hj => h j (List.mem_cons_of_mem _ hj))
    obtain ⟨x, hx⟩ : ∃ x, a[i]? = some x := ⟨_, List.getElem?_eq_getElem (by omega)⟩
    obtain ⟨y, hy⟩ : ∃ y, b[i]? = some y := ⟨_, List.getElem?_eq_getElem (by omega)⟩
    have e1 : a.getD i 0 = x := by rw [List.getD, hx]; rfl
    have e2 : b.getD i 0 = y := by rw [List.getD, hy]; rfl
    have e3 := run_equalIn_int (P := Try.prog) w 9998 5 .u8 .u8 (x.toNat : Int) (y.toNat : Int) Try.underlying5
    simp only [Op.eqItems, Sem.run_bind, Nat.mul_one, part_row a i x hx, part_row b i y hy, Result.andThen_ok, e3, List.all_cons, e1, e2]
    by_cases e : x = y
    · have e4 : ((x.toNat : Int) == (y.toNat : Int)) = true := by rw [e]; simp
      simp only [e4, Bool.not_true, Bool.false_eq_true, if_false, ih, e, beq_self_eq_true, Bool.true_and]
    · have e4 : ((x.toNat : Int) == (y.toNat : Int)) = false := by
        rw [beq_eq_false_iff_ne]
        intro h2
        exact e (UInt8.toNat_inj.1 (by omega))
      have e5 : (x == y) = false := by rw [beq_eq_false_iff_ne]; exact e
      simp only [e4, Bool.not_false, if_true, Sem.run_pure, e5, Bool.false_and]
theorem rows_all (a b : List UInt8) (ha : a.length = 64) (hb : b.length = 64) : ((List.range 64).all fun i => a.getD i 0 == b.getD i 0) = decide (a = b) := by
  rw [Bool.eq_iff_iff, List.all_eq_true, decide_eq_true_iff]
  constructor
  · intro h
    apply List.ext_getElem (by omega)
    intro i h1 h2
    have := h i (by rw [List.mem_range]; omega)
    rw [List.getD, List.getD, List.getElem?_eq_getElem h1, List.getElem?_eq_getElem h2] at this
    exact eq_of_beq this
  · rintro rfl i _
    exact beq_self_eq_true _
theorem equalIn_rows (a b : List UInt8) (ha : a.length = 64) (hb : b.length = 64) (w : World) : (Op.equalIn 10000 60 (.agg (rc a)) (.agg (rc b))).run Try.prog w = .ok (decide (a = b)) w := by
  have hc : Try.prog.cellsOf 5 = 1 := by kernel_rfl
  obtain ⟨i0, hi⟩ := info_of_underlying Try.underlying5
  have hu : Try.prog.underlying 60 = some (.array 64 5) := Try.underlying60
  rw [run_equalIn_array w 9999 (rc a) (rc b) hu hi, hc, eqItems_rows a b ha hb w _ (fun i hi => by simpa using hi), rows_all a b ha hb]
theorem eql_rows (a b : List UInt8) (ha : a.length = 64) (hb : b.length = 64) (w : World) : (binOp .eql 60 (.agg (rc a)) (.agg (rc b))).run Try.prog w = .ok (.bool (decide (a = b))) w := by
  rw [run_eql_struct, equalIn_rows a b ha hb]; rfl
theorem neq_rows (a b : List UInt8) (ha : a.length = 64) (hb : b.length = 64) (w : World) : (binOp .neq 60 (.agg (rc a)) (.agg (rc b))).run Try.prog w = .ok (.bool (!decide (a = b))) w := by
  rw [run_neq_struct, equalIn_rows a b ha hb]; rfl
/-- A pair of nothing. -/
def zp : List UInt8 := List.replicate 128 0
theorem info_pair : (Try.prog.info? 68).map (fun i => (i.zero, i.size)) = some (some (.agg (rc zp)), 128) := by kernel_rfl
theorem size_pair (r : List UInt8) (h : r.length = 128) : (Try.prog.info? 68).map (·.size) = some (rc r).size := by
  have : (Try.prog.info? 68).map (·.size) = some 128 := by kernel_rfl
  rw [this, rc_size, h]
theorem zp_len : zp.length = 128 := by unfold zp; rw [List.length_replicate]
theorem sizeOf_row (w : World) : (sizeOf 60).run Try.prog w = .ok 64 w := by
  have h : (Try.prog.info? 60).map (·.size) = some 64 := by kernel_rfl
  cases hq : Try.prog.info? 60 with
  | none => simp [hq] at h
  | some i => simp [hq] at h; simp [sizeOf, typeInfo, hq, h]
theorem fold_putL (off : Nat) : ∀ (l : List Value) (k : Nat) (C : Array Value), (l.zipIdx k).foldl (fun cs (x : Value × Nat) => cs.setIfInBounds (off + x.2) x.1) C = putC C (off + k) l
  | [], _, _ => rfl
  | v :: l, k, C => by
    rw [List.zipIdx_cons, List.foldl_cons, fold_putL off l (k + 1)]
    rfl
theorem fold_put (off : Nat) (A C : Array Value) : A.zipIdx.foldl (fun cs (x : Value × Nat) => cs.setIfInBounds (off + x.2) x.1) C = putC C off A.toList := by
  have h := fold_putL off A.toList 0 C
  rw [Nat.add_zero] at h
  rw [← h, ← Array.foldl_toList, Array.toList_zipIdx]
theorem pair_put (l r : List UInt8) (hl : l.length = 64) (hr : r.length = 64) : putC (putC (rc zp) 0 (rc l).toList) 64 (rc r).toList = rc (l ++ r) := by
  rw [putC_rc zp 0 l (by rw [zp_len]; omega), putC_rc _ 64 r (by rw [putB_len _ _ _ (by rw [zp_len]; omega), zp_len]; omega)]
  congr 1
  unfold putB
  rw [List.take_zero, List.nil_append, Nat.zero_add, hl, List.take_left' hl, hr, List.drop_eq_nil_of_le (by rw [List.length_append, List.length_drop, zp_len]; omega), List.append_nil]
theorem build_pair (l r : List UInt8) (hl : l.length = 64) (hr : r.length = 64) (w : World) : (Instr.build 68 #[(0, .agg (rc l)), (1, .agg (rc r))]).run Try.prog w = .ok (.agg (rc (l ++ r))) w := by
  have hz := (zero_of_info info_pair).1
  have hu := run_underlying Try.underlying68 w
  have hs := sizeOf_row
  unfold Instr.build
  have hc : ∀ x : List UInt8, (Value.agg (rc x)).cells = rc x := fun x => rfl
  have f1 : ∀ (place : Nat → Option (Nat × Nat)), place 0 = some (0, 64) → place 1 = some (64, 64) → Instr.fill place (rc zp) [(0, .agg (rc l)), (1, .agg (rc r))] = some (rc (l ++ r)) := by
    intro place h0 h1
    rw [Instr.fill, h0]
    simp only [hc, rc_size, hl, zp_len]
    rw [if_neg (by decide), Instr.fill, h1]
    simp only [hc, rc_size, hr]
    rw [show (rc l).zipIdx.foldl (fun cs x => match x with | (c, j) => cs.setIfInBounds (0 + j) c) (rc zp) = putC (rc zp) 0 (rc l).toList from fold_put 0 (rc l) (rc zp)]
    rw [if_neg (by rw [putC_size, rc_size, zp_len]; decide), Instr.fill]
    rw [show (rc r).zipIdx.foldl (fun cs x => match x with | (c, j) => cs.setIfInBounds (64 + j) c) (putC (rc zp) 0 (rc l).toList) = putC (putC (rc zp) 0 (rc l).toList) 64 (rc r).toList from fold_put 64 (rc r) _]
    rw [pair_put l r hl hr]
  simp only [Sem.run_bind, hz, Result.andThen_ok, hu]
  simp [hs]
  rw [hc, f1 _ rfl rfl]; rfl
theorem quiet_pair {o : Oper} {a : Act} {C : World → Prop} {K : Act → Prop} (x y : Operand) (ho : o.op = .build 68 #[(0, x), (1, y)]) (l r : List UInt8) (hx : a.eval x = .agg (rc l)) (hy : a.eval y = .agg (rc r))
    (hl : l.length = 64) (hr : r.length = 64) (hn : K (a.put o.dst (.agg (rc (l ++ r))))) : o.quiet Try.prog a C K :=
  quiet_val (.agg (rc (l ++ r))) (fun w hw => by
    have h := build_pair l r hl hr w
    unfold execOp
    simp [ho, hx, hy, h]) hn
/-- Three pairs of the call's own. -/
structure Sp (w : World) (a b z : List UInt8) (wr : World) : Prop where
  a : Bk wr w.heap.size (rc a) 68
  b : Bk wr (w.heap.size + 1) (rc b) 68
  z : Bk wr (w.heap.size + 2) (rc z) 68
  bel : Below w.heap.size w wr
  sz : w.heap.size + 3 ≤ wr.heap.size
theorem sp_new (w : World) (a b : List UInt8) : Sp w a b zp (((w.alloc (.cells (rc a) 68)).alloc (.cells (rc b) 68)).alloc (.cells (rc zp) 68)) where
  a := ((bk_new w _ _).alloc _).alloc _
  b := by have := bk_new (w.alloc (.cells (rc a) 68)) (rc b) 68; rw [al_size] at this; exact this.alloc _
  z := by have := bk_new ((w.alloc (.cells (rc a) 68)).alloc (.cells (rc b) 68)) (rc zp) 68; rw [al_size, al_size] at this; exact this
  bel := (((Below.refl _ _).alloc (Nat.le_refl _) _).alloc (by simp) _).alloc (by simp; omega) _
  sz := by rw [al_size, al_size, al_size]; omega
theorem Sp.below {w W W' : World} {a b z : List UInt8} (h : Sp w a b z W) (hb : Below W.heap.size W W') : Sp w a b z W' :=
  ⟨h.a.grown (gr_of_below hb none) (by simp), h.b.grown (gr_of_below hb none) (by simp), h.z.grown (gr_of_below hb none) (by simp), h.bel.trans (hb.mono h.bel.size), Nat.le_trans h.sz hb.size⟩
theorem Sp.drew {w W : World} {a b z : List UInt8} (h : Sp w a b z W) : Sp w a b z W.drew := h.below (Below.refl _ _).drew
/-- A pair's two rows. -/
def lf (p : List UInt8) : List UInt8 := p.take 64
def rt (p : List UInt8) : List UInt8 := p.drop 64
theorem lf_len (p : List UInt8) (h : p.length = 128) : (lf p).length = 64 := by simp [lf, h]
theorem rt_len (p : List UInt8) (h : p.length = 128) : (rt p).length = 64 := by simp [rt, h]
theorem lf_get (p : List UInt8) (h : p.length = 128) (j : Nat) (v : Value) (hv : (rc (lf p))[j]? = some v) : (rc p)[j]? = some v := by
  rw [rc_get] at hv ⊢
  have hj : j < 64 := by
    obtain ⟨x, hx, _⟩ := Option.map_eq_some_iff.1 hv
    have := (List.getElem?_eq_some_iff.1 hx).1
    rw [lf_len p h] at this; exact this
  rw [lf, List.getElem?_take, if_pos hj] at hv
  exact hv
theorem rt_get (p : List UInt8) (h : p.length = 128) (j : Nat) (v : Value) (hv : (rc (rt p))[j]? = some v) : (rc p)[64 + j]? = some v := by
  rw [rc_get] at hv ⊢
  rw [rt, List.getElem?_drop] at hv
  exact hv
theorem addR_len2 (a b : List UInt8) (t : UInt8) (ha : a.length = 128) (hb : b.length = 128) : (addR a b t).length = 128 := by simp [addR, ha, hb]
theorem addR_parts (a b : List UInt8) (t : UInt8) (ha : a.length = 128) (hb : b.length = 128) : addR (lf a) (lf b) t ++ addR (rt a) (rt b) t = addR a b t := by
  unfold addR lf rt
  rw [← List.zipWith_append (by simp [ha, hb]), List.take_append_drop, List.take_append_drop]
theorem lf_app (l r : List UInt8) (h : l.length = 64) : lf (l ++ r) = l := by unfold lf; rw [← h, List.take_left]
theorem rt_app (l r : List UInt8) (h : l.length = 64) : rt (l ++ r) = r := by unfold rt; rw [← h, List.drop_left]
set_option maxHeartbeats 1000000 in
set_option maxRecDepth 100000 in
theorem added_any (a b : List UInt8) (t : UInt8) (w : World) (ha : a.length = 128) (hb : b.length = 128) :
    Calls Try.prog 42 #[.agg (rc a), .agg (rc b), c8 t] w fun e w' => e = .returned (.agg (rc (addR a b t))) ∧ Below w.heap.size w w' := by
  have hz := (zero_of_info info_pair).1
  have HS : Hid (Sp w a b zp (((w.alloc (.cells (rc a) 68)).alloc (.cells (rc b) 68)).alloc (.cells (rc zp) 68))) := sp_new w a b
  have HL : Hid (a.length = 128 ∧ b.length = 128) := ⟨ha, hb⟩
  clear ha hb
  go_enter Try.func42, Try.ntmps42
  go_wp2_with fail
  refine wp_region_tail (Sp w a b zp) 13 (by kernel_rfl) (by kernel_rfl) HS.out.drew ?_
  simp only [List.take_succ_cons, List.take_zero, List.drop_succ_cons, List.drop_zero]
  go_big_quiet_want
  refine quiet_val (.pointer (some ⟨w.heap.size, 0, none⟩)) ?_ ?_
  · intro W hW; go_simp; done
  go_big_quiet_on; simp only [Act.put, List.setIfInBounds_toArray, List.set_cons_zero, List.set_cons_succ]
  go_big_quiet_want
  refine quiet_row (.tmp 7) rfl (w.heap.size) 0 (lf a) rfl (lf_len a HL.out.1) (fun W hW j v hv => by rw [hW.a.cell, Nat.zero_add]; exact lf_get a HL.out.1 j v hv) ?_
  go_big_quiet_on; simp only [Act.put, List.setIfInBounds_toArray, List.set_cons_zero, List.set_cons_succ]
  go_big_quiet_want
  refine quiet_val (.pointer (some ⟨w.heap.size + 1, 0, none⟩)) ?_ ?_
  · intro W hW; go_simp; done
  go_big_quiet_on; simp only [Act.put, List.setIfInBounds_toArray, List.set_cons_zero, List.set_cons_succ]
  go_big_quiet_want
  refine quiet_row (.tmp 9) rfl (w.heap.size + 1) 0 (lf b) rfl (lf_len b HL.out.2) (fun W hW j v hv => by rw [hW.b.cell, Nat.zero_add]; exact lf_get b HL.out.2 j v hv) ?_
  go_big_quiet_on; simp only [Act.put, List.setIfInBounds_toArray, List.set_cons_zero, List.set_cons_succ]
  go_big_quiet_step (fail)
  go_big_quiet_want
  refine quiet_call (.agg (rc (addR (lf a) (lf b) t))) 39 #[.agg (rc (lf a)), .agg (rc (lf b)), c8 t] ?_ ?_ ?_
  · intro W hW; go_simp; done
  · intro W hW; exact (sum_any (lf a) (lf b) t W (lf_len a HL.out.1) (lf_len b HL.out.2)).mono (fun _ _ h => ⟨h.1, hW.below h.2⟩)
  go_big_quiet_on; simp only [Act.put, List.setIfInBounds_toArray, List.set_cons_zero, List.set_cons_succ]
  go_big_quiet_want
  refine quiet_val (.pointer (some ⟨w.heap.size, 64, none⟩)) ?_ ?_
  · intro W hW; go_simp; done
  go_big_quiet_on; simp only [Act.put, List.setIfInBounds_toArray, List.set_cons_zero, List.set_cons_succ]
  go_big_quiet_want
  refine quiet_row (.tmp 13) rfl (w.heap.size) 64 (rt a) rfl (rt_len a HL.out.1) (fun W hW j v hv => by rw [hW.a.cell]; exact rt_get a HL.out.1 j v hv) ?_
  go_big_quiet_on; simp only [Act.put, List.setIfInBounds_toArray, List.set_cons_zero, List.set_cons_succ]
  go_big_quiet_want
  refine quiet_val (.pointer (some ⟨w.heap.size + 1, 64, none⟩)) ?_ ?_
  · intro W hW; go_simp; done
  go_big_quiet_on; simp only [Act.put, List.setIfInBounds_toArray, List.set_cons_zero, List.set_cons_succ]
  go_big_quiet_want
  refine quiet_row (.tmp 15) rfl (w.heap.size + 1) 64 (rt b) rfl (rt_len b HL.out.2) (fun W hW j v hv => by rw [hW.b.cell]; exact rt_get b HL.out.2 j v hv) ?_
  go_big_quiet_on; simp only [Act.put, List.setIfInBounds_toArray, List.set_cons_zero, List.set_cons_succ]
  go_big_quiet_step (fail)
  go_big_quiet_want
  refine quiet_call (.agg (rc (addR (rt a) (rt b) t))) 39 #[.agg (rc (rt a)), .agg (rc (rt b)), c8 t] ?_ ?_ ?_
  · intro W hW; go_simp; done
  · intro W hW; exact (sum_any (rt a) (rt b) t W (rt_len a HL.out.1) (rt_len b HL.out.2)).mono (fun _ _ h => ⟨h.1, hW.below h.2⟩)
  go_big_quiet_on; simp only [Act.put, List.setIfInBounds_toArray, List.set_cons_zero, List.set_cons_succ]
  go_big_quiet_want
  refine quiet_pair (.tmp 12) (.tmp 18) rfl (addR (lf a) (lf b) t) (addR (rt a) (rt b) t) rfl rfl (addR_len _ _ _ (lf_len a HL.out.1) (lf_len b HL.out.2)) (addR_len _ _ _ (rt_len a HL.out.1) (rt_len b HL.out.2)) ?_
  rw [addR_parts a b t HL.out.1 HL.out.2]
  go_big_quiet_on; simp only [Act.put, List.setIfInBounds_toArray, List.set_cons_zero, List.set_cons_succ]
  refine wpQuiet_nil ?_
  intro w9 hw9
  have H9 : Hid (Sp w a b zp w9) := hw9
  have HAL : Hid ((addR a b t).length = 128) := addR_len2 a b t HL.out.1 HL.out.2
  have HIa := size_pair (addR a b t) HAL.out
  clear hw9 HS
  go_wp2_with (first
    | (refine wpList_put rfl 68 (.tmp 6) (.tmp 19) rfl (w.heap.size + 2) 0 (rc zp) (rc (addR a b t)) 68 rfl rfl H9.out.z HIa (by rw [rc_size, rc_size, zp_len, HAL.out]; omega) (rc_one _) ?_; intro w2 HB3 HG3 hs3)
    | fail)
  refine bodyPost_ret (results_row rfl _ _ (w.heap.size + 2) 68 (rc (addR a b t)) _ rfl (by have := HB3.out; rw [putC_all _ _ (by rw [zp_len, HAL.out])] at this; exact this) Try.underlying68 rfl HIa) rfl ⟨rfl, below_own H9.out.bel (by have := H9.out.sz; omega) HG3.out (by omega)⟩
end Go.Proofs.Ytecpcocnoengiaa
/- Rows taken from one another, as package field does it, plainly. -/
namespace Go.Proofs.Ytecpcocnoengiaa
open Go.RowKit
set_option linter.unusedSimpArgs false
set_option linter.unusedVariables false
/-- Each row beside the unit's. -/
def staP (A : List (List UInt8)) : List (List UInt8) := A.mapIdx fun i r => r ++ ur i
theorem staP_len (A : List (List UInt8)) : (staP A).length = A.length := by simp [staP]
theorem staP_at (A : List (List UInt8)) (i : Nat) (r : List UInt8) (h : A[i]? = some r) : (staP A)[i]? = some (r ++ ur i) := by
  simp [staP, List.getElem?_mapIdx, h]
theorem staP_wide (A : List (List UInt8)) (hA : ∀ r ∈ A, r.length = 64) : ∀ r ∈ staP A, r.length = 128 := by
  intro x hx
  obtain ⟨i, hi, rfl⟩ := List.mem_iff_getElem.1 hx
  simp only [staP, List.getElem_mapIdx, List.length_append, ur_len]
  rw [hA _ (List.getElem_mem _)]
/-- The first k pairs laid. -/
def filP (F : List (List UInt8)) (k : Nat) : List (List UInt8) := F.take k ++ List.replicate (F.length - k) zp
theorem filP_len (F : List (List UInt8)) (k : Nat) (h : k ≤ F.length) : (filP F k).length = F.length := by simp [filP]; omega
theorem filP_wide (F : List (List UInt8)) (hF : ∀ r ∈ F, r.length = 128) (k : Nat) : ∀ r ∈ filP F k, r.length = 128 := by
  intro r hr
  rcases List.mem_append.1 hr with h1 | h1
  · exact hF r (List.mem_of_mem_take h1)
  · rw [(List.mem_replicate.1 h1).2]; exact zp_len
theorem filP_next (F : List (List UInt8)) (k : Nat) (r : List UInt8) (hr : F[k]? = some r) : (filP F k).set k r = filP F (k + 1) := by
  have hk := (List.getElem?_eq_some_iff.1 hr).1
  unfold filP
  rw [List.set_append_right _ _ (by simp; omega), List.length_take, Nat.min_eq_left (Nat.le_of_lt hk), Nat.sub_self, show F.length - k = (F.length - (k + 1)) + 1 from by omega, List.replicate_succ, List.set_cons_zero]
  rw [List.take_succ_eq_append_getElem hk, List.append_assoc, (List.getElem?_eq_some_iff.1 hr).2]; rfl
theorem filP_all (F : List (List UInt8)) : filP F F.length = F := by
  unfold filP
  rw [Nat.sub_self, List.replicate_zero, List.append_nil, List.take_length]
theorem filP_zero (F : List (List UInt8)) : filP F 0 = List.replicate F.length zp := by simp [filP]
/-- The row q taken from all others but number i so that they are 0 at c; the first k of them. -/
def elP (X : List (List UInt8)) (i : Nat) (q : List UInt8) (c k : Nat) : List (List UInt8) := X.mapIdx fun j r => if j = i ∨ k ≤ j then r else addR r q (r.getD c 0)
theorem elP_len (X : List (List UInt8)) (i : Nat) (q : List UInt8) (c k : Nat) : (elP X i q c k).length = X.length := by simp [elP]
theorem elP_at (X : List (List UInt8)) (i : Nat) (q : List UInt8) (c k j : Nat) (r : List UInt8) (h : X[j]? = some r) : (elP X i q c k)[j]? = some (if j = i ∨ k ≤ j then r else addR r q (r.getD c 0)) := by
  simp [elP, List.getElem?_mapIdx, h]
theorem elP_wide (X : List (List UInt8)) (hX : ∀ r ∈ X, r.length = 128) (i : Nat) (q : List UInt8) (hq : q.length = 128) (c k : Nat) : ∀ r ∈ elP X i q c k, r.length = 128 := by
  intro x hx
  obtain ⟨j, hj, rfl⟩ := List.mem_iff_getElem.1 hx
  simp only [elP, List.getElem_mapIdx]
  split
  · exact hX _ (List.getElem_mem _)
  · exact addR_len2 _ _ _ (hX _ (List.getElem_mem _)) hq
theorem elP_zero (X : List (List UInt8)) (i : Nat) (q : List UInt8) (c : Nat) : elP X i q c 0 = X := by
  apply List.ext_getElem?
  intro j
  cases h : X[j]? with
  | none => rw [List.getElem?_eq_none (by rw [elP_len]; exact List.getElem?_eq_none_iff.1 h)]
  | some r => rw [elP_at X i q c 0 j r h, if_pos (by omega)]
theorem elP_skip (X : List (List UInt8)) (i : Nat) (q : List UInt8) (c : Nat) : elP X i q c (i + 1) = elP X i q c i := by
  apply List.ext_getElem?
  intro j
  cases h : X[j]? with
  | none => rw [List.getElem?_eq_none (by rw [elP_len]; exact List.getElem?_eq_none_iff.1 h), List.getElem?_eq_none (by rw [elP_len]; exact List.getElem?_eq_none_iff.1 h)]
  | some r =>
    rw [elP_at X i q c _ j r h, elP_at X i q c _ j r h]
    by_cases e : j = i
    · rw [if_pos (.inl e), if_pos (.inl e)]
    · by_cases e2 : i ≤ j
      · rw [if_pos (by omega), if_pos (by omega)]
      · rw [if_neg (by omega), if_neg (by omega)]
theorem elP_next (X : List (List UInt8)) (i : Nat) (q : List UInt8) (c k : Nat) (r : List UInt8) (hr : X[k]? = some r) (hk : k ≠ i) : (elP X i q c k).set k (addR r q (r.getD c 0)) = elP X i q c (k + 1) := by
  apply List.ext_getElem?
  intro j
  rw [List.getElem?_set, elP_len]
  cases h : X[j]? with
  | none =>
    rw [List.getElem?_eq_none (by rw [elP_len]; exact List.getElem?_eq_none_iff.1 h), List.getElem?_eq_none (by rw [elP_len]; exact List.getElem?_eq_none_iff.1 h)]
    by_cases e : k = j
    · subst e; rw [hr] at h; cases h
    · rw [if_neg e]
  | some s =>
    have hj := (List.getElem?_eq_some_iff.1 h).1
    rw [elP_at X i q c _ j s h, elP_at X i q c _ j s h]
    by_cases e : k = j
    · subst e
      rw [hr] at h
      cases h
      rw [if_pos rfl, if_pos hj, if_neg (by omega)]
    · rw [if_neg e]
      by_cases e2 : j = i ∨ k ≤ j
      · rw [if_pos e2, if_pos (by omega)]
      · rw [if_neg e2, if_neg (by omega)]
/-- One row's turn. -/
def stp (X : List (List UInt8)) (i : Nat) : List (List UInt8) :=
  if lf (X.getD i zp) = zr then X
  else elP (X.set i (addR zp (X.getD i zp) (inv ((X.getD i zp).getD (fst (lf (X.getD i zp))) 0)))) i (addR zp (X.getD i zp) (inv ((X.getD i zp).getD (fst (lf (X.getD i zp))) 0))) (fst (lf (X.getD i zp))) X.length
theorem stp_len (X : List (List UInt8)) (i : Nat) : (stp X i).length = X.length := by
  unfold stp
  split
  · rfl
  · rw [elP_len, List.length_set]
theorem getD_wide2 (X : List (List UInt8)) (hX : ∀ r ∈ X, r.length = 128) (k : Nat) : (X.getD k zp).length = 128 := by
  rw [List.getD]
  cases h : X[k]? with
  | none => exact zp_len
  | some x => exact hX x (List.mem_of_getElem? h)
theorem stp_wide (X : List (List UInt8)) (hX : ∀ r ∈ X, r.length = 128) (i : Nat) : ∀ r ∈ stp X i, r.length = 128 := by
  unfold stp
  split
  · exact hX
  · have hq := addR_len2 zp (X.getD i zp) (inv ((X.getD i zp).getD (fst (lf (X.getD i zp))) 0)) zp_len (getD_wide2 X hX i)
    exact elP_wide _ (set_wide 128 X hX i _ hq) i _ hq _ _
def redK (X : List (List UInt8)) : Nat → List (List UInt8)
  | 0 => X
  | k + 1 => stp (redK X k) k
theorem redK_len (X : List (List UInt8)) : ∀ k, (redK X k).length = X.length
  | 0 => rfl
  | k + 1 => by rw [redK, stp_len, redK_len X k]
theorem redK_wide (X : List (List UInt8)) (hX : ∀ r ∈ X, r.length = 128) : ∀ k, ∀ r ∈ redK X k, r.length = 128
  | 0 => hX
  | k + 1 => stp_wide _ (redK_wide X hX k) k
/-- What reduced tells. -/
def redP (A : List (List UInt8)) : List (List UInt8) := redK (staP A) A.length
theorem fst_lt (r : List UInt8) (h : r.length = 64) : fst r < 64 := by
  unfold fst
  split
  · omega
  · rename_i h1
    have : ∃ x ∈ r, (x != 0) = true := by
      have h2 : ¬ ∀ x ∈ r, (x == 0) = true := by rw [List.all_eq_true] at h1; exact h1
      have h3 := Classical.not_forall.1 h2
      obtain ⟨x, hx⟩ := h3
      have h4 := Classical.not_imp.1 hx
      exact ⟨x, h4.1, by simpa using h4.2⟩
    have := List.findIdx_lt_length_of_exists this
    omega
end Go.Proofs.Ytecpcocnoengiaa
/- What reduced leaves at 0; ranks and inverses as package field tells them, plainly. -/
namespace Go.Proofs.Ytecpcocnoengiaa
open Go.RowKit
set_option linter.unusedSimpArgs false
set_option linter.unusedVariables false
/-- 0 from column n on. -/
def zb (n : Nat) (p : List UInt8) : Prop := ∀ j, n ≤ j → j < 64 → p[j]? = some 0
theorem zb_add {n : Nat} {a b : List UInt8} (t : UInt8) (ha : zb n a) (hb : zb n b) : zb n (addR a b t) := by
  intro j h1 h2
  unfold addR
  rw [List.getElem?_zipWith, ha j h1 h2, hb j h1 h2]
  simp [zero_mul]
theorem zb_zp (n : Nat) : zb n zp := by
  intro j _ h2
  rw [zp, List.getElem?_replicate, if_pos (by omega)]
theorem zb_sta (n : Nat) (x : ByteArray) (i : Nat) (h : x.size ≤ n) (hn : n ≤ 64) : zb n (rowOf x ++ ur i) := by
  intro j h1 h2
  have hl := rowOf_len x (by omega)
  rw [List.getElem?_append_left (by omega)]
  unfold rowOf
  rw [putB_get _ _ _ (by rw [zr_len, dlen]; omega), if_neg (by rw [dlen]; omega), zr, List.getElem?_replicate, if_pos h2]
theorem zb_stp {n : Nat} {X : List (List UInt8)} (hX : ∀ p ∈ X, zb n p) (i : Nat) : ∀ p ∈ stp X i, zb n p := by
  have hg : zb n (X.getD i zp) := by
    rw [List.getD]
    cases h : X[i]? with
    | none => exact zb_zp n
    | some p => exact hX p (List.mem_of_getElem? h)
  unfold stp
  split
  · exact hX
  · intro p hp
    have hq := zb_add (inv ((X.getD i zp).getD (fst (lf (X.getD i zp))) 0)) (zb_zp n) hg
    have hs : ∀ r ∈ X.set i (addR zp (X.getD i zp) (inv ((X.getD i zp).getD (fst (lf (X.getD i zp))) 0))), zb n r := by
      intro r hr
      rcases List.mem_or_eq_of_mem_set hr with h1 | h1
      · exact hX r h1
      · rw [h1]; exact hq
    obtain ⟨j, hj, rfl⟩ := List.mem_iff_getElem.1 hp
    simp only [elP, List.getElem_mapIdx]
    split
    · exact hs _ (List.getElem_mem _)
    · exact zb_add _ (hs _ (List.getElem_mem _)) hq
theorem zb_redK {n : Nat} {X : List (List UInt8)} (hX : ∀ p ∈ X, zb n p) : ∀ k, ∀ p ∈ redK X k, zb n p
  | 0 => hX
  | k + 1 => zb_stp (zb_redK hX k) k
theorem zb_red (n : Nat) (xs : List ByteArray) (h : ∀ x ∈ xs, x.size ≤ n) (hn : n ≤ 64) : ∀ p ∈ redP (arrL xs), zb n p := by
  refine zb_redK ?_ _
  intro p hp
  obtain ⟨j, hj, rfl⟩ := List.mem_iff_getElem.1 hp
  simp only [staP, List.getElem_mapIdx, arrL, List.getElem_map]
  exact zb_sta n _ j (h _ (List.getElem_mem _)) hn
theorem fst_zb {n : Nat} {p : List UInt8} (hp : p.length = 128) (hz : zb n p) (h0 : lf p ≠ zr) : fst (lf p) < n := by
  have hl := lf_len p hp
  have hlt := fst_lt (lf p) hl
  by_cases h : fst (lf p) < n
  · exact h
  · exfalso
    have hne : ¬ (lf p).all (· == 0) = true := by
      intro ha
      apply h0
      apply List.ext_getElem (by rw [hl, zr_len])
      intro i h1 h2
      rw [List.all_eq_true] at ha
      have := ha _ (List.getElem_mem h1)
      simp only [beq_iff_eq] at this
      rw [this]
      have hz : ∀ (m : Nat) (hm : m < zr.length), zr[m] = 0 := fun m hm => List.getElem_replicate hm
      exact (hz i h2).symm
    have hf : fst (lf p) = (lf p).findIdx (· != 0) := by unfold fst; rw [if_neg hne]
    have h1 : (lf p).findIdx (· != 0) < (lf p).length := by rw [← hf, hl]; exact hlt
    have h2 := List.findIdx_getElem (w := h1)
    have h3 := hz (fst (lf p)) (by omega) hlt
    have h4 : (lf p)[(lf p).findIdx (· != 0)]? = some 0 := by
      rw [← hf]
      generalize fst (lf p) = j at *
      rw [lf, List.getElem?_take, if_pos hlt]
      exact h3
    rw [List.getElem?_eq_getElem h1] at h4
    rw [Option.some.inj h4] at h2
    simp at h2
/-- How many of the first k rows are not 0. -/
def rkK (X : List (List UInt8)) (k : Nat) : Nat := ((X.take k).filter fun p => lf p != zr).length
theorem rkK_next (X : List (List UInt8)) (k : Nat) (p : List UInt8) (h : X[k]? = some p) : rkK X (k + 1) = rkK X k + if lf p = zr then 0 else 1 := by
  obtain ⟨hk, e⟩ := List.getElem?_eq_some_iff.1 h
  unfold rkK
  rw [List.take_succ_eq_append_getElem hk, List.filter_append, List.length_append, e]
  congr 1
  by_cases hz : lf p = zr
  · simp [List.filter_cons, hz]
  · simp [List.filter_cons, hz]
theorem rkK_le (X : List (List UInt8)) (k : Nat) : rkK X k ≤ k := by
  unfold rkK
  exact Nat.le_trans (List.length_filter_le _ _) (List.length_take_le _ _)
/-- The rows of the inverse, the first k pairs laid. -/
def ivK (X : List (List UInt8)) (n : Nat) : Nat → List (List UInt8)
  | 0 => List.replicate n zr
  | k + 1 => (ivK X n k).set (fst (lf (X.getD k zp))) (rt (X.getD k zp))
theorem ivK_len (X : List (List UInt8)) (n : Nat) : ∀ k, (ivK X n k).length = n
  | 0 => by simp [ivK]
  | k + 1 => by rw [ivK, List.length_set, ivK_len X n k]
theorem ivK_wide (X : List (List UInt8)) (hX : ∀ p ∈ X, p.length = 128) (n : Nat) : ∀ k, ∀ r ∈ ivK X n k, r.length = 64
  | 0 => by
    intro r hr
    rw [ivK] at hr
    rw [(List.mem_replicate.1 hr).2]; exact zr_len
  | k + 1 => by
    rw [ivK]
    exact set_wide 64 _ (ivK_wide X hX n k) _ _ (rt_len _ (getD_wide2 X hX k))
/-- Whether one of the rows is 0. -/
def sng (X : List (List UInt8)) : Bool := X.any fun p => lf p == zr
end Go.Proofs.Ytecpcocnoengiaa
/- What reduced keeps: each left row is what its right row makes of the matrix, and the right rows are not made of one another. -/
namespace Go.Proofs.Ytecpcocnoengiaa
open Go.RowKit
set_option linter.unusedSimpArgs false
set_option linter.unusedVariables false
/-- The number j of the pair k. -/
def ent (X : List (List UInt8)) (k j : Nat) : UInt8 := (X.getD k zp).getD j 0
theorem addR_getD (a b : List UInt8) (t : UInt8) (j : Nat) (ha : j < a.length) (hb : j < b.length) : (addR a b t).getD j 0 = a.getD j 0 ^^^ mul (b.getD j 0) t := by
  simp only [List.getD, addR, List.getElem?_zipWith, List.getElem?_eq_getElem ha, List.getElem?_eq_getElem hb]
  rfl
theorem zp_getD (j : Nat) : zp.getD j 0 = 0 := by
  simp only [List.getD, zp, List.getElem?_replicate]
  split <;> rfl
/-- The left rows come of the right ones; these are not made of one another. -/
structure Inv (M : Nat → Nat → UInt8) (n : Nat) (X : List (List UInt8)) : Prop where
  lin : ∀ k j, k < n → j < 64 → ent X k j = Sx n (fun i => mul (ent X k (64 + i)) (M i j))
  ind : ∀ c : Nat → UInt8, (∀ i, i < n → Sx n (fun k => mul (c k) (ent X k (64 + i))) = 0) → ∀ k, k < n → c k = 0
theorem Inv.elem {M : Nat → Nat → UInt8} {n : Nat} {X X' : List (List UInt8)} (h : Inv M n X) (hn : n ≤ 64) (i : Nat) (hi : i < n) (s : UInt8) (hs : s ≠ 0) (t : Nat → UInt8)
    (he : ∀ k j, k < n → j < 128 → ent X' k j = if k = i then mul (ent X i j) s else ent X k j ^^^ mul (mul (ent X i j) s) (t k)) : Inv M n X' := by
  constructor
  · intro k j hk hj
    rw [he k j hk (by omega)]
    have hr : Sx n (fun l => mul (ent X' k (64 + l)) (M l j)) = Sx n (fun l => mul (if k = i then mul (ent X i (64 + l)) s else ent X k (64 + l) ^^^ mul (mul (ent X i (64 + l)) s) (t k)) (M l j)) := by
      apply Sx_congr
      intro l hl
      rw [he k (64 + l) hk (by omega)]
    rw [hr]
    have e2 : ∀ (u : UInt8), mul (ent X i j) u = Sx n (fun l => mul (mul (ent X i (64 + l)) u) (M l j)) := by
      intro u
      rw [h.lin i j hi hj, ← Sx_mul]
      apply Sx_congr
      intro l hl
      rw [mul_assoc, mul_assoc, mul_comm (M l j)]
    by_cases hki : k = i
    · simp only [if_pos hki]
      exact e2 s
    · simp only [if_neg hki]
      rw [mul_assoc, e2, h.lin k j hk hj, ← Sx_add]
      apply Sx_congr
      intro l hl
      rw [mul_xor_left, mul_assoc (ent X i (64 + l)) s (t k)]
  · intro c hc
    obtain ⟨g, hg⟩ : ∃ g : Nat → UInt8, g = fun k => if k = i then c i else mul (c k) (t k) := ⟨_, rfl⟩
    obtain ⟨c', hc'⟩ : ∃ c' : Nat → UInt8, c' = fun k => if k = i then mul (Sx n g) s else c k := ⟨_, rfl⟩
    have key : ∀ l, l < n → Sx n (fun k => mul (c' k) (ent X k (64 + l))) = 0 := by
      intro l hl
      rw [← hc l hl]
      have e1 : Sx n (fun k => mul (c k) (ent X' k (64 + l))) = Sx n (fun k => mul (if k = i then 0 else c k) (ent X k (64 + l)) ^^^ mul (g k) (mul (ent X i (64 + l)) s)) := by
        apply Sx_congr
        intro k hk
        rw [he k (64 + l) hk (by omega), hg]
        by_cases hki : k = i
        · simp only [if_pos hki]
          rw [zero_mul, UInt8.zero_xor, hki]
        · simp only [if_neg hki]
          rw [mul_xor_right, mul_assoc (c k) (t k), mul_comm (t k)]
      have e3 : mul (Sx n g) (mul (ent X i (64 + l)) s) = Sx n (fun k => mul (if k = i then mul (Sx n g) s else 0) (ent X k (64 + l))) := by
        have e4 := Sx_one n (fun k => mul (if k = i then mul (Sx n g) s else 0) (ent X k (64 + l))) i hi (fun k hk hki => by show mul (if k = i then mul (Sx n g) s else 0) _ = 0; rw [if_neg hki, zero_mul])
        rw [e4]
        show _ = mul (if i = i then mul (Sx n g) s else 0) (ent X i (64 + l))
        rw [if_pos rfl, mul_assoc, mul_comm s]
      rw [e1, Sx_add, Sx_mul, e3, ← Sx_add]
      apply Sx_congr
      intro k hk
      rw [hc', ← mul_xor_left]
      by_cases hki : k = i
      · simp only [if_pos hki, UInt8.zero_xor]
      · simp only [if_neg hki, UInt8.xor_zero]
    have h0 := h.ind c' key
    have hne : ∀ k, k < n → k ≠ i → c k = 0 := by
      intro k hk hki
      have := h0 k hk
      rw [hc'] at this
      simpa only [if_neg hki] using this
    have hG : Sx n g = 0 := by
      have := h0 i hi
      rw [hc'] at this
      have this' : (if i = i then mul (Sx n g) s else c i) = 0 := this
      rw [if_pos rfl] at this'
      rcases mul_eq_zero this' with h1 | h1
      · exact h1
      · exact absurd h1 hs
    have hci : c i = 0 := by
      rw [Sx_one n g i hi (fun k hk hki => by rw [hg]; show (if k = i then c i else mul (c k) (t k)) = 0; rw [if_neg hki, hne k hk hki, zero_mul]), hg] at hG
      have hG' : (if i = i then c i else mul (c i) (t i)) = 0 := hG
      rwa [if_pos rfl] at hG'
    intro k hk
    by_cases hki : k = i
    · rw [hki]; exact hci
    · exact hne k hk hki
theorem fst_ne {p : List UInt8} (hp : p.length = 128) (h0 : lf p ≠ zr) : p.getD (fst (lf p)) 0 ≠ 0 := by
  have hl := lf_len p hp
  have hlt := fst_lt (lf p) hl
  have hne : ¬ (lf p).all (· == 0) = true := by
    intro ha
    apply h0
    apply List.ext_getElem (by rw [hl, zr_len])
    intro i h1 h2
    rw [List.all_eq_true] at ha
    have := ha _ (List.getElem_mem h1)
    simp only [beq_iff_eq] at this
    rw [this]
    have hz : ∀ (m : Nat) (hm : m < zr.length), zr[m] = 0 := fun m hm => List.getElem_replicate hm
    exact (hz i h2).symm
  have hf : fst (lf p) = (lf p).findIdx (· != 0) := by unfold fst; rw [if_neg hne]
  have h1 : (lf p).findIdx (· != 0) < (lf p).length := by rw [← hf, hl]; exact hlt
  have h2 := List.findIdx_getElem (w := h1)
  intro e
  have h4 : (lf p)[(lf p).findIdx (· != 0)]? = some 0 := by
    rw [← hf]
    generalize fst (lf p) = j at *
    rw [lf, List.getElem?_take, if_pos hlt]
    rw [List.getD, List.getElem?_eq_getElem (by omega)] at e
    rw [List.getElem?_eq_getElem (by omega)]
    exact congrArg some e
  rw [List.getElem?_eq_getElem h1] at h4
  rw [Option.some.inj h4] at h2
  simp at h2
theorem stp_ent (X : List (List UInt8)) (hX : ∀ r ∈ X, r.length = 128) (i : Nat) (hi : i < X.length) (h0 : lf (X.getD i zp) ≠ zr) (k j : Nat) (hk : k < X.length) (hj : j < 128) :
    ent (stp X i) k j = if k = i then mul (ent X i j) (inv (ent X i (fst (lf (X.getD i zp))))) else ent X k j ^^^ mul (mul (ent X i j) (inv (ent X i (fst (lf (X.getD i zp)))))) (ent X k (fst (lf (X.getD i zp)))) := by
  obtain ⟨p, hp⟩ : ∃ p, X.getD i zp = p := ⟨_, rfl⟩
  have hpl : p.length = 128 := by rw [← hp]; exact getD_wide2 X hX i
  obtain ⟨c, hc⟩ : ∃ c, fst (lf p) = c := ⟨_, rfl⟩
  obtain ⟨q, hq⟩ : ∃ q, addR zp p (inv (p.getD c 0)) = q := ⟨_, rfl⟩
  have hql : q.length = 128 := by rw [← hq]; exact addR_len2 _ _ _ zp_len hpl
  have hqj : q.getD j 0 = mul (p.getD j 0) (inv (p.getD c 0)) := by
    rw [← hq, addR_getD _ _ _ _ (by rw [zp_len]; exact hj) (by rw [hpl]; exact hj), zp_getD, UInt8.zero_xor]
  have hst : stp X i = elP (X.set i q) i q c X.length := by
    unfold stp
    rw [hp] at h0 ⊢
    rw [if_neg h0, hc, hq]
  have hei : ∀ m, ent X i m = p.getD m 0 := fun m => by unfold ent; rw [hp]
  rw [hp, hc, hei j, hei c, hst]
  unfold ent
  by_cases hki : k = i
  · subst hki
    have h1 : (X.set k q)[k]? = some q := by rw [List.getElem?_set, if_pos rfl, if_pos hi]
    rw [if_pos rfl]
    have hgd : (elP (X.set k q) k q c X.length).getD k zp = q := by rw [List.getD, elP_at _ _ _ _ _ k q h1, if_pos (.inl rfl)]; rfl
    rw [hgd]
    exact hqj
  · rw [if_neg hki]
    obtain ⟨r, hr⟩ : ∃ r, X[k]? = some r := ⟨_, List.getElem?_eq_getElem hk⟩
    have hrl := hX r (List.mem_of_getElem? hr)
    have h1 : (X.set i q)[k]? = some r := by rw [List.getElem?_set, if_neg (fun e => hki e.symm), hr]
    have h2 : X.getD k zp = r := by rw [List.getD, hr]; rfl
    rw [h2]
    have hgd : (elP (X.set i q) i q c X.length).getD k zp = addR r q (r.getD c 0) := by rw [List.getD, elP_at _ _ _ _ _ k r h1, if_neg (by omega)]; rfl
    rw [hgd, addR_getD _ _ _ _ (by omega) (by omega), hqj]
theorem Inv.stp {M : Nat → Nat → UInt8} {X : List (List UInt8)} (h : Inv M X.length X) (hn : X.length ≤ 64) (hX : ∀ r ∈ X, r.length = 128) (i : Nat) (hi : i < X.length) : Inv M X.length (stp X i) := by
  by_cases h0 : lf (X.getD i zp) = zr
  · have e : Go.Proofs.Ytecpcocnoengiaa.stp X i = X := by unfold Go.Proofs.Ytecpcocnoengiaa.stp; rw [if_pos h0]
    rw [e]; exact h
  · refine h.elem hn i hi _ (inv_ne _ (fst_ne (getD_wide2 X hX i) h0)) (fun k => ent X k (fst (lf (X.getD i zp)))) (fun k j hk hj => ?_)
    exact stp_ent X hX i hi h0 k j hk hj
theorem Inv.redK {M : Nat → Nat → UInt8} {X : List (List UInt8)} (h : Inv M X.length X) (hn : X.length ≤ 64) (hX : ∀ r ∈ X, r.length = 128) : ∀ k, k ≤ X.length → Inv M X.length (redK X k)
  | 0, _ => h
  | k + 1, hk => by
    have ih := Inv.redK h hn hX k (by omega)
    have hl := redK_len X k
    rw [← hl] at ih ⊢
    exact ih.stp (by omega) (redK_wide X hX k) k (by omega)
theorem ur_getD (k l : Nat) (hk : k < 64) (hl : l < 64) : (ur k).getD l 0 = if l = k then 1 else 0 := by
  rw [List.getD, ur, List.getElem?_set, zr_len]
  by_cases e : k = l
  · subst e; rw [if_pos rfl, if_pos hk, if_pos rfl]; rfl
  · rw [if_neg e, if_neg (fun h => e h.symm), zr, List.getElem?_replicate, if_pos hl]; rfl
/-- The matrix's own numbers. -/
def mat (A : List (List UInt8)) (i j : Nat) : UInt8 := (A.getD i zr).getD j 0
theorem sta_ent (A : List (List UInt8)) (hA : ∀ r ∈ A, r.length = 64) (k : Nat) (hk : k < A.length) : (∀ j, j < 64 → ent (staP A) k j = mat A k j) ∧ ∀ l, l < 64 → k < 64 → ent (staP A) k (64 + l) = if l = k then 1 else 0 := by
  obtain ⟨r, hr⟩ : ∃ r, A[k]? = some r := ⟨_, List.getElem?_eq_getElem hk⟩
  have hrl := hA r (List.mem_of_getElem? hr)
  have e : (staP A).getD k zp = r ++ ur k := by rw [List.getD, staP_at A k r hr]; rfl
  constructor
  · intro j hj
    unfold ent mat
    rw [e, List.getD, List.getElem?_append_left (by omega), show A.getD k zr = r from by rw [List.getD, hr]; rfl, List.getD]
  · intro l hl hk64
    unfold ent
    rw [e, List.getD, List.getElem?_append_right (by omega), hrl, Nat.add_sub_cancel_left]
    exact ur_getD k l hk64 hl
theorem Inv.start (A : List (List UInt8)) (hA : ∀ r ∈ A, r.length = 64) (hn : A.length ≤ 64) : Inv (mat A) A.length (staP A) := by
  constructor
  · intro k j hk hj
    obtain ⟨h1, h2⟩ := sta_ent A hA k hk
    rw [h1 j hj, Sx_one A.length _ k hk (fun i hi hik => by rw [h2 i (by omega) (by omega), if_neg hik, zero_mul]), h2 k (by omega) (by omega), if_pos rfl, one_mul]
  · intro c hc k hk
    have h := hc k hk
    rw [Sx_one A.length _ k hk (fun i hi hik => by rw [(sta_ent A hA i hi).2 k (by omega) (by omega), if_neg (fun e => hik e.symm), mul_zero_right]), (sta_ent A hA k hk).2 k (by omega) (by omega), if_pos rfl, mul_one] at h
    exact h
theorem Inv.red (A : List (List UInt8)) (hA : ∀ r ∈ A, r.length = 64) (hn : A.length ≤ 64) : Inv (mat A) A.length (redP A) := by
  have h := Inv.start A hA hn
  rw [← staP_len A] at h ⊢
  have := h.redK (by rw [staP_len]; exact hn) (staP_wide A hA) A.length (by rw [staP_len]; exact Nat.le_refl _)
  exact this
/-- A matrix that package field calls singular has rows that add up to nothing. -/
theorem sng_ker (A : List (List UInt8)) (hA : ∀ r ∈ A, r.length = 64) (hn : A.length ≤ 64) (hs : sng (redP A) = true) : ∃ v : Nat → UInt8, (∃ i, i < A.length ∧ v i ≠ 0) ∧ ∀ j, j < 64 → Sx A.length (fun i => mul (v i) (mat A i j)) = 0 := by
  have h := Inv.red A hA hn
  unfold sng at hs
  rw [List.any_eq_true] at hs
  obtain ⟨p, hp, hz⟩ := hs
  obtain ⟨k, hk, e⟩ := List.mem_iff_getElem.1 hp
  have hlen : (redP A).length = A.length := by rw [redP, redK_len, staP_len]
  have hkn : k < A.length := by omega
  have hpk : (redP A).getD k zp = p := by rw [List.getD, List.getElem?_eq_getElem hk, e]; rfl
  have hpl : p.length = 128 := redK_wide _ (staP_wide A hA) _ p hp
  have hz' : lf p = zr := by simpa using hz
  refine ⟨fun i => ent (redP A) k (64 + i), ?_, ?_⟩
  · apply Classical.byContradiction
    intro hno
    have hall : ∀ i, i < A.length → ent (redP A) k (64 + i) = 0 := by
      intro i hi
      apply Classical.byContradiction
      intro h1
      exact hno ⟨i, hi, h1⟩
    have := h.ind (fun m => if m = k then 1 else 0) (fun i hi => by
      apply Sx_nil
      intro m hm
      by_cases hmk : m = k
      · rw [if_pos hmk, one_mul, hmk, hall i hi]
      · rw [if_neg hmk, zero_mul]) k hkn
    simp at this
  · intro j hj
    rw [← h.lin k j hkn hj]
    unfold ent
    rw [hpk]
    have : (lf p)[j]? = zr[j]? := by rw [hz']
    rw [lf, List.getElem?_take, if_pos hj, zr, List.getElem?_replicate, if_pos hj] at this
    rw [List.getD, this]; rfl
end Go.Proofs.Ytecpcocnoengiaa
