import Derived.Test.YtecpcocnoengiaaY6
import Derived.Test.YtecpcocnoengiaaY4
/- field.reduced. -/
namespace Go.Proofs.Ytecpcocnoengiaa
open Go.RowKit
set_option linter.unusedSimpArgs false
set_option linter.unusedVariables false
theorem infoP : (Try.prog.info? 68).map (fun i => (i.zero, i.size, i.bytes)) = some (some (.agg (rc zp)), 128, 128) := by kernel_rfl
theorem make_pairs (n : Nat) (hn : n ≤ 64) (u : World) : (Instr.makeSlice 65 (.int .i64 n) (.int .i64 n)).run Try.prog u =
    .ok (.slice (some ⟨u.heap.size, 0, none⟩) n n) (u.alloc (.cells (rc (List.replicate n zp).flatten) 68)) := by
  obtain ⟨i0, hi, hz0, hz1, hz2⟩ := info_parts infoP
  have h := run_make (P := Try.prog) u 65 68 i0 (.agg (rc zp)) Try.underlying65 hi hz0 .i64 .i64 (n : Int) (n : Int) (by omega) (Int.le_refl _) (by rw [hz2]; omega) (by omega)
  rw [Int.toNat_natCast, hz1] at h
  have e := made_rows 128 n (by omega)
  rw [h]
  show Result.ok _ (u.alloc (.cells (madeCells (rc zp) (n * 128)) _)) = _
  rw [show madeCells (rc zp) (n * 128) = _ from e]; rfl
theorem quiet_pairL {o : Oper} {a : Act} {C : World → Prop} {K : Act → Prop} (x : Operand) (ho : o.op = .load 68 x) (g f : Nat) (r : List UInt8) (hx : a.eval x = .pointer (some ⟨g, f, none⟩))
    (hr : r.length = 128) (hc : ∀ w, C w → ∀ j v, (rc r)[j]? = some v → w.cell? ⟨g, f + j, none⟩ = some v) (hn : K (a.put o.dst (.agg (rc r)))) : o.quiet Try.prog a C K :=
  quiet_val (.agg (rc r)) (fun w hw => by
    have h := run_loadAt_mid (P := Try.prog) w g f 68 (rc r).toList _ (fun j v hv => hc w hw j v (by rwa [Array.getElem?_toList] at hv)) Try.underlying68 rfl (by rw [size_pair r hr]; simp)
    unfold execOp
    simp [ho, hx, h]) hn
/-- The worlds of a region: the pairs as they are, all else as it was. -/
structure Pq (wi : World) (R : Nat) (X : List (List UInt8)) (W : World) : Prop where
  x : Bk W R (rc X.flatten) 68
  g : wi.grownBy W (some R)
theorem Pq.below {wi W W' : World} {R : Nat} {X : List (List UInt8)} (h : Pq wi R X W) (hb : Below W.heap.size W W') : Pq wi R X W' :=
  ⟨h.x.grown (gr_of_below hb none) (by simp), h.g.trans (gr_of_below hb _)⟩
theorem Pq.drew {wi W : World} {R : Nat} {X : List (List UInt8)} (h : Pq wi R X W) : Pq wi R X W.drew := h.below (Below.refl _ _).drew
theorem set_fresh {wr w4 : World} {C : Array Value} {T : TypeId} (hg4 : (wr.alloc (.cells C T)).grownBy w4 (some wr.heap.size)) (hs : w4.heap.size = (wr.alloc (.cells C T)).heap.size) : wr.grownBy w4 none := by
  refine ⟨hg4.os, hg4.tape, hg4.output, by rw [hs, al_size]; omega, fun q hq _ => ?_⟩
  rw [hg4.block q (by rw [al_size]; omega) (by simp; omega)]
  exact (World.grownBy_alloc wr _ none).block q hq (by simp)
set_option maxHeartbeats 4000000 in
set_option maxRecDepth 100000 in
theorem reduced_any (a : Option Addr) (ca : Nat) (xs : List ByteArray) (w : World) (hx : TxL w a xs) (nx : xs.length ≤ 64) (hs : ∀ x ∈ xs, x.size ≤ 64) :
    Calls Try.prog 36 #[.slice a xs.length ca] w fun e w' => e = .returned (.slice (some ⟨w.heap.size, 0, none⟩) xs.length xs.length) ∧ Bk w' w.heap.size (rc (redP (arrL xs)).flatten) 68 ∧ Below w.heap.size w w' := by
  have har := fun W hW => arrays_any a ca xs W hW nx hs
  have hwide := arrL_wide xs hs
  obtain ⟨A, hA⟩ : ∃ A, arrL xs = A := ⟨_, rfl⟩
  obtain ⟨n, hn⟩ : ∃ n, xs.length = n := ⟨_, rfl⟩
  have HAL : Hid (A.length = n) := by show A.length = n; rw [← hA, ← hn]; simp [arrL]
  rw [hA] at har hwide ⊢
  rw [hn] at har nx ⊢
  have HAW : Hid (∀ r ∈ A, r.length = 64) := hwide
  have HX : Hid (TxL w a xs) := hx
  have C1 : Hid _ := har
  clear har hwide hA hn hx hs
  have HFW : Hid (∀ r ∈ staP A, r.length = 128) := staP_wide A HAW.out
  have HFL : Hid ((staP A).length = n) := by show (staP A).length = n; rw [staP_len, HAL.out]
  have hzr := (zero_of_info info_row).1
  have hzp := (zero_of_info info_pair).1
  have hmk := make_pairs n nx
  go_enter Try.func36, Try.ntmps36
  go_wp2_with fail
  refine Calls.mono (C1.out _ (HX.out.alloc _)) ?_
  rintro e w1 ⟨rfl, hb1, hl1⟩
  rw [al_size] at hb1 hl1
  have HA1 : Hid (Bk w1 (w.heap.size + 1) (rc A.flatten) 60) := hb1
  have HR1 : Hid (Bk w1 w.heap.size (rc (filP (staP A) 0).flatten) 68) := by
    show Bk _ _ _ _
    rw [filP_zero, HFL.out]
    exact (bk_new w _ _).below hl1 (by omega)
  have HW1 : Hid (Below w.heap.size w w1) := ((Below.refl _ _).alloc (Nat.le_refl _) _).trans (hl1.mono (by omega))
  have hs1 : w.heap.size + 1 < w1.heap.size := hb1.lt
  clear hb1 hl1 hmk C1 HX
  go_wp2_with fail
  go_loopw [16] (fun v wr => ∃ i : Nat, i ≤ n ∧ v = .int .i64 i ∧ Hid (Bk wr w.heap.size (rc (filP (staP A) i).flatten) 68) ∧ Hid (w1.grownBy wr (some w.heap.size))) (fun v _ => n - (intOf v).toNat)
  case atStart => exact ⟨0, by omega, rfl, HR1.out, World.grownBy.refl _ _⟩
  case round =>
    obtain ⟨i, hi, rfl, HXr, HGr⟩ := hrel
    have hsr : w1.heap.size ≤ wr.heap.size := HGr.out.size
    by_cases hlt : i < n
    · obtain ⟨r, hr⟩ : ∃ r, A[i]? = some r := ⟨A[i]'(by rw [HAL.out]; exact hlt), List.getElem?_eq_getElem _⟩
      have HRL : Hid (r.length = 64) := HAW.out r (List.mem_of_getElem? hr)
      have HRi : Hid (A[i]? = some r) := hr
      have HAr : Hid (Bk wr (w.heap.size + 1) (rc A.flatten) 60) := HA1.out.grown HGr.out (by simp)
      have HIr := size_row r HRL.out
      have HXW : Hid (∀ q ∈ filP (staP A) i, q.length = 128) := filP_wide _ HFW.out i
      have HXl : Hid ((filP (staP A) i).length = n) := by show (filP (staP A) i).length = n; rw [filP_len _ _ (by rw [HFL.out]; omega), HFL.out]
      have HXN : Hid ((filP (staP A) i).set i (r ++ ur i) = filP (staP A) (i + 1)) := filP_next _ i _ (staP_at A i r hr)
      have hun := fun W => unit_any i W (by omega)
      have HUN : Hid _ := hun
      have HUL : Hid ((ur i).length = 64) := ur_len i
      generalize ur i = u at *
      generalize filP (staP A) i = X at *
      clear hr hun
      go_wp2_with (first
        | (refine wpList_get rfl 60 (.tmp 19) rfl (w.heap.size + 1) (i * 64) (rc A.flatten) (rc r) 60 _ rfl HAr.out (by intro j v hv; rw [Nat.mul_comm i 64]; exact row_get 64 A HAW.out i r HRi.out j v hv) Try.underlying60 rfl HIr ?_)
        | (refine wpList_put rfl 60 (.tmp 5) (.tmp 20) rfl wr.heap.size 0 (rc zr) (rc r) 60 rfl rfl (bk_new _ _ _) HIr (by rw [rc_size, rc_size, zr_len, HRL.out]; omega) (rc_one _) ?_; intro w4 hb4 hg4 hs4
           have HB4 : Hid (Bk w4 wr.heap.size (rc r) 60) := by have := hb4.out; rw [putC_all _ _ (by rw [zr_len, HRL.out])] at this; exact this
           have HP4 : Hid (Pq w4 w.heap.size X w4) := ⟨(HXr.out.alloc _).grown hg4.out (by simp; omega), World.grownBy.refl _ _⟩
           have HG4 : Hid (w1.grownBy w4 (some w.heap.size)) := HGr.out.trans (gr_of_below (below_of_gr (set_fresh hg4.out hs4)) _)
           clear hb4 hg4 hs4)
        | fail)
      obtain ⟨rb, hrb⟩ : ∃ rb, wr.heap.size = rb := ⟨_, rfl⟩
      rw [hrb] at HB4 hsr ⊢
      have hix : (i : Int) < (n : Nat) := by omega
      refine wp_region_tail (Pq w4 w.heap.size X) 6 (by kernel_rfl) (by kernel_rfl) HP4.out.drew ?_
      simp only [List.take_succ_cons, List.take_zero, List.drop_succ_cons, List.drop_zero]
      simp only [Act.put]
      iterate 2 (go_big_quiet_step (fail))
      go_big_quiet_want
      refine quiet_row (.tmp 5) rfl (rb) (0) (r) rfl HRL.out (fun W hW j v hv => by rw [(HB4.out.grown hW.g (by simp; omega)).cell, Nat.zero_add]; exact hv) ?_
      go_big_quiet_on; simp only [Act.put, List.setIfInBounds_toArray, List.set_cons_zero, List.set_cons_succ]
      iterate 1 (go_big_quiet_step (fail))
      go_big_quiet_want
      refine quiet_call (.agg (rc u)) 34 #[.int .i64 i] ?_ ?_ ?_
      · intro W hW; go_simp; done
      · intro W hW; exact (HUN.out W).mono (fun _ _ h => ⟨h.1, hW.below h.2⟩)
      go_big_quiet_on; simp only [Act.put, List.setIfInBounds_toArray, List.set_cons_zero, List.set_cons_succ]
      go_big_quiet_want
      refine quiet_pair (.tmp 23) (.tmp 25) rfl r u rfl rfl HRL.out HUL.out ?_
      go_big_quiet_on; simp only [Act.put, List.setIfInBounds_toArray, List.set_cons_zero, List.set_cons_succ]
      refine wpQuiet_nil ?_
      intro w9 hw9
      have HP9 : Hid (Pq w4 w.heap.size X w9) := hw9
      have HPL : Hid ((r ++ u).length = 128) := by show (r ++ u).length = 128; rw [List.length_append, HRL.out, HUL.out]
      have HIp := size_pair (r ++ u) HPL.out
      clear hw9 HP4
      go_wp2_with (first
        | (refine wpList_put rfl 68 (.tmp 27) (.tmp 26) rfl w.heap.size (i * 128) (rc X.flatten) (rc (r ++ u)) 68 rfl rfl HP9.out.x HIp (by rw [Nat.mul_comm i 128]; exact row_fits 128 X HXW.out i (by rw [HXl.out]; exact hlt) _ HPL.out) (rc_one _) ?_; intro w6 hb6 hg6 hs7
           have HX6 : Hid (Bk w6 w.heap.size (rc (filP (staP A) (i + 1)).flatten) 68) := by
             have h := hb6.out
             rw [Nat.mul_comm i 128, row_put 128 X HXW.out i (by rw [HXl.out]; exact hlt) _ HPL.out, HXN.out] at h
             exact h
           have HG6 : Hid (w1.grownBy w6 (some w.heap.size)) := HG4.out.trans (HP9.out.g.trans hg6.out)
           clear hb6 hg6 hs7)
        | fail)
      go_roundw
      case rel => exact ⟨i + 1, by omega, by go_num, HX6.out, HG6.out⟩
      case measure => simp [intOf]; omega
    · have hin : i = n := by omega
      have HX0 : Hid (Bk wr w.heap.size (rc (redK (staP A) 0).flatten) 68) := by
        have h := HXr.out
        have e := filP_all (staP A)
        rw [HFL.out] at e
        rw [hin, e] at h
        exact h
      clear hin HXr
      go_wp2
      go_loopw [31] (fun v W => ∃ k : Nat, k ≤ n ∧ v = .int .i64 k ∧ Hid (Bk W w.heap.size (rc (redK (staP A) k).flatten) 68) ∧ Hid (w1.grownBy W (some w.heap.size))) (fun v _ => n - (intOf v).toNat)
      case atStart => exact ⟨0, by omega, rfl, HX0.out, HGr.out⟩
      case round =>
        clear HX0 HGr hlt hi hsr
        obtain ⟨i, hi, rfl, HXr, HGr⟩ := hrel
        have hsr : w1.heap.size ≤ wr.heap.size := HGr.out.size
        by_cases hlt : i < n
        · have hXW := redK_wide (staP A) HFW.out i
          have hXl : (redK (staP A) i).length = n := by rw [redK_len, HFL.out]
          obtain ⟨X, hX⟩ : ∃ X, redK (staP A) i = X := ⟨_, rfl⟩
          have HNX : Hid (redK (staP A) (i + 1) = stp X i) := by show stp (redK (staP A) i) i = _; rw [hX]
          rw [hX] at hXW hXl HXr
          have HXW : Hid (∀ r ∈ X, r.length = 128) := hXW
          have HXl : Hid (X.length = n) := hXl
          obtain ⟨p, hp⟩ : ∃ p, X[i]? = some p := ⟨X[i]'(by rw [hXl]; exact hlt), List.getElem?_eq_getElem _⟩
          have HPi : Hid (X[i]? = some p) := hp
          have HPL : Hid (p.length = 128) := hXW p (List.mem_of_getElem? hp)
          have HPD : Hid (X.getD i zp = p) := by show X.getD i zp = p; rw [List.getD, hp]; rfl
          have HIp := size_pair p HPL.out
          have HLL : Hid ((lf p).length = 64) := lf_len p HPL.out
          have HIl := size_row (lf p) HLL.out
          have hix : (i : Int) < (n : Nat) := by omega
          clear hX hXW hXl hp
          by_cases hz0 : lf p = zr
          · have heq := fun W => eql_rows (lf p) zr HLL.out zr_len W
            rw [decide_eq_true hz0] at heq
            have HSX : Hid (stp X i = X) := by show stp X i = X; unfold stp; rw [HPD.out, if_pos hz0]
            clear hz0
            go_wp2_with (first
              | (refine wpList_get rfl 68 (.tmp 36) rfl w.heap.size (i * 128) (rc X.flatten) (rc p) 68 _ rfl HXr.out (by intro j v hv; rw [Nat.mul_comm i 128]; exact row_get 128 X HXW.out i p HPi.out j v hv) Try.underlying68 rfl HIp ?_)
              | (refine wpList_put rfl 68 (.tmp 7) (.tmp 37) rfl wr.heap.size 0 (rc zp) (rc p) 68 rfl rfl (bk_new _ _ _) HIp (by rw [rc_size, rc_size, zp_len, HPL.out]; omega) (rc_one _) ?_; intro w4 hb4 hg4 hs4
                 have HB4 : Hid (Bk w4 wr.heap.size (rc p) 68) := by have := hb4.out; rw [putC_all _ _ (by rw [zp_len, HPL.out])] at this; exact this
                 have HX4 : Hid (Bk w4 w.heap.size (rc X.flatten) 68) := (HXr.out.alloc _).grown hg4.out (by simp; omega)
                 have HG4 : Hid (w1.grownBy w4 (some w.heap.size)) := HGr.out.trans (gr_of_below (below_of_gr (set_fresh hg4.out hs4)) _)
                 clear hb4 hg4 hs4)
              | (refine wpList_get rfl 60 (.tmp 38) rfl wr.heap.size 0 (rc p) (rc (lf p)) 68 _ rfl HB4.out (by intro j v hv; rw [Nat.zero_add]; exact lf_get p HPL.out j v hv) Try.underlying60 rfl HIl ?_)
              | fail)
            go_roundw
            case rel => exact ⟨i + 1, by omega, by go_num, by show Bk _ _ _ _; rw [HNX.out, HSX.out]; exact HX4.out, HG4.out⟩
            case measure => simp [intOf]; omega
          · have heq := fun W => eql_rows (lf p) zr HLL.out zr_len W
            rw [decide_eq_false hz0] at heq
            have hfl := fst_lt (lf p) HLL.out
            have hfi := fun W => first_any (lf p) W HLL.out
            obtain ⟨c, hc⟩ : ∃ c, fst (lf p) = c := ⟨_, rfl⟩
            rw [hc] at hfl hfi
            obtain ⟨x, hxc⟩ : ∃ x, p[c]? = some x := ⟨_, List.getElem?_eq_getElem (by rw [HPL.out]; omega)⟩
            have HXC : Hid (p[c]? = some x) := hxc
            obtain ⟨q, hq⟩ : ∃ q, addR zp p (inv x) = q := ⟨_, rfl⟩
            have HQL : Hid (q.length = 128) := by show q.length = 128; rw [← hq]; exact addR_len2 _ _ _ zp_len HPL.out
            have HSX : Hid (stp X i = elP (X.set i q) i q c n) := by
              show stp X i = _
              unfold stp
              rw [HPD.out, if_neg hz0, hc, HXl.out, List.getD, hxc]
              show elP (X.set i (addR zp p (inv x))) i (addR zp p (inv x)) c n = _
              rw [hq]
            have had := fun W => added_any zp p (inv x) W zp_len HPL.out
            rw [hq] at had
            have HAD : Hid _ := had
            have HFI : Hid _ := hfi
            have HIq := size_pair q HQL.out
            clear hz0 hc hxc hq had hfi
            go_wp2_with (first
              | (refine wpList_get rfl 68 (.tmp 36) rfl w.heap.size (i * 128) (rc X.flatten) (rc p) 68 _ rfl HXr.out (by intro j v hv; rw [Nat.mul_comm i 128]; exact row_get 128 X HXW.out i p HPi.out j v hv) Try.underlying68 rfl HIp ?_)
              | (refine wpList_put rfl 68 (.tmp 7) (.tmp 37) rfl wr.heap.size 0 (rc zp) (rc p) 68 rfl rfl (bk_new _ _ _) HIp (by rw [rc_size, rc_size, zp_len, HPL.out]; omega) (rc_one _) ?_; intro w4 hb4 hg4 hs4
                 have HB4 : Hid (Bk w4 wr.heap.size (rc p) 68) := by have := hb4.out; rw [putC_all _ _ (by rw [zp_len, HPL.out])] at this; exact this
                 have HX4 : Hid (Bk w4 w.heap.size (rc X.flatten) 68) := (HXr.out.alloc _).grown hg4.out (by simp; omega)
                 have HG4 : Hid (w1.grownBy w4 (some w.heap.size)) := HGr.out.trans (gr_of_below (below_of_gr (set_fresh hg4.out hs4)) _)
                 clear hb4 hg4 hs4)
              | (refine wpList_get rfl 60 (.tmp 38) rfl wr.heap.size 0 (rc p) (rc (lf p)) 68 _ rfl HB4.out (by intro j v hv; rw [Nat.zero_add]; exact lf_get p HPL.out j v hv) Try.underlying60 rfl HIl ?_)
              | (refine wpList_get rfl 60 (.tmp 42) rfl wr.heap.size 0 (rc p) (rc (lf p)) 68 _ rfl HB4.out (by intro j v hv; rw [Nat.zero_add]; exact lf_get p HPL.out j v hv) Try.underlying60 rfl HIl ?_)
              | fail)
            refine Calls.mono (HFI.out _) ?_
            rintro e w5 ⟨rfl, hb5⟩
            obtain ⟨pb, hpb⟩ : ∃ pb, wr.heap.size = pb := ⟨_, rfl⟩
            rw [hpb] at HB4 hsr ⊢
            have HP5 : Hid (Pq w5 w.heap.size X w5) := ⟨HX4.out.grown (gr_of_below hb5 none) (by simp), World.grownBy.refl _ _⟩
            have HB5 : Hid (Bk w5 pb (rc p) 68) := HB4.out.grown (gr_of_below hb5 none) (by simp)
            have HG5 : Hid (w1.grownBy w5 (some w.heap.size)) := HG4.out.trans (gr_of_below hb5 _)
            have hcx : (c : Int) < 64 := by omega
            clear hb5 HB4 HX4 HG4 HXr HGr
            go_wp2
            refine wp_region_tail (Pq w5 w.heap.size X) 10 (by kernel_rfl) (by kernel_rfl) HP5.out.drew ?_
            simp only [List.take_succ_cons, List.take_zero, List.drop_succ_cons, List.drop_zero]
            iterate 2 (go_big_quiet_step (fail))
            go_big_quiet_want
            refine quiet_val (.agg (rc zp)) ?_ ?_
            · intro W hW; go_simp; done
            go_big_quiet_on; simp only [Act.put, List.setIfInBounds_toArray, List.set_cons_zero, List.set_cons_succ]
            go_big_quiet_want
            refine quiet_pairL (.tmp 7) rfl (pb) (0) (p) rfl HPL.out (fun W hW j v hv => by rw [(HB5.out.grown hW.g (by simp; omega)).cell, Nat.zero_add]; exact hv) ?_
            go_big_quiet_on; simp only [Act.put, List.setIfInBounds_toArray, List.set_cons_zero, List.set_cons_succ]
            iterate 1 (go_big_quiet_step (fail))
            go_big_quiet_want
            refine quiet_val (.pointer (some ⟨pb, 0, none⟩)) ?_ ?_
            · intro W hW; go_simp; done
            go_big_quiet_on; simp only [Act.put, List.setIfInBounds_toArray, List.set_cons_zero, List.set_cons_succ]
            go_big_quiet_want
            refine quiet_val (.pointer (some ⟨pb, c, none⟩)) ?_ ?_
            · intro W hW; go_simp; done
            go_big_quiet_on; simp only [Act.put, List.setIfInBounds_toArray, List.set_cons_zero, List.set_cons_succ]
            go_big_quiet_want
            refine quiet_byte (.tmp 51) rfl (pb) (c) x rfl (fun W hW => by rw [(HB5.out.grown hW.g (by simp; omega)).cell, rc_get, HXC.out]; rfl) ?_
            go_big_quiet_on; simp only [Act.put, List.setIfInBounds_toArray, List.set_cons_zero, List.set_cons_succ]
            go_big_quiet_want
            refine quiet_call (c8 (inv x)) 32 #[c8 x] ?_ ?_ ?_
            · intro W hW; go_simp; done
            · intro W hW; exact (inverse_any x W).mono (fun _ _ h => ⟨h.1, by rw [h.2]; exact hW⟩)
            go_big_quiet_on; simp only [Act.put, List.setIfInBounds_toArray, List.set_cons_zero, List.set_cons_succ]
            go_big_quiet_want
            refine quiet_call (.agg (rc q)) 42 #[.agg (rc zp), .agg (rc p), c8 (inv x)] ?_ ?_ ?_
            · intro W hW; go_simp; done
            · intro W hW; exact (HAD.out W).mono (fun _ _ h => ⟨h.1, hW.below h.2⟩)
            go_big_quiet_on; simp only [Act.put, List.setIfInBounds_toArray, List.set_cons_zero, List.set_cons_succ]
            refine wpQuiet_nil ?_
            intro w9 hw9
            have HP9 : Hid (Pq w5 w.heap.size X w9) := hw9
            clear hw9 HP5
            go_wp2_with (first
              | (refine wpList_put rfl 68 (.tmp 55) (.tmp 54) rfl w.heap.size (i * 128) (rc X.flatten) (rc q) 68 rfl rfl HP9.out.x HIq (by rw [Nat.mul_comm i 128]; exact row_fits 128 X HXW.out i (by rw [HXl.out]; exact hlt) _ HQL.out) (rc_one _) ?_; intro w6 hb6 hg6 hs7
                 have HX6 : Hid (Bk w6 w.heap.size (rc (elP (X.set i q) i q c 0).flatten) 68) := by
                   have h := hb6.out
                   rw [Nat.mul_comm i 128, row_put 128 X HXW.out i (by rw [HXl.out]; exact hlt) _ HQL.out] at h
                   show Bk _ _ _ _
                   rw [elP_zero]
                   exact h
                 have HG6 : Hid (w1.grownBy w6 (some w.heap.size)) := HG5.out.trans (HP9.out.g.trans hg6.out)
                 clear hb6 hg6 hs7)
              | fail)
            have HYW : Hid (∀ r ∈ X.set i q, r.length = 128) := set_wide 128 X HXW.out i q HQL.out
            have HYl : Hid ((X.set i q).length = n) := by show (X.set i q).length = n; rw [List.length_set, HXl.out]
            have HYi : Hid ((X.set i q)[i]? = some q) := by show (X.set i q)[i]? = some q; rw [List.getElem?_set, if_pos rfl, if_pos (by rw [HXl.out]; exact hlt)]
            generalize X.set i q = Y at *
            clear HP9 HG5 HB5 HXC HPi HPD HAD HFI
            go_loopw [58] (fun v W => ∃ k : Nat, k ≤ n ∧ v = .int .i64 k ∧ Hid (Bk W w.heap.size (rc (elP Y i q c k).flatten) 68) ∧ Hid (w1.grownBy W (some w.heap.size))) (fun v _ => n - (intOf v).toNat)
            case atStart => exact ⟨0, by omega, rfl, HX6.out, HG6.out⟩
            case round =>
              clear HX6 HG6
              obtain ⟨k, hk, rfl, HXk, HGk⟩ := hrel
              by_cases hlk : k < n
              · by_cases hki : k = i
                · have hkb : ((k : Int) == (i : Int)) = true := by rw [hki]; simp
                  have HSK : Hid (Bk wr w.heap.size (rc (elP Y i q c (k + 1)).flatten) 68) := by
                    show Bk _ _ _ _
                    have h := HXk.out
                    rw [hki] at h ⊢
                    rw [elP_skip]
                    exact h
                  clear hki
                  go_wp2
                  go_roundw
                  case rel => exact ⟨k + 1, by omega, by go_num, HSK.out, HGk.out⟩
                  case measure => simp [intOf]; omega
                · have hkb : ((k : Int) == (i : Int)) = false := by rw [beq_eq_false_iff_ne]; omega
                  obtain ⟨r, hr⟩ : ∃ r, Y[k]? = some r := ⟨Y[k]'(by rw [HYl.out]; exact hlk), List.getElem?_eq_getElem _⟩
                  have HRL : Hid (r.length = 128) := HYW.out r (List.mem_of_getElem? hr)
                  have HEW : Hid (∀ s ∈ elP Y i q c k, s.length = 128) := elP_wide Y HYW.out i q HQL.out c k
                  have HEl : Hid ((elP Y i q c k).length = n) := by show (elP Y i q c k).length = n; rw [elP_len, HYl.out]
                  have HEk : Hid ((elP Y i q c k)[k]? = some r) := by show (elP Y i q c k)[k]? = _; rw [elP_at Y i q c k k r hr, if_pos (by omega)]
                  have HEi : Hid ((elP Y i q c k)[i]? = some q) := by show (elP Y i q c k)[i]? = _; rw [elP_at Y i q c k i q HYi.out, if_pos (.inl rfl)]
                  obtain ⟨y, hyc⟩ : ∃ y, r[c]? = some y := ⟨_, List.getElem?_eq_getElem (by rw [HRL.out]; omega)⟩
                  have HYC : Hid (r[c]? = some y) := hyc
                  have HEN : Hid ((elP Y i q c k).set k (addR r q y) = elP Y i q c (k + 1)) := by
                    have h := elP_next Y i q c k r hr hki
                    rw [List.getD, hyc] at h
                    exact h
                  have HAR : Hid ((addR r q y).length = 128) := addR_len2 r q y HRL.out HQL.out
                  have HIa := size_pair (addR r q y) HAR.out
                  have hkx : (k : Int) < (n : Nat) := by omega
                  generalize elP Y i q c k = E at *
                  clear hr hyc hki
                  go_wp2
                  refine wp_region_tail (Pq wr w.heap.size E) 18 (by kernel_rfl) (by kernel_rfl) (Pq.drew ⟨HXk.out, World.grownBy.refl _ _⟩) ?_
                  simp only [List.take_succ_cons, List.take_zero, List.drop_succ_cons, List.drop_zero]
                  iterate 4 (go_big_quiet_step (fail))
                  go_big_quiet_want
                  refine quiet_val (.pointer (some ⟨w.heap.size, k * 128, none⟩)) ?_ ?_
                  · intro W hW; go_simp; done
                  go_big_quiet_on; simp only [Act.put, List.setIfInBounds_toArray, List.set_cons_zero, List.set_cons_succ]
                  go_big_quiet_want
                  refine quiet_pairL (.tmp 68) rfl (w.heap.size) (k * 128) (r) rfl HRL.out (fun W hW j v hv => by rw [hW.x.cell, Nat.mul_comm k 128]; exact row_get 128 E HEW.out k r HEk.out j v hv) ?_
                  go_big_quiet_on; simp only [Act.put, List.setIfInBounds_toArray, List.set_cons_zero, List.set_cons_succ]
                  iterate 2 (go_big_quiet_step (fail))
                  go_big_quiet_want
                  refine quiet_val (.pointer (some ⟨w.heap.size, i * 128, none⟩)) ?_ ?_
                  · intro W hW; go_simp; done
                  go_big_quiet_on; simp only [Act.put, List.setIfInBounds_toArray, List.set_cons_zero, List.set_cons_succ]
                  go_big_quiet_want
                  refine quiet_pairL (.tmp 72) rfl (w.heap.size) (i * 128) (q) rfl HQL.out (fun W hW j v hv => by rw [hW.x.cell, Nat.mul_comm i 128]; exact row_get 128 E HEW.out i q HEi.out j v hv) ?_
                  go_big_quiet_on; simp only [Act.put, List.setIfInBounds_toArray, List.set_cons_zero, List.set_cons_succ]
                  iterate 3 (go_big_quiet_step (fail))
                  go_big_quiet_want
                  refine quiet_val (.pointer (some ⟨w.heap.size, k * 128, none⟩)) ?_ ?_
                  · intro W hW; go_simp; done
                  go_big_quiet_on; simp only [Act.put, List.setIfInBounds_toArray, List.set_cons_zero, List.set_cons_succ]
                  go_big_quiet_want
                  refine quiet_val (.pointer (some ⟨w.heap.size, k * 128, none⟩)) ?_ ?_
                  · intro W hW; go_simp; done
                  go_big_quiet_on; simp only [Act.put, List.setIfInBounds_toArray, List.set_cons_zero, List.set_cons_succ]
                  go_big_quiet_want
                  refine quiet_val (.pointer (some ⟨w.heap.size, k * 128 + c, none⟩)) ?_ ?_
                  · intro W hW; go_simp; done
                  go_big_quiet_on; simp only [Act.put, List.setIfInBounds_toArray, List.set_cons_zero, List.set_cons_succ]
                  go_big_quiet_want
                  refine quiet_byte (.tmp 79) rfl (w.heap.size) (k * 128 + c) y rfl (fun W hW => by rw [hW.x.cell, rc_get, Nat.mul_comm k 128, flat_get 128 E HEW.out k r HEk.out c (by omega), HYC.out]; rfl) ?_
                  go_big_quiet_on; simp only [Act.put, List.setIfInBounds_toArray, List.set_cons_zero, List.set_cons_succ]
                  go_big_quiet_want
                  refine quiet_call (.agg (rc (addR r q y))) 42 #[.agg (rc r), .agg (rc q), c8 y] ?_ ?_ ?_
                  · intro W hW; go_simp; done
                  · intro W hW; exact (added_any r q y W HRL.out HQL.out).mono (fun _ _ h => ⟨h.1, hW.below h.2⟩)
                  go_big_quiet_on; simp only [Act.put, List.setIfInBounds_toArray, List.set_cons_zero, List.set_cons_succ]
                  refine wpQuiet_nil ?_
                  intro w9 hw9
                  have HP9 : Hid (Pq wr w.heap.size E w9) := hw9
                  clear hw9
                  go_wp2_with (first
                    | (refine wpList_put rfl 68 (.tmp 82) (.tmp 81) rfl w.heap.size (k * 128) (rc E.flatten) (rc (addR r q y)) 68 rfl rfl HP9.out.x HIa (by rw [Nat.mul_comm k 128]; exact row_fits 128 E HEW.out k (by rw [HEl.out]; exact hlk) _ HAR.out) (rc_one _) ?_; intro w6 hb6 hg6 hs7
                       have HX6 : Hid (Bk w6 w.heap.size (rc (elP Y i q c (k + 1)).flatten) 68) := by
                         have h := hb6.out
                         rw [Nat.mul_comm k 128, row_put 128 E HEW.out k (by rw [HEl.out]; exact hlk) _ HAR.out, HEN.out] at h
                         exact h
                       have HG6 : Hid (w1.grownBy w6 (some w.heap.size)) := HGk.out.trans (HP9.out.g.trans hg6.out)
                       clear hb6 hg6 hs7)
                    | fail)
                  go_roundw
                  case rel => exact ⟨k + 1, by omega, by go_num, HX6.out, HG6.out⟩
                  case measure => simp [intOf]; omega
              · have hkn : k = n := by omega
                have HXe : Hid (Bk wr w.heap.size (rc (redK (staP A) (i + 1)).flatten) 68) := by
                  have h := HXk.out
                  rw [hkn, ← HSX.out, ← HNX.out] at h
                  exact h
                clear hkn HXk
                go_wp2
                go_roundw
                case rel => exact ⟨i + 1, by omega, by go_num, HXe.out, HGk.out⟩
                case measure => simp [intOf]; omega
        · have hin : i = n := by omega
          have HXe : Hid (Bk wr w.heap.size (rc (redP A).flatten) 68) := by
            have h := HXr.out
            rw [hin, ← HAL.out] at h
            exact h
          clear hin HXr
          go_wp2
          go_ret
          exact ⟨rfl, HXe.out, below_own HW1.out (by omega) HGr.out (Nat.le_refl _)⟩
end Go.Proofs.Ytecpcocnoengiaa
/- field.Product: the walk. -/
namespace Go.Proofs.Ytecpcocnoengiaa
open Go.RowKit
set_option linter.unusedSimpArgs false
set_option linter.unusedVariables false
theorem isM_parts (xs : List ByteArray) (h : isM xs = true) : (1 ≤ xs.length ∧ xs.length ≤ 64) ∧ (1 ≤ wid xs ∧ wid xs ≤ 64) ∧ ∀ x ∈ xs, x.size = wid xs := by
  simp only [isM, Bool.and_eq_true, decide_eq_true_eq, List.all_eq_true, beq_iff_eq] at h
  exact ⟨h.1.1, h.1.2, h.2⟩
set_option maxHeartbeats 2000000 in
set_option maxRecDepth 100000 in
theorem product_yes (a b : Option Addr) (ca cb : Nat) (xs ys : List ByteArray) (w : World) (hx : TxL w a xs) (hy : TxL w b ys) (mx : isM xs = true) (my : isM ys = true) (he : wid xs = ys.length) :
    Calls Try.prog 27 #[.slice a xs.length ca, .slice b ys.length cb] w fun e w' => ∃ g, e = .returned (.tuple #[.slice (some ⟨g, 0, none⟩) xs.length xs.length, .int .i64 0]) ∧ w.heap.size ≤ g ∧ Bk w' g (txc (txtL (wid ys) (prodL (arrL xs) (arrL ys)))) 9 ∧ Below w.heap.size w w' := by
  obtain ⟨px1, px2, px3⟩ := isM_parts xs mx
  obtain ⟨py1, py2, py3⟩ := isM_parts ys my
  have HX : Hid (TxL w a xs) := hx
  have HY : Hid (TxL w b ys) := hy
  have HXS : Hid (∀ x ∈ xs, x.size ≤ 64) := fun x h => by rw [px3 x h]; exact px2.2
  have HYS : Hid (∀ x ∈ ys, x.size ≤ 64) := fun x h => by rw [py3 x h]; exact py2.2
  have hcx := fun W hW => check_any a ca xs W hW (by omega) (fun x h => by have := HXS.out x h; omega)
  have hcy := fun W hW => check_any b cb ys W hW (by omega) (fun x h => by have := HYS.out x h; omega)
  obtain ⟨k1, k2, k3⟩ := ck_yes xs mx
  obtain ⟨l1, l2, l3⟩ := ck_yes ys my
  rw [k1, k2, k3] at hcx
  rw [l1, l2, l3] at hcy
  have har := fun W hW => arrays_any a ca xs W hW px1.2 HXS.out
  have hbr := fun W hW => arrays_any b cb ys W hW py1.2 HYS.out
  obtain ⟨A, hA⟩ : ∃ A, arrL xs = A := ⟨_, rfl⟩
  obtain ⟨B, hB⟩ : ∃ B, arrL ys = B := ⟨_, rfl⟩
  obtain ⟨n, hn⟩ : ∃ n, xs.length = n := ⟨_, rfl⟩
  obtain ⟨m, hm⟩ : ∃ m, ys.length = m := ⟨_, rfl⟩
  obtain ⟨c, hc⟩ : ∃ c, wid ys = c := ⟨_, rfl⟩
  have HAL : Hid (A.length = n) := by show A.length = n; rw [← hA, ← hn]; simp [arrL]
  have HBL : Hid (B.length = m) := by show B.length = m; rw [← hB, ← hm]; simp [arrL]
  have HAW : Hid (∀ r ∈ A, r.length = 64) := by rw [← hA]; exact arrL_wide xs HXS.out
  have HBW : Hid (∀ r ∈ B, r.length = 64) := by rw [← hB]; exact arrL_wide ys HYS.out
  rw [hA] at har ⊢
  rw [hB] at hbr ⊢
  rw [he, hm, hn] at hcx
  rw [hc, hm] at hcy
  rw [hn] at har px1 ⊢
  rw [hm] at hbr py1
  rw [hc] at py2 ⊢
  rw [hm]
  have C1 : Hid _ := hcx
  have C2 : Hid _ := hcy
  have C3 : Hid _ := har
  have C4 : Hid _ := hbr
  clear hx hy mx my he px2 px3 py3 k1 k2 k3 l1 l2 l3 hcx hcy har hbr hA hB hn hm hc
  have hz := (zero_of_info info_row).1
  have hmk := make_rows n px1.2
  have HI := size_row
  obtain ⟨pn1, pn2⟩ := px1
  obtain ⟨pm1, pm2⟩ := py1
  go_enter Try.func27, Try.ntmps27
  go_wp2_with fail
  refine Calls.mono (C1.out _ HX.out) ?_
  rintro e w1 ⟨rfl, q1, hw1⟩
  subst hw1
  go_wp2_with fail
  refine Calls.mono (C2.out _ (HY.out.drewN q1)) ?_
  rintro e w1 ⟨rfl, q2, hw1⟩
  have HB1 : Hid (Below w.heap.size w w1) := by show Below _ _ _; rw [hw1]; exact below_drewN (below_drewN (Below.refl _ _) _) _
  have hs1 : w1.heap.size = w.heap.size := by rw [hw1]; simp
  clear hw1
  go_wp2_with fail
  refine Calls.mono (C4.out _ ((HY.out.below HB1.out).alloc _)) ?_
  rintro e w2 ⟨rfl, hb2, hl2⟩
  rw [al_size, hs1] at hb2 hl2
  have HB2 : Hid (Bk w2 (w.heap.size + 1) (rc B.flatten) 60) := hb2
  have HR2 : Hid (Bk w2 w.heap.size (rc (prT A B 0).flatten) 60) := by
    have h := bk_new w1 (rc (List.replicate n zr).flatten) 60
    rw [hs1] at h
    have e : prT A B 0 = List.replicate n zr := by simp [prT, HAL.out]
    show Bk _ _ _ _
    rw [e]
    exact h.below hl2 (by omega)
  have HL2 : Hid (Below w.heap.size w w2) := (HB1.out.alloc (by omega) _).trans (hl2.mono (by omega))
  have hs2 : w.heap.size + 1 < w2.heap.size := hb2.lt
  clear hb2 hl2 hmk HB1
  go_wp2_with fail
  refine Calls.mono (C3.out _ (HX.out.below HL2.out)) ?_
  rintro e w3 ⟨rfl, hb3, hl3⟩
  have HA3 : Hid (Bk w3 w2.heap.size (rc A.flatten) 60) := hb3
  have HB3 : Hid (Bk w3 (w.heap.size + 1) (rc B.flatten) 60) := HB2.out.below hl3 hs2
  have HR3 : Hid (Bk w3 w.heap.size (rc (prT A B 0).flatten) 60) := HR2.out.below hl3 (by omega)
  have HL3 : Hid (Below w.heap.size w w3) := HL2.out.trans (hl3.mono (by omega))
  have hs3 : w2.heap.size < w3.heap.size := hb3.lt
  clear hb3 hl3 HB2 HR2 HL2 C1 C2 C3 C4 HX HY HXS HYS
  go_wp2_with fail
  go_loopw [45] (fun v wr => ∃ i : Nat, i ≤ n ∧ v = .int .i64 i ∧ Hid (Bk wr w.heap.size (rc (prT A B i).flatten) 60) ∧ Hid (w3.grownBy wr (some w.heap.size))) (fun v _ => n - (intOf v).toNat)
  case atStart => exact ⟨0, by omega, rfl, HR3.out, World.grownBy.refl _ _⟩
  case round =>
    obtain ⟨i, hi, rfl, HXr, HGr⟩ := hrel
    have hsr : w3.heap.size ≤ wr.heap.size := HGr.out.size
    by_cases hlt : i < n
    · obtain ⟨r, hr⟩ : ∃ r, A[i]? = some r := ⟨A[i]'(by rw [HAL.out]; exact hlt), List.getElem?_eq_getElem _⟩
      have HRL : Hid (r.length = 64) := HAW.out r (List.mem_of_getElem? hr)
      have HRi : Hid (A[i]? = some r) := hr
      have HAr : Hid (Bk wr w2.heap.size (rc A.flatten) 60) := HA3.out.grown HGr.out (by simp; omega)
      have HIr := size_row r HRL.out
      clear hr
      go_wp2_with (first
        | (refine wpList_get rfl 60 (.tmp 48) rfl w2.heap.size (i * 64) (rc A.flatten) (rc r) 60 _ rfl HAr.out (by intro j v hv; rw [Nat.mul_comm i 64]; exact row_get 64 A HAW.out i r HRi.out j v hv) Try.underlying60 rfl HIr ?_)
        | (refine wpList_put rfl 60 (.tmp 14) (.tmp 49) rfl wr.heap.size 0 (rc zr) (rc r) 60 rfl rfl (bk_new _ _ _) HIr (by rw [rc_size, rc_size, zr_len, HRL.out]; omega) (rc_one _) ?_; intro w4 hb4 hg4 hs4
           have HB4 : Hid (Bk w4 wr.heap.size (rc r) 60) := by have := hb4.out; rw [putC_all _ _ (by rw [zr_len, HRL.out])] at this; exact this
           have HX4 : Hid (Bk w4 w.heap.size (rc (prT A B i).flatten) 60) := (HXr.out.alloc _).grown hg4.out (by simp; omega)
           have HG4 : Hid (w3.grownBy w4 (some w.heap.size)) := by
             have h1 : wr.grownBy w4 none := ⟨hg4.out.os, hg4.out.tape, hg4.out.output, by rw [hs4, al_size]; omega, fun q hq _ => by rw [hg4.out.block q (by rw [al_size]; omega) (by simp; omega)]; exact (World.grownBy_alloc wr _ none).block q hq (by simp)⟩
             exact HGr.out.trans (gr_of_below (below_of_gr h1) _)
           have hs5 : w4.heap.size = wr.heap.size + 1 := by rw [hs4, al_size]
           clear hb4 hg4 hs4)
        | fail)
      clear HXr HGr HAr
      obtain ⟨rb, hrb⟩ : ∃ rb, wr.heap.size = rb := ⟨_, rfl⟩
      rw [hrb] at HB4 hs5 hsr ⊢
      clear hrb
      go_loopw [52] (fun v W => ∃ k : Nat, k ≤ m ∧ v = .int .i64 k ∧ Hid (Bk W w.heap.size (rc ((prT A B i).set i (prodK r B k)).flatten) 60) ∧ Hid (w4.grownBy W (some w.heap.size))) (fun v _ => m - (intOf v).toNat)
      case atStart => exact ⟨0, by omega, rfl, by show Bk w4 w.heap.size (rc ((prT A B i).set i zr).flatten) _; rw [set_self _ _ _ (prT_at A B i (by rw [HAL.out]; exact hlt))]; exact HX4.out, World.grownBy.refl _ _⟩
      case round =>
        obtain ⟨k, hk, rfl, HXk, HGk⟩ := hrel
        have hsk : w4.heap.size ≤ wr.heap.size := HGk.out.size
        by_cases hlk : k < m
        · obtain ⟨o, ho⟩ : ∃ o, B[k]? = some o := ⟨B[k]'(by rw [HBL.out]; exact hlk), List.getElem?_eq_getElem _⟩
          have HOL : Hid (o.length = 64) := HBW.out o (List.mem_of_getElem? ho)
          have HOk : Hid (B[k]? = some o) := ho
          have HBk : Hid (Bk wr (w.heap.size + 1) (rc B.flatten) 60) := (HB3.out.grown HG4.out (by simp)).grown HGk.out (by simp)
          have HRk : Hid (Bk wr rb (rc r) 60) := HB4.out.grown HGk.out (by simp; omega)
          have HIo := size_row o HOL.out
          clear ho
          obtain ⟨x, hxk⟩ : ∃ x, r[k]? = some x := ⟨r[k]'(by rw [HRL.out]; omega), List.getElem?_eq_getElem _⟩
          have HXE : Hid (r[k]? = some x) := hxk
          obtain ⟨pk, hpk⟩ : ∃ pk, prodK r B k = pk := ⟨_, rfl⟩
          have hpl : pk.length = 64 := by rw [← hpk]; exact prodK_len r B HBW.out k
          have HPL : Hid (pk.length = 64) := hpl
          have HPN : Hid (prodK r B (k + 1) = addR pk o x) := by
            show addR (prodK r B k) (B.getD k zr) (r.getD k 0) = _
            rw [hpk, List.getD, List.getD, HOk.out, hxk]; rfl
          obtain ⟨X, hX⟩ : ∃ X, (prT A B i).set i pk = X := ⟨_, rfl⟩
          have HXW : Hid (∀ r ∈ X, r.length = 64) := by rw [← hX]; exact set_wide 64 _ (prT_wide A B HBW.out i) i pk hpl
          have hXl : X.length = n := by rw [← hX, List.length_set, prT_len A B i (by rw [HAL.out]; omega), HAL.out]
          have HXl : Hid (X.length = n) := hXl
          have HXi : Hid (X[i]? = some pk) := by show X[i]? = _; rw [← hX, List.getElem?_set]; simp [prT_len A B i (by rw [HAL.out]; omega), HAL.out, hlt]
          have HXS : Hid (∀ s, X.set i s = (prT A B i).set i s) := fun s => by rw [← hX, set_set]
          have HXk2 : Hid (Bk wr w.heap.size (rc X.flatten) 60) := by show Bk _ _ _ _; rw [← hX, ← hpk]; exact HXk.out
          clear hxk hpk hX hXl hpl HXk
          go_wp2_with (first
            | (refine wpList_get rfl 60 (.tmp 55) rfl (w.heap.size + 1) (k * 64) (rc B.flatten) (rc o) 60 _ rfl HBk.out (by intro j v hv; rw [Nat.mul_comm k 64]; exact row_get 64 B HBW.out k o HOk.out j v hv) Try.underlying60 rfl HIo ?_)
            | (refine wpList_put rfl 60 (.tmp 16) (.tmp 56) rfl wr.heap.size 0 (rc zr) (rc o) 60 rfl rfl (bk_new _ _ _) HIo (by rw [rc_size, rc_size, zr_len, HOL.out]; omega) (rc_one _) ?_; intro w5 hb5 hg5 hs6
               have h1 : wr.grownBy w5 none := ⟨hg5.out.os, hg5.out.tape, hg5.out.output, by rw [hs6, al_size]; omega, fun q hq _ => by rw [hg5.out.block q (by rw [al_size]; omega) (by simp; omega)]; exact (World.grownBy_alloc wr _ none).block q hq (by simp)⟩
               have HP5 : Hid (Pc w4 w.heap.size wr.heap.size X o w5) := ⟨(HXk2.out.alloc _).grown hg5.out (by simp; omega), by have := hb5.out; rw [putC_all _ _ (by rw [zr_len, HOL.out])] at this; exact this, HGk.out.trans (gr_of_below (below_of_gr h1) _)⟩
               clear h1 hb5 hg5 hs6)
            | fail)
          obtain ⟨ob, hob⟩ : ∃ ob, wr.heap.size = ob := ⟨_, rfl⟩
          rw [hob] at HP5 hsk ⊢
          have hix : (i : Int) < (n : Nat) := by omega
          have hkx : (k : Int) < 64 := by omega
          refine wp_region_tail (Pc w4 w.heap.size ob X o) 11 (by kernel_rfl) (by kernel_rfl) HP5.out.drew ?_
          simp only [List.take_succ_cons, List.take_zero, List.drop_succ_cons, List.drop_zero]
          simp only [Act.put]
          iterate 4 (go_big_quiet_step (fail))
          go_big_quiet_want
          refine quiet_val (.pointer (some ⟨w.heap.size, i * 64, none⟩)) ?_ ?_
          · intro W hW; go_simp; done
          go_big_quiet_on; simp only [Act.put, List.setIfInBounds_toArray, List.set_cons_zero, List.set_cons_succ]
          go_big_quiet_want
          refine quiet_row (.tmp 61) rfl w.heap.size (i * 64) pk rfl HPL.out (fun W hW j v hv => by rw [hW.x.cell, Nat.mul_comm i 64]; exact row_get 64 X HXW.out i pk HXi.out j v hv) ?_
          go_big_quiet_on; simp only [Act.put, List.setIfInBounds_toArray, List.set_cons_zero, List.set_cons_succ]
          go_big_quiet_want
          refine quiet_row (.tmp 16) rfl ob 0 o rfl HOL.out (fun W hW j v hv => by rw [hW.o.cell, Nat.zero_add]; exact hv) ?_
          go_big_quiet_on; simp only [Act.put, List.setIfInBounds_toArray, List.set_cons_zero, List.set_cons_succ]
          go_big_quiet_step (fail)
          go_big_quiet_want
          refine quiet_val (.pointer (some ⟨rb, k, none⟩)) ?_ ?_
          · intro W hW; go_simp; done
          go_big_quiet_on; simp only [Act.put, List.setIfInBounds_toArray, List.set_cons_zero, List.set_cons_succ]
          go_big_quiet_want
          refine quiet_byte (.tmp 65) rfl rb k x rfl (fun W hW => by rw [(HB4.out.grown hW.g (by simp; omega)).cell, rc_get, HXE.out]; rfl) ?_
          go_big_quiet_on; simp only [Act.put, List.setIfInBounds_toArray, List.set_cons_zero, List.set_cons_succ]
          go_big_quiet_want
          refine quiet_call (.agg (rc (addR pk o x))) 39 #[.agg (rc pk), .agg (rc o), c8 x] ?_ ?_ ?_
          · intro W hW; go_simp; done
          · intro W hW; exact (sum_any pk o x W HPL.out HOL.out).mono (fun _ _ h => ⟨h.1, hW.below h.2⟩)
          go_big_quiet_on; simp only [Act.put, List.setIfInBounds_toArray, List.set_cons_zero, List.set_cons_succ]
          refine wpQuiet_nil ?_
          intro w9 hw9
          have HP9 : Hid (Pc w4 w.heap.size ob X o w9) := hw9
          clear hw9 HP5
          have hal := addR_len pk o x HPL.out HOL.out
          have HAD : Hid ((addR pk o x).length = 64) := hal
          have HIa := size_row (addR pk o x) hal
          clear hal
          go_wp2_with (first
            | (refine wpList_put rfl 60 (.tmp 68) (.tmp 67) rfl w.heap.size (i * 64) (rc X.flatten) (rc (addR pk o x)) 60 rfl rfl HP9.out.x HIa (by rw [Nat.mul_comm i 64]; exact row_fits 64 X HXW.out i (by rw [HXl.out]; exact hlt) _ HAD.out) (rc_one _) ?_; intro w6 hb6 hg6 hs7
               have HX6 : Hid (Bk w6 w.heap.size (rc ((prT A B i).set i (prodK r B (k + 1))).flatten) 60) := by
                 have h := hb6.out
                 rw [Nat.mul_comm i 64, row_put 64 X HXW.out i (by rw [HXl.out]; exact hlt) _ HAD.out, HXS.out, ← HPN.out] at h
                 exact h
               have HG6 : Hid (w4.grownBy w6 (some w.heap.size)) := HP9.out.g.trans hg6.out
               clear hb6 hg6 hs7)
            | fail)
          go_roundw
          case rel => exact ⟨k + 1, by omega, by go_num, HX6.out, HG6.out⟩
          case measure => simp [intOf]; omega
        · have hkm : k = m := by omega
          have HXe : Hid (Bk wr w.heap.size (rc (prT A B (i + 1)).flatten) 60) := by
            have h := HXk.out
            rw [hkm, ← HBL.out] at h
            show Bk _ _ _ _
            rw [← prT_next A B i r HRi.out]
            exact h
          clear hkm HXk
          go_wp2
          go_roundw
          case rel => exact ⟨i + 1, by omega, by go_num, HXe.out, HG4.out.trans HGk.out⟩
          case measure => simp [intOf]; omega
    · have hin : i = n := by omega
      have HXe : Hid (Bk wr w.heap.size (rc (prodL A B).flatten) 60) := by
        have h := HXr.out
        rw [hin, ← HAL.out, prT_all] at h
        exact h
      have HPLn : Hid ((prodL A B).length = n) := by show (prodL A B).length = n; simp [prodL, HAL.out]
      have HPW : Hid (∀ r ∈ prodL A B, r.length = 64) := by
        intro q hq
        obtain ⟨z, _, rfl⟩ := List.mem_map.1 hq
        exact prodK_len z B HBW.out _
      have hbw : Below w.heap.size w wr := below_own HL3.out (by omega) HGr.out (Nat.le_refl _)
      have HBW2 : Hid (Below w.heap.size w wr) := hbw
      have htx := texts_any (prodL A B) w.heap.size c 60 wr HXe.out HPW.out (by rw [HPLn.out]; exact pn2) py2.2
      rw [HPLn.out] at htx
      have HTX : Hid _ := htx
      clear htx hbw hin HXr HGr
      go_wp2_with fail
      refine Calls.mono HTX.out ?_
      rintro e w7 ⟨rfl, hb7, hl7⟩
      have HB7 : Hid _ := hb7
      have HL7 : Hid _ := hl7
      clear hb7 hl7
      go_wp2
      go_ret2
      exact ⟨wr.heap.size, rfl, by omega, HB7.out, HBW2.out.trans (HL7.out.mono (by omega))⟩
end Go.Proofs.Ytecpcocnoengiaa
/- What reduced's pairs are; small matrices. -/
namespace Go.Proofs.Ytecpcocnoengiaa
open Go.RowKit
set_option linter.unusedSimpArgs false
set_option linter.unusedVariables false
theorem redP_len (A : List (List UInt8)) : (redP A).length = A.length := by rw [redP, redK_len, staP_len]
theorem redP_wide (A : List (List UInt8)) (hA : ∀ r ∈ A, r.length = 64) : ∀ p ∈ redP A, p.length = 128 := redK_wide _ (staP_wide A hA) _
/-- What Rank answers of a matrix. -/
def rkM (xs : List ByteArray) : Nat := if isM xs then rkK (redP (arrL xs)) xs.length else 0
theorem isM_small (xs : List ByteArray) (h : isM xs = true) : xs.length ≤ 64 ∧ ∀ x ∈ xs, x.size ≤ 64 := by
  obtain ⟨h1, h2, h3⟩ := isM_parts xs h
  exact ⟨h1.2, fun x hx => by rw [h3 x hx]; exact h2.2⟩
end Go.Proofs.Ytecpcocnoengiaa
