/- field.reduced. -/
import Derived.Test.YtblmblbkfdcbjabK4
namespace Go.Proofs.Ytblmblbkfdcbjab
open Go.RowKit
set_option linter.unusedSimpArgs false
set_option linter.unusedVariables false
theorem infoP : (Try.prog.info? 64).map (fun i => (i.zero, i.size, i.bytes)) = some (some (.agg (rc zp)), 128, 128) := by kernel_rfl
theorem make_pairs (n : Nat) (hn : n ≤ 64) (u : World) : (Instr.makeSlice 61 (.int .i64 n) (.int .i64 n)).run Try.prog u =
    .ok (.slice (some ⟨u.heap.size, 0, none⟩) n n) (u.alloc (.cells (rc (List.replicate n zp).flatten) 64)) := by
  obtain ⟨i0, hi, hz0, hz1, hz2⟩ := info_parts infoP
  have h := run_make (P := Try.prog) u 61 64 i0 (.agg (rc zp)) Try.underlying61 hi hz0 .i64 .i64 (n : Int) (n : Int) (by omega) (Int.le_refl _) (by rw [hz2]; omega) (by omega)
  rw [Int.toNat_natCast, hz1] at h
  have e := made_rows 128 n (by omega)
  rw [h]
  show Result.ok _ (u.alloc (.cells (madeCells (rc zp) (n * 128)) _)) = _
  rw [show madeCells (rc zp) (n * 128) = _ from e]; rfl
theorem quiet_pairL {o : Oper} {a : Act} {C : World → Prop} {K : Act → Prop} (x : Operand) (ho : o.op = .load 64 x) (g f : Nat) (r : List UInt8) (hx : a.eval x = .pointer (some ⟨g, f, none⟩))
    (hr : r.length = 128) (hc : ∀ w, C w → ∀ j v, (rc r)[j]? = some v → w.cell? ⟨g, f + j, none⟩ = some v) (hn : K (a.put o.dst (.agg (rc r)))) : o.quiet Try.prog a C K :=
  quiet_val (.agg (rc r)) (fun w hw => by
    have h := run_loadAt_mid (P := Try.prog) w g f 64 (rc r).toList _ (fun j v hv => hc w hw j v (by rwa [Array.getElem?_toList] at hv)) Try.underlying64 rfl (by rw [size_pair r hr]; simp)
    unfold execOp
    simp [ho, hx, h]) hn
/-- The worlds of a region: the pairs as they are, all else as it was. -/
structure Pq (wi : World) (R : Nat) (X : List (List UInt8)) (W : World) : Prop where
  x : Bk W R (rc X.flatten) 64
  g : wi.grownBy W (some R)
theorem Pq.below {wi W W' : World} {R : Nat} {X : List (List UInt8)} (h : Pq wi R X W) (hb : Below W.heap.size W W') : Pq wi R X W' :=
  ⟨h.x.grown (gr_of_below hb none) (by simp), h.g.trans (gr_of_below hb _)⟩
theorem Pq.drew {wi W : World} {R : Nat} {X : List (List UInt8)} (h : Pq wi R X W) : Pq wi R X W.drew := h.below (Below.refl _ _).drew
theorem set_fresh {wr w4 : World} {C : Array Value} {T : TypeId} (hg4 : (wr.alloc (.cells C T)).grownBy w4 (some wr.heap.size)) (hs : w4.heap.size = (wr.alloc (.cells C T)).heap.size) : wr.grownBy w4 none := by
  refine ⟨hg4.os, hg4.tape, hg4.output, by rw [hs, al_size]; omega, fun q hq _ => ?_⟩
  rw [hg4.block q (by rw [al_size]; omega) (by simp; omega)]
  exact (World.grownBy_alloc wr _ none).block q hq (by simp)
set_option maxHeartbeats 4000000 in
set_option maxRecDepth 100000 in
theorem reduced_any (a : Option Addr) (ca : Nat) (xs : List ByteArray) (w : World) (hx : TxL w a xs) (nx : xs.length ≤ 64) (hs : ∀ x ∈ xs, x.size ≤ 64) :
    Calls Try.prog 33 #[.slice a xs.length ca] w fun e w' => e = .returned (.slice (some ⟨w.heap.size, 0, none⟩) xs.length xs.length) ∧ Bk w' w.heap.size (rc (redP (arrL xs)).flatten) 64 ∧ Below w.heap.size w w' := by
  have har := fun W hW => arrays_any a ca xs W hW nx hs
  have hwide := arrL_wide xs hs
  obtain ⟨A, hA⟩ : ∃ A, arrL xs = A := ⟨_, rfl⟩
  obtain ⟨n, hn⟩ : ∃ n, xs.length = n := ⟨_, rfl⟩
  have HAL : Hid (A.length = n) := by show A.length = n; rw [← hA, ← hn]; simp [arrL]
  rw [hA] at har hwide ⊢
  rw [hn] at har nx ⊢
  have HAW : Hid (∀ r ∈ A, r.length = 64) := hwide
  have HX : Hid (TxL w a xs) := hx
  have C1 : Hid _ := har
  clear har hwide hA hn hx hs
  have HFW : Hid (∀ r ∈ staP A, r.length = 128) := staP_wide A HAW.out
  have HFL : Hid ((staP A).length = n) := by show (staP A).length = n; rw [staP_len, HAL.out]
  have hzr := (zero_of_info info_row).1
  have hzp := (zero_of_info info_pair).1
  have hmk := make_pairs n nx
  go_enter Try.func33, Try.ntmps33
  go_wp2_with fail
  refine Calls.mono (C1.out _ (HX.out.alloc _)) ?_
  rintro e w1 ⟨rfl, hb1, hl1⟩
  rw [al_size] at hb1 hl1
  have HA1 : Hid (Bk w1 (w.heap.size + 1) (rc A.flatten) 56) := hb1
  have HR1 : Hid (Bk w1 w.heap.size (rc (filP (staP A) 0).flatten) 64) := by
    show Bk _ _ _ _
    rw [filP_zero, HFL.out]
    exact (bk_new w _ _).below hl1 (by omega)
  have HW1 : Hid (Below w.heap.size w w1) := ((Below.refl _ _).alloc (Nat.le_refl _) _).trans (hl1.mono (by omega))
  have hs1 : w.heap.size + 1 < w1.heap.size := hb1.lt
  clear hb1 hl1 hmk C1 HX
  go_wp2_with fail
  go_loopw [16] (fun v wr => ∃ i : Nat, i ≤ n ∧ v = .int .i64 i ∧ Hid (Bk wr w.heap.size (rc (filP (staP A) i).flatten) 64) ∧ Hid (w1.grownBy wr (some w.heap.size))) (fun v _ => n - (intOf v).toNat)
  case atStart => exact ⟨0, by omega, rfl, HR1.out, World.grownBy.refl _ _⟩
  case round =>
    obtain ⟨i, hi, rfl, HXr, HGr⟩ := hrel
    have hsr : w1.heap.size ≤ wr.heap.size := HGr.out.size
    by_cases hlt : i < n
    · obtain ⟨r, hr⟩ : ∃ r, A[i]? = some r := ⟨A[i]'(by rw [HAL.out]; exact hlt), List.getElem?_eq_getElem _⟩
      have HRL : Hid (r.length = 64) := HAW.out r (List.mem_of_getElem? hr)
      have HRi : Hid (A[i]? = some r) := hr
      have HAr : Hid (Bk wr (w.heap.size + 1) (rc A.flatten) 56) := HA1.out.grown HGr.out (by simp)
      have HIr := size_row r HRL.out
      have HXW : Hid (∀ q ∈ filP (staP A) i, q.length = 128) := filP_wide _ HFW.out i
      have HXl : Hid ((filP (staP A) i).length = n) := by show (filP (staP A) i).length = n; rw [filP_len _ _ (by rw [HFL.out]; omega), HFL.out]
      have HXN : Hid ((filP (staP A) i).set i (r ++ ur i) = filP (staP A) (i + 1)) := filP_next _ i _ (staP_at A i r hr)
      have hun := fun W => unit_any i W (by omega)
      have HUN : Hid _ := hun
      have HUL : Hid ((ur i).length = 64) := ur_len i
      generalize ur i = u at *
      generalize filP (staP A) i = X at *
      clear hr hun
      go_wp2_with (first
        | (refine wpList_get rfl 56 (.tmp 19) rfl (w.heap.size + 1) (i * 64) (rc A.flatten) (rc r) 56 _ rfl HAr.out (by intro j v hv; rw [Nat.mul_comm i 64]; exact row_get 64 A HAW.out i r HRi.out j v hv) Try.underlying56 rfl HIr ?_)
        | (refine wpList_put rfl 56 (.tmp 5) (.tmp 20) rfl wr.heap.size 0 (rc zr) (rc r) 56 rfl rfl (bk_new _ _ _) HIr (by rw [rc_size, rc_size, zr_len, HRL.out]; omega) (rc_one _) ?_; intro w4 hb4 hg4 hs4
           have HB4 : Hid (Bk w4 wr.heap.size (rc r) 56) := by have := hb4.out; rw [putC_all _ _ (by rw [zr_len, HRL.out])] at this; exact this
           have HP4 : Hid (Pq w4 w.heap.size X w4) := ⟨(HXr.out.alloc _).grown hg4.out (by simp; omega), World.grownBy.refl _ _⟩
           have HG4 : Hid (w1.grownBy w4 (some w.heap.size)) := HGr.out.trans (gr_of_below (below_of_gr (set_fresh hg4.out hs4)) _)
           clear hb4 hg4 hs4)
        | fail)
      obtain ⟨rb, hrb⟩ : ∃ rb, wr.heap.size = rb := ⟨_, rfl⟩
      rw [hrb] at HB4 hsr ⊢
      have hix : (i : Int) < (n : Nat) := by omega
      refine wp_region_tail (Pq w4 w.heap.size X) 6 (by kernel_rfl) (by kernel_rfl) HP4.out.drew ?_
      simp only [List.take_succ_cons, List.take_zero, List.drop_succ_cons, List.drop_zero]
      simp only [Act.put]
      iterate 2 (go_big_quiet_step (fail))
      go_big_quiet_want
      refine quiet_row (.tmp 5) rfl (rb) (0) (r) rfl HRL.out (fun W hW j v hv => by rw [(HB4.out.grown hW.g (by simp; omega)).cell, Nat.zero_add]; exact hv) ?_
      go_big_quiet_on; simp only [Act.put, List.setIfInBounds_toArray, List.set_cons_zero, List.set_cons_succ]
      iterate 1 (go_big_quiet_step (fail))
      go_big_quiet_want
      refine quiet_call (.agg (rc u)) 31 #[.int .i64 i] ?_ ?_ ?_
      · intro W hW; go_simp; done
      · intro W hW; exact (HUN.out W).mono (fun _ _ h => ⟨h.1, hW.below h.2⟩)
      go_big_quiet_on; simp only [Act.put, List.setIfInBounds_toArray, List.set_cons_zero, List.set_cons_succ]
      go_big_quiet_want
      refine quiet_pair (.tmp 23) (.tmp 25) rfl r u rfl rfl HRL.out HUL.out ?_
      go_big_quiet_on; simp only [Act.put, List.setIfInBounds_toArray, List.set_cons_zero, List.set_cons_succ]
      refine wpQuiet_nil ?_
      intro w9 hw9
      have HP9 : Hid (Pq w4 w.heap.size X w9) := hw9
      have HPL : Hid ((r ++ u).length = 128) := by show (r ++ u).length = 128; rw [List.length_append, HRL.out, HUL.out]
      have HIp := size_pair (r ++ u) HPL.out
      clear hw9 HP4
      go_wp2_with (first
        | (refine wpList_put rfl 64 (.tmp 27) (.tmp 26) rfl w.heap.size (i * 128) (rc X.flatten) (rc (r ++ u)) 64 rfl rfl HP9.out.x HIp (by rw [Nat.mul_comm i 128]; exact row_fits 128 X HXW.out i (by rw [HXl.out]; exact hlt) _ HPL.out) (rc_one _) ?_; intro w6 hb6 hg6 hs7
           have HX6 : Hid (Bk w6 w.heap.size (rc (filP (staP A) (i + 1)).flatten) 64) := by
             have h := hb6.out
             rw [Nat.mul_comm i 128, row_put 128 X HXW.out i (by rw [HXl.out]; exact hlt) _ HPL.out, HXN.out] at h
             exact h
           have HG6 : Hid (w1.grownBy w6 (some w.heap.size)) := HG4.out.trans (HP9.out.g.trans hg6.out)
           clear hb6 hg6 hs7)
        | fail)
      go_roundw
      case rel => exact ⟨i + 1, by omega, by go_num, HX6.out, HG6.out⟩
      case measure => simp [intOf]; omega
    · have hin : i = n := by omega
      have HX0 : Hid (Bk wr w.heap.size (rc (redK (staP A) 0).flatten) 64) := by
        have h := HXr.out
        have e := filP_all (staP A)
        rw [HFL.out] at e
        rw [hin, e] at h
        exact h
      clear hin HXr
      go_wp2
      go_loopw [31] (fun v W => ∃ k : Nat, k ≤ n ∧ v = .int .i64 k ∧ Hid (Bk W w.heap.size (rc (redK (staP A) k).flatten) 64) ∧ Hid (w1.grownBy W (some w.heap.size))) (fun v _ => n - (intOf v).toNat)
      case atStart => exact ⟨0, by omega, rfl, HX0.out, HGr.out⟩
      case round =>
        clear HX0 HGr hlt hi hsr
        obtain ⟨i, hi, rfl, HXr, HGr⟩ := hrel
        have hsr : w1.heap.size ≤ wr.heap.size := HGr.out.size
        by_cases hlt : i < n
        · have hXW := redK_wide (staP A) HFW.out i
          have hXl : (redK (staP A) i).length = n := by rw [redK_len, HFL.out]
          obtain ⟨X, hX⟩ : ∃ X, redK (staP A) i = X := ⟨_, rfl⟩
          have HNX : Hid (redK (staP A) (i + 1) = stp X i) := by show stp (redK (staP A) i) i = _; rw [hX]
          rw [hX] at hXW hXl HXr
          have HXW : Hid (∀ r ∈ X, r.length = 128) := hXW
          have HXl : Hid (X.length = n) := hXl
          obtain ⟨p, hp⟩ : ∃ p, X[i]? = some p := ⟨X[i]'(by rw [hXl]; exact hlt), List.getElem?_eq_getElem _⟩
          have HPi : Hid (X[i]? = some p) := hp
          have HPL : Hid (p.length = 128) := hXW p (List.mem_of_getElem? hp)
          have HPD : Hid (X.getD i zp = p) := by show X.getD i zp = p; rw [List.getD, hp]; rfl
          have HIp := size_pair p HPL.out
          have HLL : Hid ((lf p).length = 64) := lf_len p HPL.out
          have HIl := size_row (lf p) HLL.out
          have hix : (i : Int) < (n : Nat) := by omega
          clear hX hXW hXl hp
          by_cases hz0 : lf p = zr
          · have heq := fun W => eql_rows (lf p) zr HLL.out zr_len W
            rw [decide_eq_true hz0] at heq
            have HSX : Hid (stp X i = X) := by show stp X i = X; unfold stp; rw [HPD.out, if_pos hz0]
            clear hz0
            go_wp2_with (first
              | (refine wpList_get rfl 64 (.tmp 36) rfl w.heap.size (i * 128) (rc X.flatten) (rc p) 64 _ rfl HXr.out (by intro j v hv; rw [Nat.mul_comm i 128]; exact row_get 128 X HXW.out i p HPi.out j v hv) Try.underlying64 rfl HIp ?_)
              | (refine wpList_put rfl 64 (.tmp 7) (.tmp 37) rfl wr.heap.size 0 (rc zp) (rc p) 64 rfl rfl (bk_new _ _ _) HIp (by rw [rc_size, rc_size, zp_len, HPL.out]; omega) (rc_one _) ?_; intro w4 hb4 hg4 hs4
                 have HB4 : Hid (Bk w4 wr.heap.size (rc p) 64) := by have := hb4.out; rw [putC_all _ _ (by rw [zp_len, HPL.out])] at this; exact this
                 have HX4 : Hid (Bk w4 w.heap.size (rc X.flatten) 64) := (HXr.out.alloc _).grown hg4.out (by simp; omega)
                 have HG4 : Hid (w1.grownBy w4 (some w.heap.size)) := HGr.out.trans (gr_of_below (below_of_gr (set_fresh hg4.out hs4)) _)
                 clear hb4 hg4 hs4)
              | (refine wpList_get rfl 56 (.tmp 38) rfl wr.heap.size 0 (rc p) (rc (lf p)) 64 _ rfl HB4.out (by intro j v hv; rw [Nat.zero_add]; exact lf_get p HPL.out j v hv) Try.underlying56 rfl HIl ?_)
              | fail)
            go_roundw
            case rel => exact ⟨i + 1, by omega, by go_num, by show Bk _ _ _ _; rw [HNX.out, HSX.out]; exact HX4.out, HG4.out⟩
            case measure => simp [intOf]; omega
          · have heq := fun W => eql_rows (lf p) zr HLL.out zr_len W
            rw [decide_eq_false hz0] at heq
            have hfl := fst_lt (lf p) HLL.out
            have hfi := fun W => first_any (lf p) W HLL.out
            obtain ⟨c, hc⟩ : ∃ c, fst (lf p) = c := ⟨_, rfl⟩
            rw [hc] at hfl hfi
            obtain ⟨x, hxc⟩ : ∃ x, p[c]? = some x := ⟨_, List.getElem?_eq_getElem (by rw [HPL.out]; omega)⟩
            have HXC : Hid (p[c]? = some x) := hxc
            obtain ⟨q, hq⟩ : ∃ q, addR zp p (inv x) = q := ⟨_, rfl⟩
            have HQL : Hid (q.length = 128) := by show q.length = 128; rw [← hq]; exact addR_len2 _ _ _ zp_len HPL.out
            have HSX : Hid (stp X i = elP (X.set i q) i q c n) := by
              show stp X i = _
              unfold stp
              rw [HPD.out, if_neg hz0, hc, HXl.out, List.getD, hxc]
              show elP (X.set i (addR zp p (inv x))) i (addR zp p (inv x)) c n = _
              rw [hq]
            have had := fun W => added_any zp p (inv x) W zp_len HPL.out
            rw [hq] at had
            have HAD : Hid _ := had
            have HFI : Hid _ := hfi
            have HIq := size_pair q HQL.out
            clear hz0 hc hxc hq had hfi
            go_wp2_with (first
              | (refine wpList_get rfl 64 (.tmp 36) rfl w.heap.size (i * 128) (rc X.flatten) (rc p) 64 _ rfl HXr.out (by intro j v hv; rw [Nat.mul_comm i 128]; exact row_get 128 X HXW.out i p HPi.out j v hv) Try.underlying64 rfl HIp ?_)
              | (refine wpList_put rfl 64 (.tmp 7) (.tmp 37) rfl wr.heap.size 0 (rc zp) (rc p) 64 rfl rfl (bk_new _ _ _) HIp (by rw [rc_size, rc_size, zp_len, HPL.out]; omega) (rc_one _) ?_; intro w4 hb4 hg4 hs4
                 have HB4 : Hid (Bk w4 wr.heap.size (rc p) 64) := by have := hb4.out; rw [putC_all _ _ (by rw [zp_len, HPL.out])] at this; exact this
                 have HX4 : Hid (Bk w4 w.heap.size (rc X.flatten) 64) := (HXr.out.alloc _).grown hg4.out (by simp; omega)
                 have HG4 : Hid (w1.grownBy w4 (some w.heap.size)) := HGr.out.trans (gr_of_below (below_of_gr (set_fresh hg4.out hs4)) _)
                 clear hb4 hg4 hs4)
              | (refine wpList_get rfl 56 (.tmp 38) rfl wr.heap.size 0 (rc p) (rc (lf p)) 64 _ rfl HB4.out (by intro j v hv; rw [Nat.zero_add]; exact lf_get p HPL.out j v hv) Try.underlying56 rfl HIl ?_)
              | (refine wpList_get rfl 56 (.tmp 42) rfl wr.heap.size 0 (rc p) (rc (lf p)) 64 _ rfl HB4.out (by intro j v hv; rw [Nat.zero_add]; exact lf_get p HPL.out j v hv) Try.underlying56 rfl HIl ?_)
              | fail)
            refine Calls.mono (HFI.out _) ?_
            rintro e w5 ⟨rfl, hb5⟩
            obtain ⟨pb, hpb⟩ : ∃ pb, wr.heap.size = pb := ⟨_, rfl⟩
            rw [hpb] at HB4 hsr ⊢
            have HP5 : Hid (Pq w5 w.heap.size X w5) := ⟨HX4.out.grown (gr_of_below hb5 none) (by simp), World.grownBy.refl _ _⟩
            have HB5 : Hid (Bk w5 pb (rc p) 64) := HB4.out.grown (gr_of_below hb5 none) (by simp)
            have HG5 : Hid (w1.grownBy w5 (some w.heap.size)) := HG4.out.trans (gr_of_below hb5 _)
            have hcx : (c : Int) < 64 := by omega
            clear hb5 HB4 HX4 HG4 HXr HGr
            go_wp2
            refine wp_region_tail (Pq w5 w.heap.size X) 10 (by kernel_rfl) (by kernel_rfl) HP5.out.drew ?_
            simp only [List.take_succ_cons, List.take_zero, List.drop_succ_cons, List.drop_zero]
            iterate 2 (go_big_quiet_step (fail))
            go_big_quiet_want
            refine quiet_val (.agg (rc zp)) ?_ ?_
            · intro W hW; go_simp; done
            go_big_quiet_on; simp only [Act.put, List.setIfInBounds_toArray, List.set_cons_zero, List.set_cons_succ]
            go_big_quiet_want
            refine quiet_pairL (.tmp 7) rfl (pb) (0) (p) rfl HPL.out (fun W hW j v hv => by rw [(HB5.out.grown hW.g (by simp; omega)).cell, Nat.zero_add]; exact hv) ?_
            go_big_quiet_on; simp only [Act.put, List.setIfInBounds_toArray, List.set_cons_zero, List.set_cons_succ]
            iterate 1 (go_big_quiet_step (fail))
            go_big_quiet_want
            refine quiet_val (.pointer (some ⟨pb, 0, none⟩)) ?_ ?_
            · intro W hW; go_simp; done
            go_big_quiet_on; simp only [Act.put, List.setIfInBounds_toArray, List.set_cons_zero, List.set_cons_succ]
            go_big_quiet_want
            refine quiet_val (.pointer (some ⟨pb, c, none⟩)) ?_ ?_
            · intro W hW; go_simp; done
            go_big_quiet_on; simp only [Act.put, List.setIfInBounds_toArray, List.set_cons_zero, List.set_cons_succ]
            go_big_quiet_want
            refine quiet_byte (.tmp 51) rfl (pb) (c) x rfl (fun W hW => by rw [(HB5.out.grown hW.g (by simp; omega)).cell, rc_get, HXC.out]; rfl) ?_
            go_big_quiet_on; simp only [Act.put, List.setIfInBounds_toArray, List.set_cons_zero, List.set_cons_succ]
            go_big_quiet_want
            refine quiet_call (c8 (inv x)) 29 #[c8 x] ?_ ?_ ?_
            · intro W hW; go_simp; done
            · intro W hW; exact (inverse_any x W).mono (fun _ _ h => ⟨h.1, by rw [h.2]; exact hW⟩)
            go_big_quiet_on; simp only [Act.put, List.setIfInBounds_toArray, List.set_cons_zero, List.set_cons_succ]
            go_big_quiet_want
            refine quiet_call (.agg (rc q)) 39 #[.agg (rc zp), .agg (rc p), c8 (inv x)] ?_ ?_ ?_
            · intro W hW; go_simp; done
            · intro W hW; exact (HAD.out W).mono (fun _ _ h => ⟨h.1, hW.below h.2⟩)
            go_big_quiet_on; simp only [Act.put, List.setIfInBounds_toArray, List.set_cons_zero, List.set_cons_succ]
            refine wpQuiet_nil ?_
            intro w9 hw9
            have HP9 : Hid (Pq w5 w.heap.size X w9) := hw9
            clear hw9 HP5
            go_wp2_with (first
              | (refine wpList_put rfl 64 (.tmp 55) (.tmp 54) rfl w.heap.size (i * 128) (rc X.flatten) (rc q) 64 rfl rfl HP9.out.x HIq (by rw [Nat.mul_comm i 128]; exact row_fits 128 X HXW.out i (by rw [HXl.out]; exact hlt) _ HQL.out) (rc_one _) ?_; intro w6 hb6 hg6 hs7
                 have HX6 : Hid (Bk w6 w.heap.size (rc (elP (X.set i q) i q c 0).flatten) 64) := by
                   have h := hb6.out
                   rw [Nat.mul_comm i 128, row_put 128 X HXW.out i (by rw [HXl.out]; exact hlt) _ HQL.out] at h
                   show Bk _ _ _ _
                   rw [elP_zero]
                   exact h
                 have HG6 : Hid (w1.grownBy w6 (some w.heap.size)) := HG5.out.trans (HP9.out.g.trans hg6.out)
                 clear hb6 hg6 hs7)
              | fail)
            have HYW : Hid (∀ r ∈ X.set i q, r.length = 128) := set_wide 128 X HXW.out i q HQL.out
            have HYl : Hid ((X.set i q).length = n) := by show (X.set i q).length = n; rw [List.length_set, HXl.out]
            have HYi : Hid ((X.set i q)[i]? = some q) := by show (X.set i q)[i]? = some q; rw [List.getElem?_set, if_pos rfl, if_pos (by rw [HXl.out]; exact hlt)]
            generalize X.set i q = Y at *
            clear HP9 HG5 HB5 HXC HPi HPD HAD HFI
            go_loopw [58] (fun v W => ∃ k : Nat, k ≤ n ∧ v = .int .i64 k ∧ Hid (Bk W w.heap.size (rc (elP Y i q c k).flatten) 64) ∧ Hid (w1.grownBy W (some w.heap.size))) (fun v _ => n - (intOf v).toNat)
            case atStart => exact ⟨0, by omega, rfl, HX6.out, HG6.out⟩
            case round =>
              clear HX6 HG6
              obtain ⟨k, hk, rfl, HXk, HGk⟩ := hrel
              by_cases hlk : k < n
              · by_cases hki : k = i
                · have hkb : ((k : Int) == (i : Int)) = true := by rw [hki]; simp
                  have HSK : Hid (Bk wr w.heap.size (rc (elP Y i q c (k + 1)).flatten) 64) := by
                    show Bk _ _ _ _
                    have h := HXk.out
                    rw [hki] at h ⊢
                    rw [elP_skip]
                    exact h
                  clear hki
                  go_wp2
                  go_roundw
                  case rel => exact ⟨k + 1, by omega, by go_num, HSK.out, HGk.out⟩
                  case measure => simp [intOf]; omega
                · have hkb : ((k : Int) == (i : Int)) = false := by rw [beq_eq_false_iff_ne]; omega
                  obtain ⟨r, hr⟩ : ∃ r, Y[k]? = some r := ⟨Y[k]'(by rw [HYl.out]; exact hlk), List.getElem?_eq_getElem _⟩
                  have HRL : Hid (r.length = 128) := HYW.out r (List.mem_of_getElem? hr)
                  have HEW : Hid (∀ s ∈ elP Y i q c k, s.length = 128) := elP_wide Y HYW.out i q HQL.out c k
                  have HEl : Hid ((elP Y i q c k).length = n) := by show (elP Y i q c k).length = n; rw [elP_len, HYl.out]
                  have HEk : Hid ((elP Y i q c k)[k]? = some r) := by show (elP Y i q c k)[k]? = _; rw [elP_at Y i q c k k r hr, if_pos (by omega)]
                  have HEi : Hid ((elP Y i q c k)[i]? = some q) := by show (elP Y i q c k)[i]? = _; rw [elP_at Y i q c k i q HYi.out, if_pos (.inl rfl)]
                  obtain ⟨y, hyc⟩ : ∃ y, r[c]? = some y := ⟨_, List.getElem?_eq_getElem (by rw [HRL.out]; omega)⟩
                  have HYC : Hid (r[c]? = some y) := hyc
                  have HEN : Hid ((elP Y i q c k).set k (addR r q y) = elP Y i q c (k + 1)) := by
                    have h := elP_next Y i q c k r hr hki
                    rw [List.getD, hyc] at h
                    exact h
                  have HAR : Hid ((addR r q y).length = 128) := addR_len2 r q y HRL.out HQL.out
                  have HIa := size_pair (addR r q y) HAR.out
                  have hkx : (k : Int) < (n : Nat) := by omega
                  generalize elP Y i q c k = E at *
                  clear hr hyc hki
                  go_wp2
                  refine wp_region_tail (Pq wr w.heap.size E) 18 (by kernel_rfl) (by kernel_rfl) (Pq.drew ⟨HXk.out, World.grownBy.refl _ _⟩) ?_
                  simp only [List.take_succ_cons, List.take_zero, List.drop_succ_cons, List.drop_zero]
                  iterate 4 (go_big_quiet_step (fail))
                  go_big_quiet_want
                  refine quiet_val (.pointer (some ⟨w.heap.size, k * 128, none⟩)) ?_ ?_
                  · intro W hW; go_simp; done
                  go_big_quiet_on; simp only [Act.put, List.setIfInBounds_toArray, List.set_cons_zero, List.set_cons_succ]
                  go_big_quiet_want
                  refine quiet_pairL (.tmp 68) rfl (w.heap.size) (k * 128) (r) rfl HRL.out (fun W hW j v hv => by rw [hW.x.cell, Nat.mul_comm k 128]; exact row_get 128 E HEW.out k r HEk.out j v hv) ?_
                  go_big_quiet_on; simp only [Act.put, List.setIfInBounds_toArray, List.set_cons_zero, List.set_cons_succ]
                  iterate 2 (go_big_quiet_step (fail))
                  go_big_quiet_want
                  refine quiet_val (.pointer (some ⟨w.heap.size, i * 128, none⟩)) ?_ ?_
                  · intro W hW; go_simp; done
                  go_big_quiet_on; simp only [Act.put, List.setIfInBounds_toArray, List.set_cons_zero, List.set_cons_succ]
                  go_big_quiet_want
                  refine quiet_pairL (.tmp 72) rfl (w.heap.size) (i * 128) (q) rfl HQL.out (fun W hW j v hv => by rw [hW.x.cell, Nat.mul_comm i 128]; exact row_get 128 E HEW.out i q HEi.out j v hv) ?_
                  go_big_quiet_on; simp only [Act.put, List.setIfInBounds_toArray, List.set_cons_zero, List.set_cons_succ]
                  iterate 3 (go_big_quiet_step (fail))
                  go_big_quiet_want
                  refine quiet_val (.pointer (some ⟨w.heap.size, k * 128, none⟩)) ?_ ?_
                  · intro W hW; go_simp; done
                  go_big_quiet_on; simp only [Act.put, List.setIfInBounds_toArray, List.set_cons_zero, List.set_cons_succ]
                  go_big_quiet_want
                  refine quiet_val (.pointer (some ⟨w.heap.size, k * 128, none⟩)) ?_ ?_
                  · intro W hW; go_simp; done
                  go_big_quiet_on; simp only [Act.put, List.setIfInBounds_toArray, List.set_cons_zero, List.set_cons_succ]
                  go_big_quiet_want
                  refine quiet_val (.pointer (some ⟨w.heap.size, k * 128 + c, none⟩)) ?_ ?_
                  · intro W hW; go_simp; done
                  go_big_quiet_on; simp only [Act.put, List.setIfInBounds_toArray, List.set_cons_zero, List.set_cons_succ]
                  go_big_quiet_want
                  refine quiet_byte (.tmp 79) rfl (w.heap.size) (k * 128 + c) y rfl (fun W hW => by rw [hW.x.cell, rc_get, Nat.mul_comm k 128, flat_get 128 E HEW.out k r HEk.out c (by omega), HYC.out]; rfl) ?_
                  go_big_quiet_on; simp only [Act.put, List.setIfInBounds_toArray, List.set_cons_zero, List.set_cons_succ]
                  go_big_quiet_want
                  refine quiet_call (.agg (rc (addR r q y))) 39 #[.agg (rc r), .agg (rc q), c8 y] ?_ ?_ ?_
                  · intro W hW; go_simp; done
                  · intro W hW; exact (added_any r q y W HRL.out HQL.out).mono (fun _ _ h => ⟨h.1, hW.below h.2⟩)
                  go_big_quiet_on; simp only [Act.put, List.setIfInBounds_toArray, List.set_cons_zero, List.set_cons_succ]
                  refine wpQuiet_nil ?_
                  intro w9 hw9
                  have HP9 : Hid (Pq wr w.heap.size E w9) := hw9
                  clear hw9
                  go_wp2_with (first
                    | (refine wpList_put rfl 64 (.tmp 82) (.tmp 81) rfl w.heap.size (k * 128) (rc E.flatten) (rc (addR r q y)) 64 rfl rfl HP9.out.x HIa (by rw [Nat.mul_comm k 128]; exact row_fits 128 E HEW.out k (by rw [HEl.out]; exact hlk) _ HAR.out) (rc_one _) ?_; intro w6 hb6 hg6 hs7
                       have HX6 : Hid (Bk w6 w.heap.size (rc (elP Y i q c (k + 1)).flatten) 64) := by
                         have h := hb6.out
                         rw [Nat.mul_comm k 128, row_put 128 E HEW.out k (by rw [HEl.out]; exact hlk) _ HAR.out, HEN.out] at h
                         exact h
                       have HG6 : Hid (w1.grownBy w6 (some w.heap.size)) := HGk.out.trans (HP9.out.g.trans hg6.out)
                       clear hb6 hg6 hs7)
                    | fail)
                  go_roundw
                  case rel => exact ⟨k + 1, by omega, by go_num, HX6.out, HG6.out⟩
                  case measure => simp [intOf]; omega
              · have hkn : k = n := by omega
                have HXe : Hid (Bk wr w.heap.size (rc (redK (staP A) (i + 1)).flatten) 64) := by
                  have h := HXk.out
                  rw [hkn, ← HSX.out, ← HNX.out] at h
                  exact h
                clear hkn HXk
                go_wp2
                go_roundw
                case rel => exact ⟨i + 1, by omega, by go_num, HXe.out, HGk.out⟩
                case measure => simp [intOf]; omega
        · have hin : i = n := by omega
          have HXe : Hid (Bk wr w.heap.size (rc (redP A).flatten) 64) := by
            have h := HXr.out
            rw [hin, ← HAL.out] at h
            exact h
          clear hin HXr
          go_wp2
          go_ret
          exact ⟨rfl, HXe.out, below_own HW1.out (by omega) HGr.out (Nat.le_refl _)⟩
end Go.Proofs.Ytblmblbkfdcbjab
