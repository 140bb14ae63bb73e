/- field.Inverse. -/
import Derived.Test.YtblmblbkfdcbjabF19H
import Derived.Test.YtblmblbkfdcbjabM4
namespace Go.Proofs.Ytblmblbkfdcbjab
open Go.RowKit
set_option linter.unusedSimpArgs false
set_option linter.unusedVariables false
/-- What Inverse answers. -/
def ivX (xs : List ByteArray) : List ByteArray := if isM xs && decide (wid xs = xs.length) && !sng (redP (arrL xs)) then txtL (wid xs) (ivK (redP (arrL xs)) xs.length xs.length) else []
def ivE (xs : List ByteArray) : Nat := if isM xs && decide (wid xs = xs.length) then (if sng (redP (arrL xs)) then 60 else 0) else 1
theorem ivX_len (xs : List ByteArray) : (ivX xs).length ≤ 64 := by
  unfold ivX
  split
  · rename_i h
    simp only [Bool.and_eq_true] at h
    have := (isM_small xs h.1.1).1
    rw [show (txtL (wid xs) (ivK (redP (arrL xs)) xs.length xs.length)).length = (ivK (redP (arrL xs)) xs.length xs.length).length from by simp [txtL], ivK_len]
    exact this
  · simp
theorem sng_false {X : List (List UInt8)} (h : ∀ (k : Nat) p, X[k]? = some p → lf p ≠ zr) : sng X = false := by
  unfold sng
  rw [Bool.eq_false_iff]
  intro e
  rw [List.any_eq_true] at e
  obtain ⟨p, hp, h1⟩ := e
  obtain ⟨k, hk, e2⟩ := List.mem_iff_getElem.1 hp
  exact h k p (by rw [List.getElem?_eq_getElem hk, e2]) (by simpa using h1)
theorem sng_true {X : List (List UInt8)} (k : Nat) (p : List UInt8) (h : X[k]? = some p) (hz : lf p = zr) : sng X = true := by
  unfold sng
  rw [List.any_eq_true]
  exact ⟨p, List.mem_of_getElem? h, by simp [hz]⟩
/-- The worlds of the region that lays a row of the inverse. -/
structure Pr (wi : World) (R : Nat) (X : List (List UInt8)) (W : World) : Prop where
  x : Bk W R (rc X.flatten) 56
  g : wi.grownBy W (some R)
theorem Pr.below {wi W W' : World} {R : Nat} {X : List (List UInt8)} (h : Pr wi R X W) (hb : Below W.heap.size W W') : Pr wi R X W' :=
  ⟨h.x.grown (gr_of_below hb none) (by simp), h.g.trans (gr_of_below hb _)⟩
theorem Pr.drew {wi W : World} {R : Nat} {X : List (List UInt8)} (h : Pr wi R X W) : Pr wi R X W.drew := h.below (Below.refl _ _).drew
set_option maxHeartbeats 4000000 in
set_option maxRecDepth 100000 in
theorem invert_any (a : Option Addr) (c : Nat) (xs : List ByteArray) (w : World) (hx : TxL w a xs) (nx : xs.length ≤ 4611686018427387904) (hs : ∀ x ∈ xs, x.size ≤ 4611686018427387904) :
    Calls Try.prog 23 #[.slice a xs.length c] w fun e w' => ∃ ao, e = .returned (.tuple #[.slice ao (ivX xs).length (ivX xs).length, .int .i64 (ivE xs)]) ∧ Mad w ao (ivX xs) w' ∧ Below w.heap.size w w' := by
  have hck := check_any a c xs w hx nx hs
  by_cases hm : isM xs = true
  · obtain ⟨k1, k2, k3⟩ := ck_yes xs hm
    rw [k1, k2, k3] at hck
    by_cases hsq : wid xs = xs.length
    · obtain ⟨s1, s2⟩ := isM_small xs hm
      have hrd := fun W hW => reduced_any a c xs W hW s1 s2
      have hwd := redP_wide (arrL xs) (arrL_wide xs s2)
      have hln : (redP (arrL xs)).length = xs.length := by rw [redP_len]; simp [arrL]
      have hzb := zb_red xs.length xs (fun x hx => by rw [← hsq, (isM_parts xs hm).2.2 x hx]; exact Nat.le_refl _) s1
      have HX0 : Hid (sng (redP (arrL xs)) = true → ivX xs = [] ∧ ivE xs = 60) := fun h => ⟨by unfold ivX; rw [h]; simp, by unfold ivE; rw [hm, decide_eq_true hsq, h]; rfl⟩
      have HX1 : Hid (sng (redP (arrL xs)) = false → ivX xs = txtL xs.length (ivK (redP (arrL xs)) xs.length xs.length) ∧ ivE xs = 0) := fun h => ⟨by unfold ivX; rw [hm, h, decide_eq_true hsq, hsq]; rfl, by unfold ivE; rw [hm, decide_eq_true hsq, h]; rfl⟩
      rw [hsq] at hck
      generalize ivX xs = V at *
      generalize ivE xs = E at *
      obtain ⟨X, hX⟩ : ∃ X, redP (arrL xs) = X := ⟨_, rfl⟩
      rw [hX] at hrd hwd hln hzb HX0 HX1
      obtain ⟨n, hn⟩ : ∃ n, xs.length = n := ⟨_, rfl⟩
      rw [hn] at hck hrd hln HX1 s1 hzb ⊢
      have HXW : Hid (∀ p ∈ X, p.length = 128) := hwd
      have HXl : Hid (X.length = n) := hln
      have HZB : Hid (∀ p ∈ X, zb n p) := hzb
      have HX : Hid (TxL w a xs) := hx
      have C1 : Hid _ := hck
      have C2 : Hid _ := hrd
      have hzr := (zero_of_info info_row).1
      have hzp := (zero_of_info info_pair).1
      have hmk := make_rows n s1
      clear hck hrd hwd hln hx hX hn hm hsq k1 k2 k3 s2 hs nx hzb
      go_enter Try.func23, Try.ntmps23
      go_wp2_with fail
      refine Calls.mono C1.out ?_
      rintro e w1 ⟨rfl, q1, hw1⟩
      have B1 : Hid (Below w.heap.size w w1) := by show Below _ _ _; rw [hw1]; exact below_drewN (Below.refl _ _) _
      have hs1 : w.heap.size ≤ w1.heap.size := B1.out.size
      clear hw1
      go_wp2_with fail
      refine Calls.mono (C2.out _ ((HX.out.below B1.out).alloc _)) ?_
      rintro e w2 ⟨rfl, hb2, hl2⟩
      rw [al_size] at hb2 hl2
      have HB2 : Hid (Bk w2 (w1.heap.size + 1) (rc X.flatten) 64) := hb2
      have HR2 : Hid (Bk w2 w1.heap.size (rc (ivK X n 0).flatten) 56) := (bk_new w1 _ _).below hl2 (by omega)
      have B2 : Hid (Below w1.heap.size w1 w2) := ((Below.refl _ _).alloc (Nat.le_refl _) _).trans (hl2.mono (by omega))
      have hs2 : w1.heap.size + 1 < w2.heap.size := hb2.lt
      clear hb2 hl2 C1 C2 HX hmk
      go_wp2_with fail
      go_loopw [27] (fun v wr => ∃ k : Nat, k ≤ n ∧ v = .int .i64 k ∧ Hid (Bk wr w1.heap.size (rc (ivK X n k).flatten) 56) ∧ Hid (w2.grownBy wr (some w1.heap.size)) ∧ Hid (∀ (i : Nat) p, i < k → X[i]? = some p → lf p ≠ zr)) (fun v _ => n - (intOf v).toNat)
      case atStart => exact ⟨0, by omega, rfl, HR2.out, World.grownBy.refl _ _, fun i p h => by omega⟩
      case round =>
        obtain ⟨k, hk, rfl, HXr, HG, HNZ⟩ := hrel
        have hsr : w2.heap.size ≤ wr.heap.size := HG.out.size
        by_cases hlt : k < n
        · obtain ⟨p, hp⟩ : ∃ p, X[k]? = some p := ⟨X[k]'(by rw [HXl.out]; exact hlt), List.getElem?_eq_getElem _⟩
          have HPk : Hid (X[k]? = some p) := hp
          have HPL : Hid (p.length = 128) := HXW.out p (List.mem_of_getElem? hp)
          have HLL : Hid ((lf p).length = 64) := lf_len p HPL.out
          have HTL : Hid ((rt p).length = 64) := rt_len p HPL.out
          have HIp := size_pair p HPL.out
          have HIl := size_row (lf p) HLL.out
          have HIt := size_row (rt p) HTL.out
          have HBr : Hid (Bk wr (w1.heap.size + 1) (rc X.flatten) 64) := HB2.out.grown HG.out (by simp)
          have hkz : (k : Int) < (n : Nat) := by omega
          have hnq := fun W => eql_rows (lf p) zr HLL.out zr_len W
          by_cases hz0 : lf p = zr
          · rw [decide_eq_true hz0] at hnq
            have HS : Hid (V = [] ∧ E = 60) := HX0.out (sng_true k p hp hz0)
            clear hz0 hp
            go_wp2_with (first
              | (refine wpList_get rfl 64 (.tmp 29) rfl (w1.heap.size + 1) (k * 128) (rc X.flatten) (rc p) 64 _ rfl HBr.out (by intro j v hv; rw [Nat.mul_comm k 128]; exact row_get 128 X HXW.out k p HPk.out j v hv) Try.underlying64 rfl HIp ?_)
              | (refine wpList_put rfl 64 (.tmp 9) (.tmp 30) rfl wr.heap.size 0 (rc zp) (rc p) 64 rfl rfl (bk_new _ _ _) HIp (by rw [rc_size, rc_size, zp_len, HPL.out]; omega) (rc_one _) ?_; intro w4 hb4 hg4 hs4
                 have HB4 : Hid (Bk w4 wr.heap.size (rc p) 64) := by have := hb4.out; rw [putC_all _ _ (by rw [zp_len, HPL.out])] at this; exact this
                 have HG4 : Hid (wr.grownBy w4 none) := set_fresh hg4.out hs4
                 clear hb4 hg4 hs4)
              | (refine wpList_get rfl 56 (.tmp 31) rfl wr.heap.size 0 (rc p) (rc (lf p)) 64 _ rfl HB4.out (by intro j v hv; rw [Nat.zero_add]; exact lf_get p HPL.out j v hv) Try.underlying56 rfl HIl ?_)
              | fail)
            go_ret2
            refine ⟨none, by rw [HS.out.1, HS.out.2]; rfl, by rw [HS.out.1]; exact .inl ⟨rfl, rfl⟩, ?_⟩
            exact B1.out.trans ((below_own B2.out (by omega) (HG.out.trans (gr_of_below (below_of_gr HG4.out) _)) (Nat.le_refl _)).mono hs1)
          · rw [decide_eq_false hz0] at hnq
            have hcn := fst_zb HPL.out (HZB.out p (List.mem_of_getElem? hp)) hz0
            have hfi := fun W => first_any (lf p) W HLL.out
            have HNX : Hid (ivK X n (k + 1) = (ivK X n k).set (fst (lf p)) (rt p)) := by show (ivK X n k).set (fst (lf (X.getD k zp))) (rt (X.getD k zp)) = _; rw [List.getD, hp]; rfl
            have HNZ2 : Hid (∀ (i : Nat) q, i < k + 1 → X[i]? = some q → lf q ≠ zr) := by
              intro i q hi hq
              by_cases e : i < k
              · exact HNZ.out i q e hq
              · obtain rfl : i = k := by omega
                rw [hp] at hq; cases hq; exact hz0
            obtain ⟨c, hc⟩ : ∃ c, fst (lf p) = c := ⟨_, rfl⟩
            rw [hc] at hcn hfi HNX
            have HFI : Hid _ := hfi
            have HYW : Hid (∀ r ∈ ivK X n k, r.length = 64) := ivK_wide X HXW.out n k
            have HYl : Hid ((ivK X n k).length = n) := ivK_len X n k
            generalize ivK X n k = Y at *
            clear hz0 hp hc hfi HNZ
            have hcx : (c : Int) < (n : Nat) := by omega
            go_wp2_with (first
              | (refine wpList_get rfl 64 (.tmp 29) rfl (w1.heap.size + 1) (k * 128) (rc X.flatten) (rc p) 64 _ rfl HBr.out (by intro j v hv; rw [Nat.mul_comm k 128]; exact row_get 128 X HXW.out k p HPk.out j v hv) Try.underlying64 rfl HIp ?_)
              | (refine wpList_put rfl 64 (.tmp 9) (.tmp 30) rfl wr.heap.size 0 (rc zp) (rc p) 64 rfl rfl (bk_new _ _ _) HIp (by rw [rc_size, rc_size, zp_len, HPL.out]; omega) (rc_one _) ?_; intro w4 hb4 hg4 hs4
                 have HB4 : Hid (Bk w4 wr.heap.size (rc p) 64) := by have := hb4.out; rw [putC_all _ _ (by rw [zp_len, HPL.out])] at this; exact this
                 have HG4 : Hid (wr.grownBy w4 none) := set_fresh hg4.out hs4
                 clear hb4 hg4 hs4)
              | (refine wpList_get rfl 56 (.tmp 31) rfl wr.heap.size 0 (rc p) (rc (lf p)) 64 _ rfl HB4.out (by intro j v hv; rw [Nat.zero_add]; exact lf_get p HPL.out j v hv) Try.underlying56 rfl HIl ?_)
              | fail)
            obtain ⟨pb, hpb⟩ : ∃ pb, wr.heap.size = pb := ⟨_, rfl⟩
            rw [hpb] at HB4 hsr ⊢
            have HP4 : Hid (Pr w4 w1.heap.size Y w4) := ⟨HXr.out.grown HG4.out (by simp), World.grownBy.refl _ _⟩
            refine wp_region_tail (Pr w4 w1.heap.size Y) 6 (by kernel_rfl) (by kernel_rfl) HP4.out.drew ?_
            simp only [List.take_succ_cons, List.take_zero, List.drop_succ_cons, List.drop_zero]
            iterate 1 (go_big_quiet_step (fail))
            go_big_quiet_want
            refine quiet_val (.pointer (some ⟨pb, 0, none⟩)) ?_ ?_
            · intro W hW; go_simp; done
            go_big_quiet_on; simp only [Act.put, List.setIfInBounds_toArray, List.set_cons_zero, List.set_cons_succ]
            go_big_quiet_want
            refine quiet_row (.tmp 36) rfl (pb) (0) (lf p) rfl HLL.out (fun W hW j v hv => by rw [(HB4.out.grown hW.g (by simp; omega)).cell, Nat.zero_add]; exact lf_get p HPL.out j v hv) ?_
            go_big_quiet_on; simp only [Act.put, List.setIfInBounds_toArray, List.set_cons_zero, List.set_cons_succ]
            go_big_quiet_want
            refine quiet_call (.int .i64 c) 34 #[.agg (rc (lf p))] ?_ ?_ ?_
            · intro W hW; go_simp; done
            · intro W hW; exact (HFI.out W).mono (fun _ _ h => ⟨h.1, hW.below h.2⟩)
            go_big_quiet_on; simp only [Act.put, List.setIfInBounds_toArray, List.set_cons_zero, List.set_cons_succ]
            go_big_quiet_want
            refine quiet_val (.pointer (some ⟨pb, 64, none⟩)) ?_ ?_
            · intro W hW; go_simp; done
            go_big_quiet_on; simp only [Act.put, List.setIfInBounds_toArray, List.set_cons_zero, List.set_cons_succ]
            go_big_quiet_want
            refine quiet_row (.tmp 39) rfl (pb) (64) (rt p) rfl HTL.out (fun W hW j v hv => by rw [(HB4.out.grown hW.g (by simp; omega)).cell]; exact rt_get p HPL.out j v hv) ?_
            go_big_quiet_on; simp only [Act.put, List.setIfInBounds_toArray, List.set_cons_zero, List.set_cons_succ]
            refine wpQuiet_nil ?_
            intro w9 hw9
            have HP9 : Hid (Pr w4 w1.heap.size Y w9) := hw9
            clear hw9 HP4
            go_wp2_with (first
              | (refine wpList_put rfl 56 (.tmp 41) (.tmp 40) rfl w1.heap.size (c * 64) (rc Y.flatten) (rc (rt p)) 56 rfl rfl HP9.out.x HIt (by rw [Nat.mul_comm c 64]; exact row_fits 64 Y HYW.out c (by rw [HYl.out]; exact hcn) _ HTL.out) (rc_one _) ?_; intro w6 hb6 hg6 hs7
                 have HX6 : Hid (Bk w6 w1.heap.size (rc (ivK X n (k + 1)).flatten) 56) := by
                   have h := hb6.out
                   rw [Nat.mul_comm c 64, row_put 64 Y HYW.out c (by rw [HYl.out]; exact hcn) _ HTL.out, ← HNX.out] at h
                   exact h
                 have HG6 : Hid (w2.grownBy w6 (some w1.heap.size)) := (HG.out.trans (gr_of_below (below_of_gr HG4.out) _)).trans (HP9.out.g.trans hg6.out)
                 clear hb6 hg6 hs7)
              | fail)
            go_roundw
            case rel => exact ⟨k + 1, by omega, by go_num, HX6.out, HG6.out, HNZ2.out⟩
            case measure => simp [intOf]; omega
        · have hkn : k = n := by omega
          have HS : Hid (V = txtL n (ivK X n n) ∧ E = 0) := HX1.out (sng_false (fun i p hp => HNZ.out i p (by have := (List.getElem?_eq_some_iff.1 hp).1; rw [HXl.out] at this; omega) hp))
          have HXe : Hid (Bk wr w1.heap.size (rc (ivK X n n).flatten) 56) := by have h := HXr.out; rw [hkn] at h; exact h
          have htx := texts_any (ivK X n n) w1.heap.size n 56 wr HXe.out (ivK_wide X HXW.out n n) (by rw [ivK_len]; exact s1) s1
          rw [ivK_len] at htx
          have HVL : Hid (V.length = n) := by show V.length = n; rw [HS.out.1]; simp [txtL, ivK_len]
          have HTX : Hid _ := htx
          clear htx hkn HXr
          go_wp2_with fail
          refine Calls.mono HTX.out ?_
          rintro e w7 ⟨rfl, hb7, hl7⟩
          have HB7 : Hid _ := hb7
          have HL7 : Hid (Below wr.heap.size wr w7) := hl7
          clear hb7 hl7
          go_wp2
          go_ret2
          refine ⟨some ⟨wr.heap.size, 0, none⟩, by rw [HVL.out, HS.out.2]; rfl, .inr ⟨wr.heap.size, rfl, by omega, by rw [HS.out.1]; exact HB7.out⟩, ?_⟩
          exact (B1.out.trans ((below_own B2.out (by omega) HG.out (Nat.le_refl _)).mono hs1)).trans (HL7.out.mono (by omega))
    · have HS : Hid (ivX xs = [] ∧ ivE xs = 1) := ⟨by unfold ivX; rw [decide_eq_false hsq]; simp, by unfold ivE; rw [decide_eq_false hsq]; simp⟩
      have hne : ((xs.length : Int) == (wid xs : Int)) = false := by rw [beq_eq_false_iff_ne]; omega
      generalize ivX xs = V at *
      generalize ivE xs = E at *
      generalize wid xs = d at *
      generalize xs.length = n at *
      have C1 : Hid _ := hck
      clear hck hx hm hsq k1 k2 k3 hs
      go_enter Try.func23, Try.ntmps23
      go_wp2_with fail
      refine Calls.mono C1.out ?_
      rintro e w1 ⟨rfl, q1, hw1⟩
      have B1 : Hid (Below w.heap.size w w1) := by show Below _ _ _; rw [hw1]; exact below_drewN (Below.refl _ _) _
      clear hw1
      go_wp2
      go_ret2
      exact ⟨none, by rw [HS.out.1, HS.out.2]; rfl, by rw [HS.out.1]; exact .inl ⟨rfl, rfl⟩, B1.out⟩
  · have hm' : isM xs = false := by simpa using hm
    obtain ⟨k1, k2, k3⟩ := ck_no xs hm'
    rw [k1, k2, k3] at hck
    have HS : Hid (ivX xs = [] ∧ ivE xs = 1) := ⟨by unfold ivX; rw [hm']; simp, by unfold ivE; rw [hm']; simp⟩
    generalize ivX xs = V at *
    generalize ivE xs = E at *
    have C1 : Hid _ := hck
    clear hck hx hm hm' k1 k2 k3 hs
    go_enter Try.func23, Try.ntmps23
    go_wp2_with fail
    refine Calls.mono C1.out ?_
    rintro e w1 ⟨rfl, q1, hw1⟩
    have B1 : Hid (Below w.heap.size w w1) := by show Below _ _ _; rw [hw1]; exact below_drewN (Below.refl _ _) _
    clear hw1
    go_wp2
    go_ret2
    exact ⟨none, by rw [HS.out.1, HS.out.2]; rfl, by rw [HS.out.1]; exact .inl ⟨rfl, rfl⟩, B1.out⟩
end Go.Proofs.Ytblmblbkfdcbjab
