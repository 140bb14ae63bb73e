import Derived.Test.YtecpcocnoengiaaY7
import Derived.Test.YtecpcocnoengiaaY3
import Derived.Test.YtecpcocnoengiaaRows
import Derived.Test.YtecpcocnoengiaaY6
import Derived.Test.YtecpcocnoengiaaY5
/- field.Inverse. -/
namespace Go.Proofs.Ytecpcocnoengiaa
open Go.RowKit
set_option linter.unusedSimpArgs false
set_option linter.unusedVariables false
/-- What Inverse answers. -/
def ivX (xs : List ByteArray) : List ByteArray := if isM xs && decide (wid xs = xs.length) && !sng (redP (arrL xs)) then txtL (wid xs) (ivK (redP (arrL xs)) xs.length xs.length) else []
def ivE (xs : List ByteArray) : Nat := if isM xs && decide (wid xs = xs.length) then (if sng (redP (arrL xs)) then 60 else 0) else 1
theorem ivX_len (xs : List ByteArray) : (ivX xs).length ≤ 64 := by
  unfold ivX
  split
  · rename_i h
    simp only [Bool.and_eq_true] at h
    have := (isM_small xs h.1.1).1
    rw [show (txtL (wid xs) (ivK (redP (arrL xs)) xs.length xs.length)).length = (ivK (redP (arrL xs)) xs.length xs.length).length from by simp [txtL], ivK_len]
    exact this
  · simp
theorem sng_false {X : List (List UInt8)} (h : ∀ (k : Nat) p, X[k]? = some p → lf p ≠ zr) : sng X = false := by
  unfold sng
  rw [Bool.eq_false_iff]
  intro e
  rw [List.any_eq_true] at e
  obtain ⟨p, hp, h1⟩ := e
  obtain ⟨k, hk, e2⟩ := List.mem_iff_getElem.1 hp
  exact h k p (by rw [List.getElem?_eq_getElem hk, e2]) (by simpa using h1)
theorem sng_true {X : List (List UInt8)} (k : Nat) (p : List UInt8) (h : X[k]? = some p) (hz : lf p = zr) : sng X = true := by
  unfold sng
  rw [List.any_eq_true]
  exact ⟨p, List.mem_of_getElem? h, by simp [hz]⟩
/-- The worlds of the region that lays a row of the inverse. -/
structure Pr (wi : World) (R : Nat) (X : List (List UInt8)) (W : World) : Prop where
  x : Bk W R (rc X.flatten) 60
  g : wi.grownBy W (some R)
theorem Pr.below {wi W W' : World} {R : Nat} {X : List (List UInt8)} (h : Pr wi R X W) (hb : Below W.heap.size W W') : Pr wi R X W' :=
  ⟨h.x.grown (gr_of_below hb none) (by simp), h.g.trans (gr_of_below hb _)⟩
theorem Pr.drew {wi W : World} {R : Nat} {X : List (List UInt8)} (h : Pr wi R X W) : Pr wi R X W.drew := h.below (Below.refl _ _).drew
set_option maxHeartbeats 4000000 in
set_option maxRecDepth 100000 in
theorem invert_any (a : Option Addr) (c : Nat) (xs : List ByteArray) (w : World) (hx : TxL w a xs) (nx : xs.length ≤ 4611686018427387904) (hs : ∀ x ∈ xs, x.size ≤ 4611686018427387904) :
    Calls Try.prog 26 #[.slice a xs.length c] w fun e w' => ∃ ao, e = .returned (.tuple #[.slice ao (ivX xs).length (ivX xs).length, .int .i64 (ivE xs)]) ∧ Mad w ao (ivX xs) w' ∧ Below w.heap.size w w' := by
  have hck := check_any a c xs w hx nx hs
  by_cases hm : isM xs = true
  · obtain ⟨k1, k2, k3⟩ := ck_yes xs hm
    rw [k1, k2, k3] at hck
    by_cases hsq : wid xs = xs.length
    · obtain ⟨s1, s2⟩ := isM_small xs hm
      have hrd := fun W hW => reduced_any a c xs W hW s1 s2
      have hwd := redP_wide (arrL xs) (arrL_wide xs s2)
      have hln : (redP (arrL xs)).length = xs.length := by rw [redP_len]; simp [arrL]
      have hzb := zb_red xs.length xs (fun x hx => by rw [← hsq, (isM_parts xs hm).2.2 x hx]; exact Nat.le_refl _) s1
      have HX0 : Hid (sng (redP (arrL xs)) = true → ivX xs = [] ∧ ivE xs = 60) := fun h => ⟨by unfold ivX; rw [h]; simp, by unfold ivE; rw [hm, decide_eq_true hsq, h]; rfl⟩
      have HX1 : Hid (sng (redP (arrL xs)) = false → ivX xs = txtL xs.length (ivK (redP (arrL xs)) xs.length xs.length) ∧ ivE xs = 0) := fun h => ⟨by unfold ivX; rw [hm, h, decide_eq_true hsq, hsq]; rfl, by unfold ivE; rw [hm, decide_eq_true hsq, h]; rfl⟩
      rw [hsq] at hck
      generalize ivX xs = V at *
      generalize ivE xs = E at *
      obtain ⟨X, hX⟩ : ∃ X, redP (arrL xs) = X := ⟨_, rfl⟩
      rw [hX] at hrd hwd hln hzb HX0 HX1
      obtain ⟨n, hn⟩ : ∃ n, xs.length = n := ⟨_, rfl⟩
      rw [hn] at hck hrd hln HX1 s1 hzb ⊢
      have HXW : Hid (∀ p ∈ X, p.length = 128) := hwd
      have HXl : Hid (X.length = n) := hln
      have HZB : Hid (∀ p ∈ X, zb n p) := hzb
      have HX : Hid (TxL w a xs) := hx
      have C1 : Hid _ := hck
      have C2 : Hid _ := hrd
      have hzr := (zero_of_info info_row).1
      have hzp := (zero_of_info info_pair).1
      have hmk := make_rows n s1
      clear hck hrd hwd hln hx hX hn hm hsq k1 k2 k3 s2 hs nx hzb
      go_enter Try.func26, Try.ntmps26
      go_wp2_with fail
      refine Calls.mono C1.out ?_
      rintro e w1 ⟨rfl, q1, hw1⟩
      have B1 : Hid (Below w.heap.size w w1) := by show Below _ _ _; rw [hw1]; exact below_drewN (Below.refl _ _) _
      have hs1 : w.heap.size ≤ w1.heap.size := B1.out.size
      clear hw1
      go_wp2_with fail
      refine Calls.mono (C2.out _ ((HX.out.below B1.out).alloc _)) ?_
      rintro e w2 ⟨rfl, hb2, hl2⟩
      rw [al_size] at hb2 hl2
      have HB2 : Hid (Bk w2 (w1.heap.size + 1) (rc X.flatten) 68) := hb2
      have HR2 : Hid (Bk w2 w1.heap.size (rc (ivK X n 0).flatten) 60) := (bk_new w1 _ _).below hl2 (by omega)
      have B2 : Hid (Below w1.heap.size w1 w2) := ((Below.refl _ _).alloc (Nat.le_refl _) _).trans (hl2.mono (by omega))
      have hs2 : w1.heap.size + 1 < w2.heap.size := hb2.lt
      clear hb2 hl2 C1 C2 HX hmk
      go_wp2_with fail
      go_loopw [27] (fun v wr => ∃ k : Nat, k ≤ n ∧ v = .int .i64 k ∧ Hid (Bk wr w1.heap.size (rc (ivK X n k).flatten) 60) ∧ Hid (w2.grownBy wr (some w1.heap.size)) ∧ Hid (∀ (i : Nat) p, i < k → X[i]? = some p → lf p ≠ zr)) (fun v _ => n - (intOf v).toNat)
      case atStart => exact ⟨0, by omega, rfl, HR2.out, World.grownBy.refl _ _, fun i p h => by omega⟩
      case round =>
        obtain ⟨k, hk, rfl, HXr, HG, HNZ⟩ := hrel
        have hsr : w2.heap.size ≤ wr.heap.size := HG.out.size
        by_cases hlt : k < n
        · obtain ⟨p, hp⟩ : ∃ p, X[k]? = some p := ⟨X[k]'(by rw [HXl.out]; exact hlt), List.getElem?_eq_getElem _⟩
          have HPk : Hid (X[k]? = some p) := hp
          have HPL : Hid (p.length = 128) := HXW.out p (List.mem_of_getElem? hp)
          have HLL : Hid ((lf p).length = 64) := lf_len p HPL.out
          have HTL : Hid ((rt p).length = 64) := rt_len p HPL.out
          have HIp := size_pair p HPL.out
          have HIl := size_row (lf p) HLL.out
          have HIt := size_row (rt p) HTL.out
          have HBr : Hid (Bk wr (w1.heap.size + 1) (rc X.flatten) 68) := HB2.out.grown HG.out (by simp)
          have hkz : (k : Int) < (n : Nat) := by omega
          have hnq := fun W => eql_rows (lf p) zr HLL.out zr_len W
          by_cases hz0 : lf p = zr
          · rw [decide_eq_true hz0] at hnq
            have HS : Hid (V = [] ∧ E = 60) := HX0.out (sng_true k p hp hz0)
            clear hz0 hp
            go_wp2_with (first
              | (refine wpList_get rfl 68 (.tmp 29) rfl (w1.heap.size + 1) (k * 128) (rc X.flatten) (rc p) 68 _ rfl HBr.out (by intro j v hv; rw [Nat.mul_comm k 128]; exact row_get 128 X HXW.out k p HPk.out j v hv) Try.underlying68 rfl HIp ?_)
              | (refine wpList_put rfl 68 (.tmp 9) (.tmp 30) rfl wr.heap.size 0 (rc zp) (rc p) 68 rfl rfl (bk_new _ _ _) HIp (by rw [rc_size, rc_size, zp_len, HPL.out]; omega) (rc_one _) ?_; intro w4 hb4 hg4 hs4
                 have HB4 : Hid (Bk w4 wr.heap.size (rc p) 68) := by have := hb4.out; rw [putC_all _ _ (by rw [zp_len, HPL.out])] at this; exact this
                 have HG4 : Hid (wr.grownBy w4 none) := set_fresh hg4.out hs4
                 clear hb4 hg4 hs4)
              | (refine wpList_get rfl 60 (.tmp 31) rfl wr.heap.size 0 (rc p) (rc (lf p)) 68 _ rfl HB4.out (by intro j v hv; rw [Nat.zero_add]; exact lf_get p HPL.out j v hv) Try.underlying60 rfl HIl ?_)
              | fail)
            go_ret2
            refine ⟨none, by rw [HS.out.1, HS.out.2]; rfl, by rw [HS.out.1]; exact .inl ⟨rfl, rfl⟩, ?_⟩
            exact B1.out.trans ((below_own B2.out (by omega) (HG.out.trans (gr_of_below (below_of_gr HG4.out) _)) (Nat.le_refl _)).mono hs1)
          · rw [decide_eq_false hz0] at hnq
            have hcn := fst_zb HPL.out (HZB.out p (List.mem_of_getElem? hp)) hz0
            have hfi := fun W => first_any (lf p) W HLL.out
            have HNX : Hid (ivK X n (k + 1) = (ivK X n k).set (fst (lf p)) (rt p)) := by show (ivK X n k).set (fst (lf (X.getD k zp))) (rt (X.getD k zp)) = _; rw [List.getD, hp]; rfl
            have HNZ2 : Hid (∀ (i : Nat) q, i < k + 1 → X[i]? = some q → lf q ≠ zr) := by
              intro i q hi hq
              by_cases e : i < k
              · exact HNZ.out i q e hq
              · obtain rfl : i = k := by omega
                rw [hp] at hq; cases hq; exact hz0
            obtain ⟨c, hc⟩ : ∃ c, fst (lf p) = c := ⟨_, rfl⟩
            rw [hc] at hcn hfi HNX
            have HFI : Hid _ := hfi
            have HYW : Hid (∀ r ∈ ivK X n k, r.length = 64) := ivK_wide X HXW.out n k
            have HYl : Hid ((ivK X n k).length = n) := ivK_len X n k
            generalize ivK X n k = Y at *
            clear hz0 hp hc hfi HNZ
            have hcx : (c : Int) < (n : Nat) := by omega
            go_wp2_with (first
              | (refine wpList_get rfl 68 (.tmp 29) rfl (w1.heap.size + 1) (k * 128) (rc X.flatten) (rc p) 68 _ rfl HBr.out (by intro j v hv; rw [Nat.mul_comm k 128]; exact row_get 128 X HXW.out k p HPk.out j v hv) Try.underlying68 rfl HIp ?_)
              | (refine wpList_put rfl 68 (.tmp 9) (.tmp 30) rfl wr.heap.size 0 (rc zp) (rc p) 68 rfl rfl (bk_new _ _ _) HIp (by rw [rc_size, rc_size, zp_len, HPL.out]; omega) (rc_one _) ?_; intro w4 hb4 hg4 hs4
                 have HB4 : Hid (Bk w4 wr.heap.size (rc p) 68) := by have := hb4.out; rw [putC_all _ _ (by rw [zp_len, HPL.out])] at this; exact this
                 have HG4 : Hid (wr.grownBy w4 none) := set_fresh hg4.out hs4
                 clear hb4 hg4 hs4)
              | (refine wpList_get rfl 60 (.tmp 31) rfl wr.heap.size 0 (rc p) (rc (lf p)) 68 _ rfl HB4.out (by intro j v hv; rw [Nat.zero_add]; exact lf_get p HPL.out j v hv) Try.underlying60 rfl HIl ?_)
              | fail)
            obtain ⟨pb, hpb⟩ : ∃ pb, wr.heap.size = pb := ⟨_, rfl⟩
            rw [hpb] at HB4 hsr ⊢
            have HP4 : Hid (Pr w4 w1.heap.size Y w4) := ⟨HXr.out.grown HG4.out (by simp), World.grownBy.refl _ _⟩
            refine wp_region_tail (Pr w4 w1.heap.size Y) 6 (by kernel_rfl) (by kernel_rfl) HP4.out.drew ?_
            simp only [List.take_succ_cons, List.take_zero, List.drop_succ_cons, List.drop_zero]
            iterate 1 (go_big_quiet_step (fail))
            go_big_quiet_want
            refine quiet_val (.pointer (some ⟨pb, 0, none⟩)) ?_ ?_
            · intro W hW; go_simp; done
            go_big_quiet_on; simp only [Act.put, List.setIfInBounds_toArray, List.set_cons_zero, List.set_cons_succ]
            go_big_quiet_want
            refine quiet_row (.tmp 36) rfl (pb) (0) (lf p) rfl HLL.out (fun W hW j v hv => by rw [(HB4.out.grown hW.g (by simp; omega)).cell, Nat.zero_add]; exact lf_get p HPL.out j v hv) ?_
            go_big_quiet_on; simp only [Act.put, List.setIfInBounds_toArray, List.set_cons_zero, List.set_cons_succ]
            go_big_quiet_want
            refine quiet_call (.int .i64 c) 37 #[.agg (rc (lf p))] ?_ ?_ ?_
            · intro W hW; go_simp; done
            · intro W hW; exact (HFI.out W).mono (fun _ _ h => ⟨h.1, hW.below h.2⟩)
            go_big_quiet_on; simp only [Act.put, List.setIfInBounds_toArray, List.set_cons_zero, List.set_cons_succ]
            go_big_quiet_want
            refine quiet_val (.pointer (some ⟨pb, 64, none⟩)) ?_ ?_
            · intro W hW; go_simp; done
            go_big_quiet_on; simp only [Act.put, List.setIfInBounds_toArray, List.set_cons_zero, List.set_cons_succ]
            go_big_quiet_want
            refine quiet_row (.tmp 39) rfl (pb) (64) (rt p) rfl HTL.out (fun W hW j v hv => by rw [(HB4.out.grown hW.g (by simp; omega)).cell]; exact rt_get p HPL.out j v hv) ?_
            go_big_quiet_on; simp only [Act.put, List.setIfInBounds_toArray, List.set_cons_zero, List.set_cons_succ]
            refine wpQuiet_nil ?_
            intro w9 hw9
            have HP9 : Hid (Pr w4 w1.heap.size Y w9) := hw9
            clear hw9 HP4
            go_wp2_with (first
              | (refine wpList_put rfl 60 (.tmp 41) (.tmp 40) rfl w1.heap.size (c * 64) (rc Y.flatten) (rc (rt p)) 60 rfl rfl HP9.out.x HIt (by rw [Nat.mul_comm c 64]; exact row_fits 64 Y HYW.out c (by rw [HYl.out]; exact hcn) _ HTL.out) (rc_one _) ?_; intro w6 hb6 hg6 hs7
                 have HX6 : Hid (Bk w6 w1.heap.size (rc (ivK X n (k + 1)).flatten) 60) := by
                   have h := hb6.out
                   rw [Nat.mul_comm c 64, row_put 64 Y HYW.out c (by rw [HYl.out]; exact hcn) _ HTL.out, ← HNX.out] at h
                   exact h
                 have HG6 : Hid (w2.grownBy w6 (some w1.heap.size)) := (HG.out.trans (gr_of_below (below_of_gr HG4.out) _)).trans (HP9.out.g.trans hg6.out)
                 clear hb6 hg6 hs7)
              | fail)
            go_roundw
            case rel => exact ⟨k + 1, by omega, by go_num, HX6.out, HG6.out, HNZ2.out⟩
            case measure => simp [intOf]; omega
        · have hkn : k = n := by omega
          have HS : Hid (V = txtL n (ivK X n n) ∧ E = 0) := HX1.out (sng_false (fun i p hp => HNZ.out i p (by have := (List.getElem?_eq_some_iff.1 hp).1; rw [HXl.out] at this; omega) hp))
          have HXe : Hid (Bk wr w1.heap.size (rc (ivK X n n).flatten) 60) := by have h := HXr.out; rw [hkn] at h; exact h
          have htx := texts_any (ivK X n n) w1.heap.size n 60 wr HXe.out (ivK_wide X HXW.out n n) (by rw [ivK_len]; exact s1) s1
          rw [ivK_len] at htx
          have HVL : Hid (V.length = n) := by show V.length = n; rw [HS.out.1]; simp [txtL, ivK_len]
          have HTX : Hid _ := htx
          clear htx hkn HXr
          go_wp2_with fail
          refine Calls.mono HTX.out ?_
          rintro e w7 ⟨rfl, hb7, hl7⟩
          have HB7 : Hid _ := hb7
          have HL7 : Hid (Below wr.heap.size wr w7) := hl7
          clear hb7 hl7
          go_wp2
          go_ret2
          refine ⟨some ⟨wr.heap.size, 0, none⟩, by rw [HVL.out, HS.out.2]; rfl, .inr ⟨wr.heap.size, rfl, by omega, by rw [HS.out.1]; exact HB7.out⟩, ?_⟩
          exact (B1.out.trans ((below_own B2.out (by omega) HG.out (Nat.le_refl _)).mono hs1)).trans (HL7.out.mono (by omega))
    · have HS : Hid (ivX xs = [] ∧ ivE xs = 1) := ⟨by unfold ivX; rw [decide_eq_false hsq]; simp, by unfold ivE; rw [decide_eq_false hsq]; simp⟩
      have hne : ((xs.length : Int) == (wid xs : Int)) = false := by rw [beq_eq_false_iff_ne]; omega
      generalize ivX xs = V at *
      generalize ivE xs = E at *
      generalize wid xs = d at *
      generalize xs.length = n at *
      have C1 : Hid _ := hck
      clear hck hx hm hsq k1 k2 k3 hs
      go_enter Try.func26, Try.ntmps26
      go_wp2_with fail
      refine Calls.mono C1.out ?_
      rintro e w1 ⟨rfl, q1, hw1⟩
      have B1 : Hid (Below w.heap.size w w1) := by show Below _ _ _; rw [hw1]; exact below_drewN (Below.refl _ _) _
      clear hw1
      go_wp2
      go_ret2
      exact ⟨none, by rw [HS.out.1, HS.out.2]; rfl, by rw [HS.out.1]; exact .inl ⟨rfl, rfl⟩, B1.out⟩
  · have hm' : isM xs = false := by simpa using hm
    obtain ⟨k1, k2, k3⟩ := ck_no xs hm'
    rw [k1, k2, k3] at hck
    have HS : Hid (ivX xs = [] ∧ ivE xs = 1) := ⟨by unfold ivX; rw [hm']; simp, by unfold ivE; rw [hm']; simp⟩
    generalize ivX xs = V at *
    generalize ivE xs = E at *
    have C1 : Hid _ := hck
    clear hck hx hm hm' k1 k2 k3 hs
    go_enter Try.func26, Try.ntmps26
    go_wp2_with fail
    refine Calls.mono C1.out ?_
    rintro e w1 ⟨rfl, q1, hw1⟩
    have B1 : Hid (Below w.heap.size w w1) := by show Below _ _ _; rw [hw1]; exact below_drewN (Below.refl _ _) _
    clear hw1
    go_wp2
    go_ret2
    exact ⟨none, by rw [HS.out.1, HS.out.2]; rfl, by rw [HS.out.1]; exact .inl ⟨rfl, rfl⟩, B1.out⟩
end Go.Proofs.Ytecpcocnoengiaa
/- Rising numbers. -/
namespace Go.Proofs.Ytecpcocnoengiaa
set_option linter.unusedSimpArgs false
set_option linter.unusedVariables false
/-- Rising numbers below n. -/
def Ris (n : Nat) (ps : List Nat) : Prop := ps.Pairwise (· < ·) ∧ ∀ x ∈ ps, x < n
theorem Ris.snoc {k : Nat} {ps : List Nat} (h : Ris k ps) : Ris (k + 1) (ps ++ [k]) := by
  constructor
  · rw [List.pairwise_append]
    refine ⟨h.1, by simp, fun a ha b hb => ?_⟩
    simp at hb
    rw [hb]; exact h.2 a ha
  · intro x hx
    rcases List.mem_append.1 hx with h1 | h1
    · have := h.2 x h1; omega
    · simp at h1; omega
theorem Ris.up {k : Nat} {ps : List Nat} (h : Ris k ps) : Ris (k + 1) ps := ⟨h.1, fun x hx => by have := h.2 x hx; omega⟩
theorem Ris.len {k : Nat} : ∀ {ps : List Nat}, Ris k ps → ps.length ≤ k := by
  intro ps h
  have key : ∀ (l : List Nat) (b : Nat), l.Pairwise (· < ·) → (∀ x ∈ l, b ≤ x ∧ x < k) → l.length + b ≤ k ∨ l = [] := by
    intro l
    induction l with
    | nil => intro b _ _; exact .inr rfl
    | cons a l ih =>
      intro b hp hb
      rw [List.pairwise_cons] at hp
      have h1 := hb a (by simp)
      left
      rcases ih (a + 1) hp.2 (fun x hx => ⟨hp.1 x hx, (hb x (by simp [hx])).2⟩) with h2 | h2
      · simp only [List.length_cons]; omega
      · subst h2; simp; omega
  rcases key ps 0 h.1 (fun x hx => ⟨by omega, h.2 x hx⟩) with h1 | h1
  · omega
  · subst h1; simp
end Go.Proofs.Ytecpcocnoengiaa
/- Every square part of a Cauchy matrix has an inverse. -/
namespace Go.Proofs.Ytecpcocnoengiaa
open Go.RowKit
set_option linter.unusedSimpArgs false
set_option linter.unusedVariables false
/-- A row of the part, the part. -/
def prR (qs : List Nat) (n x : Nat) : List UInt8 := (List.range n).map fun j => caV x (qs.getD j 0)
def prX (ps qs : List Nat) (n : Nat) : List ByteArray := (List.range n).map fun i => mkT (prR qs n (ps.getD i 0))
theorem prX_len (ps qs : List Nat) (n : Nat) : (prX ps qs n).length = n := by simp [prX]
theorem prR_len (qs : List Nat) (n x : Nat) : (prR qs n x).length = n := by simp [prR]
theorem prX_at (ps qs : List Nat) (n i : Nat) (h : i < n) : (prX ps qs n)[i]? = some (mkT (prR qs n (ps.getD i 0))) := by
  rw [prX, List.getElem?_map, List.getElem?_range h]; rfl
theorem prX_size (ps qs : List Nat) (n : Nat) : ∀ x ∈ prX ps qs n, x.size = n := by
  intro x hx
  obtain ⟨i, _, rfl⟩ := List.mem_map.1 hx
  rw [mkT_size, prR_len]
theorem prX_wid (ps qs : List Nat) (n : Nat) (h : 1 ≤ n) : wid (prX ps qs n) = n := by
  unfold wid
  rw [prX_at ps qs n 0 (by omega)]
  show (mkT (prR qs n (ps.getD 0 0))).size = n
  rw [mkT_size, prR_len]
theorem prX_isM (ps qs : List Nat) (n : Nat) (h : 1 ≤ n) (h2 : n ≤ 64) : isM (prX ps qs n) = true := by
  refine isM_yes _ (by rw [prX_len]; exact ⟨h, h2⟩) (by rw [prX_wid ps qs n h]; exact ⟨h, h2⟩) (fun k x hk => ?_)
  rw [prX_wid ps qs n h]
  exact prX_size ps qs n x (List.mem_of_getElem? hk)
theorem prX_mat (ps qs : List Nat) (n i j : Nat) (h : i < n) (hj : j < n) (h2 : n ≤ 64) : mat (arrL (prX ps qs n)) i j = caV (ps.getD i 0) (qs.getD j 0) := by
  unfold mat
  have e : (arrL (prX ps qs n)).getD i zr = rowOf (mkT (prR qs n (ps.getD i 0))) := by
    rw [List.getD, arrL, List.getElem?_map, prX_at ps qs n i h]; rfl
  rw [e, List.getD, rowOf, mkT_data, putB_get _ _ _ (by rw [zr_len, prR_len]; omega), if_pos ⟨by omega, by rw [prR_len]; omega⟩, Nat.sub_zero, prR, List.getElem?_map, List.getElem?_range hj]
  rfl
theorem ris_lt {n : Nat} {ps : List Nat} (h : Ris n ps) (i : Nat) (hi : i < ps.length) : ps.getD i 0 < n := by
  rw [List.getD, List.getElem?_eq_getElem hi]
  exact h.2 _ (List.getElem_mem hi)
theorem ris_ne {n : Nat} {ps : List Nat} (h : Ris n ps) (i j : Nat) (hi : i < ps.length) (hj : j < ps.length) (hij : i ≠ j) : ps.getD i 0 ≠ ps.getD j 0 := by
  have key : ∀ a b, a < b → (hb : b < ps.length) → ps.getD a 0 < ps.getD b 0 := by
    intro a b hab hb
    rw [List.getD, List.getD, List.getElem?_eq_getElem (by omega), List.getElem?_eq_getElem hb]
    exact List.pairwise_iff_getElem.1 h.1 a b (by omega) hb hab
  rcases Nat.lt_or_ge i j with h1 | h1
  · have := key i j h1 hj; omega
  · have := key j i (by omega) hi; omega
theorem ofNat_ne (a b : Nat) (ha : a < 256) (hb : b < 256) (h : a ≠ b) : UInt8.ofNat a ≠ UInt8.ofNat b := by
  intro e
  have := congrArg UInt8.toNat e
  simp at this
  omega
theorem part_ok (ps qs : List Nat) (r c n : Nat) (hp : Ris r ps) (hq : Ris c qs) (hr : r ≤ 64) (hc : c ≤ 64) (h1 : 1 ≤ n) (np : n ≤ ps.length) (nq : n ≤ qs.length) : ivE (prX ps qs n) = 0 := by
  have hn : n ≤ 64 := by have := hp.len; omega
  have hm := prX_isM ps qs n h1 hn
  have hs : sng (redP (arrL (prX ps qs n))) = false := by
    cases hsg : sng (redP (arrL (prX ps qs n))) with
    | false => rfl
    | true =>
      exfalso
      have hal : (arrL (prX ps qs n)).length = n := by simp [arrL, prX_len]
      obtain ⟨v, ⟨i, hi, hvi⟩, hk⟩ := sng_ker _ (arrL_wide _ (fun x hx => by rw [prX_size ps qs n x hx]; exact hn)) (by rw [hal]; exact hn) hsg
      rw [hal] at hi hk
      refine hvi (cauchy_ker n (fun i => UInt8.ofNat (128 + ps.getD i 0)) (fun j => UInt8.ofNat (qs.getD j 0)) v (fun i j h1 h2 => ?_) (fun i j h1 h2 h3 => ?_) (fun i j h1 h2 h3 => ?_) (fun j hj => ?_) i hi)
      · have a := ris_lt hp i (by omega)
        have b := ris_lt hq j (by omega)
        exact ofNat_ne _ _ (by omega) (by omega) (by omega)
      · have a := ris_lt hp i (by omega)
        have b := ris_lt hp j (by omega)
        have d := ris_ne hp i j (by omega) (by omega) h3
        exact ofNat_ne _ _ (by omega) (by omega) (by omega)
      · have a := ris_lt hq i (by omega)
        have b := ris_lt hq j (by omega)
        have d := ris_ne hq i j (by omega) (by omega) h3
        exact ofNat_ne _ _ (by omega) (by omega) d
      · rw [← hk j (by omega)]
        apply Sx_congr
        intro i hi
        rw [prX_mat ps qs n i j hi hj hn]; rfl
  unfold ivE
  rw [hm, prX_wid ps qs n h1, prX_len, decide_eq_true rfl, hs]
  rfl
theorem prR_take (qs : List Nat) (n x k : Nat) (h : k < n) : (prR qs n x).take (k + 1) = (prR qs n x).take k ++ [caV x (qs.getD k 0)] := by
  rw [List.take_succ_eq_append_getElem (by rw [prR_len]; exact h)]
  congr 2
  simp [prR]
theorem prX_take (ps qs : List Nat) (n k : Nat) (h : k < n) : (prX ps qs n).take (k + 1) = (prX ps qs n).take k ++ [mkT (prR qs n (ps.getD k 0))] := by
  rw [List.take_succ_eq_append_getElem (by rw [prX_len]; exact h)]
  congr 2
  simp [prX]
theorem index_txt (l : List UInt8) (j : Nat) (x : UInt8) (h : l[j]? = some x) (w : World) : (Instr.index 9 (.string (mkT l)) (.int .i64 j)).run Try.prog w = .ok (c8 x) w := by
  have hj := (List.getElem?_eq_some_iff.1 h).1
  have e : (mkT l)[((j : Int)).toNat]? = some x := by
    rw [Int.toNat_natCast]
    have : j < (mkT l).size := by rw [mkT_size]; exact hj
    rw [getElem?_pos (mkT l) j this]
    show some ((l.toArray)[j]'(by simpa using hj)) = some x
    rw [List.getElem_toArray, (List.getElem?_eq_some_iff.1 h).2]
  simp only [Instr.index, asIntOf, Sem.run_bind, Sem.run_pure, Result.andThen_ok, run_underlying Try.underlying9 w]
  rw [if_pos (by omega), e]
  rfl
end Go.Proofs.Ytecpcocnoengiaa
/- The rows of the matrix come of the reduced ones; a reduced row is 0 or has a column of its own; the inverse undoes, on either side. -/
namespace Go.Proofs.Ytecpcocnoengiaa
open Go.RowKit
set_option linter.unusedSimpArgs false
set_option linter.unusedVariables false
/-- The rows of M, and the unit's, come of the pairs by one S. -/
def Back (M : Nat → Nat → UInt8) (n : Nat) (X : List (List UInt8)) : Prop :=
  ∃ S : Nat → Nat → UInt8, (∀ i j, i < n → j < 64 → M i j = Sx n (fun k => mul (S i k) (ent X k j))) ∧ ∀ i l, i < n → l < n → (if l = i then (1 : UInt8) else 0) = Sx n (fun k => mul (S i k) (ent X k (64 + l)))
theorem elem_back {n i : Nat} (hi : i < n) (S e e' : Nat → UInt8) (s : UInt8) (hs : s ≠ 0) (t : Nat → UInt8) (he : ∀ k, k < n → e' k = if k = i then mul (e i) s else e k ^^^ mul (mul (e i) s) (t k)) :
    Sx n (fun k => mul (S k) (e k)) = Sx n (fun k => mul (if k = i then mul (S i) (inv s) ^^^ Sx n (fun m => if m = i then 0 else mul (S m) (t m)) else S k) (e' k)) := by
  obtain ⟨G, hG⟩ : ∃ G, Sx n (fun m => if m = i then 0 else mul (S m) (t m)) = G := ⟨_, rfl⟩
  rw [hG]
  -- the right side, apart
  have h1 : Sx n (fun k => mul (if k = i then mul (S i) (inv s) ^^^ G else S k) (e' k)) = Sx n (fun k => (if k = i then mul (mul (S i) (inv s) ^^^ G) (mul (e i) s) else mul (S k) (e k)) ^^^ mul (if k = i then 0 else mul (S k) (t k)) (mul (e i) s)) := by
    apply Sx_congr
    intro k hk
    rw [he k hk]
    by_cases hki : k = i
    · simp only [if_pos hki]
      rw [zero_mul, UInt8.xor_zero]
    · simp only [if_neg hki]
      rw [mul_xor_right, mul_assoc (S k) (t k), mul_comm (t k)]
  rw [h1, Sx_add, Sx_mul, hG]
  have h2 : mul G (mul (e i) s) = Sx n (fun k => if k = i then mul G (mul (e i) s) else 0) := by
    have := Sx_one n (fun k => if k = i then mul G (mul (e i) s) else 0) i hi (fun k hk hki => if_neg hki)
    rw [this]; exact (if_pos rfl).symm
  rw [h2, ← Sx_add]
  apply Sx_congr
  intro k hk
  by_cases hki : k = i
  · simp only [if_pos hki]
    rw [mul_xor_left, UInt8.xor_assoc, UInt8.xor_self, UInt8.xor_zero, hki, mul_assoc, mul_comm (e i) s, ← mul_assoc (inv s), mul_inv s hs, one_mul]
  · simp only [if_neg hki, UInt8.xor_zero]
theorem Back.elem {M : Nat → Nat → UInt8} {n : Nat} {X X' : List (List UInt8)} (h : Back M n X) (hn : n ≤ 64) (i : Nat) (hi : i < n) (s : UInt8) (hs : s ≠ 0) (t : Nat → UInt8)
    (he : ∀ k j, k < n → j < 128 → ent X' k j = if k = i then mul (ent X i j) s else ent X k j ^^^ mul (mul (ent X i j) s) (t k)) : Back M n X' := by
  obtain ⟨S, h1, h2⟩ := h
  refine ⟨fun r k => if k = i then mul (S r i) (inv s) ^^^ Sx n (fun m => if m = i then 0 else mul (S r m) (t m)) else S r k, fun r j hr hj => ?_, fun r l hr hl => ?_⟩
  · rw [h1 r j hr hj]
    exact elem_back hi (S r) (fun k => ent X k j) (fun k => ent X' k j) s hs t (fun k hk => he k j hk (by omega))
  · rw [h2 r l hr hl]
    exact elem_back hi (S r) (fun k => ent X k (64 + l)) (fun k => ent X' k (64 + l)) s hs t (fun k hk => he k (64 + l) hk (by omega))
/-- The first i rows are 0, or have a column of their own. -/
def Piv (n i : Nat) (X : List (List UInt8)) : Prop := ∀ k, k < i → (∀ j, j < 64 → ent X k j = 0) ∨ ∃ c, c < 64 ∧ ent X k c = 1 ∧ ∀ k', k' < n → k' ≠ k → ent X k' c = 0
theorem lf_zero {p : List UInt8} (hp : p.length = 128) (h : lf p = zr) (j : Nat) (hj : j < 64) : p.getD j 0 = 0 := by
  have : (lf p)[j]? = zr[j]? := by rw [h]
  rw [lf, List.getElem?_take, if_pos hj, zr, List.getElem?_replicate, if_pos hj] at this
  rw [List.getD, this]; rfl
theorem Piv.stp {X : List (List UInt8)} {i : Nat} (h : Piv X.length i X) (hX : ∀ r ∈ X, r.length = 128) (hi : i < X.length) : Piv X.length (i + 1) (stp X i) := by
  by_cases h0 : lf (X.getD i zp) = zr
  · have e : Go.Proofs.Ytecpcocnoengiaa.stp X i = X := by unfold Go.Proofs.Ytecpcocnoengiaa.stp; rw [if_pos h0]
    rw [e]
    intro k hk
    by_cases hki : k = i
    · left
      intro j hj
      rw [hki]
      exact lf_zero (getD_wide2 X hX i) h0 j hj
    · exact h k (by omega)
  · have hc := fst_lt (lf (X.getD i zp)) (lf_len _ (getD_wide2 X hX i))
    have hne := fst_ne (getD_wide2 X hX i) h0
    have he := stp_ent X hX i hi h0
    obtain ⟨c, hcc⟩ : ∃ c, fst (lf (X.getD i zp)) = c := ⟨_, rfl⟩
    rw [hcc] at hc hne he
    have hne' : ent X i c ≠ 0 := hne
    intro k hk
    by_cases hki : k = i
    · right
      refine ⟨c, hc, ?_, fun k' hk' hk'i => ?_⟩
      · rw [he k c (by omega) (by omega), if_pos hki, inv_mul _ hne']
      · rw [he k' c hk' (by omega), if_neg (by omega), inv_mul _ hne', one_mul, UInt8.xor_self]
    · rcases h k (by omega) with hz | ⟨d, hd, h1, h2⟩
      · left
        intro j hj
        rw [he k j (by omega) (by omega), if_neg hki, hz j hj, hz c hc, mul_zero_right, UInt8.xor_zero]
      · right
        have hid : ent X i d = 0 := h2 i hi (fun e => hki e.symm)
        refine ⟨d, hd, ?_, fun k' hk' hk'k => ?_⟩
        · rw [he k d (by omega) (by omega), if_neg hki, hid, zero_mul, zero_mul, UInt8.xor_zero, h1]
        · rw [he k' d hk' (by omega), hid, zero_mul]
          split
          · rfl
          · rw [zero_mul, UInt8.xor_zero, h2 k' hk' hk'k]
theorem Back.stp {M : Nat → Nat → UInt8} {X : List (List UInt8)} (h : Back M X.length X) (hn : X.length ≤ 64) (hX : ∀ r ∈ X, r.length = 128) (i : Nat) (hi : i < X.length) : Back M X.length (stp X i) := by
  by_cases h0 : lf (X.getD i zp) = zr
  · have e : Go.Proofs.Ytecpcocnoengiaa.stp X i = X := by unfold Go.Proofs.Ytecpcocnoengiaa.stp; rw [if_pos h0]
    rw [e]; exact h
  · exact h.elem hn i hi _ (inv_ne _ (fst_ne (getD_wide2 X hX i) h0)) (fun k => ent X k (fst (lf (X.getD i zp)))) (fun k j hk hj => stp_ent X hX i hi h0 k j hk hj)
theorem both_redK {M : Nat → Nat → UInt8} {X : List (List UInt8)} (h : Back M X.length X) (hn : X.length ≤ 64) (hX : ∀ r ∈ X, r.length = 128) : ∀ k, k ≤ X.length → Back M X.length (redK X k) ∧ Piv X.length k (redK X k)
  | 0, _ => ⟨h, fun k hk => by omega⟩
  | k + 1, hk => by
    have ih := both_redK h hn hX k (by omega)
    have hl := redK_len X k
    rw [← hl] at ih ⊢
    exact ⟨ih.1.stp (by omega) (redK_wide X hX k) k (by omega), ih.2.stp (redK_wide X hX k) (by omega)⟩
theorem Back.start (A : List (List UInt8)) (hA : ∀ r ∈ A, r.length = 64) (hn : A.length ≤ 64) : Back (mat A) A.length (staP A) := by
  refine ⟨fun i k => if k = i then 1 else 0, fun i j hi hj => ?_, fun i l hi hl => ?_⟩
  · rw [Sx_one A.length _ i hi (fun k hk hki => by show mul (if k = i then 1 else 0) _ = 0; rw [if_neg hki, zero_mul])]
    show _ = mul (if i = i then 1 else 0) _
    rw [if_pos rfl, one_mul, (sta_ent A hA i hi).1 j hj]
  · rw [Sx_one A.length _ i hi (fun k hk hki => by show mul (if k = i then 1 else 0) _ = 0; rw [if_neg hki, zero_mul])]
    show _ = mul (if i = i then 1 else 0) _
    rw [if_pos rfl, one_mul, (sta_ent A hA i hi).2 l (by omega) (by omega)]
theorem both_red (A : List (List UInt8)) (hA : ∀ r ∈ A, r.length = 64) (hn : A.length ≤ 64) : Back (mat A) A.length (redP A) ∧ Piv A.length A.length (redP A) := by
  have h := Back.start A hA hn
  rw [← staP_len A] at h
  have := both_redK h (by rw [staP_len]; exact hn) (staP_wide A hA) A.length (by rw [staP_len]; exact Nat.le_refl _)
  rw [staP_len] at this
  exact this
end Go.Proofs.Ytecpcocnoengiaa
/- The inverse that package field tells undoes the matrix, on either side. -/
namespace Go.Proofs.Ytecpcocnoengiaa
open Go.RowKit
set_option linter.unusedSimpArgs false
set_option linter.unusedVariables false
theorem onto : ∀ (n : Nat) (c : Nat → Nat), (∀ k, k < n → c k < n) → (∀ k l, k < n → l < n → c k = c l → k = l) → ∀ j, j < n → ∃ k, k < n ∧ c k = j
  | 0, _, _, _, j, hj => by omega
  | n + 1, c, h1, h2, j, hj => by
    have hm := h1 n (by omega)
    have hne : ∀ k, k < n → c k = n → c n < n := by
      intro k hk e
      have : c n ≠ n := fun e2 => by have := h2 k n (by omega) (by omega) (by omega); omega
      omega
    have ih := onto n (fun k => if c k = n then c n else c k) (fun k hk => by
      show (if c k = n then c n else c k) < n
      by_cases e : c k = n
      · rw [if_pos e]; exact hne k hk e
      · rw [if_neg e]; have := h1 k (by omega); omega) (fun k l hk hl e => by
      have e' : (if c k = n then c n else c k) = (if c l = n then c n else c l) := e
      by_cases e1 : c k = n
      · by_cases e2 : c l = n
        · exact h2 k l (by omega) (by omega) (by omega)
        · rw [if_pos e1, if_neg e2] at e'
          have := h2 n l (by omega) (by omega) e'
          omega
      · by_cases e2 : c l = n
        · rw [if_neg e1, if_pos e2] at e'
          have := h2 k n (by omega) (by omega) e'
          omega
        · rw [if_neg e1, if_neg e2] at e'
          exact h2 k l (by omega) (by omega) e')
    by_cases hjm : j = c n
    · exact ⟨n, by omega, hjm.symm⟩
    · by_cases hjn : j = n
      · obtain ⟨k, hk, e⟩ := ih (c n) (by omega)
        have e' : (if c k = n then c n else c k) = c n := e
        by_cases e1 : c k = n
        · exact ⟨k, by omega, by omega⟩
        · rw [if_neg e1] at e'
          have := h2 k n (by omega) (by omega) e'
          omega
      · obtain ⟨k, hk, e⟩ := ih j (by omega)
        have e' : (if c k = n then c n else c k) = j := e
        by_cases e1 : c k = n
        · rw [if_pos e1] at e'; omega
        · rw [if_neg e1] at e'
          exact ⟨k, by omega, e'⟩
theorem zb_ent {n : Nat} {X : List (List UInt8)} (h : ∀ p ∈ X, zb n p) (k j : Nat) (hk : k < X.length) (h1 : n ≤ j) (h2 : j < 64) : ent X k j = 0 := by
  unfold ent
  have e : X.getD k zp = X[k] := by rw [List.getD, List.getElem?_eq_getElem hk]; rfl
  rw [e, List.getD, h _ (List.getElem_mem hk) j h1 h2]; rfl
/-- Where no reduced row is 0, they are the unit's rows, in some other order. -/
theorem red_unit (X : List (List UInt8)) (n : Nat) (hl : X.length = n) (hX : ∀ r ∈ X, r.length = 128) (hz : ∀ p ∈ X, zb n p) (hn : n ≤ 64) (hp : Piv n n X) (hs : sng X = false) :
    ∃ c : Nat → Nat, (∀ k, k < n → c k < n) ∧ (∀ k l, k < n → l < n → c k = c l → k = l) ∧ (∀ k j, k < n → j < 64 → ent X k j = if j = c k then 1 else 0) := by
  have hnz : ∀ k, k < n → ∃ c, c < n ∧ ent X k c = 1 ∧ ∀ k', k' < n → k' ≠ k → ent X k' c = 0 := by
    intro k hk
    rcases hp k hk with h0 | ⟨c, hc, h1, h2⟩
    · exfalso
      have hkl : k < X.length := by omega
      have hg : X.getD k zp = X[k] := by rw [List.getD, List.getElem?_eq_getElem hkl]; rfl
      have hlen := hX _ (List.getElem_mem hkl)
      have : lf X[k] = zr := by
        apply List.ext_getElem?
        intro j
        by_cases hj : j < 64
        · have := h0 j hj
          unfold ent at this
          rw [hg, List.getD, List.getElem?_eq_getElem (by omega)] at this
          rw [lf, List.getElem?_take, if_pos hj, List.getElem?_eq_getElem (by omega), zr, List.getElem?_replicate, if_pos hj]
          exact congrArg some this
        · rw [List.getElem?_eq_none (by rw [lf_len _ hlen]; omega), List.getElem?_eq_none (by rw [zr_len]; omega)]
      have hs2 : sng X = true := by
        unfold sng
        rw [List.any_eq_true]
        exact ⟨_, List.getElem_mem hkl, by simp [this]⟩
      rw [hs] at hs2
      cases hs2
    · refine ⟨c, ?_, h1, h2⟩
      apply Classical.byContradiction
      intro hcn
      rw [zb_ent hz k c (by omega) (by omega) hc] at h1
      exact absurd h1 (by decide)
  have hch : ∃ c : Nat → Nat, ∀ k, k < n → c k < n ∧ ent X k (c k) = 1 ∧ ∀ k', k' < n → k' ≠ k → ent X k' (c k) = 0 := by
    refine ⟨fun k => if h : k < n then Classical.choose (hnz k h) else 0, fun k hk => ?_⟩
    simp only [dif_pos hk]
    exact Classical.choose_spec (hnz k hk)
  obtain ⟨c, hc⟩ := hch
  have hinj : ∀ k l, k < n → l < n → c k = c l → k = l := by
    intro k l hk hl e
    apply Classical.byContradiction
    intro hkl
    have h1 := (hc l hl).2.2 k hk hkl
    rw [← e, (hc k hk).2.1] at h1
    exact absurd h1 (by decide)
  refine ⟨c, fun k hk => (hc k hk).1, hinj, fun k j hk hj => ?_⟩
  by_cases hjn : j < n
  · obtain ⟨k', hk', rfl⟩ := onto n c (fun k hk => (hc k hk).1) hinj j hjn
    by_cases e : k' = k
    · rw [e, if_pos rfl]; exact (hc k hk).2.1
    · rw [if_neg (fun e2 => e (hinj k' k hk' hk e2))]
      exact (hc k' hk').2.2 k hk (fun e2 => e e2.symm)
  · rw [zb_ent hz k j (by omega) (by omega) hj, if_neg (by have := (hc k hk).1; omega)]
theorem fst_unit (X : List (List UInt8)) (n : Nat) (hl : X.length = n) (hX : ∀ r ∈ X, r.length = 128) (c : Nat → Nat) (hc : ∀ k, k < n → c k < n) (hn : n ≤ 64) (he : ∀ k j, k < n → j < 64 → ent X k j = if j = c k then 1 else 0) (k : Nat) (hk : k < n) : fst (lf (X.getD k zp)) = c k := by
  have hlen := getD_wide2 X hX k
  have hck := hc k hk
  have hget : ∀ j, j < 64 → (lf (X.getD k zp))[j]? = some (ent X k j) := by
    intro j hj
    rw [lf, List.getElem?_take, if_pos hj]
    unfold ent
    rw [List.getD_eq_getElem?_getD (l := X.getD k zp), List.getElem?_eq_getElem (by omega)]
    rfl
  refine fst_hit _ (c k) 1 ?_ (by decide) (fun i hi => ?_)
  · rw [hget (c k) (by omega), he k (c k) hk (by omega), if_pos rfl]
  · rw [hget i (by omega), he k i hk (by omega), if_neg (by omega)]
theorem ivK_get (X : List (List UInt8)) (n : Nat) (c : Nat → Nat) (hc : ∀ k, k < n → c k < n) (hinj : ∀ k l, k < n → l < n → c k = c l → k = l) (hf : ∀ k, k < n → fst (lf (X.getD k zp)) = c k) :
    ∀ m, m ≤ n → ∀ k, k < m → (ivK X n m)[c k]? = some (rt (X.getD k zp))
  | 0, _, k, hk => by omega
  | m + 1, hm, k, hk => by
    rw [ivK, hf m (by omega), List.getElem?_set, ivK_len]
    by_cases e : c m = c k
    · have := hinj m k (by omega) (by omega) e
      subst this
      rw [if_pos rfl, if_pos (hc m (by omega))]
    · rw [if_neg e]
      have hkm : k < m := by
        rcases Nat.lt_or_ge k m with h | h
        · exact h
        · exfalso; apply e; rw [show k = m from by omega]
      exact ivK_get X n c hc hinj hf m (by omega) k hkm
/-- The numbers of the inverse. -/
theorem inv_both (A : List (List UInt8)) (hA : ∀ r ∈ A, r.length = 64) (hn : A.length ≤ 64) (hz : ∀ p ∈ redP A, zb A.length p) (hs : sng (redP A) = false) :
    (∀ r j, r < A.length → j < 64 → Sx A.length (fun l => mul (mat (ivK (redP A) A.length A.length) r l) (mat A l j)) = if j = r then 1 else 0) ∧
    (∀ i l, i < A.length → l < A.length → Sx A.length (fun r => mul (mat A i r) (mat (ivK (redP A) A.length A.length) r l)) = if l = i then 1 else 0) := by
  obtain ⟨⟨S, hS1, hS2⟩, hP⟩ := both_red A hA hn
  have hI := Inv.red A hA hn
  have hXl : (redP A).length = A.length := by rw [redP, redK_len, staP_len]
  have hXW : ∀ p ∈ redP A, p.length = 128 := redK_wide _ (staP_wide A hA) _
  obtain ⟨c, hc, hinj, he⟩ := red_unit (redP A) A.length hXl hXW hz hn hP hs
  have hf := fst_unit (redP A) A.length hXl hXW c hc hn he
  have hg := ivK_get (redP A) A.length c hc hinj hf A.length (Nat.le_refl _)
  have hV : ∀ k l, k < A.length → l < 64 → mat (ivK (redP A) A.length A.length) (c k) l = ent (redP A) k (64 + l) := by
    intro k l hk hl
    unfold mat ent
    rw [show (ivK (redP A) A.length A.length).getD (c k) zr = rt ((redP A).getD k zp) from by rw [List.getD, hg k hk]; rfl, rt, List.getD, List.getD, List.getElem?_drop]
    rfl
  constructor
  · intro r j hr hj
    obtain ⟨k, hk, rfl⟩ := onto A.length c hc hinj r hr
    rw [Sx_congr A.length _ (fun i => mul (ent (redP A) k (64 + i)) (mat A i j)) (fun l hl => by rw [hV k l hk (by omega)]), ← hI.lin k j hk hj, he k j hk hj]
  · intro i l hi hl
    rw [hS2 i l hi hl]
    have e1 : Sx A.length (fun r => mul (mat A i r) (mat (ivK (redP A) A.length A.length) r l)) = Sx A.length (fun r => Sx A.length (fun k => mul (mul (S i k) (if r = c k then 1 else 0)) (mat (ivK (redP A) A.length A.length) r l))) := by
      apply Sx_congr
      intro r hr
      rw [hS1 i r hi (by omega), ← Sx_mul]
      apply Sx_congr
      intro k hk
      rw [he k r hk (by omega)]
    rw [e1, Sx_swap]
    apply Sx_congr
    intro k hk
    rw [Sx_one A.length _ (c k) (hc k hk) (fun r hr hrk => by rw [if_neg hrk, mul_zero_right, zero_mul]), if_pos rfl, mul_one, hV k l hk (by omega)]
end Go.Proofs.Ytecpcocnoengiaa
