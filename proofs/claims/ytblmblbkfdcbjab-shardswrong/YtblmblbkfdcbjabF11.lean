/- field.Product: the walk. -/
import Derived.Test.YtblmblbkfdcbjabF10
namespace Go.Proofs.Ytblmblbkfdcbjab
open Go.RowKit
set_option linter.unusedSimpArgs false
set_option linter.unusedVariables false
theorem isM_parts (xs : List ByteArray) (h : isM xs = true) : (1 ≤ xs.length ∧ xs.length ≤ 64) ∧ (1 ≤ wid xs ∧ wid xs ≤ 64) ∧ ∀ x ∈ xs, x.size = wid xs := by
  simp only [isM, Bool.and_eq_true, decide_eq_true_eq, List.all_eq_true, beq_iff_eq] at h
  exact ⟨h.1.1, h.1.2, h.2⟩
set_option maxHeartbeats 2000000 in
set_option maxRecDepth 100000 in
theorem product_yes (a b : Option Addr) (ca cb : Nat) (xs ys : List ByteArray) (w : World) (hx : TxL w a xs) (hy : TxL w b ys) (mx : isM xs = true) (my : isM ys = true) (he : wid xs = ys.length) :
    Calls Try.prog 24 #[.slice a xs.length ca, .slice b ys.length cb] w fun e w' => ∃ g, e = .returned (.tuple #[.slice (some ⟨g, 0, none⟩) xs.length xs.length, .int .i64 0]) ∧ w.heap.size ≤ g ∧ Bk w' g (txc (txtL (wid ys) (prodL (arrL xs) (arrL ys)))) 9 ∧ Below w.heap.size w w' := by
  obtain ⟨px1, px2, px3⟩ := isM_parts xs mx
  obtain ⟨py1, py2, py3⟩ := isM_parts ys my
  have HX : Hid (TxL w a xs) := hx
  have HY : Hid (TxL w b ys) := hy
  have HXS : Hid (∀ x ∈ xs, x.size ≤ 64) := fun x h => by rw [px3 x h]; exact px2.2
  have HYS : Hid (∀ x ∈ ys, x.size ≤ 64) := fun x h => by rw [py3 x h]; exact py2.2
  have hcx := fun W hW => check_any a ca xs W hW (by omega) (fun x h => by have := HXS.out x h; omega)
  have hcy := fun W hW => check_any b cb ys W hW (by omega) (fun x h => by have := HYS.out x h; omega)
  obtain ⟨k1, k2, k3⟩ := ck_yes xs mx
  obtain ⟨l1, l2, l3⟩ := ck_yes ys my
  rw [k1, k2, k3] at hcx
  rw [l1, l2, l3] at hcy
  have har := fun W hW => arrays_any a ca xs W hW px1.2 HXS.out
  have hbr := fun W hW => arrays_any b cb ys W hW py1.2 HYS.out
  obtain ⟨A, hA⟩ : ∃ A, arrL xs = A := ⟨_, rfl⟩
  obtain ⟨B, hB⟩ : ∃ B, arrL ys = B := ⟨_, rfl⟩
  obtain ⟨n, hn⟩ : ∃ n, xs.length = n := ⟨_, rfl⟩
  obtain ⟨m, hm⟩ : ∃ m, ys.length = m := ⟨_, rfl⟩
  obtain ⟨c, hc⟩ : ∃ c, wid ys = c := ⟨_, rfl⟩
  have HAL : Hid (A.length = n) := by show A.length = n; rw [← hA, ← hn]; simp [arrL]
  have HBL : Hid (B.length = m) := by show B.length = m; rw [← hB, ← hm]; simp [arrL]
  have HAW : Hid (∀ r ∈ A, r.length = 64) := by rw [← hA]; exact arrL_wide xs HXS.out
  have HBW : Hid (∀ r ∈ B, r.length = 64) := by rw [← hB]; exact arrL_wide ys HYS.out
  rw [hA] at har ⊢
  rw [hB] at hbr ⊢
  rw [he, hm, hn] at hcx
  rw [hc, hm] at hcy
  rw [hn] at har px1 ⊢
  rw [hm] at hbr py1
  rw [hc] at py2 ⊢
  rw [hm]
  have C1 : Hid _ := hcx
  have C2 : Hid _ := hcy
  have C3 : Hid _ := har
  have C4 : Hid _ := hbr
  clear hx hy mx my he px2 px3 py3 k1 k2 k3 l1 l2 l3 hcx hcy har hbr hA hB hn hm hc
  have hz := (zero_of_info info_row).1
  have hmk := make_rows n px1.2
  have HI := size_row
  obtain ⟨pn1, pn2⟩ := px1
  obtain ⟨pm1, pm2⟩ := py1
  go_enter Try.func24, Try.ntmps24
  go_wp2_with fail
  refine Calls.mono (C1.out _ HX.out) ?_
  rintro e w1 ⟨rfl, q1, hw1⟩
  subst hw1
  go_wp2_with fail
  refine Calls.mono (C2.out _ (HY.out.drewN q1)) ?_
  rintro e w1 ⟨rfl, q2, hw1⟩
  have HB1 : Hid (Below w.heap.size w w1) := by show Below _ _ _; rw [hw1]; exact below_drewN (below_drewN (Below.refl _ _) _) _
  have hs1 : w1.heap.size = w.heap.size := by rw [hw1]; simp
  clear hw1
  go_wp2_with fail
  refine Calls.mono (C4.out _ ((HY.out.below HB1.out).alloc _)) ?_
  rintro e w2 ⟨rfl, hb2, hl2⟩
  rw [al_size, hs1] at hb2 hl2
  have HB2 : Hid (Bk w2 (w.heap.size + 1) (rc B.flatten) 56) := hb2
  have HR2 : Hid (Bk w2 w.heap.size (rc (prT A B 0).flatten) 56) := by
    have h := bk_new w1 (rc (List.replicate n zr).flatten) 56
    rw [hs1] at h
    have e : prT A B 0 = List.replicate n zr := by simp [prT, HAL.out]
    show Bk _ _ _ _
    rw [e]
    exact h.below hl2 (by omega)
  have HL2 : Hid (Below w.heap.size w w2) := (HB1.out.alloc (by omega) _).trans (hl2.mono (by omega))
  have hs2 : w.heap.size + 1 < w2.heap.size := hb2.lt
  clear hb2 hl2 hmk HB1
  go_wp2_with fail
  refine Calls.mono (C3.out _ (HX.out.below HL2.out)) ?_
  rintro e w3 ⟨rfl, hb3, hl3⟩
  have HA3 : Hid (Bk w3 w2.heap.size (rc A.flatten) 56) := hb3
  have HB3 : Hid (Bk w3 (w.heap.size + 1) (rc B.flatten) 56) := HB2.out.below hl3 hs2
  have HR3 : Hid (Bk w3 w.heap.size (rc (prT A B 0).flatten) 56) := HR2.out.below hl3 (by omega)
  have HL3 : Hid (Below w.heap.size w w3) := HL2.out.trans (hl3.mono (by omega))
  have hs3 : w2.heap.size < w3.heap.size := hb3.lt
  clear hb3 hl3 HB2 HR2 HL2 C1 C2 C3 C4 HX HY HXS HYS
  go_wp2_with fail
  go_loopw [45] (fun v wr => ∃ i : Nat, i ≤ n ∧ v = .int .i64 i ∧ Hid (Bk wr w.heap.size (rc (prT A B i).flatten) 56) ∧ Hid (w3.grownBy wr (some w.heap.size))) (fun v _ => n - (intOf v).toNat)
  case atStart => exact ⟨0, by omega, rfl, HR3.out, World.grownBy.refl _ _⟩
  case round =>
    obtain ⟨i, hi, rfl, HXr, HGr⟩ := hrel
    have hsr : w3.heap.size ≤ wr.heap.size := HGr.out.size
    by_cases hlt : i < n
    · obtain ⟨r, hr⟩ : ∃ r, A[i]? = some r := ⟨A[i]'(by rw [HAL.out]; exact hlt), List.getElem?_eq_getElem _⟩
      have HRL : Hid (r.length = 64) := HAW.out r (List.mem_of_getElem? hr)
      have HRi : Hid (A[i]? = some r) := hr
      have HAr : Hid (Bk wr w2.heap.size (rc A.flatten) 56) := HA3.out.grown HGr.out (by simp; omega)
      have HIr := size_row r HRL.out
      clear hr
      go_wp2_with (first
        | (refine wpList_get rfl 56 (.tmp 48) rfl w2.heap.size (i * 64) (rc A.flatten) (rc r) 56 _ rfl HAr.out (by intro j v hv; rw [Nat.mul_comm i 64]; exact row_get 64 A HAW.out i r HRi.out j v hv) Try.underlying56 rfl HIr ?_)
        | (refine wpList_put rfl 56 (.tmp 14) (.tmp 49) rfl wr.heap.size 0 (rc zr) (rc r) 56 rfl rfl (bk_new _ _ _) HIr (by rw [rc_size, rc_size, zr_len, HRL.out]; omega) (rc_one _) ?_; intro w4 hb4 hg4 hs4
           have HB4 : Hid (Bk w4 wr.heap.size (rc r) 56) := by have := hb4.out; rw [putC_all _ _ (by rw [zr_len, HRL.out])] at this; exact this
           have HX4 : Hid (Bk w4 w.heap.size (rc (prT A B i).flatten) 56) := (HXr.out.alloc _).grown hg4.out (by simp; omega)
           have HG4 : Hid (w3.grownBy w4 (some w.heap.size)) := by
             have h1 : wr.grownBy w4 none := ⟨hg4.out.os, hg4.out.tape, hg4.out.output, by rw [hs4, al_size]; omega, fun q hq _ => by rw [hg4.out.block q (by rw [al_size]; omega) (by simp; omega)]; exact (World.grownBy_alloc wr _ none).block q hq (by simp)⟩
             exact HGr.out.trans (gr_of_below (below_of_gr h1) _)
           have hs5 : w4.heap.size = wr.heap.size + 1 := by rw [hs4, al_size]
           clear hb4 hg4 hs4)
        | fail)
      clear HXr HGr HAr
      obtain ⟨rb, hrb⟩ : ∃ rb, wr.heap.size = rb := ⟨_, rfl⟩
      rw [hrb] at HB4 hs5 hsr ⊢
      clear hrb
      go_loopw [52] (fun v W => ∃ k : Nat, k ≤ m ∧ v = .int .i64 k ∧ Hid (Bk W w.heap.size (rc ((prT A B i).set i (prodK r B k)).flatten) 56) ∧ Hid (w4.grownBy W (some w.heap.size))) (fun v _ => m - (intOf v).toNat)
      case atStart => exact ⟨0, by omega, rfl, by show Bk w4 w.heap.size (rc ((prT A B i).set i zr).flatten) _; rw [set_self _ _ _ (prT_at A B i (by rw [HAL.out]; exact hlt))]; exact HX4.out, World.grownBy.refl _ _⟩
      case round =>
        obtain ⟨k, hk, rfl, HXk, HGk⟩ := hrel
        have hsk : w4.heap.size ≤ wr.heap.size := HGk.out.size
        by_cases hlk : k < m
        · obtain ⟨o, ho⟩ : ∃ o, B[k]? = some o := ⟨B[k]'(by rw [HBL.out]; exact hlk), List.getElem?_eq_getElem _⟩
          have HOL : Hid (o.length = 64) := HBW.out o (List.mem_of_getElem? ho)
          have HOk : Hid (B[k]? = some o) := ho
          have HBk : Hid (Bk wr (w.heap.size + 1) (rc B.flatten) 56) := (HB3.out.grown HG4.out (by simp)).grown HGk.out (by simp)
          have HRk : Hid (Bk wr rb (rc r) 56) := HB4.out.grown HGk.out (by simp; omega)
          have HIo := size_row o HOL.out
          clear ho
          obtain ⟨x, hxk⟩ : ∃ x, r[k]? = some x := ⟨r[k]'(by rw [HRL.out]; omega), List.getElem?_eq_getElem _⟩
          have HXE : Hid (r[k]? = some x) := hxk
          obtain ⟨pk, hpk⟩ : ∃ pk, prodK r B k = pk := ⟨_, rfl⟩
          have hpl : pk.length = 64 := by rw [← hpk]; exact prodK_len r B HBW.out k
          have HPL : Hid (pk.length = 64) := hpl
          have HPN : Hid (prodK r B (k + 1) = addR pk o x) := by
            show addR (prodK r B k) (B.getD k zr) (r.getD k 0) = _
            rw [hpk, List.getD, List.getD, HOk.out, hxk]; rfl
          obtain ⟨X, hX⟩ : ∃ X, (prT A B i).set i pk = X := ⟨_, rfl⟩
          have HXW : Hid (∀ r ∈ X, r.length = 64) := by rw [← hX]; exact set_wide 64 _ (prT_wide A B HBW.out i) i pk hpl
          have hXl : X.length = n := by rw [← hX, List.length_set, prT_len A B i (by rw [HAL.out]; omega), HAL.out]
          have HXl : Hid (X.length = n) := hXl
          have HXi : Hid (X[i]? = some pk) := by show X[i]? = _; rw [← hX, List.getElem?_set]; simp [prT_len A B i (by rw [HAL.out]; omega), HAL.out, hlt]
          have HXS : Hid (∀ s, X.set i s = (prT A B i).set i s) := fun s => by rw [← hX, set_set]
          have HXk2 : Hid (Bk wr w.heap.size (rc X.flatten) 56) := by show Bk _ _ _ _; rw [← hX, ← hpk]; exact HXk.out
          clear hxk hpk hX hXl hpl HXk
          go_wp2_with (first
            | (refine wpList_get rfl 56 (.tmp 55) rfl (w.heap.size + 1) (k * 64) (rc B.flatten) (rc o) 56 _ rfl HBk.out (by intro j v hv; rw [Nat.mul_comm k 64]; exact row_get 64 B HBW.out k o HOk.out j v hv) Try.underlying56 rfl HIo ?_)
            | (refine wpList_put rfl 56 (.tmp 16) (.tmp 56) rfl wr.heap.size 0 (rc zr) (rc o) 56 rfl rfl (bk_new _ _ _) HIo (by rw [rc_size, rc_size, zr_len, HOL.out]; omega) (rc_one _) ?_; intro w5 hb5 hg5 hs6
               have h1 : wr.grownBy w5 none := ⟨hg5.out.os, hg5.out.tape, hg5.out.output, by rw [hs6, al_size]; omega, fun q hq _ => by rw [hg5.out.block q (by rw [al_size]; omega) (by simp; omega)]; exact (World.grownBy_alloc wr _ none).block q hq (by simp)⟩
               have HP5 : Hid (Pc w4 w.heap.size wr.heap.size X o w5) := ⟨(HXk2.out.alloc _).grown hg5.out (by simp; omega), by have := hb5.out; rw [putC_all _ _ (by rw [zr_len, HOL.out])] at this; exact this, HGk.out.trans (gr_of_below (below_of_gr h1) _)⟩
               clear h1 hb5 hg5 hs6)
            | fail)
          obtain ⟨ob, hob⟩ : ∃ ob, wr.heap.size = ob := ⟨_, rfl⟩
          rw [hob] at HP5 hsk ⊢
          have hix : (i : Int) < (n : Nat) := by omega
          have hkx : (k : Int) < 64 := by omega
          refine wp_region_tail (Pc w4 w.heap.size ob X o) 11 (by kernel_rfl) (by kernel_rfl) HP5.out.drew ?_
          simp only [List.take_succ_cons, List.take_zero, List.drop_succ_cons, List.drop_zero]
          simp only [Act.put]
          iterate 4 (go_big_quiet_step (fail))
          go_big_quiet_want
          refine quiet_val (.pointer (some ⟨w.heap.size, i * 64, none⟩)) ?_ ?_
          · intro W hW; go_simp; done
          go_big_quiet_on; simp only [Act.put, List.setIfInBounds_toArray, List.set_cons_zero, List.set_cons_succ]
          go_big_quiet_want
          refine quiet_row (.tmp 61) rfl w.heap.size (i * 64) pk rfl HPL.out (fun W hW j v hv => by rw [hW.x.cell, Nat.mul_comm i 64]; exact row_get 64 X HXW.out i pk HXi.out j v hv) ?_
          go_big_quiet_on; simp only [Act.put, List.setIfInBounds_toArray, List.set_cons_zero, List.set_cons_succ]
          go_big_quiet_want
          refine quiet_row (.tmp 16) rfl ob 0 o rfl HOL.out (fun W hW j v hv => by rw [hW.o.cell, Nat.zero_add]; exact hv) ?_
          go_big_quiet_on; simp only [Act.put, List.setIfInBounds_toArray, List.set_cons_zero, List.set_cons_succ]
          go_big_quiet_step (fail)
          go_big_quiet_want
          refine quiet_val (.pointer (some ⟨rb, k, none⟩)) ?_ ?_
          · intro W hW; go_simp; done
          go_big_quiet_on; simp only [Act.put, List.setIfInBounds_toArray, List.set_cons_zero, List.set_cons_succ]
          go_big_quiet_want
          refine quiet_byte (.tmp 65) rfl rb k x rfl (fun W hW => by rw [(HB4.out.grown hW.g (by simp; omega)).cell, rc_get, HXE.out]; rfl) ?_
          go_big_quiet_on; simp only [Act.put, List.setIfInBounds_toArray, List.set_cons_zero, List.set_cons_succ]
          go_big_quiet_want
          refine quiet_call (.agg (rc (addR pk o x))) 36 #[.agg (rc pk), .agg (rc o), c8 x] ?_ ?_ ?_
          · intro W hW; go_simp; done
          · intro W hW; exact (sum_any pk o x W HPL.out HOL.out).mono (fun _ _ h => ⟨h.1, hW.below h.2⟩)
          go_big_quiet_on; simp only [Act.put, List.setIfInBounds_toArray, List.set_cons_zero, List.set_cons_succ]
          refine wpQuiet_nil ?_
          intro w9 hw9
          have HP9 : Hid (Pc w4 w.heap.size ob X o w9) := hw9
          clear hw9 HP5
          have hal := addR_len pk o x HPL.out HOL.out
          have HAD : Hid ((addR pk o x).length = 64) := hal
          have HIa := size_row (addR pk o x) hal
          clear hal
          go_wp2_with (first
            | (refine wpList_put rfl 56 (.tmp 68) (.tmp 67) rfl w.heap.size (i * 64) (rc X.flatten) (rc (addR pk o x)) 56 rfl rfl HP9.out.x HIa (by rw [Nat.mul_comm i 64]; exact row_fits 64 X HXW.out i (by rw [HXl.out]; exact hlt) _ HAD.out) (rc_one _) ?_; intro w6 hb6 hg6 hs7
               have HX6 : Hid (Bk w6 w.heap.size (rc ((prT A B i).set i (prodK r B (k + 1))).flatten) 56) := by
                 have h := hb6.out
                 rw [Nat.mul_comm i 64, row_put 64 X HXW.out i (by rw [HXl.out]; exact hlt) _ HAD.out, HXS.out, ← HPN.out] at h
                 exact h
               have HG6 : Hid (w4.grownBy w6 (some w.heap.size)) := HP9.out.g.trans hg6.out
               clear hb6 hg6 hs7)
            | fail)
          go_roundw
          case rel => exact ⟨k + 1, by omega, by go_num, HX6.out, HG6.out⟩
          case measure => simp [intOf]; omega
        · have hkm : k = m := by omega
          have HXe : Hid (Bk wr w.heap.size (rc (prT A B (i + 1)).flatten) 56) := by
            have h := HXk.out
            rw [hkm, ← HBL.out] at h
            show Bk _ _ _ _
            rw [← prT_next A B i r HRi.out]
            exact h
          clear hkm HXk
          go_wp2
          go_roundw
          case rel => exact ⟨i + 1, by omega, by go_num, HXe.out, HG4.out.trans HGk.out⟩
          case measure => simp [intOf]; omega
    · have hin : i = n := by omega
      have HXe : Hid (Bk wr w.heap.size (rc (prodL A B).flatten) 56) := by
        have h := HXr.out
        rw [hin, ← HAL.out, prT_all] at h
        exact h
      have HPLn : Hid ((prodL A B).length = n) := by show (prodL A B).length = n; simp [prodL, HAL.out]
      have HPW : Hid (∀ r ∈ prodL A B, r.length = 64) := by
        intro q hq
        obtain ⟨z, _, rfl⟩ := List.mem_map.1 hq
        exact prodK_len z B HBW.out _
      have hbw : Below w.heap.size w wr := below_own HL3.out (by omega) HGr.out (Nat.le_refl _)
      have HBW2 : Hid (Below w.heap.size w wr) := hbw
      have htx := texts_any (prodL A B) w.heap.size c 56 wr HXe.out HPW.out (by rw [HPLn.out]; exact pn2) py2.2
      rw [HPLn.out] at htx
      have HTX : Hid _ := htx
      clear htx hbw hin HXr HGr
      go_wp2_with fail
      refine Calls.mono HTX.out ?_
      rintro e w7 ⟨rfl, hb7, hl7⟩
      have HB7 : Hid _ := hb7
      have HL7 : Hid _ := hl7
      clear hb7 hl7
      go_wp2
      go_ret2
      exact ⟨wr.heap.size, rfl, by omega, HB7.out, HBW2.out.trans (HL7.out.mono (by omega))⟩
end Go.Proofs.Ytblmblbkfdcbjab
