/- The document's Product: the walk. -/
import Derived.Test.YtblmblbkfdcbjaaF25
import Derived.Test.YtblmblbkfdcbjaaF10
namespace Go.Proofs.Ytblmblbkfdcbjaa
open Go.RowKit
set_option linter.unusedSimpArgs false
set_option linter.unusedVariables false
theorem index_tx (l : List UInt8) (j : Nat) (x : UInt8) (h : l[j]? = some x) (w : World) : (Instr.index 9 (.string (mkT l)) (.int .i64 j)).run Try.prog w = .ok (c8 x) w := by
  have hj := (List.getElem?_eq_some_iff.1 h).1
  have e : (mkT l)[((j : Int)).toNat]? = some x := by
    rw [Int.toNat_natCast]
    have : j < (mkT l).size := by rw [mkT_size]; exact hj
    rw [getElem?_pos (mkT l) j this]
    show some ((l.toArray)[j]'(by simpa using hj)) = some x
    rw [List.getElem_toArray, (List.getElem?_eq_some_iff.1 h).2]
  simp only [Instr.index, asIntOf, Sem.run_bind, Sem.run_pure, Result.andThen_ok, run_underlying Try.underlying9 w]
  rw [if_pos (by omega), e]
  rfl
theorem mk_self (x : ByteArray) : mkT x.data.toList = x := by cases x; simp [mkT]
theorem row_byte (x : ByteArray) (h : x.size ≤ 64) (j : Nat) (hj : j < x.size) : x.data.toList[j]? = some ((rowOf x).getD j 0) := by
  have e := rowOf_get x h j hj
  obtain ⟨v, hv⟩ : ∃ v, x.data.toList[j]? = some v := ⟨_, List.getElem?_eq_getElem (by rw [Array.length_toList]; exact hj)⟩
  rw [hv] at e
  rw [hv, List.getD, e]; rfl
theorem quiet_txt {o : Oper} {a : Act} {C : World → Prop} {K : Act → Prop} (x : Operand) (ho : o.op = .load 9 x) (g f : Nat) (s : ByteArray) (hx : a.eval x = .pointer (some ⟨g, f, none⟩))
    (hc : ∀ w, C w → w.cell? ⟨g, f, none⟩ = some (.string s)) (hn : K (a.put o.dst (.string s))) : o.quiet Try.prog a C K :=
  quiet_val (.string s) (fun w hw => by
    have h := hc w hw
    have ha : (isAgg 9).run Try.prog w = .ok false w := by kernel_rfl
    unfold execOp
    simp [ho, hx, Instr.loadAt, Instr.sureAddr, loadVar, ha, h]) hn
theorem TxL.at {w : World} {g o : Nat} {xs : List ByteArray} (h : TxL w (some ⟨g, o, none⟩) xs) {i : Nat} {x : ByteArray} (hx : xs[i]? = some x) : w.cell? ⟨g, o + i, none⟩ = some (.string x) := by
  obtain ⟨g2, o2, e, _, hc⟩ := h i x hx
  obtain ⟨rfl, rfl⟩ : g = g2 ∧ o = o2 := by simpa using e
  exact hc
/-- The worlds of the innermost region: a row of the call's own, nothing else changed. -/
structure Pd (w0 : World) (l : List UInt8) (W : World) : Prop where
  r : Bk W w0.heap.size (rc l) 5
  b : Below w0.heap.size w0 W
theorem Pd.below {w0 W W' : World} {l : List UInt8} (h : Pd w0 l W) (hb : Below W.heap.size W W') : Pd w0 l W' :=
  ⟨h.r.grown (gr_of_below hb none) (by simp), h.b.trans (hb.mono h.b.size)⟩
theorem Pd.drew {w0 W : World} {l : List UInt8} (h : Pd w0 l W) : Pd w0 l W.drew := h.below (Below.refl _ _).drew
theorem Pd.step {w0 W : World} {l : List UInt8} (h : Pd w0 l W) (j : Nat) (v : UInt8) : Pd w0 (l.set j v) (W.setCell ⟨w0.heap.size, j, none⟩ (c8 v)) :=
  ⟨by rw [← rc_set]; exact h.r.set j _, below_own h.b h.b.size (Lib.grownBy_setB (World.grownBy.refl _ _) _ _) (Nat.le_refl _)⟩
set_option maxHeartbeats 2000000 in
set_option maxRecDepth 100000 in
theorem rproduct_yes (a b : Option Addr) (ca cb : Nat) (xs ys : List ByteArray) (w : World) (hx : TxL w a xs) (hy : TxL w b ys) (mx : isM xs = true) (my : isM ys = true) (he : wid xs = ys.length) :
    Calls Try.prog 11 #[.slice a xs.length ca, .slice b ys.length cb] w fun e w' => ∃ v, e = .returned (.tuple #[v, .int .i64 0]) ∧ w'.ownsRow w.heap.size 9 1 v xs.length (sv (txtL (wid ys) (prodL (arrL xs) (arrL ys)))) ∧ Below w.heap.size w w' := by
  obtain ⟨px1, px2, px3⟩ := isM_parts xs mx
  obtain ⟨py1, py2, py3⟩ := isM_parts ys my
  obtain ⟨i0, hi, hz0, hz1, hz2⟩ := info_parts inf_str
  obtain ⟨x0, hx0⟩ : ∃ x, xs[0]? = some x := ⟨_, List.getElem?_eq_getElem (by omega)⟩
  obtain ⟨y0, hy0⟩ : ∃ y, ys[0]? = some y := ⟨_, List.getElem?_eq_getElem (by omega)⟩
  obtain ⟨ga, oa, rfl, hga, _⟩ := hx 0 x0 hx0
  obtain ⟨gb, ob, rfl, hgb, _⟩ := hy 0 y0 hy0
  clear hx0 hy0
  have HX : Hid (TxL w (some ⟨ga, oa, none⟩) xs) := hx
  have HY : Hid (TxL w (some ⟨gb, ob, none⟩) ys) := hy
  have HXS : Hid (∀ x ∈ xs, x.size = ys.length) := fun x h => by rw [px3 x h, he]
  have HYS : Hid (∀ x ∈ ys, x.size = wid ys) := py3
  have hcx := fun W hW => rcheck_any (some ⟨ga, oa, none⟩) ca xs W hW (by omega) (fun x h => by have := HXS.out x h; omega)
  have hcy := fun W hW => rcheck_any (some ⟨gb, ob, none⟩) cb ys W hW (by omega) (fun x h => by have := HYS.out x h; omega)
  obtain ⟨k1, k2, k3⟩ := ck_yes xs mx
  obtain ⟨l1, l2, l3⟩ := ck_yes ys my
  rw [k1, k2, k3] at hcx
  rw [l1, l2, l3] at hcy
  obtain ⟨B, hB⟩ : ∃ B, arrL ys = B := ⟨_, rfl⟩
  obtain ⟨n, hn⟩ : ∃ n, xs.length = n := ⟨_, rfl⟩
  obtain ⟨m, hm⟩ : ∃ m, ys.length = m := ⟨_, rfl⟩
  obtain ⟨c, hc⟩ : ∃ c, wid ys = c := ⟨_, rfl⟩
  have HXN : Hid (xs.length = n) := hn
  have HYN : Hid (ys.length = m) := hm
  have HBE : Hid (arrL ys = B) := hB
  have HBL : Hid (B.length = m) := by show B.length = m; rw [← hB, ← hm]; simp [arrL]
  have HBW : Hid (∀ r ∈ B, r.length = 64) := by rw [← hB]; exact arrL_wide ys (fun x h => by rw [py3 x h]; exact py2.2)
  rw [hB]
  rw [he, hm, hn] at hcx
  rw [hc, hm] at hcy
  rw [hn] at px1 ⊢
  rw [hm] at py1 HXS ⊢
  rw [hc] at py2 HYS ⊢
  have C1 : Hid _ := hcx
  have C2 : Hid _ := hcy
  obtain ⟨pn1, pn2⟩ := px1
  obtain ⟨pm1, pm2⟩ := py1
  obtain ⟨pc1, pc2⟩ := py2
  have hmk := make_bytes c pc2
  clear hx hy mx my he px2 px3 py3 k1 k2 k3 l1 l2 l3 hcx hcy hB hn hm hc
  go_enter Try.func11, Try.ntmps11
  go_wp2_with fail
  refine Calls.mono (C1.out _ HX.out) ?_
  rintro e w1 ⟨rfl, hb1⟩
  have HX1 : Hid (TxL w1 (some ⟨ga, oa, none⟩) xs) := HX.out.below hb1
  have HY1 : Hid (TxL w1 (some ⟨gb, ob, none⟩) ys) := HY.out.below hb1
  have B1 : Hid (Below w.heap.size w w1) := hb1
  clear hb1
  go_wp2_with fail
  refine Calls.mono (C2.out _ HY1.out) ?_
  rintro e w2 ⟨rfl, hb2⟩
  have HX2 : Hid (TxL w2 (some ⟨ga, oa, none⟩) xs) := HX1.out.below hb2
  have HY2 : Hid (TxL w2 (some ⟨gb, ob, none⟩) ys) := HY1.out.below hb2
  have B2 : Hid (Below w.heap.size w w2) := B1.out.trans (hb2.mono B1.out.size)
  clear hb2 B1 HX1 HY1 HX HY C1 C2
  go_wp2_with fail
  go_loopw [12, 13] (fun v t wr => ∃ i : Nat, i ≤ n ∧ t = .int .i64 i ∧ Hid (wr.ownsRow w2.heap.size 9 1 v i (sv ((txtL c (prodL (arrL xs) B)).take i))) ∧ Hid (Below w2.heap.size w2 wr)) (fun _ t _ => n - (intOf t).toNat)
  case atStart => exact ⟨0, by omega, rfl, World.ownsRow_nil _ _ _ _, Below.refl _ _⟩
  case round =>
    obtain ⟨i, hin, rfl, HO, HB⟩ := hrel
    have hzr : w2.heap.size ≤ wr.heap.size := HB.out.size
    by_cases hlt : i < n
    · have hiz : (i : Int) < (n : Nat) := by omega
      obtain ⟨x, hx⟩ : ∃ x, xs[i]? = some x := ⟨_, List.getElem?_eq_getElem (by rw [HXN.out]; omega)⟩
      have HXI : Hid (xs[i]? = some x) := hx
      have hxs : x.size = m := HXS.out x (List.mem_of_getElem? hx)
      have HPI : Hid ((prodL (arrL xs) B)[i]? = some (prodR B (rowOf x))) := by
        show (prodL (arrL xs) B)[i]? = _
        rw [prodL, List.getElem?_map, arrL, List.getElem?_map, hx]; rfl
      have HT : Hid ((txtL c (prodL (arrL xs) B)).take (i + 1) = (txtL c (prodL (arrL xs) B)).take i ++ [mkT ((prodR B (rowOf x)).take c)]) := txtL_take c i _ _ HPI.out
      have HAL : Hid (prB (rowOf x) B m c c = (prodR B (rowOf x)).take c) := by
        show _ = _
        rw [← HBL.out]; exact prB_all (rowOf x) B c pc2 HBW.out
      have HXB : Hid (∀ k, k < m → x.data.toList[k]? = some ((rowOf x).getD k 0)) := fun k hk => row_byte x (by omega) k (by omega)
      obtain ⟨r, hr⟩ : ∃ r, rowOf x = r := ⟨_, rfl⟩
      rw [hr] at HPI HT HAL HXB
      clear hx hr
      obtain ⟨w3, hw3⟩ : ∃ w3, wr = w3 := ⟨_, rfl⟩
      rw [hw3] at HO HB hzr ⊢
      clear hw3
      have HP0 : Hid (Pd w3 (prB r B m c 0) (w3.alloc (.cells (rc (List.replicate c 0)) 5))) := ⟨by rw [prB_zero]; exact bk_new _ _ _, (Below.refl _ _).alloc (Nat.le_refl _) _⟩
      have HX3 : Hid (TxL w3 (some ⟨ga, oa, none⟩) xs) := HX2.out.below HB.out
      have HY3 : Hid (TxL w3 (some ⟨gb, ob, none⟩) ys) := HY2.out.below HB.out
      go_wp2_with fail
      go_loopw [15] (fun t W => ∃ j : Nat, j ≤ c ∧ t = .int .i64 j ∧ Hid (Pd w3 (prB r B m c j) W)) (fun t _ => c - (intOf t).toNat)
      case atStart => exact ⟨0, by omega, rfl, HP0.out⟩
      case round =>
        obtain ⟨j, hjc, rfl, HPj⟩ := hrel
        by_cases hlj : j < c
        · have hjz : (j : Int) < (c : Nat) := by omega
          have HPk : Hid (Pd w3 ((prB r B m c j).set j (Sx 0 (trm r B j))) wr) := by
            show Pd _ _ _
            rw [show Sx 0 (trm r B j) = 0 from rfl, prB_self]; exact HPj.out
          clear HPj
          go_wp2_with fail
          go_loopw [16] (fun t W => ∃ k : Nat, k ≤ m ∧ t = .int .i64 k ∧ Hid (Pd w3 ((prB r B m c j).set j (Sx k (trm r B j))) W)) (fun t _ => m - (intOf t).toNat)
          case atStart => exact ⟨0, by omega, rfl, HPk.out⟩
          case round =>
            obtain ⟨k, hkm, rfl, HP⟩ := hrel
            by_cases hlk : k < m
            · have hkz : (k : Int) < (m : Nat) := by omega
              obtain ⟨y, hy⟩ : ∃ y, ys[k]? = some y := ⟨_, List.getElem?_eq_getElem (by rw [HYN.out]; omega)⟩
              have HYI : Hid (ys[k]? = some y) := hy
              have hys : y.size = c := HYS.out y (List.mem_of_getElem? hy)
              have hgB : B.getD k zr = rowOf y := by rw [← HBE.out, arrL, List.getD, List.getElem?_map, hy]; rfl
              obtain ⟨p, hp⟩ : ∃ p, r.getD k 0 = p := ⟨_, rfl⟩
              obtain ⟨q, hq⟩ : ∃ q, (rowOf y).getD j 0 = q := ⟨_, rfl⟩
              have hi1 := fun W => index_tx x.data.toList k p (by rw [HXB.out k hlk, hp]) W
              have hi2 := fun W => index_tx y.data.toList j q (by rw [row_byte y (by omega) j (by omega), hq]) W
              rw [mk_self] at hi1 hi2
              obtain ⟨v, hv⟩ : ∃ v, Sx k (trm r B j) = v := ⟨_, rfl⟩
              have HN : Hid (Sx (k + 1) (trm r B j) = v ^^^ mul p q) := by
                show Sx k (trm r B j) ^^^ trm r B j k = _
                rw [hv, trm, hgB, hp, hq]
              obtain ⟨l, hl⟩ : ∃ l, (prB r B m c j).set j v = l := ⟨_, rfl⟩
              have HL : Hid (l[j]? = some v) := by show l[j]? = _; rw [← hl, List.getElem?_set]; simp [prB_len, hlj]
              have HLS : Hid (∀ u, l.set j u = (prB r B m c j).set j u) := fun u => by rw [← hl]; simp
              have HPl : Hid (Pd w3 l wr) := by show Pd _ _ _; rw [← hl, ← hv]; exact HP.out
              have hx8 := xor8 v (mul p q)
              clear hy hgB hp hq hv hl HP
              have HI1 : Hid _ := hi1
              have HI2 : Hid _ := hi2
              clear hi1 hi2
              go_wp2_with fail
              refine wp_region_tail (Pd w3 l) 20 (by kernel_rfl) (by kernel_rfl) HPl.out.drew ?_
              simp only [List.take_succ_cons, List.take_zero, List.drop_succ_cons, List.drop_zero]
              iterate 4 (go_big_quiet_step (fail))
              go_big_quiet_want
              refine quiet_val (.pointer (some ⟨w3.heap.size, j, none⟩)) ?_ ?_
              · intro W hW; go_simp; done
              go_big_quiet_on; simp only [Act.put, List.setIfInBounds_toArray, List.set_cons_zero, List.set_cons_succ]
              go_big_quiet_want
              refine quiet_byte (.tmp 62) rfl w3.heap.size j v rfl (fun W hW => by rw [hW.r.cell, rc_get, HL.out]; rfl) ?_
              go_big_quiet_on; simp only [Act.put, List.setIfInBounds_toArray, List.set_cons_zero, List.set_cons_succ]
              iterate 2 (go_big_quiet_step (fail))
              go_big_quiet_want
              refine quiet_val (.pointer (some ⟨ga, oa + i, none⟩)) ?_ ?_
              · intro W hW; go_simp; done
              go_big_quiet_on; simp only [Act.put, List.setIfInBounds_toArray, List.set_cons_zero, List.set_cons_succ]
              go_big_quiet_want
              refine quiet_txt (.tmp 66) rfl ga (oa + i) x rfl (fun W hW => (HX3.out.below hW.b).at HXI.out) ?_
              go_big_quiet_on; simp only [Act.put, List.setIfInBounds_toArray, List.set_cons_zero, List.set_cons_succ]
              go_big_quiet_step (fail)
              go_big_quiet_want
              refine quiet_val (c8 p) ?_ ?_
              · intro W hW; have h := HI1.out W; unfold execOp; simp [Act.eval, h]; done
              go_big_quiet_on; simp only [Act.put, List.setIfInBounds_toArray, List.set_cons_zero, List.set_cons_succ]
              iterate 2 (go_big_quiet_step (fail))
              go_big_quiet_want
              refine quiet_val (.pointer (some ⟨gb, ob + k, none⟩)) ?_ ?_
              · intro W hW; go_simp; done
              go_big_quiet_on; simp only [Act.put, List.setIfInBounds_toArray, List.set_cons_zero, List.set_cons_succ]
              go_big_quiet_want
              refine quiet_txt (.tmp 72) rfl gb (ob + k) y rfl (fun W hW => (HY3.out.below hW.b).at HYI.out) ?_
              go_big_quiet_on; simp only [Act.put, List.setIfInBounds_toArray, List.set_cons_zero, List.set_cons_succ]
              go_big_quiet_step (fail)
              go_big_quiet_want
              refine quiet_val (c8 q) ?_ ?_
              · intro W hW; have h := HI2.out W; unfold execOp; simp [Act.eval, h]; done
              go_big_quiet_on; simp only [Act.put, List.setIfInBounds_toArray, List.set_cons_zero, List.set_cons_succ]
              go_big_quiet_want
              refine quiet_call (c8 (mul p q)) 34 #[c8 p, c8 q] ?_ ?_ ?_
              · intro W hW; go_simp; done
              · intro W hW; exact (rtimes_any p q W).mono (fun _ _ h => ⟨h.1, by rw [h.2]; exact hW⟩)
              go_big_quiet_on; simp only [Act.put, List.setIfInBounds_toArray, List.set_cons_zero, List.set_cons_succ]
              go_big_quiet_want
              refine quiet_val (c8 (v ^^^ mul p q)) ?_ ?_
              · intro W hW; go_simp; done
              go_big_quiet_on; simp only [Act.put, List.setIfInBounds_toArray, List.set_cons_zero, List.set_cons_succ]
              refine wpQuiet_nil ?_
              intro w9 hw9
              have HP9 : Hid (Pd w3 l w9) := hw9
              have hcl : w9.cell? ⟨w3.heap.size, j, none⟩ = some (c8 v) := by rw [hw9.r.cell, rc_get, HL.out]; rfl
              have hfr := hw9.r.frozen j
              have HPn : Hid (Pd w3 ((prB r B m c j).set j (Sx (k + 1) (trm r B j))) (w9.setCell ⟨w3.heap.size, j, none⟩ (c8 (v ^^^ mul p q)))) := by
                show Pd _ _ _
                rw [HN.out, ← HLS.out]; exact hw9.step j _
              clear hw9 HPl
              go_wp2
              go_roundw
              case rel => exact ⟨k + 1, by omega, by go_num, HPn.out⟩
              case measure => simp [intOf]; omega
            · have hkm2 : k = m := by omega
              have HPn : Hid (Pd w3 (prB r B m c (j + 1)) wr) := by
                have h := HP.out
                rw [hkm2, prB_next] at h
                exact h
              clear hkm2 HP
              go_wp2
              go_roundw
              case rel => exact ⟨j + 1, by omega, by go_num, HPn.out⟩
              case measure => simp [intOf]; omega
        · have hjc2 : j = c := by omega
          have hcv := conv_front (prB r B m c j) w3.heap.size c c 5 wr (by rw [prB_len]; omega) HPj.out.r
          rw [List.take_of_length_le (by rw [prB_len]; omega), hjc2, HAL.out] at hcv
          obtain ⟨pt, hpt⟩ : ∃ pt, mkT ((prodR B r).take c) = pt := ⟨_, rfl⟩
          rw [hpt] at hcv HT
          have HOo : Hid (wr.ownsRow w2.heap.size 9 1 u12 i (sv ((txtL c (prodL (arrL xs) B)).take i))) := own_kept HO.out HPj.out.b
          have HBo : Hid (Below w2.heap.size w2 wr) := HB.out.trans (HPj.out.b.mono hzr)
          have hzo : w2.heap.size ≤ wr.heap.size := HBo.out.size
          have HC1 : Hid (∀ (j : Nat) (u : Value), [Value.string pt][j]? = some u → (wr.alloc (.cells #[Value.string pt] 9)).cell? ((⟨wr.heap.size, 0, none⟩ : Addr).add j) = some u) := news_one _ _ _
          clear HPj hpt hjc2 HO HB
          go_wp2_with (at_builtin; refine wpList_append_own _ rfl _ _ 22 rfl w2.heap.size 9 i0 (.string ⟨#[]⟩) 1 16 Try.underlying22 hi hz0 hz1 hz2 rfl (by decide) _ _ _ rfl (HOo.out.alloc _) ⟨wr.heap.size, 0, none⟩ 1 1 [.string pt] rfl rfl HC1.out (one_str _) (by unfold maxLen; omega) (by omega) (by simp; omega) ?_)
          intro v' w7 hown1 hgrow _
          have HO7 : Hid (w7.ownsRow w2.heap.size 9 1 v' (i + 1) (sv ((txtL c (prodL (arrL xs) B)).take (i + 1)))) := by
            show w7.ownsRow w2.heap.size 9 1 v' (i + 1) (sv ((txtL c (prodL (arrL xs) B)).take (i + 1)))
            rw [HT.out, sv_append]; exact hown1
          have HB7 : Hid (Below w2.heap.size w2 w7) := apn_bel HBo.out (by omega) HOo.out hgrow
          clear hown1 hgrow HOo HBo HC1 hcv
          go_wp2
          go_roundw
          case rel => exact ⟨i + 1, by omega, by go_num, HO7.out, HB7.out⟩
          case measure => simp [intOf]; omega
    · have hin2 : i = n := by omega
      have HOe : Hid (wr.ownsRow w2.heap.size 9 1 u12 n (sv (txtL c (prodL (arrL xs) B)))) := by
        have h := HO.out
        rw [hin2, List.take_of_length_le (by rw [txtL_len, prodL_len, arrL, List.length_map, HXN.out]; omega)] at h
        exact h
      clear hin2 HO
      go_wp2
      go_ret2
      exact ⟨_, rfl, HOe.out.lower B2.out.size, B2.out.trans (HB.out.mono B2.out.size)⟩
end Go.Proofs.Ytblmblbkfdcbjaa
