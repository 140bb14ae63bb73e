/- The walk of munimentlaw10.AttrsBack. -/
import Derived.Test.YtjpbcjjleflffaaDoorI14
import Derived.RegionTactic
namespace Go.Proofs.YtjpbcjjleflffaaDoor
open Go.RowKit
set_option linter.unusedSimpArgs false
set_option linter.unusedVariables false
set_option maxHeartbeats 40000000 in
set_option maxRecDepth 100000 in
theorem back10 (OW : OwnC) (al : Option Addr) (n cl : Nat) (l : List At) (s : ByteArray) (w : World) (hL : AtL w al l) (hl : l.length = n) (hn : n ≤ 2199023255488) (hx : ∀ a ∈ l, a.xs.length ≤ 4398046510976) (hs : s.size ≤ 140737488351232) (hT : U8 w) :
    Calls Tryd.prog 5 #[.slice al n cl, .string s] w fun e w' => e = .returned (.bool true) ∧ Below w.heap.size w w' := by
  have HOW : Hid OwnC := OW
  have HA : Hid (AtL w al l) := hL
  have HT : Hid (U8 w) := hT
  have HL : Hid (l.length = n) := hl
  have HXL : Hid (∀ a ∈ l, a.xs.length ≤ 4398046510976) := hx
  clear OW hL hT hl hx
  go_enter Tryd.func5, Tryd.ntmps5
  go_wp2
  go_loopw [5, 6, 7] (fun v5 v6 v7 wr => ∃ (i k cm cb : Nat) (am ab : Option Addr) (P : List (At × Value)), v5 = .slice am k cm ∧ v6 = .slice ab k cb ∧ v7 = .int .i64 i ∧ i ≤ n ∧ k ≤ i ∧ Hid (P.length = k) ∧ Hid (LS w P (.slice am k cm) (.slice ab k cb) wr)) (fun _ _ v7 _ => n - (intOf v7).toNat)
  case atStart => exact ⟨0, 0, 0, 0, none, none, [], rfl, rfl, rfl, Nat.zero_le _, Nat.le_refl _, rfl, LS.start w⟩
  case round =>
    obtain ⟨i, k, cm, cb, am, ab, P, rfl, rfl, rfl, hi, hki, HK, HLS⟩ := hrel
    have hzr : w.heap.size ≤ wr.heap.size := HLS.out.bel.size
    by_cases hlt : i < n
    · have hiz : (i : Int) < (n : Nat) := by omega
      obtain ⟨a, ha⟩ : ∃ a, l[i]? = some a := ⟨l[i]'(by rw [HL.out]; exact hlt), List.getElem?_eq_getElem _⟩
      obtain ⟨hao, g0, o0, sl, cp0, rfl, hg2, c0, c1, c2, c3, c4, c5, c6, hX⟩ := HA.out.below HLS.out.bel i a ha
      have hxl := HXL.out a (List.mem_of_getElem? ha)
      obtain ⟨nd, md, ui, gi, mt, tg, xs⟩ := a
      have b1 := hao.nd; have b2 := hao.md; have b3 := hao.ui; have b4 := hao.gi; have b5 := hao.mt; have b6 := hao.tg; have b7 := hao.xs
      simp only at c0 c1 c2 c3 c4 c5 c6 hX b1 b2 b3 b4 b5 b6 b7 hxl
      obtain ⟨m, hm⟩ : ∃ m, xs.length = m := ⟨_, rfl⟩
      rw [hm] at c6 b7 hxl
      have HM : Hid (xs.length = m) := hm
      have HSM : Hid (∀ x ∈ xs, x.1.size ≤ 140737488351232 ∧ x.2.size ≤ 140737488351232) := xal_small hX
      have HOA : Hid (AtOk ⟨nd, md, ui, gi, mt, tg, xs⟩) := hao
      have CO : Hid (Calls Tryd.prog 7 #[atV nd md ui gi mt tg (.slice sl m cp0)] wr fun e w' => ∃ g cp, e = .returned (.agg (c7 nd md ui gi mt tg (.slice (some ⟨g, 0, none⟩) m cp))) ∧ w'.ownsRow wr.heap.size 57 2 (.slice (some ⟨g, 0, none⟩) (m + 1) cp) (m + 1) (xav (xs ++ [(⟨#[35]⟩, ⟨#[]⟩)])) ∧ Below wr.heap.size wr w') := HOW.out nd md ui gi mt tg xs sl m cp0 wr hX hm hxl
      clear ha hX hm hao
      go_wp2_with fail
      refine CO.out.mono ?_
      rintro e w1 ⟨g, cp, rfl, ho1, hb1⟩
      have LS1 : Hid (LS w P (.slice am k cm) (.slice ab k cb) w1) := HLS.out.keep hb1
      have XO1 : Hid (w1.ownsRow w.heap.size 57 2 (.slice (some ⟨g, 0, none⟩) (m + 1) cp) (m + 1) (xav (xs ++ [mrk]))) := rows_low ho1 hzr
      have hXA : Hid (∀ u, Below w1.heap.size w1 u → XaL u (some ⟨g, 0, none⟩) xs) := fun u hu => by
        have h := rows_keep XO1.out (fun g _ h2 => hu.block g h2)
        rw [← HM.out] at h
        exact (mk_xal HSM.out h).1
      have hz1 : w.heap.size ≤ w1.heap.size := Nat.le_trans hzr hb1.size
      have HTU : Hid (∀ u, Below w1.heap.size w1 u → U8 u) := fun u hu => HT.out.below (LS1.out.bel.trans (hu.mono hz1))
      have CP : Hid (∀ u, Below w1.heap.size w1 u → Calls Tryd.prog 8 #[atV nd md ui gi mt tg (.slice (some ⟨g, 0, none⟩) m cp)] u fun e w' => e = .returned (.tuple #[.string ⟨(ptl ⟨nd, md, ui, gi, mt, tg, xs⟩).toArray⟩, .int .i64 (pte ⟨nd, md, ui, gi, mt, tg, xs⟩)]) ∧ Below u.heap.size u w') := fun u hu =>
        aput_any nd md ui gi mt tg xs _ m cp u (hXA.out u hu) HM.out (by omega) b6 (HTU.out u hu) b3 b4
      have CC : Hid (∀ u, Below w1.heap.size w1 u → Calls Tryd.prog 16 #[atV nd md ui gi mt tg (.slice (some ⟨g, 0, none⟩) m cp)] u fun e w' => e = .returned (.int .i64 (ckE ⟨nd, md, ui, gi, mt, tg, xs⟩)) ∧ Below u.heap.size u w') := fun u hu =>
        acheck_any nd md ui gi mt tg xs _ m cp u (hXA.out u hu) HM.out (by omega) b6 (HTU.out u hu)
      have BX : Hid (Bk (w1.alloc (.cells (c7 nd md ui gi mt tg (.slice (some ⟨g, 0, none⟩) m cp)) 28)) w1.heap.size (c7 nd md ui gi mt tg (.slice (some ⟨g, 0, none⟩) m cp)) 28) := bk_new _ _ _
      have hbA : Hid (Below w1.heap.size w1 (w1.alloc (.cells (c7 nd md ui gi mt tg (.slice (some ⟨g, 0, none⟩) m cp)) 28))) := (Below.refl _ _).alloc (Nat.le_refl _) _
      clear ho1 hb1 CO HLS
      cases hok : okA ⟨nd, md, ui, gi, mt, tg, xs⟩ with
      | false =>
        have hc0 : ckE ⟨nd, md, ui, gi, mt, tg, xs⟩ = 1 := by unfold ckE; rw [hok]; rfl
        rw [hc0] at CC
        rw [(pte_no hok).1, (pte_no hok).2] at CP
        clear hok hc0
        go_wp2_with fail
        refine (CP.out _ hbA.out).mono ?_
        rintro e w2 ⟨rfl, hb2⟩
        have B2 : Hid (Below w1.heap.size w1 w2) := hbA.out.trans (hb2.mono (by simp))
        have bx2 := BX.out.below hb2 BX.out.lt
        obtain ⟨x0, x1, x2, x3, x4, x5, x6⟩ := cells7 bx2
        clear hb2 bx2
        go_wp2_with fail
        refine (CC.out _ B2.out).mono ?_
        rintro e w3 ⟨rfl, hb3⟩
        have B3 : Hid (Below w1.heap.size w1 w3) := B2.out.trans (hb3.mono B2.out.size)
        clear hb3
        go_wp2
        go_roundw
        case rel => exact ⟨i + 1, k, cm, cb, am, ab, P, rfl, rfl, by go_num, by omega, by omega, HK.out, LS1.out.keep B3.out⟩
        case measure => simp [intOf]; omega
      | true =>
        have hc0 : ckE ⟨nd, md, ui, gi, mt, tg, xs⟩ = 0 := by unfold ckE; rw [hok]; rfl
        rw [hc0] at CC
        rw [(pte_yes hok).1, (pte_yes hok).2] at CP
        have HG : Hid (Gd ⟨nd, md, ui, gi, mt, tg, xs⟩) := ⟨hok, b3, b4⟩
        have hll := lay_len hok (by show ui < 2 ^ 32; omega) (by show gi < 2 ^ 32; omega)
        obtain ⟨Q, hQ⟩ : ∃ Q : ByteArray, (⟨(lay ⟨nd, md, ui, gi, mt, tg, xs⟩).toArray⟩ : ByteArray) = Q := ⟨_, rfl⟩
        rw [← lay_size, hQ] at hll
        rw [hQ] at CP
        have HQ : Hid ((⟨(lay ⟨nd, md, ui, gi, mt, tg, xs⟩).toArray⟩ : ByteArray) = Q) := hQ
        clear hok hc0 hQ
        go_wp2_with fail
        refine (CP.out _ hbA.out).mono ?_
        rintro e w2 ⟨rfl, hb2⟩
        have B2 : Hid (Below w1.heap.size w1 w2) := hbA.out.trans (hb2.mono (by simp))
        have BX2 : Hid (Bk w2 w1.heap.size (c7 nd md ui gi mt tg (.slice (some ⟨g, 0, none⟩) m cp)) 28) := BX.out.below hb2 BX.out.lt
        obtain ⟨x0, x1, x2, x3, x4, x5, x6⟩ := cells7 BX2.out
        clear hb2
        go_wp2_with fail
        refine (CC.out _ B2.out).mono ?_
        rintro e w3 ⟨rfl, hb3⟩
        have B3 : Hid (Below w1.heap.size w1 w3) := B2.out.trans (hb3.mono B2.out.size)
        have BX3 : Hid (Bk w3 w1.heap.size (c7 nd md ui gi mt tg (.slice (some ⟨g, 0, none⟩) m cp)) 28) := BX2.out.below hb3 BX2.out.lt
        clear hb3 x0 x1 x2 x3 x4 x5 x6 BX2 B2 CP CC
        go_wp2_with fail
        refine (read10 Q _ (by omega) (HTU.out _ B3.out)).mono ?_
        rintro e w4 ⟨a', va, er, rfl, hrd, hao', how, hsm, hb4⟩
        rw [← HQ.out] at hrd
        obtain ⟨rfl, rfl⟩ := rd_put hrd HG.out hao'
        have B4 : Hid (Below w1.heap.size w1 w4) := B3.out.trans (hb4.mono B3.out.size)
        have BX4 : Hid (Bk w4 w1.heap.size (c7 nd md ui gi mt tg (.slice (some ⟨g, 0, none⟩) m cp)) 28) := BX3.out.below hb4 BX3.out.lt
        obtain ⟨oa, ca, hva, hXa⟩ := own_xal how rfl (fun x hx => by have := hsm x hx; omega)
        subst hva
        dsimp only at hXa ⊢
        rw [HM.out]
        have hlt4 : w1.heap.size < w4.heap.size := BX4.out.lt
        have hbA4 : Below w4.heap.size w4 (w4.alloc (.cells (c7 nd md ui gi mt tg (.slice oa m ca)) 28)) := (Below.refl _ _).alloc (Nat.le_refl _) _
        have B5 : Hid (Below w1.heap.size w1 (w4.alloc (.cells (c7 nd md ui gi mt tg (.slice oa m ca)) 28))) := B4.out.trans (hbA4.mono B4.out.size)
        have BX5 : Hid (Bk (w4.alloc (.cells (c7 nd md ui gi mt tg (.slice oa m ca)) 28)) w1.heap.size (c7 nd md ui gi mt tg (.slice (some ⟨g, 0, none⟩) m cp)) 28) := BX4.out.alloc _
        have CS : Hid (Calls Tryd.prog 18 #[atV nd md ui gi mt tg (.slice (some ⟨g, 0, none⟩) m cp), atV nd md ui gi mt tg (.slice oa m ca)] (w4.alloc (.cells (c7 nd md ui gi mt tg (.slice oa m ca)) 28)) fun e w' => e = .returned (.bool true) ∧ Below (w4.alloc (.cells (c7 nd md ui gi mt tg (.slice oa m ca)) 28)).heap.size (w4.alloc (.cells (c7 nd md ui gi mt tg (.slice oa m ca)) 28)) w') := by
          have h := same10 nd md ui gi mt tg xs (some ⟨g, 0, none⟩) cp nd md ui gi mt tg xs oa ca _ (hXA.out _ B5.out) (hXa.below hbA4) (by rw [HM.out]; omega) (by rw [HM.out]; omega)
          rw [HM.out, (smB_iff _ _).2 rfl] at h
          exact h
        obtain ⟨x0, x1, x2, x3, x4, x5, x6⟩ := cells7 BX4.out
        clear hrd hao' how hsm hb4 hXa hbA4 BX3 B3
        go_wp2_with fail
        refine CS.out.mono ?_
        rintro e w5 ⟨rfl, hb5⟩
        have B6 : Hid (Below w1.heap.size w1 w5) := B5.out.trans (hb5.mono B5.out.size)
        have BX6 : Hid (Bk w5 w1.heap.size (c7 nd md ui gi mt tg (.slice (some ⟨g, 0, none⟩) m cp)) 28) := BX5.out.below hb5 BX5.out.lt
        clear hb5 x0 x1 x2 x3 x4 x5 x6 BX4 B4 CS BX5 B5
        go_wp2
        go_loopw [13] (fun v wq => ∃ j : Nat, v = .int .i64 j ∧ j ≤ k ∧ Hid (Below w1.heap.size w1 wq) ∧ Hid (Bk wq w1.heap.size (c7 nd md ui gi mt tg (.slice (some ⟨g, 0, none⟩) m cp)) 28)) (fun v _ => k - (intOf v).toNat)
        case atStart => exact ⟨0, rfl, Nat.zero_le _, B6.out, BX6.out⟩
        case round =>
          clear B6 BX6
          obtain ⟨j, rfl, hj, BQ, BXQ⟩ := hrel
          have LSQ : Hid (LS w P (.slice am k cm) (.slice ab k cb) wr) := LS1.out.keep BQ.out
          have hzq : w.heap.size ≤ wr.heap.size := LSQ.out.bel.size
          obtain ⟨x0, x1, x2, x3, x4, x5, x6⟩ := cells7 BXQ.out
          have hxq := BXQ.out.lt
          by_cases hjl : j < k
          · have hjz : (j : Int) < (k : Nat) := by omega
            obtain ⟨p, hp⟩ : ∃ p, P[j]? = some p := ⟨P[j]'(by rw [HK.out]; exact hjl), List.getElem?_eq_getElem _⟩
            obtain ⟨hpo, gm, om, slp, cpp, rfl, hgm, d0, d1, d2, d3, d4, d5, d6, hXp⟩ := LSQ.out.at.1 j p.1 (by rw [List.getElem?_map, hp]; rfl)
            obtain ⟨gb, ob, rfl, hgb, e0⟩ := LSQ.out.sx j _ (by rw [List.getElem?_map, hp]; rfl)
            have hpk := LSQ.out.ok p (List.mem_of_getElem? hp)
            obtain ⟨⟨nd', md', ui', gi', mt', tg', ys⟩, pv⟩ := p
            simp only at d0 d1 d2 d3 d4 d5 d6 hXp hpk e0
            have hcm := cmp10 (a := ⟨nd', md', ui', gi', mt', tg', ys⟩) (b := ⟨nd, md, ui, gi, mt, tg, xs⟩) ⟨hpk, hpo.ui, hpo.gi⟩ HG.out
            rw [HQ.out] at hcm
            obtain ⟨Y, hY⟩ : ∃ Y : ByteArray, (⟨(lay ⟨nd', md', ui', gi', mt', tg', ys⟩).toArray⟩ : ByteArray) = Y := ⟨_, rfl⟩
            obtain ⟨q, hq⟩ : ∃ q, smB ⟨nd', md', ui', gi', mt', tg', ys⟩ ⟨nd, md, ui, gi, mt, tg, xs⟩ = q := ⟨_, rfl⟩
            obtain ⟨my, hmy⟩ : ∃ my, ys.length = my := ⟨_, rfl⟩
            rw [hY] at hcm e0
            rw [hq] at hcm
            rw [hmy] at d6
            have heq : (Y.toList == Q.toList) = q := by rw [toL_eq]; exact hcm
            have CSM : Hid (∀ u, Below wr.heap.size wr u → Calls Tryd.prog 18 #[atV nd' md' ui' gi' mt' tg' (.slice slp my cpp), atV nd md ui gi mt tg (.slice (some ⟨g, 0, none⟩) m cp)] u fun e w' => e = .returned (.bool q) ∧ Hid (Below wr.heap.size wr w') ∧ w'.cell? ⟨gb, ob + j, none⟩ = some (.string Y)) := fun u hu => by
              have h := same10 nd' md' ui' gi' mt' tg' ys slp cpp nd md ui gi mt tg xs (some ⟨g, 0, none⟩) cp u (hXp.below hu) (hXA.out u (BQ.out.trans (hu.mono BQ.out.size))) (by have := hpo.xs; simp only at this; omega) (by rw [HM.out]; omega)
              rw [hq, hmy, HM.out] at h
              refine h.mono ?_
              rintro e w' ⟨rfl, hb⟩
              have hb' := hu.trans (hb.mono hu.size)
              exact ⟨rfl, hb', by rw [hb'.cell (p := ⟨gb, ob + j, none⟩) hgb]; exact e0⟩
            clear hp hpo hXp hpk hcm hY hq hmy
            go_wp2
            go_region_with (go_at_call 18; go_loud (refine (CSM.out _ (Below.refl _ _).drew).mono ?_; rintro e w6 ⟨rfl, HB6, hc6⟩))
            all_goals (first | go_wp2 | skip)
            all_goals go_roundw
            all_goals first
              | (case rel => exact ⟨j + 1, by go_num, by omega, BQ.out.trans (HB6.out.mono BQ.out.size), BXQ.out.below HB6.out BXQ.out.lt⟩)
              | (case measure => simp [intOf]; omega)
          · have hjz : ¬ (j : Int) < (k : Nat) := by omega
            have XOQ : Hid (wr.ownsRow w.heap.size 57 2 (.slice (some ⟨g, 0, none⟩) (m + 1) cp) (m + 1) (xav (xs ++ [mrk]))) := rows_keep XO1.out (fun g _ h2 => BQ.out.block g h2)
            have O6 : Hid ((wr.alloc (.cells (c7 nd md ui gi mt tg (.slice (some ⟨g, 0, none⟩) m cp)) 28)).ownsRow w.heap.size 28 7 (.slice am k cm) k (atv P)) := by
              have h := LSQ.out.mo
              rw [HK.out] at h
              exact h.alloc _
            obtain ⟨i0, hi0, hz0, hz1', hz2⟩ := info_parts inf_attr3
            go_wp2_with (at_builtin; refine wpList_append_own _ rfl _ _ 48 rfl w.heap.size 28 i0 (.agg z7) 7 64 Tryd.underlying48 hi0 hz0 hz1' hz2 rfl (by decide) _ _ _ rfl O6.out ⟨wr.heap.size, 0, none⟩ 1 1 (c7 nd md ui gi mt tg (.slice (some ⟨g, 0, none⟩) m cp)).toList rfl rfl (news_list _ _ _) (one_acl _ _ _ _ _ _ _ _ _) (by unfold maxLen; omega) (by omega) (by simp; omega) ?_)
            intro v' w7 hown hgrow _
            have hbA : Below wr.heap.size wr (wr.alloc (.cells (c7 nd md ui gi mt tg (.slice (some ⟨g, 0, none⟩) m cp)) 28)) := (Below.refl _ _).alloc (Nat.le_refl _) _
            have LSA := LSQ.out.keep hbA
            have XO7 : w7.ownsRow w.heap.size 57 2 (.slice (some ⟨g, 0, none⟩) (m + 1) cp) (m + 1) (xav (xs ++ [mrk])) := own_ty (XOQ.out.alloc _) O6.out (by decide) hgrow
            have MQ7 : MkO w7 w.heap.size P := LSA.mq.grow O6.out (by decide) hgrow
            have BO7 : w7.ownsRow w.heap.size 9 1 (.slice ab k cb) k (sxv (P.map fun p => ⟨(lay p.1).toArray⟩)) := by
              have h := own_ty LSA.bo O6.out (by decide) hgrow
              rw [HK.out] at h
              exact h
            have BE7 : Below w.heap.size w w7 := rows_bel LSA.bel (by simp; omega) O6.out (Nat.le_refl _) hgrow
            have MO7 : Hid (w7.ownsRow w.heap.size 28 7 v' (k + 1) (atv (P ++ [(⟨nd, md, ui, gi, mt, tg, xs⟩, .slice (some ⟨g, 0, none⟩) m cp)]))) := by
              show World.ownsRow _ _ _ _ _ _ _
              rw [atv_app, atv_one]; exact hown
            have H7 : Hid (w7.ownsRow w.heap.size 57 2 (.slice (some ⟨g, 0, none⟩) (m + 1) cp) (m + 1) (xav (xs ++ [mrk])) ∧ MkO w7 w.heap.size P ∧ Below w.heap.size w w7) := ⟨XO7, MQ7, BE7⟩
            have hz7 : w.heap.size ≤ w7.heap.size := BE7.size
            have OB7 : Hid ((w7.alloc (.cells #[.string Q] 9)).ownsRow w.heap.size 9 1 (.slice ab k cb) k (sxv (P.map fun p => ⟨(lay p.1).toArray⟩))) := BO7.alloc _
            obtain ⟨g7, cp7, hv7⟩ : ∃ g7 c7, v' = .slice (some ⟨g7, 0, none⟩) (k + 1) c7 := by
              rcases hown.2 with ⟨_, h0⟩ | ⟨g7, c7, cur, h1, _⟩
              · omega
              · exact ⟨g7, c7, h1⟩
            subst hv7
            obtain ⟨j0, hj0, hy0, hy1, hy2⟩ := info_parts inf_str10
            clear hown hgrow hbA LSA XO7 MQ7 BO7 BE7 O6 XOQ
            go_wp2_with (at_builtin; refine wpList_append_own _ rfl _ _ 59 rfl w.heap.size 9 j0 (.string ⟨#[]⟩) 1 16 Tryd.underlying59 hj0 hy0 hy1 hy2 rfl (by decide) _ _ _ rfl OB7.out ⟨w7.heap.size, 0, none⟩ 1 1 [.string Q] rfl rfl (news_list w7 #[.string Q] _) (one_str10 _) (by unfold maxLen; omega) (by omega) (by simp; omega) ?_)
            intro v8 w8 hown hgrow _
            have hbB : Below w7.heap.size w7 (w7.alloc (.cells #[.string Q] 9)) := (Below.refl _ _).alloc (Nat.le_refl _) _
            have LS8 : Hid (LS w (P ++ [(⟨nd, md, ui, gi, mt, tg, xs⟩, .slice (some ⟨g, 0, none⟩) m cp)]) (.slice (some ⟨g7, 0, none⟩) (k + 1) cp7) v8 w8) := by
              refine ⟨?_, ?_, ?_, ?_, rows_bel (H7.out.2.2.trans (hbB.mono hz7)) (by simp; omega) OB7.out (Nat.le_refl _) hgrow⟩
              · rw [List.length_append, HK.out]
                exact own_ty (MO7.out.alloc _) OB7.out (by decide) hgrow
              · rw [List.length_append, HK.out, List.map_append, sxv_app]
                have e : sxv ([((⟨nd, md, ui, gi, mt, tg, xs⟩ : At), (.slice (some ⟨g, 0, none⟩) m cp : Value))].map fun p => (⟨(lay p.1).toArray⟩ : ByteArray)) = [.string Q] := by rw [← HQ.out]; rfl
                rw [e]; exact hown
              · intro p hp
                rcases List.mem_append.1 hp with h | h
                · exact ((H7.out.2.1.keep (fun g _ h2 => hbB.block g h2)).grow OB7.out (by decide) hgrow) p h
                · rw [List.mem_singleton] at h
                  subst h
                  refine ⟨HOA.out, HSM.out, g, cp, by (show Value.slice _ _ _ = _; rw [HM.out]), ?_⟩
                  show World.ownsRow _ _ _ _ (.slice _ (xs.length + 1) _) (xs.length + 1) _
                  rw [HM.out]
                  exact own_ty (H7.out.1.alloc _) OB7.out (by decide) hgrow
              · intro p hp
                rcases List.mem_append.1 hp with h | h
                · exact LSQ.out.ok p h
                · rw [List.mem_singleton] at h
                  subst h
                  exact HG.out.ok
            obtain ⟨g8, cp8, hv8⟩ : ∃ g7 c7, v8 = .slice (some ⟨g7, 0, none⟩) (k + 1) c7 := by
              rcases hown.2 with ⟨_, h0⟩ | ⟨g7, c7, cur, h1, _⟩
              · omega
              · exact ⟨g7, c7, h1⟩
            subst hv8
            clear hown hgrow hbB MO7 H7 OB7
            go_wp2
            go_roundw
            case rel => exact ⟨i + 1, k + 1, cp7, cp8, _, _, _, rfl, rfl, by go_num, by omega, by omega, by (show _ = _; rw [List.length_append, HK.out]; rfl), LS8.out⟩
            case measure => simp [intOf]; omega
    · have hiz : ¬ (i : Int) < (n : Nat) := by omega
      obtain ⟨K, hK⟩ : ∃ K, min k 257 = K := ⟨_, rfl⟩
      have hKz : min (k : Int) 257 = (K : Int) := by omega
      have hK1 : K ≤ k := by omega
      have hK2 : K ≤ 257 := by omega
      have hcm : k ≤ cm := by have := HLS.out.at.2; rw [HK.out] at this; exact this
      have hcz : (K : Int) ≤ (cm : Nat) := by omega
      have hKk : (K : Int) ≤ (k : Nat) := by omega
      obtain ⟨l', hl'⟩ : ∃ l', (P.map Prod.fst).take K = l' := ⟨_, rfl⟩
      have HLL : Hid (l'.length = K) := by show _ = _; rw [← hl', List.length_take, List.length_map, HK.out]; omega
      have HAL : Hid (AtL wr am l') := by rw [← hl']; exact HLS.out.at.1.take K
      have HOKL : Hid (∀ a ∈ l', okA a = true) := fun a ha => by
        rw [← hl'] at ha
        obtain ⟨p, hp, rfl⟩ := List.mem_map.1 (List.mem_of_mem_take ha)
        exact HLS.out.ok p hp
      have BW : Hid (Below w.heap.size w wr) := HLS.out.bel
      have CST : Hid (Calls Tryd.prog 21 #[.slice am K cm] wr fun e w' => e = .returned (.tuple #[.string ⟨(smL l').toArray⟩, .int .i64 (smE l')]) ∧ Below wr.heap.size wr w') := stream_any am K cm l' wr HAL.out HLL.out (by omega) (HT.out.below BW.out)
      clear hK hl' HLS
      go_wp2_with fail
      refine CST.out.mono ?_
      rintro e w2 ⟨rfl, hb2⟩
      have B2 : Hid (Below w.heap.size w w2) := BW.out.trans (hb2.mono hzr)
      have AL2 : Hid (AtL w2 am l') := HAL.out.below hb2
      clear hb2
      by_cases hK0 : 0 < K
      · have hK0z : (0 : Int) < (K : Nat) := by omega
        have hst : stB l' = true := by
          unfold stB
          rw [decide_eq_true (by rw [HLL.out]; omega), Bool.true_and, List.all_eq_true]
          exact HOKL.out
        have HGL : Hid (GdL l') := ⟨hst, fun a ha => by
          obtain ⟨i, hi⟩ := List.getElem?_of_mem ha
          have := (HAL.out i a hi).1
          exact ⟨this.ui, this.gi⟩⟩
        rw [(sm_yes hst).1, (sm_yes hst).2]
        have hsz : (stL l').length ≤ 100000000 := by
          have h1 := stF_len l' (fun a ha => by
            obtain ⟨i, hi⟩ := List.getElem?_of_mem ha
            have := (HAL.out i a hi).1
            have h2 := this.ui
            have h3 := this.gi
            exact ⟨HOKL.out a ha, by omega, by omega⟩)
          rw [HLL.out] at h1
          have h2 := e8_len l'.length (by rw [HLL.out]; omega)
          unfold stL
          rw [List.length_append]
          omega
        obtain ⟨T, hT⟩ : ∃ T : ByteArray, (⟨(stL l').toArray⟩ : ByteArray) = T := ⟨_, rfl⟩
        have hTs : T.size ≤ 100000000 := by
          rw [← hT]
          show (stL l').toArray.size ≤ _
          simpa using hsz
        rw [hT]
        have HTT : Hid ((⟨(stL l').toArray⟩ : ByteArray) = T) := hT
        clear hst hsz hT
        go_wp2_with fail
        refine (readst T _ (by omega) (HT.out.below B2.out)).mono ?_
        rintro e w3 ⟨P2, v2, er, rfl, hsr, hro, hxr, hpl, hb3⟩
        rw [← HTT.out] at hsr
        obtain ⟨rfl, hll⟩ := sr_put hsr HGL.out (fun a ha => by
          obtain ⟨p, hp, rfl⟩ := List.mem_map.1 ha
          exact (hxr p hp).1)
        obtain ⟨a2, c2, hv2, hA2, _, _⟩ := row_atl hro rfl hxr.xv
        subst hv2
        have hPK : P2.length = K := by rw [← HLL.out, ← hll, List.length_map]
        rw [hPK]
        rw [hll] at hA2
        have B3 : Hid (Below w.heap.size w w3) := B2.out.trans (hb3.mono B2.out.size)
        have AL3 : Hid (AtL w3 am l') := AL2.out.below hb3
        have AM3 : Hid (AtL w3 a2 l') := hA2
        have hKK : ((K : Int) != K) = false := by simp
        clear hsr hll hro hxr hpl hb3 hPK hA2 B2 AL2 HAL
        go_wp2
        go_loopw [18] (fun v wq => ∃ j : Nat, v = .int .i64 j ∧ j ≤ K ∧ Hid (Below w.heap.size w wq) ∧ Hid (AtL wq am l' ∧ AtL wq a2 l')) (fun v _ => K - (intOf v).toNat)
        case atStart => exact ⟨0, rfl, Nat.zero_le _, B3.out, AL3.out, AM3.out⟩
        case round =>
          clear B3 AL3 AM3
          obtain ⟨j, rfl, hj, BQ, HQ⟩ := hrel
          by_cases hjl : j < K
          · have hjz : (j : Int) < (K : Nat) := by omega
            obtain ⟨p, hp⟩ : ∃ p, l'[j]? = some p := ⟨l'[j]'(by rw [HLL.out]; exact hjl), List.getElem?_eq_getElem _⟩
            obtain ⟨hpo, gm, om, slp, cpp, rfl, hgm, d0, d1, d2, d3, d4, d5, d6, hXp⟩ := HQ.out.1 j p hp
            obtain ⟨_, gn, on, sln, cpn, rfl, hgn, e0, e1, e2, e3, e4, e5, e6, hXn⟩ := HQ.out.2 j p hp
            obtain ⟨nd, md, ui, gi, mt, tg, ys⟩ := p
            simp only at d0 d1 d2 d3 d4 d5 d6 e0 e1 e2 e3 e4 e5 e6 hXp hXn
            have hy := hpo.xs
            simp only at hy
            obtain ⟨my, hmy⟩ : ∃ my, ys.length = my := ⟨_, rfl⟩
            rw [hmy] at d6 e6 hy
            have CSM : Hid (∀ u, Below wr.heap.size wr u → Calls Tryd.prog 18 #[atV nd md ui gi mt tg (.slice sln my cpn), atV nd md ui gi mt tg (.slice slp my cpp)] u fun e w' => e = .returned (.bool true) ∧ Hid (Below wr.heap.size wr w')) := fun u hu => by
              have h := same10 nd md ui gi mt tg ys sln cpn nd md ui gi mt tg ys slp cpp u (hXn.below hu) (hXp.below hu) (by omega) (by omega)
              rw [(smB_iff _ _).2 rfl, hmy] at h
              refine h.mono ?_
              rintro e w' ⟨rfl, hb⟩
              exact ⟨rfl, hu.trans (hb.mono hu.size)⟩
            clear hp hpo hXp hXn hmy
            go_wp2
            go_region_with (go_at_call 18; go_loud (refine (CSM.out _ (Below.refl _ _).drew).mono ?_; rintro e w6 ⟨rfl, HB6⟩))
            all_goals (first | go_wp2 | skip)
            all_goals go_roundw
            all_goals first
              | (case rel => exact ⟨j + 1, by go_num, by omega, BQ.out.trans (HB6.out.mono BQ.out.size), HQ.out.1.below HB6.out, HQ.out.2.below HB6.out⟩)
              | (case measure => simp [intOf]; omega)
          · have hjz : ¬ (j : Int) < (K : Nat) := by omega
            have BF : Hid (Below w.heap.size w wr) := BQ.out
            clear BQ HQ HGL HOKL
            go_wp2_with fail
            refine (read10 s _ hs (HT.out.below BF.out)).mono ?_
            rintro e w4 ⟨ax, vx, ex, rfl, hrd, hao, how, hsm, hb4⟩
            obtain ⟨oa, ca, hva, hXa⟩ := own_xal how rfl (fun x hx => by have := hsm x hx; omega)
            subst hva
            have B4 : Hid (Below w.heap.size w w4) := BF.out.trans (hb4.mono BF.out.size)
            have hz4 : w.heap.size ≤ w4.heap.size := B4.out.size
            obtain ⟨nd, md, ui, gi, mt, tg, xs⟩ := ax
            have HRD : Hid (RdS s ⟨nd, md, ui, gi, mt, tg, xs⟩ ex) := hrd
            dsimp only at hXa ⊢
            have b3 := hao.ui; have b4 := hao.gi; have b6 := hao.tg; have b7 := hao.xs
            simp only at b3 b4 b6 b7
            obtain ⟨mx, hmx⟩ : ∃ m, xs.length = m := ⟨_, rfl⟩
            rw [hmx]
            rw [hmx] at b7
            have CP : Hid (Calls Tryd.prog 8 #[atV nd md ui gi mt tg (.slice oa mx ca)] (w4.alloc (.cells (c7 nd md ui gi mt tg (.slice oa mx ca)) 28)) fun e w' => e = .returned (.tuple #[.string ⟨(ptl ⟨nd, md, ui, gi, mt, tg, xs⟩).toArray⟩, .int .i64 (pte ⟨nd, md, ui, gi, mt, tg, xs⟩)]) ∧ Below (w4.alloc (.cells (c7 nd md ui gi mt tg (.slice oa mx ca)) 28)).heap.size (w4.alloc (.cells (c7 nd md ui gi mt tg (.slice oa mx ca)) 28)) w') :=
              aput_any nd md ui gi mt tg xs oa mx ca _ (hXa.below ((Below.refl _ _).alloc (Nat.le_refl _) _)) hmx (by omega) b6 (HT.out.below (B4.out.alloc hz4 _)) b3 b4
            clear hrd hao how hsm hb4 hXa hmx
            go_wp2_with fail
            refine CP.out.mono ?_
            rintro e w5 ⟨rfl, hb5⟩
            have B5 : Hid (Below w.heap.size w w5) := (B4.out.alloc hz4 _).trans (hb5.mono (by simp; omega))
            clear hb5 CP
            go_wp2_with fail
            refine (readst s _ hs (HT.out.below B5.out)).mono ?_
            rintro e w6 ⟨P3, v3, e3, rfl, hsr, hro, hxr, hpl, hb6⟩
            obtain ⟨a3, c3, hv3, hA3, _, _⟩ := row_atl hro rfl hxr.xv
            subst hv3
            have B6 : Hid (Below w.heap.size w w6) := B5.out.trans (hb6.mono B5.out.size)
            have HSR : Hid (SrS s (P3.map Prod.fst) e3) := hsr
            have CS3 : Hid (Calls Tryd.prog 21 #[.slice a3 P3.length c3] w6 fun e w' => e = .returned (.tuple #[.string ⟨(smL (P3.map Prod.fst)).toArray⟩, .int .i64 (smE (P3.map Prod.fst))]) ∧ Below w6.heap.size w6 w') := stream_any a3 P3.length c3 _ w6 hA3 (by rw [List.length_map]) (by omega) (HT.out.below B6.out)
            clear hsr hro hxr hb6 hA3
            go_wp2_with fail
            refine CS3.out.mono ?_
            rintro e w7 ⟨rfl, hb7⟩
            have B7 : Hid (Below w.heap.size w w7) := B6.out.trans (hb7.mono B6.out.size)
            have CAW : Hid (Calls Tryd.prog 20 #[] w7 fun e w' => e = .returned (.bool true) ∧ Below w7.heap.size w7 w') := awake10 w7 (HT.out.below B7.out)
            have hss : (s.toList == s.toList) = true := by simp
            have HRX : (ex = 4) ∨ (ex = 0 ∧ pte ⟨nd, md, ui, gi, mt, tg, xs⟩ = 0 ∧ (⟨(ptl ⟨nd, md, ui, gi, mt, tg, xs⟩).toArray⟩ : ByteArray) = s) := by
              rcases HRD.out with ⟨h1, h2, h3⟩ | ⟨h1, _⟩
              · exact .inr ⟨h1, (pte_yes h2).1, by rw [(pte_yes h2).2, h3]; rfl⟩
              · exact .inl h1
            have HSX : (e3 = 4) ∨ (e3 = 0 ∧ smE (P3.map Prod.fst) = 0 ∧ (⟨(smL (P3.map Prod.fst)).toArray⟩ : ByteArray) = s) := by
              rcases HSR.out with ⟨h1, h2, h3⟩ | ⟨h1, _⟩
              · exact .inr ⟨h1, (sm_yes h2).1, by rw [(sm_yes h2).2, h3]; rfl⟩
              · exact .inl h1
            obtain ⟨y1, hy1⟩ : ∃ y, pte ⟨nd, md, ui, gi, mt, tg, xs⟩ = y := ⟨_, rfl⟩
            obtain ⟨y2, hy2⟩ : ∃ y : ByteArray, (⟨(ptl ⟨nd, md, ui, gi, mt, tg, xs⟩).toArray⟩ : ByteArray) = y := ⟨_, rfl⟩
            obtain ⟨y3, hy3⟩ : ∃ y, smE (P3.map Prod.fst) = y := ⟨_, rfl⟩
            obtain ⟨y4, hy4⟩ : ∃ y : ByteArray, (⟨(smL (P3.map Prod.fst)).toArray⟩ : ByteArray) = y := ⟨_, rfl⟩
            rw [hy1, hy2] at HRX
            rw [hy3, hy4] at HSX
            rw [hy1, hy2, hy3, hy4]
            clear hy1 hy2 hy3 hy4 hb7 CS3 HRD HSR
            rcases HRX with rfl | ⟨rfl, rfl, rfl⟩
            all_goals rcases HSX with rfl | ⟨rfl, rfl, hy⟩
            all_goals (try subst hy)
            all_goals
              go_wp2_with fail
              refine CAW.out.mono ?_
              rintro e w9 ⟨rfl, hb9⟩
              have B9 : Hid (Below w.heap.size w w9) := B7.out.trans (hb9.mono B7.out.size)
              clear hb9
              go_wp2
              go_ret
              exact ⟨rfl, B9.out⟩
      · have hK0z : ¬ (0 : Int) < (K : Nat) := by omega
        obtain ⟨wf, hwf⟩ : ∃ wf, w2 = wf := ⟨_, rfl⟩
        have BF : Hid (Below w.heap.size w wf) := by rw [← hwf]; exact B2.out
        rw [hwf]
        obtain ⟨T, hT⟩ : ∃ T : ByteArray, (⟨(smL l').toArray⟩ : ByteArray) = T := ⟨_, rfl⟩
        obtain ⟨te, hte⟩ : ∃ T : Int, smE l' = T := ⟨_, rfl⟩
        rw [hT, hte]
        clear hwf hT hte B2 AL2 HAL HOKL
        go_wp2_with fail
        refine (read10 s _ hs (HT.out.below BF.out)).mono ?_
        rintro e w4 ⟨ax, vx, ex, rfl, hrd, hao, how, hsm, hb4⟩
        obtain ⟨oa, ca, hva, hXa⟩ := own_xal how rfl (fun x hx => by have := hsm x hx; omega)
        subst hva
        have B4 : Hid (Below w.heap.size w w4) := BF.out.trans (hb4.mono BF.out.size)
        have hz4 : w.heap.size ≤ w4.heap.size := B4.out.size
        obtain ⟨nd, md, ui, gi, mt, tg, xs⟩ := ax
        have HRD : Hid (RdS s ⟨nd, md, ui, gi, mt, tg, xs⟩ ex) := hrd
        dsimp only at hXa ⊢
        have b3 := hao.ui; have b4 := hao.gi; have b6 := hao.tg; have b7 := hao.xs
        simp only at b3 b4 b6 b7
        obtain ⟨mx, hmx⟩ : ∃ m, xs.length = m := ⟨_, rfl⟩
        rw [hmx]
        rw [hmx] at b7
        have CP : Hid (Calls Tryd.prog 8 #[atV nd md ui gi mt tg (.slice oa mx ca)] (w4.alloc (.cells (c7 nd md ui gi mt tg (.slice oa mx ca)) 28)) fun e w' => e = .returned (.tuple #[.string ⟨(ptl ⟨nd, md, ui, gi, mt, tg, xs⟩).toArray⟩, .int .i64 (pte ⟨nd, md, ui, gi, mt, tg, xs⟩)]) ∧ Below (w4.alloc (.cells (c7 nd md ui gi mt tg (.slice oa mx ca)) 28)).heap.size (w4.alloc (.cells (c7 nd md ui gi mt tg (.slice oa mx ca)) 28)) w') :=
          aput_any nd md ui gi mt tg xs oa mx ca _ (hXa.below ((Below.refl _ _).alloc (Nat.le_refl _) _)) hmx (by omega) b6 (HT.out.below (B4.out.alloc hz4 _)) b3 b4
        clear hrd hao how hsm hb4 hXa hmx
        go_wp2_with fail
        refine CP.out.mono ?_
        rintro e w5 ⟨rfl, hb5⟩
        have B5 : Hid (Below w.heap.size w w5) := (B4.out.alloc hz4 _).trans (hb5.mono (by simp; omega))
        clear hb5 CP
        go_wp2_with fail
        refine (readst s _ hs (HT.out.below B5.out)).mono ?_
        rintro e w6 ⟨P3, v3, e3, rfl, hsr, hro, hxr, hpl, hb6⟩
        obtain ⟨a3, c3, hv3, hA3, _, _⟩ := row_atl hro rfl hxr.xv
        subst hv3
        have B6 : Hid (Below w.heap.size w w6) := B5.out.trans (hb6.mono B5.out.size)
        have HSR : Hid (SrS s (P3.map Prod.fst) e3) := hsr
        have CS3 : Hid (Calls Tryd.prog 21 #[.slice a3 P3.length c3] w6 fun e w' => e = .returned (.tuple #[.string ⟨(smL (P3.map Prod.fst)).toArray⟩, .int .i64 (smE (P3.map Prod.fst))]) ∧ Below w6.heap.size w6 w') := stream_any a3 P3.length c3 _ w6 hA3 (by rw [List.length_map]) (by omega) (HT.out.below B6.out)
        clear hsr hro hxr hb6 hA3
        go_wp2_with fail
        refine CS3.out.mono ?_
        rintro e w7 ⟨rfl, hb7⟩
        have B7 : Hid (Below w.heap.size w w7) := B6.out.trans (hb7.mono B6.out.size)
        have CAW : Hid (Calls Tryd.prog 20 #[] w7 fun e w' => e = .returned (.bool true) ∧ Below w7.heap.size w7 w') := awake10 w7 (HT.out.below B7.out)
        have hss : (s.toList == s.toList) = true := by simp
        have HRX : (ex = 4) ∨ (ex = 0 ∧ pte ⟨nd, md, ui, gi, mt, tg, xs⟩ = 0 ∧ (⟨(ptl ⟨nd, md, ui, gi, mt, tg, xs⟩).toArray⟩ : ByteArray) = s) := by
          rcases HRD.out with ⟨h1, h2, h3⟩ | ⟨h1, _⟩
          · exact .inr ⟨h1, (pte_yes h2).1, by rw [(pte_yes h2).2, h3]; rfl⟩
          · exact .inl h1
        have HSX : (e3 = 4) ∨ (e3 = 0 ∧ smE (P3.map Prod.fst) = 0 ∧ (⟨(smL (P3.map Prod.fst)).toArray⟩ : ByteArray) = s) := by
          rcases HSR.out with ⟨h1, h2, h3⟩ | ⟨h1, _⟩
          · exact .inr ⟨h1, (sm_yes h2).1, by rw [(sm_yes h2).2, h3]; rfl⟩
          · exact .inl h1
        obtain ⟨y1, hy1⟩ : ∃ y, pte ⟨nd, md, ui, gi, mt, tg, xs⟩ = y := ⟨_, rfl⟩
        obtain ⟨y2, hy2⟩ : ∃ y : ByteArray, (⟨(ptl ⟨nd, md, ui, gi, mt, tg, xs⟩).toArray⟩ : ByteArray) = y := ⟨_, rfl⟩
        obtain ⟨y3, hy3⟩ : ∃ y, smE (P3.map Prod.fst) = y := ⟨_, rfl⟩
        obtain ⟨y4, hy4⟩ : ∃ y : ByteArray, (⟨(smL (P3.map Prod.fst)).toArray⟩ : ByteArray) = y := ⟨_, rfl⟩
        rw [hy1, hy2] at HRX
        rw [hy3, hy4] at HSX
        rw [hy1, hy2, hy3, hy4]
        clear hy1 hy2 hy3 hy4 hb7 CS3 HRD HSR
        rcases HRX with rfl | ⟨rfl, rfl, rfl⟩
        all_goals rcases HSX with rfl | ⟨rfl, rfl, hy⟩
        all_goals (try subst hy)
        all_goals
          go_wp2_with fail
          refine CAW.out.mono ?_
          rintro e w9 ⟨rfl, hb9⟩
          have B9 : Hid (Below w.heap.size w w9) := B7.out.trans (hb9.mono B7.out.size)
          clear hb9
          go_wp2
          go_ret
          exact ⟨rfl, B9.out⟩
end Go.Proofs.YtjpbcjjleflffaaDoor
