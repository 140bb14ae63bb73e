import Derived.Test.YtblmblbkfdcbjaaY15
import Derived.Deep.RegionLaw
import Derived.Deep.AppendLies
import Derived.Test.YtblmblbkfdcbjaaY12
import Derived.Test.YtblmblbkfdcbjaaY9
import Derived.Test.YtblmblbkfdcbjaaY8
import Derived.Test.YtblmblbkfdcbjaaY3
import Derived.Test.YtblmblbkfdcbjaaY10
/- The document's Inverse: the walk. -/
namespace Go.Proofs.Ytblmblbkfdcbjaa
open Go.RowKit
set_option linter.unusedSimpArgs false
set_option linter.unusedVariables false
theorem conv_off (l : List UInt8) (g o n cap : Nat) (w : World) (hn : l.length = n) (hB : ∀ (i : Nat) (x : UInt8), l[i]? = some x → w.cell? ⟨g, o + i, none⟩ = some (c8 x)) :
    (convert 44 9 (.slice (some ⟨g, o, none⟩) n cap)).run Try.prog w = .ok (.string (mkT l)) w := by
  subst hn
  have h := run_convert_bytes_arg w 44 5 Try.underlying44 Try.underlying5 g o l.length cap (l.map fun x : UInt8 => (x.toNat : Int)) (by simp) (fun i hi => by
    rw [hB i l[i] (List.getElem?_eq_getElem hi), List.getD, List.getElem?_map, List.getElem?_eq_getElem hi]; rfl) 9 Try.underlying9
  rw [h]
  have e : strOfNums (l.map fun x : UInt8 => (x.toNat : Int)) = mkT l := by
    unfold strOfNums mkT
    rw [List.map_map]
    congr 2
    conv => rhs; rw [← List.map_id l]
    apply List.map_congr_left
    intro x _
    simp
  rw [e]
theorem take_next (xs : List ByteArray) (i : Nat) (x : ByteArray) (h : xs[i]? = some x) : xs.take (i + 1) = xs.take i ++ [x] := by
  rw [List.take_add_one, h]; rfl
theorem step_app_run {P : Program} {ops : Array Oper} {o : Oper} {a : Act} {w : World} {K : Act → World → Prop} {Q : Exit → Act → World → Prop} {E : Prop} (hgd : o.guard = none) (s x : Operand) (t u : TypeId)
    (ho : o.op = .call { callee := .builtin .append, args := #[s, x], argTypes := #[t, u] }) (v y v' : Value) (w' : World) (hs : a.eval s = v) (hx : a.eval x = y) (hr : (Builtin.append_ #[t, u] o.type #[v, y]).run P w = .ok v' w') (h : K (a.put o.dst v') w') :
    if Region.wanted o (yielded ops a.tmps) = true then Oper.wp P o a w K Q else E := by
  have hw : Region.wanted o (yielded ops a.tmps) = true := by simp [Region.wanted, hgd]
  rw [if_pos hw]
  unfold Oper.wp execOp
  simp only [ho, resolve, invoke, builtin, Sem.run_bind, Sem.run_pure, Result.andThen_ok, List.map_toArray, List.map_cons, List.map_nil, hs, hx, hr]
  exact h
set_option maxHeartbeats 4000000 in
set_option maxRecDepth 100000 in
theorem rinverse_sq (n : Nat) (a : Option Addr) (ca : Nat) (xs : List ByteArray) (w : World) (hx : TxL w a xs) (hq : SqM n xs) (h1 : 1 ≤ n) (h2 : n ≤ 64) :
    Calls Try.prog 14 #[.slice a n ca] w fun e w' => ∃ v, e = .returned (.tuple #[v, .int .i64 (ivE xs)]) ∧ w'.ownsRow w.heap.size 9 1 v (ivX xs).length (sv (ivX xs)) ∧ Below w.heap.size w w' := by
  obtain ⟨hm, hw⟩ := hq.isM h1 h2
  have hck := rcheck_any a ca xs w hx (by rw [hq.1]; omega) (fun x h => by rw [hq.2 x h]; omega)
  obtain ⟨k1, k2, k3⟩ := ck_yes xs hm
  rw [k1, k2, k3, hq.1, hw] at hck
  have hrw := fun W hW => rrows_any a ca n n xs W hW hq.1 h1 h2 hq.2 h2
  have C1 : Hid _ := hck
  have C2 : Hid _ := hrw
  have HX : Hid (TxL w a xs) := hx
  have HQ : Hid (SqM n xs) := hq
  clear hck hrw hx hq hm hw k1 k2 k3
  go_enter Try.func14, Try.ntmps14
  go_wp2_with fail
  refine Calls.mono C1.out ?_
  rintro e w1 ⟨rfl, hb1⟩
  have HX1 : Hid (TxL w1 a xs) := HX.out.below hb1
  have B1 : Hid (Below w.heap.size w w1) := hb1
  clear hb1
  go_wp2_with fail
  refine Calls.mono (runit_yes n w1 h1 h2) ?_
  rintro e w2 ⟨v1, rfl, hown, hb2⟩
  have hul : (txtL n (unL n)).length = n := by rw [txtL_len, unL_len]
  have hown2 : w2.ownsRow w1.heap.size 9 1 v1 (txtL n (unL n)).length (sv (txtL n (unL n))) := by rw [hul]; exact hown
  obtain ⟨ao, co, rfl, htx, _⟩ := own_txl hown2
  have HO2 : Hid (TxL w2 ao (txtL n (unL n))) := htx
  have HX2 : Hid (TxL w2 a xs) := HX1.out.below hb2
  have B2 : Hid (Below w.heap.size w w2) := B1.out.trans (hb2.mono B1.out.size)
  rw [hul]
  clear hb2 hown hown2 htx hul B1 HX1
  go_wp2_with fail
  refine Calls.mono (C2.out _ HX2.out) ?_
  rintro e w3 ⟨gm, cm, h, rfl, ⟨hr1, hr2⟩, hb3⟩
  have HO3 : Hid (TxL w3 ao (txtL n (unL n))) := HO2.out.below hb3
  have HR3 : Hid (∃ h, Ri w2.heap.size gm n n (mat (arrL xs)) h 0 w3) := ⟨h, Ri.start hr1 hr2⟩
  have B3 : Hid (Below w2.heap.size w2 w3) := hb3
  clear hb3 hr1 hr2
  go_wp2_with fail
  go_loopw [10] (fun x wr => ∃ i : Nat, x = .int .i64 i ∧ i ≤ n ∧ Hid (∃ h, Ri w2.heap.size gm n n (mat (arrL xs)) h i wr) ∧ Hid (Below w2.heap.size w2 wr)) (fun x _ => n - (intOf x).toNat)
  case atStart => exact ⟨0, rfl, by omega, HR3.out, B3.out⟩
  case round =>
    obtain ⟨i, rfl, hin, HR, HB⟩ := hrel
    have hzr : w2.heap.size ≤ wr.heap.size := HB.out.size
    by_cases hlt : i < n
    · have hiz : (i : Int) < (n : Nat) := by omega
      obtain ⟨h, hri⟩ := HR.out
      obtain ⟨C, hC1, ⟨hC2, hC3⟩, hC4⟩ := hri.ro i (Nat.le_refl _) hlt
      have e1 := hri.tc i hlt
      rw [if_neg (Nat.lt_irrefl i)] at e1
      have hur : (txtL n (unL n))[i]? = some (mkT ((ur i).take n)) := by rw [txtL, List.getElem?_map, unL_at n i hlt]; rfl
      obtain ⟨go, oo, rfl, hgo, e0⟩ := HO2.out i _ hur
      have e2 : wr.cell? ⟨go, oo + i, none⟩ = some (.string (mkT ((ur i).take n))) := by rw [HB.out.cell (p := ⟨go, oo + i, none⟩) hgo]; exact e0
      have hsz : (mkT ((ur i).take n)).size = n := by rw [mkT_size, List.length_take, ur_len]; omega
      obtain ⟨g', cap', W', hap, hg, hor, hlt', hcp, hcell, hfro⟩ := app_row (W := wr.drew) hC1 hC2 hC3 (mkT ((ur i).take n)) (by omega) 44
      rw [hsz] at hap hcell hfro hcp
      have hb2 : ∀ j, j < n + n → W'.cell? ⟨g', j, none⟩ = some (.int .u8 ((bes n (mat (arrL xs)) i j).toNat : Int)) := by
        intro j hj
        rw [hcell j hj, bes]
        by_cases e : j < n
        · rw [if_pos e, if_pos e]; exact hC4 j e
        · rw [if_neg e, if_neg e]
          have hjn : j - n < n := by omega
          have hl : ((ur i).take n)[j - n]? = some (if j = n + i then 1 else 0) := by
            rw [List.getElem?_take, if_pos hjn]
            have e2 := ur_getD i (j - n) (by omega) (by omega)
            rw [List.getD] at e2
            obtain ⟨y, hy⟩ : ∃ y, (ur i)[j - n]? = some y := ⟨_, List.getElem?_eq_getElem (by rw [ur_len]; omega)⟩
            rw [hy] at e2 ⊢
            have e3 : y = if j - n = i then 1 else 0 := e2
            rw [e3]
            by_cases e4 : j = n + i
            · rw [if_pos e4, if_pos (by omega)]
            · rw [if_neg e4, if_neg (by omega)]
          rw [Lib.strCells, mkT_data, List.getElem?_map, hl]; rfl
      have hrd : Ri w2.heap.size gm n n (mat (arrL xs)) h i wr.drew := ⟨hri.tc, hri.tf, hri.rc, hri.rf, hri.ro, hri.ap, hri.tp, hri.lo, hri.lr, hri.cp⟩
      have HRn : Hid (∃ h, Ri w2.heap.size gm n n (mat (arrL xs)) h (i + 1) (W'.setCell ⟨gm, i, none⟩ (.slice (some ⟨g', 0, none⟩) (n + n) cap'))) := ⟨_, hrd.next hlt hzr hg hor hlt' hb2 hfro hcp⟩
      have HBn : Hid (Below w2.heap.size w2 (W'.setCell ⟨gm, i, none⟩ (.slice (some ⟨g', 0, none⟩) (n + n) cap'))) := (below_own HB.out.drew hzr hg (hri.lr i hlt).1).setCell hri.lo.1 _
      have hbm : W'.heap[gm]? = wr.drew.heap[gm]? := hg.block _ hri.lo.2 (fun e => hri.tp i hlt (by simpa using e))
      have e3 : W'.cell? ⟨gm, i, none⟩ = some (.slice (some ⟨(h i).1, 0, none⟩) n (h i).2) := by rw [World.cell?_of_block (w := wr.drew) (a := ⟨gm, i, none⟩) hbm]; exact e1
      have f3 : W'.frozen? ⟨gm, i, none⟩ = false := by rw [World.frozen?_of_block (w := wr.drew) (a := ⟨gm, i, none⟩) hbm]; exact hri.tf i hlt
      have e4 : W'.cell? ⟨go, oo + i, none⟩ = some (.string (mkT ((ur i).take n))) := by
        have hne : some go ≠ some (h i).1 := fun e => by
          have h1' := (hri.lr i hlt).1
          have e' : go = (h i).1 := by simpa using e
          omega
        rw [World.cell?_of_block (w := wr.drew) (a := ⟨go, oo + i, none⟩) (hg.block _ (show go < wr.heap.size by omega) hne)]
        exact e2
      obtain ⟨ut, hut⟩ : ∃ ut, mkT ((ur i).take n) = ut := ⟨_, rfl⟩
      rw [hut] at hap e2 e4
      have f1 := hri.tf i hlt
      clear hbm hrd hri hC1 hC2 hC3 hC4 hur hsz hg hor hlt' hcp hcell hfro hb2 hut HR HB e0
      go_wp2_with fail
      have HAP : Hid ((Builtin.append_ #[44, 9] 44 #[.slice (some ⟨(h i).1, 0, none⟩) n (h i).2, .string ut]).run Try.prog wr.drew = .ok (.slice (some ⟨g', 0, none⟩) (n + n) cap') W') := hap
      clear hap
      go_region_law (refine step_app_run (by rfl) _ _ _ _ (by rfl) (.slice (some ⟨(h i).1, 0, none⟩) n (h i).2) (.string ut) (.slice (some ⟨g', 0, none⟩) (n + n) cap') W' (by rfl) (by rfl) HAP.out ?_)
      all_goals
        go_wp2
        go_roundw
        case rel => exact ⟨i + 1, by go_num, by omega, HRn.out, HBn.out⟩
        case measure => simp [intOf]; omega
    · have hiz : ¬ (i : Int) < (n : Nat) := by omega
      have hin2 : i = n := by omega
      have HEm : Hid (Em w2 w2.heap.size gm n (n + n) n (bes n (mat (arrL xs))) 0 0 wr) := by
        obtain ⟨h, hri⟩ := HR.out
        rw [hin2] at hri
        exact ⟨⟨h, _, _, hri.done, El.start _ _ n (n + n) n (by omega) (fun _ _ _ _ => rfl)⟩, HB.out, hzr⟩
      clear hin2 HR
      go_wp2_with fail
      refine Calls.mono (relim_any w2 w2.heap.size gm n (n + n) n cm (bes n (mat (arrL xs))) wr h2 (by omega) (by omega) HEm.out) ?_
      rintro e w4 ⟨t, c', rfl, hem, hd⟩
      obtain ⟨⟨h', pv, M, hrws, hel⟩, hb4, hz4⟩ := hem
      have hlen : (arrL xs).length = n := HQ.out.len
      have ht : t = rk (arrL xs) := by
        have hl := hel.left (B := mat (arrL xs)) (fun i j hi hj => by rw [bes, if_pos hj])
        rw [← hlen] at hd
        have hl2 : El (mat (arrL xs)) (arrL xs).length n n c' t pv M := by rw [hlen]; exact hl
        refine El.rank (HQ.out.wide h2) (by omega) h2 (fun i j hi hj hj2 => ?_) hl2 (by rw [← hlen]; rw [hlen] at hd; rw [hlen]; exact hd)
        have e : (arrL xs).getD i zr = (arrL xs)[i] := by rw [List.getD, List.getElem?_eq_getElem hi]; rfl
        show ((arrL xs).getD i zr).getD j 0 = 0
        rw [e]
        exact HQ.out.zc h2 _ (List.getElem_mem hi) j hj hj2
      have hfull := rk_full (arrL xs)
      rw [← ht, hlen] at hfull
      have htn : t ≤ n := hel.tr
      have B4 : Hid (Below w2.heap.size w2 w4) := hb4
      have hmw := HQ.out.isM h1 h2
      by_cases hs : t < n
      · have hsz : (t : Int) < (n : Nat) := by omega
        have hsg : sng (redP (arrL xs)) = true := by
          cases hq : sng (redP (arrL xs)) with
          | true => rfl
          | false => have := hfull.2 hq; omega
        have HE : Hid (ivE xs = 60) := by show ivE xs = 60; rw [ivE, hmw.1, hmw.2, HQ.out.1, hsg]; simp
        have HV : Hid (ivX xs = []) := by show ivX xs = []; rw [ivX, hsg]; simp
        clear hsg hfull ht hrws hel hd hb4 hmw hlen
        go_wp2
        go_ret2
        refine ⟨_, by rw [HE.out]; rfl, by rw [HV.out]; exact World.ownsRow_nil _ _ _ _, B2.out.trans (B4.out.mono B2.out.size)⟩
      · have hsz : ¬ (t : Int) < (n : Nat) := by omega
        obtain rfl : t = n := by omega
        have hsg : sng (redP (arrL xs)) = false := hfull.1 rfl
        have hinv := hel.inverse HQ.out h1 h2 hsg
        have HINV : Hid (∀ i j, i < t → j < t → M i (t + j) = mat (arrL (ivX xs)) i j) := hinv
        have HU := undo xs t HQ.out h1 h2 hsg
        have HSQ : Hid (SqM t (ivX xs)) := HU.1
        have HE : Hid (ivE xs = 0) := by show ivE xs = 0; rw [ivE, hmw.1, hmw.2, HQ.out.1, hsg]; simp
        have HRW : Hid (Rws w2.heap.size gm t h' (t + t) M w4) := hrws
        clear hsg hfull ht hrws hel hd hb4 hmw hlen hinv HU
        go_wp2_with fail
        obtain ⟨i0, hi, hz0, hz1, hz2⟩ := info_parts inf_str
        go_loopw [11, 12] (fun v x W => ∃ i : Nat, i ≤ t ∧ x = .int .i64 i ∧ Hid (W.ownsRow w4.heap.size 9 1 v i (sv ((ivX xs).take i))) ∧ Hid (Below w4.heap.size w4 W)) (fun _ x _ => t - (intOf x).toNat)
        case atStart => exact ⟨0, by omega, rfl, World.ownsRow_nil _ _ _ _, Below.refl _ _⟩
        case round =>
          clear hin
          obtain ⟨i, hin, rfl, HO, HB5⟩ := hrel
          have hz5 : w4.heap.size ≤ wr.heap.size := HB5.out.size
          by_cases hl : i < t
          · have hiz : (i : Int) < (t : Nat) := by omega
            have hr5 := HRW.out.below HB5.out
            have e1 := hr5.tc i hl
            have hcap := hr5.cp i hl
            have hcap2 : ¬ (h' i).2 = t := by omega
            obtain ⟨x, hx⟩ : ∃ x, (ivX xs)[i]? = some x := ⟨_, List.getElem?_eq_getElem (by rw [HSQ.out.1]; omega)⟩
            have hxs : x.size = t := HSQ.out.2 x (List.mem_of_getElem? hx)
            have HT : Hid ((ivX xs).take (i + 1) = (ivX xs).take i ++ [x]) := take_next _ i x hx
            have hcv := conv_off x.data.toList (h' i).1 t t ((h' i).2 - t) wr (by rw [Array.length_toList]; exact hxs) (fun j y hy => by
              have hj : j < x.size := by have := (List.getElem?_eq_some_iff.1 hy).1; rwa [Array.length_toList] at this
              rw [hr5.rc i (t + j) hl (by omega), HINV.out i j hl (by omega), ← mat_byte (ivX xs) i j x hx (by omega) hj]
              rw [Array.getElem?_toList, Array.getElem?_eq_getElem hj] at hy
              cases hy
              rfl)
            rw [mk_self] at hcv
            have HC1 : Hid (∀ (j : Nat) (u : Value), [Value.string x][j]? = some u → (wr.alloc (.cells #[Value.string x] 9)).cell? ((⟨wr.heap.size, 0, none⟩ : Addr).add j) = some u) := news_one _ _ _
            have hd1 : t + t - t = t := by omega
            have hd2 : (t : Int) + (t : Int) - (t : Int) = (t : Int) := by omega
            clear hr5 hx
            go_wp2_with (at_builtin; refine wpList_append_own _ rfl _ _ 22 rfl w4.heap.size 9 i0 (.string ⟨#[]⟩) 1 16 Try.underlying22 hi hz0 hz1 hz2 rfl (by decide) _ _ _ rfl (HO.out.alloc _) ⟨wr.heap.size, 0, none⟩ 1 1 [.string x] rfl rfl HC1.out (one_str _) (by unfold maxLen; omega) (by omega) (by simp; omega) ?_)
            intro v' w7 hown1 hgrow _
            have HO7 : Hid (w7.ownsRow w4.heap.size 9 1 v' (i + 1) (sv ((ivX xs).take (i + 1)))) := by
              show w7.ownsRow w4.heap.size 9 1 v' (i + 1) (sv ((ivX xs).take (i + 1)))
              rw [HT.out, sv_append]; exact hown1
            have HB7 : Hid (Below w4.heap.size w4 w7) := apn_bel HB5.out (by omega) HO.out hgrow
            clear hown1 hgrow HC1 hcv
            go_wp2
            go_roundw
            case rel => exact ⟨i + 1, by omega, by go_num, HO7.out, HB7.out⟩
            case measure => simp [intOf]; omega
          · have hiz : ¬ (i : Int) < (t : Nat) := by omega
            have hit : i = t := by omega
            have HOe : Hid (wr.ownsRow w4.heap.size 9 1 u11 (ivX xs).length (sv (ivX xs))) := by
              have h := HO.out
              rw [hit, List.take_of_length_le (by rw [HSQ.out.1]; omega)] at h
              show wr.ownsRow _ _ _ _ _ _
              rw [HSQ.out.1]; exact h
            have B24 : Hid (Below w.heap.size w w4) := B2.out.trans (B4.out.mono B2.out.size)
            clear hit HO
            go_wp2
            go_ret2
            exact ⟨_, by rw [HE.out]; rfl, HOe.out.lower B24.out.size, B24.out.trans (HB5.out.mono B24.out.size)⟩
end Go.Proofs.Ytblmblbkfdcbjaa
/- The document's Product, where it refuses. -/
namespace Go.Proofs.Ytblmblbkfdcbjaa
open Go.RowKit
set_option linter.unusedSimpArgs false
set_option linter.unusedVariables false
set_option maxHeartbeats 1000000 in
set_option maxRecDepth 100000 in
theorem rproduct_no (a b : Option Addr) (ca cb : Nat) (xs ys : List ByteArray) (w : World) (hx : TxL w a xs) (hy : TxL w b ys) (nx : xs.length ≤ 4611686018427387904) (sx : ∀ x ∈ xs, x.size ≤ 4611686018427387904) (ny : ys.length ≤ 4611686018427387904) (sy : ∀ x ∈ ys, x.size ≤ 4611686018427387904)
    (h : ¬ (isM xs = true ∧ isM ys = true ∧ wid xs = ys.length)) :
    Calls Try.prog 11 #[.slice a xs.length ca, .slice b ys.length cb] w fun e w' => e = .returned (.tuple #[.slice none 0 0, .int .i64 1]) ∧ Below w.heap.size w w' := by
  have hcx := rcheck_any a ca xs w hx nx sx
  have hcy := fun W hW => rcheck_any b cb ys W hW ny sy
  have HY : Hid (TxL w b ys) := hy
  by_cases mx : isM xs = true
  · obtain ⟨k1, k2, k3⟩ := ck_yes xs mx
    rw [k1, k2, k3] at hcx
    by_cases my : isM ys = true
    · obtain ⟨l1, l2, l3⟩ := ck_yes ys my
      rw [l1, l2, l3] at hcy
      have hne : ((wid xs : Int) == (ys.length : Int)) = false := by
        rw [beq_eq_false_iff_ne]
        intro e
        exact h ⟨mx, my, by omega⟩
      have hnn : ((wid xs : Int) != (ys.length : Int)) = true := by rw [bne, hne]; rfl
      have C1 : Hid _ := hcx
      have C2 : Hid _ := hcy
      clear hcx hcy hx hy h sx sy k1 k2 k3 l1 l2 l3
      generalize wid xs = wx at *
      generalize wid ys = wy at *
      go_enter Try.func11, Try.ntmps11
      go_wp2_with fail
      refine Calls.mono C1.out ?_
      rintro e w1 ⟨rfl, hb1⟩
      have HY1 : Hid (TxL w1 b ys) := HY.out.below hb1
      have B1 : Hid (Below w.heap.size w w1) := hb1
      clear hb1
      go_wp2_with fail
      refine Calls.mono (C2.out _ HY1.out) ?_
      rintro e w2 ⟨rfl, hb2⟩
      have B2 : Hid (Below w.heap.size w w2) := B1.out.trans (hb2.mono B1.out.size)
      clear hb2
      go_wp2
      go_ret2
      exact ⟨rfl, B2.out⟩
    · obtain ⟨l1, l2, l3⟩ := ck_no ys (by simpa using my)
      rw [l1, l2, l3] at hcy
      have C1 : Hid _ := hcx
      have C2 : Hid _ := hcy
      clear hcx hcy hx hy h sx sy k1 k2 k3 l1 l2 l3
      generalize wid xs = wx at *
      go_enter Try.func11, Try.ntmps11
      go_wp2_with fail
      refine Calls.mono C1.out ?_
      rintro e w1 ⟨rfl, hb1⟩
      have HY1 : Hid (TxL w1 b ys) := HY.out.below hb1
      have B1 : Hid (Below w.heap.size w w1) := hb1
      clear hb1
      go_wp2_with fail
      refine Calls.mono (C2.out _ HY1.out) ?_
      rintro e w2 ⟨rfl, hb2⟩
      have B2 : Hid (Below w.heap.size w w2) := B1.out.trans (hb2.mono B1.out.size)
      clear hb2
      go_wp2
      go_ret2
      exact ⟨rfl, B2.out⟩
  · obtain ⟨k1, k2, k3⟩ := ck_no xs (by simpa using mx)
    rw [k1, k2, k3] at hcx
    have C1 : Hid _ := hcx
    by_cases my : isM ys = true
    · obtain ⟨l1, l2, l3⟩ := ck_yes ys my
      rw [l1, l2, l3] at hcy
      have C2 : Hid _ := hcy
      clear hcx hcy hx hy h sx sy k1 k2 k3 l1 l2 l3
      generalize wid ys = wy at *
      go_enter Try.func11, Try.ntmps11
      go_wp2_with fail
      refine Calls.mono C1.out ?_
      rintro e w1 ⟨rfl, hb1⟩
      have HY1 : Hid (TxL w1 b ys) := HY.out.below hb1
      have B1 : Hid (Below w.heap.size w w1) := hb1
      clear hb1
      go_wp2_with fail
      refine Calls.mono (C2.out _ HY1.out) ?_
      rintro e w2 ⟨rfl, hb2⟩
      have B2 : Hid (Below w.heap.size w w2) := B1.out.trans (hb2.mono B1.out.size)
      clear hb2
      go_wp2
      go_ret2
      exact ⟨rfl, B2.out⟩
    · obtain ⟨l1, l2, l3⟩ := ck_no ys (by simpa using my)
      rw [l1, l2, l3] at hcy
      have C2 : Hid _ := hcy
      clear hcx hcy hx hy h sx sy k1 k2 k3 l1 l2 l3
      go_enter Try.func11, Try.ntmps11
      go_wp2_with fail
      refine Calls.mono C1.out ?_
      rintro e w1 ⟨rfl, hb1⟩
      have HY1 : Hid (TxL w1 b ys) := HY.out.below hb1
      have B1 : Hid (Below w.heap.size w w1) := hb1
      clear hb1
      go_wp2_with fail
      refine Calls.mono (C2.out _ HY1.out) ?_
      rintro e w2 ⟨rfl, hb2⟩
      have B2 : Hid (Below w.heap.size w w2) := B1.out.trans (hb2.mono B1.out.size)
      clear hb2
      go_wp2
      go_ret2
      exact ⟨rfl, B2.out⟩
end Go.Proofs.Ytblmblbkfdcbjaa
/- The document's Inverse, where it refuses; Inverse at all, Product at all. -/
namespace Go.Proofs.Ytblmblbkfdcbjaa
open Go.RowKit
set_option linter.unusedSimpArgs false
set_option linter.unusedVariables false
set_option maxHeartbeats 1000000 in
set_option maxRecDepth 100000 in
theorem rinverse_no (a : Option Addr) (ca : Nat) (xs : List ByteArray) (w : World) (hx : TxL w a xs) (nx : xs.length ≤ 4611686018427387904) (sx : ∀ x ∈ xs, x.size ≤ 4611686018427387904)
    (h : ¬ (isM xs = true ∧ wid xs = xs.length)) :
    Calls Try.prog 14 #[.slice a xs.length ca] w fun e w' => e = .returned (.tuple #[.slice none 0 0, .int .i64 1]) ∧ Below w.heap.size w w' := by
  have hcx := rcheck_any a ca xs w hx nx sx
  by_cases mx : isM xs = true
  · obtain ⟨k1, k2, k3⟩ := ck_yes xs mx
    rw [k1, k2, k3] at hcx
    have hne : ((xs.length : Int) == (wid xs : Int)) = false := by
      rw [beq_eq_false_iff_ne]
      intro e
      exact h ⟨mx, by omega⟩
    have hnn : ((xs.length : Int) != (wid xs : Int)) = true := by rw [bne, hne]; rfl
    have C1 : Hid _ := hcx
    clear hcx hx h sx k1 k2 k3
    generalize wid xs = wx at *
    go_enter Try.func14, Try.ntmps14
    go_wp2_with fail
    refine Calls.mono C1.out ?_
    rintro e w1 ⟨rfl, hb1⟩
    have B1 : Hid (Below w.heap.size w w1) := hb1
    clear hb1
    go_wp2
    go_ret2
    exact ⟨rfl, B1.out⟩
  · obtain ⟨k1, k2, k3⟩ := ck_no xs (by simpa using mx)
    rw [k1, k2, k3] at hcx
    have C1 : Hid _ := hcx
    clear hcx hx h sx k1 k2 k3
    go_enter Try.func14, Try.ntmps14
    go_wp2_with fail
    refine Calls.mono C1.out ?_
    rintro e w1 ⟨rfl, hb1⟩
    have B1 : Hid (Below w.heap.size w w1) := hb1
    clear hb1
    go_wp2
    go_ret2
    exact ⟨rfl, B1.out⟩
theorem rp_any (a b : Option Addr) (ca cb : Nat) (xs ys : List ByteArray) (w : World) (hx : TxL w a xs) (hy : TxL w b ys) (nx : xs.length ≤ 4611686018427387904) (sx : ∀ x ∈ xs, x.size ≤ 4611686018427387904) (ny : ys.length ≤ 4611686018427387904) (sy : ∀ x ∈ ys, x.size ≤ 4611686018427387904) :
    Calls Try.prog 11 #[.slice a xs.length ca, .slice b ys.length cb] w fun e w' => ∃ ao c, e = .returned (.tuple #[.slice ao (pdX xs ys).length c, .int .i64 (pdE xs ys)]) ∧ Ans w ao (pdX xs ys) w' ∧ Below w.heap.size w w' := by
  by_cases h : isM xs = true ∧ isM ys = true ∧ wid xs = ys.length
  · have e1 : pdX xs ys = txtL (wid ys) (prodL (arrL xs) (arrL ys)) := if_pos h
    have e2 : pdE xs ys = 0 := if_pos h
    have e3 : (txtL (wid ys) (prodL (arrL xs) (arrL ys))).length = xs.length := by rw [txtL_len, prodL_len, arrL, List.length_map]
    rw [e1, e2]
    refine (rproduct_yes a b ca cb xs ys w hx hy h.1 h.2.1 h.2.2).mono ?_
    rintro e w' ⟨v, rfl, ho, hb⟩
    obtain ⟨a, c, rfl, hA⟩ := ans_of (xs := txtL (wid ys) (prodL (arrL xs) (arrL ys))) (by rw [e3]; exact ho)
    exact ⟨a, c, rfl, hA, hb⟩
  · have e1 : pdX xs ys = [] := if_neg h
    have e2 : pdE xs ys = 1 := if_neg h
    rw [e1, e2]
    refine (rproduct_no a b ca cb xs ys w hx hy nx sx ny sy h).mono ?_
    rintro e w' ⟨rfl, hb⟩
    exact ⟨none, 0, rfl, ⟨fun i x hx => by simp at hx, fun b o s e => by cases e⟩, hb⟩
theorem ri_any (a : Option Addr) (ca : Nat) (xs : List ByteArray) (w : World) (hx : TxL w a xs) (nx : xs.length ≤ 4611686018427387904) (sx : ∀ x ∈ xs, x.size ≤ 4611686018427387904) :
    Calls Try.prog 14 #[.slice a xs.length ca] w fun e w' => ∃ ao c, e = .returned (.tuple #[.slice ao (ivX xs).length c, .int .i64 (ivE xs)]) ∧ Ans w ao (ivX xs) w' ∧ Below w.heap.size w w' := by
  by_cases h : isM xs = true ∧ wid xs = xs.length
  · obtain ⟨p1, p2, p3⟩ := isM_parts xs h.1
    refine (rinverse_sq xs.length a ca xs w hx ⟨rfl, fun x hx => by rw [p3 x hx, h.2]⟩ p1.1 p1.2).mono ?_
    rintro e w' ⟨v, rfl, ho, hb⟩
    obtain ⟨a, c, rfl, hA⟩ := ans_of ho
    exact ⟨a, c, rfl, hA, hb⟩
  · have h0 : (isM xs && decide (wid xs = xs.length)) = false := by
      rw [Bool.eq_false_iff]
      intro e
      rw [Bool.and_eq_true, decide_eq_true_eq] at e
      exact h e
    have e1 : ivX xs = [] := by unfold ivX; rw [h0]; rfl
    have e2 : ivE xs = 1 := by unfold ivE; rw [h0]; rfl
    rw [e1, e2]
    refine (rinverse_no a ca xs w hx nx sx h).mono ?_
    rintro e w' ⟨rfl, hb⟩
    exact ⟨none, 0, rfl, ⟨fun i x hx => by simp at hx, fun b o s e => by cases e⟩, hb⟩
end Go.Proofs.Ytblmblbkfdcbjaa
