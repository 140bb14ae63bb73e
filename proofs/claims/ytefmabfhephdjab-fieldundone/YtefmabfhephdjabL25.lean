/- The walk of FieldUndone. -/
import Derived.Test.YtefmabfhephdjabF23
import Derived.Test.YtefmabfhephdjabL19F
import Derived.Deep.RegionHeld3
namespace Go.Proofs.Ytefmabfhephdjab
open Go.RowKit
set_option linter.unusedSimpArgs false
set_option linter.unusedVariables false
theorem side8 (r : Int) : ∃ (r1 : Int) (R0 R : Nat), r.tmod 8 = r1 ∧ -8 < r1 ∧ r1 < 8 ∧ (r1 + 8) % 8 = (R0 : Int) ∧ (r1 + 8).tmod 8 = (R0 : Int) ∧ (1 : Int) + (R0 : Int) = (R : Int) ∧ R0 < 8 ∧ 1 ≤ R ∧ R ≤ 8 := by
  obtain ⟨r1, h1, h2, h3⟩ : ∃ r1, r.tmod 8 = r1 ∧ -8 < r1 ∧ r1 < 8 := by
    refine ⟨_, rfl, ?_, ?_⟩
    · rcases Int.lt_or_le r 0 with h | h
      · have e : r.tmod 8 = -((-r) % 8) := by
          have := Int.neg_tmod (-r) 8
          rw [Int.neg_neg] at this
          rw [this, Int.tmod_eq_emod_of_nonneg (by omega)]
        omega
      · rw [Int.tmod_eq_emod_of_nonneg h]; omega
    · rcases Int.lt_or_le r 0 with h | h
      · have e : r.tmod 8 = -((-r) % 8) := by
          have := Int.neg_tmod (-r) 8
          rw [Int.neg_neg] at this
          rw [this, Int.tmod_eq_emod_of_nonneg (by omega)]
        omega
      · rw [Int.tmod_eq_emod_of_nonneg h]; omega
  refine ⟨r1, ((r1 + 8) % 8).toNat, ((r1 + 8) % 8).toNat + 1, h1, h2, h3, by omega, ?_, by omega, by omega, by omega, by omega⟩
  rw [Int.tmod_eq_emod_of_nonneg (by omega)]
  omega
/-- Three squares as they lie in memory. -/
structure Thr (n : Nat) (w : World) (a b c : Option Addr) (xs ys zs : List ByteArray) : Prop where
  x : TxL w a xs
  y : TxL w b ys
  z : TxL w c zs
  sx : SqM n xs
  sy : SqM n ys
  sz : SqM n zs
theorem Thr.below {n : Nat} {w w' : World} {a b c : Option Addr} {xs ys zs : List ByteArray} (h : Thr n w a b c xs ys zs) (hb : Below w.heap.size w w') : Thr n w' a b c xs ys zs := ⟨h.x.below hb, h.y.below hb, h.z.below hb, h.sx, h.sy, h.sz⟩
theorem rev_next (xs : List ByteArray) (j : Nat) (x : ByteArray) (h : xs[xs.length - 1 - j]? = some x) (hj : j < xs.length) : xs.reverse.take (j + 1) = xs.reverse.take j ++ [x] := by
  rw [List.take_add_one, List.getElem?_reverse hj, h]; rfl
theorem rev_sq {n : Nat} {xs : List ByteArray} (h : SqM n xs) : SqM n xs.reverse := ⟨by rw [List.length_reverse, h.1], fun x hx => h.2 x (List.mem_reverse.1 hx)⟩
theorem rev_arr (xs : List ByteArray) : arrL xs.reverse = (arrL xs).reverse := by rw [arrL, arrL, List.map_reverse]
theorem rk_most (A : List (List UInt8)) : rk A ≤ A.length := by
  rw [rk, rkK]
  refine Nat.le_trans (List.length_filter_le _ _) ?_
  rw [List.length_take]; exact Nat.min_le_left _ _
set_option maxHeartbeats 4000000 in
set_option maxRecDepth 100000 in
theorem undone_any (n : Int) (a b c : ByteArray) (w : World) (ha : a.size ≤ 4611686018427387904) (hb : b.size ≤ 4611686018427387904) (hc : c.size ≤ 4611686018427387904) :
    Calls Try.prog 3 #[.int .i64 n, .string a, .string b, .string c] w fun e w' => e = .returned (.bool true) ∧ Below w.heap.size w w' := by
  obtain ⟨r1, N0, N, hr1, hr2, hr3, hr4, hr5, hr6, hr7, hN1, hN8⟩ := side8 n
  obtain ⟨i0, hi, hz0, hz1, hz2⟩ := info_parts inf_str
  have hN64 : N ≤ 64 := by omega
  go_enter Try.func3, Try.ntmps3
  go_wp2_with fail
  refine (awake_any _).mono ?_
  rintro e w1 ⟨rfl, hb1⟩
  have B1 : Hid (Below w.heap.size w w1) := hb1
  clear hb1
  go_wp2_with fail
  refine Calls.mono (square_any a N w1 hN1 hN8 ha) ?_
  rintro e w2 ⟨ax, cx, xs, rfl, sx, tx, hb2⟩
  have SX : Hid (SqM N xs) := sx
  have TX : Hid (TxL w2 ax xs) := tx
  have B2 : Hid (Below w.heap.size w w2) := B1.out.trans (hb2.mono B1.out.size)
  clear hb2 sx tx B1
  go_wp2_with fail
  refine Calls.mono (square_any b N w2 hN1 hN8 hb) ?_
  rintro e w3 ⟨ay, cy, ys, rfl, sy, ty, hb3⟩
  have SY : Hid (SqM N ys) := sy
  have TY : Hid (TxL w3 ay ys) := ty
  have TX3 : Hid (TxL w3 ax xs) := TX.out.below hb3
  have B3 : Hid (Below w.heap.size w w3) := B2.out.trans (hb3.mono B2.out.size)
  clear hb3 sy ty B2 TX
  go_wp2_with fail
  refine Calls.mono (square_any c N w3 hN1 hN8 hc) ?_
  rintro e w4 ⟨az, cz, zs, rfl, sz, tz, hb4⟩
  have T4 : Hid (Thr N w4 ax ay az xs ys zs) := ⟨TX3.out.below hb4, TY.out.below hb4, tz, SX.out, SY.out, sz⟩
  have SZ : Hid (SqM N zs) := sz
  have B4 : Hid (Below w.heap.size w w4) := B3.out.trans (hb4.mono B3.out.size)
  clear hb4 sz tz B3 TX3 TY
  go_wp2_with fail
  refine Calls.mono (prod_sq N ax ay cx cy xs ys w4 SX.out SY.out hN1 hN64 T4.out.x T4.out.y) ?_
  rintro e w5 ⟨gp, rfl, tp, hb5⟩
  have T5 : Hid (Thr N w5 ax ay az xs ys zs) := T4.out.below hb5
  have TP5 : Hid (TxL w5 (some ⟨gp, 0, none⟩) (pq N xs ys)) := tp
  have SP : Hid (SqM N (pq N xs ys)) := pq_sq SX.out SY.out hN64
  have B5 : Hid (Below w.heap.size w w5) := B4.out.trans (hb5.mono B4.out.size)
  clear hb5 tp B4 T4
  go_wp2_with fail
  refine Calls.mono (prod_sq N _ az N cz (pq N xs ys) zs w5 SP.out SZ.out hN1 hN64 TP5.out T5.out.z) ?_
  rintro e w6 ⟨gq, rfl, tq, hb6⟩
  have T6 : Hid (Thr N w6 ax ay az xs ys zs) := T5.out.below hb6
  have TP6 : Hid (TxL w6 (some ⟨gp, 0, none⟩) (pq N xs ys)) := TP5.out.below hb6
  have TQ6 : Hid (TxL w6 (some ⟨gq, 0, none⟩) (pq N (pq N xs ys) zs)) := tq
  have SQ : Hid (SqM N (pq N (pq N xs ys) zs)) := pq_sq SP.out SZ.out hN64
  have B6 : Hid (Below w.heap.size w w6) := B5.out.trans (hb6.mono B5.out.size)
  clear hb6 tq B5 T5 TP5
  go_wp2_with fail
  refine Calls.mono (prod_sq N ay az cy cz ys zs w6 SY.out SZ.out hN1 hN64 T6.out.y T6.out.z) ?_
  rintro e w7 ⟨gr, rfl, tr, hb7⟩
  have T7 : Hid (Thr N w7 ax ay az xs ys zs) := T6.out.below hb7
  have TP7 : Hid (TxL w7 (some ⟨gp, 0, none⟩) (pq N xs ys)) := TP6.out.below hb7
  have TQ7 : Hid (TxL w7 (some ⟨gq, 0, none⟩) (pq N (pq N xs ys) zs)) := TQ6.out.below hb7
  have TR7 : Hid (TxL w7 (some ⟨gr, 0, none⟩) (pq N ys zs)) := tr
  have SR : Hid (SqM N (pq N ys zs)) := pq_sq SY.out SZ.out hN64
  have B7 : Hid (Below w.heap.size w w7) := B6.out.trans (hb7.mono B6.out.size)
  clear hb7 tr B6 T6 TP6 TQ6
  go_wp2_with fail
  refine Calls.mono (prod_sq N ax _ cx N xs (pq N ys zs) w7 SX.out SR.out hN1 hN64 T7.out.x TR7.out) ?_
  rintro e w8 ⟨gs, rfl, ts, hb8⟩
  have T8 : Hid (Thr N w8 ax ay az xs ys zs) := T7.out.below hb8
  have TP8 : Hid (TxL w8 (some ⟨gp, 0, none⟩) (pq N xs ys)) := TP7.out.below hb8
  have TQ8 : Hid (TxL w8 (some ⟨gq, 0, none⟩) (pq N (pq N xs ys) zs)) := TQ7.out.below hb8
  have TS8 : Hid (TxL w8 (some ⟨gs, 0, none⟩) (pq N xs (pq N ys zs))) := ts
  have SS : Hid (SqM N (pq N xs (pq N ys zs))) := pq_sq SX.out SR.out hN64
  have B8 : Hid (Below w.heap.size w w8) := B7.out.trans (hb8.mono B7.out.size)
  clear hb8 ts B7 T7 TP7 TQ7 TR7
  have hsame := rsame_any (some ⟨gq, 0, none⟩) (some ⟨gs, 0, none⟩) N N _ _ w8 TQ8.out TS8.out (by rw [SQ.out.1]; omega) (by rw [SS.out.1]; omega)
  rw [SQ.out.1, SS.out.1, decide_eq_true (pq_three SY.out SZ.out hN64)] at hsame
  have HSAME : Hid _ := hsame
  clear hsame
  go_wp2_with fail
  refine Calls.mono HSAME.out ?_
  rintro e w9 ⟨rfl, hb9⟩
  have T9 : Hid (Thr N w9 ax ay az xs ys zs) := T8.out.below hb9
  have TP9 : Hid (TxL w9 (some ⟨gp, 0, none⟩) (pq N xs ys)) := TP8.out.below hb9
  have B9 : Hid (Below w.heap.size w w9) := B8.out.trans (hb9.mono B8.out.size)
  clear hb9 B8 T8 TP8 TQ8 TS8 HSAME
  go_wp2_with fail
  refine Calls.mono (unitP_yes N w9 hN1 hN64) ?_
  rintro e w10 ⟨go, rfl, _, hB10, hb10⟩
  have T10 : Hid (Thr N w10 ax ay az xs ys zs) := T9.out.below hb10
  have TP10 : Hid (TxL w10 (some ⟨gp, 0, none⟩) (pq N xs ys)) := TP9.out.below hb10
  have TO10 : Hid (TxL w10 (some ⟨go, 0, none⟩) (txtL N (unL N))) := hB10.txl
  have B10 : Hid (Below w.heap.size w w10) := B9.out.trans (hb10.mono B9.out.size)
  clear hb10 hB10 B9 T9 TP9
  obtain ⟨U, hU⟩ : ∃ U, rk (arrL xs) = U := ⟨_, rfl⟩
  obtain ⟨V, hV⟩ : ∃ V, rk (arrL ys) = V := ⟨_, rfl⟩
  obtain ⟨Z, hZ⟩ : ∃ Z, rk (arrL (pq N xs ys)) = Z := ⟨_, rfl⟩
  have hrp := rk_prod (arrL xs) (arrL ys) (SX.out.wide hN64) (SY.out.wide hN64) (by rw [SX.out.len]; exact hN64) (by rw [SY.out.len]; exact hN64)
  rw [← pq_arr SY.out hN64, hU, hV, hZ] at hrp
  obtain ⟨hZU, hZV⟩ := hrp
  have hUN : U ≤ N := by rw [← hU, ← SX.out.len]; exact rk_most _
  have hVN : V ≤ N := by rw [← hV, ← SY.out.len]; exact rk_most _
  have hfull := rk_full (arrL xs)
  rw [hU, SX.out.len] at hfull
  have hk1 := fun W h => rank_sq N ax cx xs W SX.out hN1 hN64 h
  have hk2 := fun W h => rank_sq N ay cy ys W SY.out hN1 hN64 h
  have hk3 := fun W h => rank_sq N (some ⟨gp, 0, none⟩) N (pq N xs ys) W SP.out hN1 hN64 h
  have hk4 := fun W at' ct h => rank_sq N at' ct xs.reverse W (rev_sq SX.out) hN1 hN64 h
  rw [hU] at hk1
  rw [hV] at hk2
  rw [hZ] at hk3
  rw [rev_arr, rk_rev (arrL xs) (SX.out.wide hN64) (by rw [SX.out.len]; exact hN64), hU] at hk4
  have HK1 : Hid _ := hk1
  have HK2 : Hid _ := hk2
  have HK3 : Hid _ := hk3
  have HK4 : Hid (∀ (W : World) (at' : Option Addr) (ct : Nat), TxL W at' xs.reverse → Calls Try.prog 11 #[.slice at' N ct] W fun e w' => e = .returned (.tuple #[.int .i64 U, .int .i64 0]) ∧ Below W.heap.size W w') := hk4
  clear hk1 hk2 hk3 hk4 hU hV hZ
  obtain ⟨M, hM, hZM⟩ : ∃ M : Nat, (if V < U then (V : Int) else (U : Int)) = (M : Int) ∧ Z ≤ M := by
    by_cases h : V < U
    · exact ⟨V, by rw [if_pos h], by omega⟩
    · exact ⟨U, by rw [if_neg h], by omega⟩
  have hMz : ¬ (Z : Int) > (M : Nat) := by omega
  have hMd : decide (M < Z) = false := decide_eq_false (by omega)
  have hMe : decide ((M : Int) < (Z : Int)) = false := decide_eq_false (by omega)
  go_wp2_with fail
  refine Calls.mono (HK1.out _ T10.out.x) ?_
  rintro e w11 ⟨rfl, hb11⟩
  have T11 : Hid (Thr N w11 ax ay az xs ys zs) := T10.out.below hb11
  have TP11 : Hid (TxL w11 (some ⟨gp, 0, none⟩) (pq N xs ys)) := TP10.out.below hb11
  have TO11 : Hid (TxL w11 (some ⟨go, 0, none⟩) (txtL N (unL N))) := TO10.out.below hb11
  have B11 : Hid (Below w.heap.size w w11) := B10.out.trans (hb11.mono B10.out.size)
  clear hb11 B10 T10 TP10 TO10
  go_wp2_with fail
  refine Calls.mono (HK2.out _ T11.out.y) ?_
  rintro e w12 ⟨rfl, hb12⟩
  have T12 : Hid (Thr N w12 ax ay az xs ys zs) := T11.out.below hb12
  have TP12 : Hid (TxL w12 (some ⟨gp, 0, none⟩) (pq N xs ys)) := TP11.out.below hb12
  have TO12 : Hid (TxL w12 (some ⟨go, 0, none⟩) (txtL N (unL N))) := TO11.out.below hb12
  have B12 : Hid (Below w.heap.size w w12) := B11.out.trans (hb12.mono B11.out.size)
  clear hb12 B11 T11 TP11 TO11
  go_wp2_with fail
  refine Calls.mono (HK3.out _ TP12.out) ?_
  rintro e w13 ⟨rfl, hb13⟩
  have T13 : Hid (Thr N w13 ax ay az xs ys zs) := T12.out.below hb13
  have TO13 : Hid (TxL w13 (some ⟨go, 0, none⟩) (txtL N (unL N))) := TO12.out.below hb13
  have B13 : Hid (Below w.heap.size w w13) := B12.out.trans (hb13.mono B12.out.size)
  clear hb13 B12 T12 TP12 TO12
  by_cases hsg : sng (redP (arrL xs)) = true
  · have hUN2 : ¬ U = N := fun h => by rw [hfull.1 h] at hsg; cases hsg
    have hUb : ((U : Int) == (N : Int)) = false := by rw [beq_eq_false_iff_ne]; omega
    have HIV := inv_sing N ax cx xs w13 SX.out hN1 hN64 T13.out.x hsg
    have HI : Hid _ := HIV
    clear hfull hsg HIV hUN2
    go_wp2_with fail
    refine Calls.mono HI.out ?_
    rintro e w14 ⟨ao, lo, rfl, hb14⟩
    have T14 : Hid (Thr N w14 ax ay az xs ys zs) := T13.out.below hb14
    have TO14 : Hid (TxL w14 (some ⟨go, 0, none⟩) (txtL N (unL N))) := TO13.out.below hb14
    have B14 : Hid (Below w.heap.size w w14) := B13.out.trans (hb14.mono B13.out.size)
    clear hb14 B13 T13 TO13
    go_wp2_with fail
    go_loopw [30, 31] (fun v t wr => ∃ (j : Nat) (k : Int), j ≤ N ∧ t = .int .i64 k ∧ k = (N : Int) - 1 - (j : Int) ∧ Hid (wr.ownsRow w14.heap.size 9 1 v j (sv (xs.reverse.take j))) ∧ Hid (Below w14.heap.size w14 wr)) (fun _ t _ => (intOf t + 1).toNat)
    case atStart => exact ⟨0, _, by omega, rfl, by omega, World.ownsRow_nil _ _ _ _, Below.refl _ _⟩
    case round =>
      obtain ⟨j, k, hj, rfl, hk, HO, HB⟩ := hrel
      have HJ : Hid (k = (N : Int) - 1 - (j : Int)) := hk
      clear hk
      have hzr : w14.heap.size ≤ wr.heap.size := HB.out.size
      by_cases hl : j < N
      · obtain ⟨kn, rfl⟩ : ∃ kn : Nat, k = (kn : Int) := ⟨N - 1 - j, by rw [HJ.out]; omega⟩
        have hkN : kn < N := by have := HJ.out; omega
        have hkz : (0 : Int) ≤ (kn : Nat) := by omega
        have hkl : (kn : Int) < (N : Nat) := by omega
        obtain ⟨x, hx⟩ : ∃ x, xs[kn]? = some x := ⟨_, List.getElem?_eq_getElem (by rw [SX.out.1]; omega)⟩
        have HT : Hid (xs.reverse.take (j + 1) = xs.reverse.take j ++ [x]) := rev_next xs j x (by rw [← hx, SX.out.1]; congr 1; have := HJ.out; omega) (by rw [SX.out.1]; exact hl)
        obtain ⟨gx, ox, rfl, hgx, hcx⟩ := (T14.out.below HB.out).x kn x hx
        have HC1 : Hid (∀ (j : Nat) (u : Value), [Value.string x][j]? = some u → (wr.alloc (.cells #[Value.string x] 9)).cell? ((⟨wr.heap.size, 0, none⟩ : Addr).add j) = some u) := news_one _ _ _
        go_wp2_with (at_builtin; refine wpList_append_own _ rfl _ _ 23 rfl w14.heap.size 9 i0 (.string ⟨#[]⟩) 1 16 Try.underlying23 hi hz0 hz1 hz2 rfl (by decide) _ _ _ rfl (HO.out.alloc _) ⟨wr.heap.size, 0, none⟩ 1 1 [.string x] rfl rfl HC1.out (one_str _) (by unfold maxLen; omega) (by omega) (by simp; omega) ?_)
        intro v' w15 hown1 hgrow _
        have HO7 : Hid (w15.ownsRow w14.heap.size 9 1 v' (j + 1) (sv (xs.reverse.take (j + 1)))) := by
          show w15.ownsRow w14.heap.size 9 1 v' (j + 1) (sv (xs.reverse.take (j + 1)))
          rw [HT.out, sv_append]; exact hown1
        have HB7 : Hid (Below w14.heap.size w14 w15) := apn_bel HB.out (by omega) HO.out hgrow
        clear hown1 hgrow HC1
        go_wp2
        go_roundw
        case rel => exact ⟨j + 1, (kn : Int) - 1, by omega, by go_num, by have := HJ.out; omega, HO7.out, HB7.out⟩
        case measure => simp [intOf]
      · have hk1 : k = -1 := by rw [HJ.out]; omega
        subst hk1
        have HOe : Hid (wr.ownsRow w14.heap.size 9 1 u30 xs.reverse.length (sv xs.reverse)) := by
          have h := HO.out
          rw [show j = N from by omega, List.take_of_length_le (by rw [List.length_reverse, SX.out.1]; omega)] at h
          show wr.ownsRow _ _ _ _ _ _
          rw [List.length_reverse, SX.out.1]
          exact h
        obtain ⟨at', ct, rfl, htx, _⟩ := own_txl HOe.out
        have HTX : Hid (TxL wr at' xs.reverse) := htx
        rw [List.length_reverse, SX.out.1]
        clear HOe HO htx
        have T15 : Hid (Thr N wr ax ay az xs ys zs) := T14.out.below HB.out
        have TO15 : Hid (TxL wr (some ⟨go, 0, none⟩) (txtL N (unL N))) := TO14.out.below HB.out
        have B15 : Hid (Below w.heap.size w wr) := B14.out.trans (HB.out.mono B14.out.size)
        go_wp2_with fail
        refine Calls.mono (HK4.out _ at' ct HTX.out) ?_
        rintro e w16 ⟨rfl, hb16⟩
        have HB16 : Hid (Below wr.heap.size wr w16) := hb16
        have T16 : Hid (Thr N w16 ax ay az xs ys zs) := T15.out.below hb16
        have TO16 : Hid (TxL w16 (some ⟨go, 0, none⟩) (txtL N (unL N))) := TO15.out.below hb16
        have B16 : Hid (Below w.heap.size w w16) := B15.out.trans (hb16.mono B15.out.size)
        clear hb16 T15 TO15 B15
        go_wp2
        go_ret
        exact ⟨rfl, B16.out⟩
  · have hsf : sng (redP (arrL xs)) = false := by simpa using hsg
    have hUN2 : U = N := hfull.2 hsf
    have hUb : ((U : Int) == (N : Int)) = true := by rw [beq_iff_eq]; omega
    have HIV := inv_reg N ax cx xs w13 SX.out hN1 hN64 T13.out.x hsf
    have HI : Hid _ := HIV
    clear hfull hsg hsf HIV hUN2
    go_wp2_with fail
    refine Calls.mono HI.out ?_
    rintro e w14 ⟨ao, vs, rfl, sv', l1, l2, tv, hb14⟩
    have SV : Hid (SqM N vs) := sv'
    have TV14 : Hid (TxL w14 ao vs) := tv
    have L1 : Hid (pq N vs xs = txtL N (unL N)) := l1
    have L2 : Hid (pq N xs vs = txtL N (unL N)) := l2
    clear sv' l1 l2 tv
    have T14 : Hid (Thr N w14 ax ay az xs ys zs) := T13.out.below hb14
    have TO14 : Hid (TxL w14 (some ⟨go, 0, none⟩) (txtL N (unL N))) := TO13.out.below hb14
    have B14 : Hid (Below w.heap.size w w14) := B13.out.trans (hb14.mono B13.out.size)
    clear hb14 B13 T13 TO13
    go_wp2_with fail
    go_loopw [30, 31] (fun v t wr => ∃ (j : Nat) (k : Int), j ≤ N ∧ t = .int .i64 k ∧ k = (N : Int) - 1 - (j : Int) ∧ Hid (wr.ownsRow w14.heap.size 9 1 v j (sv (xs.reverse.take j))) ∧ Hid (Below w14.heap.size w14 wr)) (fun _ t _ => (intOf t + 1).toNat)
    case atStart => exact ⟨0, _, by omega, rfl, by omega, World.ownsRow_nil _ _ _ _, Below.refl _ _⟩
    case round =>
      obtain ⟨j, k, hj, rfl, hk, HO, HB⟩ := hrel
      have HJ : Hid (k = (N : Int) - 1 - (j : Int)) := hk
      clear hk
      have hzr : w14.heap.size ≤ wr.heap.size := HB.out.size
      by_cases hl : j < N
      · obtain ⟨kn, rfl⟩ : ∃ kn : Nat, k = (kn : Int) := ⟨N - 1 - j, by rw [HJ.out]; omega⟩
        have hkN : kn < N := by have := HJ.out; omega
        have hkz : (0 : Int) ≤ (kn : Nat) := by omega
        have hkl : (kn : Int) < (N : Nat) := by omega
        obtain ⟨x, hx⟩ : ∃ x, xs[kn]? = some x := ⟨_, List.getElem?_eq_getElem (by rw [SX.out.1]; omega)⟩
        have HT : Hid (xs.reverse.take (j + 1) = xs.reverse.take j ++ [x]) := rev_next xs j x (by rw [← hx, SX.out.1]; congr 1; have := HJ.out; omega) (by rw [SX.out.1]; exact hl)
        obtain ⟨gx, ox, rfl, hgx, hcx⟩ := (T14.out.below HB.out).x kn x hx
        have HC1 : Hid (∀ (j : Nat) (u : Value), [Value.string x][j]? = some u → (wr.alloc (.cells #[Value.string x] 9)).cell? ((⟨wr.heap.size, 0, none⟩ : Addr).add j) = some u) := news_one _ _ _
        go_wp2_with (at_builtin; refine wpList_append_own _ rfl _ _ 23 rfl w14.heap.size 9 i0 (.string ⟨#[]⟩) 1 16 Try.underlying23 hi hz0 hz1 hz2 rfl (by decide) _ _ _ rfl (HO.out.alloc _) ⟨wr.heap.size, 0, none⟩ 1 1 [.string x] rfl rfl HC1.out (one_str _) (by unfold maxLen; omega) (by omega) (by simp; omega) ?_)
        intro v' w15 hown1 hgrow _
        have HO7 : Hid (w15.ownsRow w14.heap.size 9 1 v' (j + 1) (sv (xs.reverse.take (j + 1)))) := by
          show w15.ownsRow w14.heap.size 9 1 v' (j + 1) (sv (xs.reverse.take (j + 1)))
          rw [HT.out, sv_append]; exact hown1
        have HB7 : Hid (Below w14.heap.size w14 w15) := apn_bel HB.out (by omega) HO.out hgrow
        clear hown1 hgrow HC1
        go_wp2
        go_roundw
        case rel => exact ⟨j + 1, (kn : Int) - 1, by omega, by go_num, by have := HJ.out; omega, HO7.out, HB7.out⟩
        case measure => simp [intOf]
      · have hk1 : k = -1 := by rw [HJ.out]; omega
        subst hk1
        have HOe : Hid (wr.ownsRow w14.heap.size 9 1 u30 xs.reverse.length (sv xs.reverse)) := by
          have h := HO.out
          rw [show j = N from by omega, List.take_of_length_le (by rw [List.length_reverse, SX.out.1]; omega)] at h
          show wr.ownsRow _ _ _ _ _ _
          rw [List.length_reverse, SX.out.1]
          exact h
        obtain ⟨at', ct, rfl, htx, _⟩ := own_txl HOe.out
        have HTX : Hid (TxL wr at' xs.reverse) := htx
        rw [List.length_reverse, SX.out.1]
        clear HOe HO htx
        have T15 : Hid (Thr N wr ax ay az xs ys zs) := T14.out.below HB.out
        have TO15 : Hid (TxL wr (some ⟨go, 0, none⟩) (txtL N (unL N))) := TO14.out.below HB.out
        have B15 : Hid (Below w.heap.size w wr) := B14.out.trans (HB.out.mono B14.out.size)
        go_wp2_with fail
        refine Calls.mono (HK4.out _ at' ct HTX.out) ?_
        rintro e w16 ⟨rfl, hb16⟩
        have HB16 : Hid (Below wr.heap.size wr w16) := hb16
        have T16 : Hid (Thr N w16 ax ay az xs ys zs) := T15.out.below hb16
        have TO16 : Hid (TxL w16 (some ⟨go, 0, none⟩) (txtL N (unL N))) := TO15.out.below hb16
        have B16 : Hid (Below w.heap.size w w16) := B15.out.trans (hb16.mono B15.out.size)
        clear hb16 T15 TO15 B15
        have TV16 : Hid (TxL w16 ao vs) := (TV14.out.below HB.out).below HB16.out
        go_wp2_with fail
        refine Calls.mono (prod_sq N ao ax N cx vs xs w16 SV.out SX.out hN1 hN64 TV16.out T16.out.x) ?_
        rintro e w17 ⟨gl, rfl, tl, hb17⟩
        have T17 : Hid (Thr N w17 ax ay az xs ys zs) := T16.out.below hb17
        have TL17 : Hid (TxL w17 (some ⟨gl, 0, none⟩) (pq N vs xs)) := tl
        have TV17 : Hid (TxL w17 ao vs) := TV16.out.below hb17
        have TO17 : Hid (TxL w17 (some ⟨go, 0, none⟩) (txtL N (unL N))) := TO16.out.below hb17
        have B17 : Hid (Below w.heap.size w w17) := B16.out.trans (hb17.mono B16.out.size)
        clear hb17 tl TV16 T16 TO16
        go_wp2_with fail
        refine Calls.mono (prod_sq N ax ao cx N xs vs w17 SX.out SV.out hN1 hN64 T17.out.x TV17.out) ?_
        rintro e w18 ⟨gm, rfl, tm, hb18⟩
        have TL18 : Hid (TxL w18 (some ⟨gl, 0, none⟩) (pq N vs xs)) := TL17.out.below hb18
        have TM18 : Hid (TxL w18 (some ⟨gm, 0, none⟩) (pq N xs vs)) := tm
        have TO18 : Hid (TxL w18 (some ⟨go, 0, none⟩) (txtL N (unL N))) := TO17.out.below hb18
        have B18 : Hid (Below w.heap.size w w18) := B17.out.trans (hb18.mono B17.out.size)
        have SO : Hid (SqM N (txtL N (unL N))) := sq_txt _ N (unL_len N) (unL_wide N) hN64
        have C1 := fun W h1 h2 => rsame_any (some ⟨gl, 0, none⟩) (some ⟨go, 0, none⟩) N N (pq N vs xs) (txtL N (unL N)) W h1 h2 (by rw [L1.out, SO.out.1]; omega) (by rw [SO.out.1]; omega)
        have C2 := fun W h1 h2 => rsame_any (some ⟨gm, 0, none⟩) (some ⟨go, 0, none⟩) N N (pq N xs vs) (txtL N (unL N)) W h1 h2 (by rw [L2.out, SO.out.1]; omega) (by rw [SO.out.1]; omega)
        rw [decide_eq_true L1.out, L1.out, SO.out.1] at C1
        rw [decide_eq_true L2.out, L2.out, SO.out.1] at C2
        rw [L1.out] at TL18
        rw [L2.out] at TM18
        have HC1 : Hid _ := C1
        have HC2 : Hid _ := C2
        clear hb18 tm TV17 T17 TO17 TL17 C1 C2
        go_wp2_with fail
        refine Calls.mono (HC1.out _ TL18.out TO18.out) ?_
        rintro e w19 ⟨rfl, hb19⟩
        have TM19 : Hid (TxL w19 (some ⟨gm, 0, none⟩) (txtL N (unL N))) := TM18.out.below hb19
        have TO19 : Hid (TxL w19 (some ⟨go, 0, none⟩) (txtL N (unL N))) := TO18.out.below hb19
        have B19 : Hid (Below w.heap.size w w19) := B18.out.trans (hb19.mono B18.out.size)
        clear hb19 TM18 TO18 TL18
        go_wp2_with fail
        refine Calls.mono (HC2.out _ TM19.out TO19.out) ?_
        rintro e w20 ⟨rfl, hb20⟩
        have B20 : Hid (Below w.heap.size w w20) := B19.out.trans (hb20.mono B19.out.size)
        clear hb20
        go_wp2
        go_ret
        exact ⟨rfl, B20.out⟩
end Go.Proofs.Ytefmabfhephdjab
