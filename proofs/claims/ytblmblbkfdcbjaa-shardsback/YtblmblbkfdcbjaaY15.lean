import Derived.Test.YtblmblbkfdcbjaaY14
import Derived.Test.YtblmblbkfdcbjaaY12
import Derived.Test.YtblmblbkfdcbjaaY6
import Derived.Test.YtblmblbkfdcbjaaY13
import Derived.Test.YtblmblbkfdcbjaaY3
import Derived.Test.YtblmblbkfdcbjaaY4
import Derived.Test.YtblmblbkfdcbjaaRows
import Derived.ProofKit
import Derived.Deep.Slices
import Derived.Lib.SmallJoins
import Derived.SizedLaws
/- The walk of ShardsBack. -/
namespace Go.Proofs.Ytblmblbkfdcbjaa
open Go.RowKit
set_option linter.unusedSimpArgs false
set_option linter.unusedVariables false
set_option maxHeartbeats 4000000 in
set_option maxRecDepth 100000 in
theorem back_walk (s junk : ByteArray) (k m : Int) (a : Option Addr) (ca L : Nat) (w : World) (hs : s.size ≤ 140737488351232) (hj : junk.size ≤ 140737488351232) (ha : BySb w a L) (hL : L ≤ 140737488351232)
    (k1 : -9223372036854775808 ≤ k) (k2 : k ≤ 9223372036854775807) (m1 : -9223372036854775808 ≤ m) (m2 : m ≤ 9223372036854775807)
    (haw : ∀ W, Calls Try.prog 30 #[] W fun e w' => e = .returned (.bool true) ∧ Below W.heap.size W w') :
    Calls Try.prog 7 #[.string s, .int .i64 k, .int .i64 m, .slice a L ca, .string junk] w fun e w' => e = .returned (.bool true) ∧ Below w.heap.size w w' := by
  have HA : Hid (BySb w a L) := ha
  have HW : Hid (∀ W, Calls Try.prog 30 #[] W fun e w' => e = .returned (.bool true) ∧ Below W.heap.size W w') := haw
  have HS : Hid _ := fun W => size_any k m W k1 k2 m1 m2
  clear ha k1 k2 m1 m2 haw
  go_enter Try.func7, Try.ntmps7
  go_wp2_with fail
  refine Calls.mono (HW.out _) ?_
  rintro e w1 ⟨rfl, hb1⟩
  have B1 : Hid (Below w.heap.size w w1) := hb1
  clear hb1
  go_wp2_with fail
  refine Calls.mono (HS.out _) ?_
  rintro e w2 ⟨K, M, rfl, ⟨hK1, hK2, hKM⟩, hb2⟩
  have B2 : Hid (Below w.heap.size w w2) := B1.out.trans (hb2.mono B1.out.size)
  clear hb2 B1 HW HS
  obtain ⟨n, hn⟩ : ∃ n, K + M = n := ⟨_, rfl⟩
  obtain ⟨D, hD⟩ : ∃ D, cutL s K = D := ⟨_, rfl⟩
  obtain ⟨d, hd⟩ : ∃ d, cw s.size K = d := ⟨_, rfl⟩
  have hdl : d ≤ s.size := by rw [← hd]; exact cw_le _ _ hK1
  have hge : s.size ≤ K * d := by rw [← hd]; exact cw_ge _ _ hK1
  have hmu : K * d ≤ s.size + K := by rw [← hd]; exact cw_mul _ _
  have ND : D.length = K := by rw [← hD]; exact cutL_len s K
  have SD : ∀ x ∈ D, x.size = d := by rw [← hD, ← hd]; exact cutL_size s K
  have hWh : mkT ((alB D).take s.size) = s := by rw [← hD]; exact whole_cut s K hK1
  have hwD : wid D = d := wid_eq (by omega) d SD
  have hnK : n - K = M := by omega
  obtain ⟨X, hX⟩ : ∃ X, alX D n d = X := ⟨_, rfl⟩
  obtain ⟨P, hP⟩ : ∃ P, mixL (cyX M K) D d = P := ⟨_, rfl⟩
  have hXP : D ++ P = X := by rw [← hX, ← hP, alX, ND, hnK]
  have NP : P.length = M := by rw [← hP, mixL_len, cyX_len M K (by omega) hK1 (by omega)]
  have NXX : X.length = n := by rw [← hX]; exact alX_len D n K d ND hK1 (by omega) (by omega)
  have SXX : ∀ x ∈ X, x.size = d := by rw [← hX]; exact alX_size D n d SD
  have c1 := fun W => cut_any s (K : Int) W hs (by omega) (by omega)
  rw [show cuX s (K : Int) = D from by unfold cuX; rw [if_pos (by omega), Int.toNat_natCast, hD], show cuE (K : Int) = 0 from by unfold cuE; rw [if_pos (by omega)], ND] at c1
  have henok : enOk D (M : Int) := ⟨by rw [ND]; omega, evn_eq d SD, by omega, by rw [ND]; omega⟩
  have c2 := fun aD W hW => encode_any aD K K D (M : Int) W hW ND (by omega) (fun x hx => by rw [SD x hx]; omega) (by omega) (by omega)
  rw [show enX D (M : Int) = P from by unfold enX; rw [if_pos henok, Int.toNat_natCast, ND, hwD, hP], show enE D (M : Int) = 0 from if_pos henok, NP] at c2
  have hft := ft_back D n K d ND hK1 hK2 (by omega) (by omega) SD
  rw [hX] at hft
  have c3 := fun aX cX W hW h1 h2 => fits_any aX cX n (K : Int) X W hW NXX h1 h2 (by omega) (fun x hx => by rw [SXX x hx]; omega) (by omega) (by omega)
  rw [hft.1, hft.2] at c3
  have hwok : woOk D (s.size : Int) := ⟨by rw [ND]; omega, evn_eq d SD, by omega, by rw [ND, hwD]; omega⟩
  have c4 := fun aD W hW => whole_any aD K K D (s.size : Int) W hW ND (by omega) (fun _ => by rw [hwD]; omega) (by omega) (by omega)
  rw [show woX D (s.size : Int) = s from by unfold woX; rw [if_pos hwok, Int.toNat_natCast, hWh], show woE D (s.size : Int) = 0 from if_pos hwok] at c4
  have c5 := fun gt ct gb us ts W hx hb nu nt su => rebuild_any (some ⟨gt, 0, none⟩) (some ⟨gb, 0, none⟩) ct n n n (K : Int) us ts W hx hb nu nt (by omega) (by omega) su (by omega) (by omega)
  have c6 := fun p b cp cb W hW hV => rsame_any p b cp cb X X W hW hV (by rw [NXX]; omega) (by rw [NXX]; omega)
  rw [decide_eq_true rfl, NXX] at c6
  have RB : Hid _ := fun us ts => rb_back D us ts n K d ND hK1 hK2 (by omega) (by omega) SD
  rw [hX] at RB
  have C1 : Hid _ := c1
  have C2 : Hid _ := c2
  have C3 : Hid _ := c3
  have C4 : Hid _ := c4
  have C5 : Hid _ := c5
  have C6 : Hid _ := c6
  have HXP : Hid (D ++ P = X) := hXP
  have HND : Hid (D.length = K) := ND
  have HNP : Hid (P.length = M) := NP
  have HNX : Hid (X.length = n) := NXX
  have HSX : Hid (∀ x ∈ X, x.size = d) := SXX
  have hdb : d ≤ 140737488351232 := by omega
  have hnz : (K : Int) + (M : Int) = (n : Int) := by omega
  have hn1 : 1 ≤ n := by omega
  have hn6 : n ≤ 64 := by omega
  have hmb := make_bs n hn6
  have HnK : Hid (n = K + M) := hn.symm
  clear c1 c2 c3 c4 c5 c6 hXP ND NP NXX SXX SD hWh hwD henok hft hwok hD hd hX hP hge hmu hnK hdl hn
  go_wp2_with fail
  refine Calls.mono (C1.out _) ?_
  rintro e w3 ⟨aD, rfl, hM3, hb3⟩
  have TD3 : Hid (TxL w3 aD D) := hM3.txl
  have B3 : Hid (Below w.heap.size w w3) := B2.out.trans (hb3.mono B2.out.size)
  clear hM3 hb3 B2
  go_wp2_with fail
  refine Calls.mono (C2.out _ _ TD3.out) ?_
  rintro e w4 ⟨aP, rfl, hM4, hb4⟩
  have TP4 : Hid (TxL w4 aP P) := hM4.txl
  have TD4 : Hid (TxL w4 aD D) := TD3.out.below hb4
  have B4 : Hid (Below w.heap.size w w4) := B3.out.trans (hb4.mono B3.out.size)
  have hz4 : w.heap.size ≤ w4.heap.size := B4.out.size
  clear hM4 hb4 B3 TD3 C1 C2
  go_wp2_with (at_builtin; refine wpList_append_txts _ rfl _ _ rfl w4.heap.size _ [] D 0 K K rfl rfl HND.out (World.ownsRow_made (size := 1) w4 #[] 0 (Nat.le_refl _) (by unfold maxLen; omega) rfl) (by simp) aD rfl (TD4.out.alloc _) (by omega) ?_)
  intro v5 w5 ho5 hg5
  have HO5 : Hid (w5.ownsRow w4.heap.size 9 1 v5 K (sv D)) := ho5
  have L5 : Hid (Below w4.heap.size w4 w5) := by
    refine ((Below.refl _ _).alloc (Nat.le_refl _) _).grown hg5 (by simp) (fun g hg => ?_)
    simp [Value.ownBlock] at hg; omega
  have hz5 : w4.heap.size ≤ w5.heap.size := L5.out.size
  clear ho5 hg5
  go_wp2_with (at_builtin; refine wpList_append_txts _ rfl _ _ rfl w4.heap.size _ D P K M M rfl HND.out HNP.out HO5.out hz5 aP rfl (TP4.out.below L5.out) (by omega) ?_)
  intro v6 w6 ho6 hg6
  have L6 : Hid (Below w4.heap.size w4 w6) := L5.out.grown hg6 hz5 (fun g hg => (HO5.out.lt g hg).1)
  rw [HXP.out, ← HnK.out] at ho6
  obtain ⟨aX, cX, hv6, htX, hcX1, hcX2⟩ := own_all (xs := X) (by rw [HNX.out]; exact ho6)
  rw [HNX.out] at hv6 hcX1
  subst hv6
  have TX6 : Hid (TxL w6 aX X) := htX
  have TD6 : Hid (TxL w6 aD D) := TD4.out.below L6.out
  have B6 : Hid (Below w.heap.size w w6) := B4.out.trans (L6.out.mono hz4)
  clear ho6 hg6 htX HO5 L5 L6 TD4 TP4 B4
  go_wp2_with fail
  refine Calls.mono (C3.out _ _ _ TX6.out hcX1 hcX2) ?_
  rintro e w7 ⟨rfl, hb7⟩
  have TX7 : Hid (TxL w7 aX X) := TX6.out.below hb7
  have TD7 : Hid (TxL w7 aD D) := TD6.out.below hb7
  have B7 : Hid (Below w.heap.size w w7) := B6.out.trans (hb7.mono B6.out.size)
  clear hb7 TX6 TD6 B6
  go_wp2_with fail
  refine Calls.mono (C4.out _ _ TD7.out) ?_
  rintro e w8 ⟨rfl, hb8⟩
  have TX8 : Hid (TxL w8 aX X) := TX7.out.below hb8
  have B8 : Hid (Below w.heap.size w w8) := B7.out.trans (hb8.mono B7.out.size)
  have hz8 : w.heap.size ≤ w8.heap.size := B8.out.size
  clear hb8 TX7 TD7 B7 C3 C4
  go_wp2_with fail
  go_loopw [21] (fun t wr => ∃ i : Nat, i ≤ n ∧ t = .int .i64 i ∧ Hid (Bk wr w8.heap.size (bs (ftK n i)) 4) ∧ Hid (Below w8.heap.size w8 wr)) (fun t _ => n - (intOf t).toNat)
  case atStart =>
    refine ⟨0, by omega, rfl, ?_, (Below.refl _ _).alloc (Nat.le_refl _) _⟩
    show Bk _ _ _ _
    rw [ftK_zero]
    exact bk_new w8 _ _
  case round =>
    obtain ⟨i, hin, rfl, HF, HB⟩ := hrel
    obtain ⟨w9, rfl⟩ : ∃ w9, w9 = wr := ⟨_, rfl⟩
    have hz9 : w8.heap.size < w9.heap.size := HF.out.lt
    by_cases hlt : i < n
    · have hiz : (i : Int) < (n : Nat) := by omega
      have hc : w9.cell? ⟨w8.heap.size, i, none⟩ = some (.bool false) := by rw [HF.out.cell, bs_get, ftK_get n i i hlt]; simp
      have hf := HF.out.frozen i
      have HFn : Hid (Bk (w9.setCell ⟨w8.heap.size, i, none⟩ (.bool true)) w8.heap.size (bs (ftK n (i + 1))) 4) := by
        show Bk _ _ _ _
        rw [← ftK_next n i hlt, ← bs_set]
        exact HF.out.set i _
      have HBn : Hid (Below w8.heap.size w8 (w9.setCell ⟨w8.heap.size, i, none⟩ (.bool true))) := HB.out.setCell (Nat.le_refl _) _
      clear HF HB
      go_wp2
      go_roundw
      case rel => exact ⟨i + 1, by omega, by go_num, HFn.out, HBn.out⟩
      case measure => simp [intOf]; omega
    · have hiz : ¬ (i : Int) < (n : Nat) := by omega
      have hin2 : i = n := by omega
      have HF9 : Hid (Bk w9 w8.heap.size (bs (ftK n n)) 4) := by have h := HF.out; rw [hin2] at h; exact h
      have TX9 : Hid (TxL w9 aX X) := TX8.out.below HB.out
      clear HF hin2
      go_wp2_with (at_builtin; refine wpList_append_txts _ rfl _ _ rfl w9.heap.size _ [] X 0 n cX rfl rfl HNX.out (World.ownsRow_made (size := 1) w9 #[] 0 (Nat.le_refl _) (by unfold maxLen; omega) rfl) (by simp) aX rfl (TX9.out.alloc _) (by omega) ?_)
      intro v10 w10 ho10 hg10
      have L10 : Hid (Below w9.heap.size w9 w10) := by
        refine ((Below.refl _ _).alloc (Nat.le_refl _) _).grown hg10 (by simp) (fun g hg => ?_)
        simp [Value.ownBlock] at hg; omega
      obtain ⟨n', hn'⟩ : ∃ n', n = n' + 1 := ⟨n - 1, by omega⟩
      obtain ⟨gt, ct, cur, hv10, hgt, hBt, hct1, hct2, hcu⟩ := own_block_at (k := n') (xs := X) (by rw [← hn']; exact ho10)
      rw [← hn'] at hv10 hct1
      subst hv10
      have TT10 : Hid (Tn w10 gt X) := ⟨cur, hBt, hcu⟩
      have HF10 : Hid (Bk w10 w8.heap.size (bs (ftK n n)) 4) := HF9.out.below L10.out hz9
      have B10 : Hid (Below w8.heap.size w8 w10) := HB.out.trans (L10.out.mono HB.out.size)
      have hgb : w8.heap.size < gt := by omega
      clear ho10 hg10 hBt hcu HF9 HB L10 TX9 hn'
      have HC0 : Hid (cnt (thr (ftK n n)) n + 0 = n) := cnt_full _ n (fun j hj => thr_val _ j true (by rw [ftK_get n n j hj]; simp [hj]) (by omega))
      go_wp2_with fail
      go_loopw [23, 24] (fun u t wr => ∃ (i gn : Nat) (ts : List Bool) (us : List ByteArray), i ≤ L ∧ gn ≤ M ∧ u = .int .i64 gn ∧ t = .int .i64 i ∧ Hid (ts.length = n) ∧ Hid (us.length = n) ∧ Hid (cnt (thr ts) n + gn = n) ∧ Hid (∀ j, j < n → thr ts j = true → us[j]? = X[j]?) ∧ Hid (∀ x ∈ us, x.size ≤ 281474976710656) ∧ Hid (Bk wr w8.heap.size (bs ts) 4) ∧ Hid (Tn wr gt us) ∧ Hid (Below w8.heap.size w8 wr)) (fun _ t _ => L - (intOf t).toNat)
      case atStart => exact ⟨0, 0, ftK n n, X, by omega, by omega, rfl, rfl, ftK_len n n, HNX.out, HC0.out, fun j _ _ => rfl, fun x hx => by rw [HSX.out x hx]; omega, HF10.out, TT10.out, B10.out⟩
      case round =>
        clear HC0 HF10 TT10 B10
        obtain ⟨i2, gn, ts, us, hi2, hgn, rfl, rfl, NT, NU, HC, HE, SU, HF, HT, HB⟩ := hrel
        by_cases hlt2 : i2 < L ∧ gn < M
        · obtain ⟨hl1, hl2⟩ := hlt2
          have hl1z : (i2 : Int) < (L : Nat) := by omega
          have hl2z : (gn : Int) < (M : Nat) := by omega
          obtain ⟨ga, oa, x, rfl, hga, hcx⟩ := (HA.out.below (B8.out.trans (HB.out.mono hz8))) i2 hl1
          have hx8 := x.toNat_lt
          obtain ⟨r, hr⟩ : ∃ r, x.toNat % n = r := ⟨_, rfl⟩
          have hrn : r < n := by rw [← hr]; exact Nat.mod_lt _ (by omega)
          have hrz : (x.toNat : Int) % (n : Int) = (r : Int) := by rw [← hr]; exact (Int.natCast_emod _ _).symm
          have hrt : (x.toNat : Int).tmod (n : Int) = (r : Int) := by rw [Int.tmod_eq_emod_of_nonneg (by omega)]; exact hrz
          have hrnz : (r : Int) < (n : Nat) := by omega
          have hn0 : ((n : Int) == 0) = false := by rw [beq_eq_false_iff_ne]; omega
          obtain ⟨t, ht⟩ : ∃ t, ts[r]? = some t := ⟨_, List.getElem?_eq_getElem (by rw [NT.out]; exact hrn)⟩
          have hct : wr.cell? ⟨w8.heap.size, r, none⟩ = some (.bool t) := by rw [HF.out.cell, bs_get, ht]; rfl
          have hft := HF.out.frozen r
          clear hr
          cases t with
          | false =>
            clear ht
            go_wp2
            go_roundw
            case rel => exact ⟨i2 + 1, gn, ts, us, by omega, hgn, rfl, by go_num, NT.out, NU.out, HC.out, HE.out, SU.out, HF.out, HT.out, HB.out⟩
            case measure => simp [intOf]; omega
          | true =>
            have hcs := cnt_set ts r n NT.out hn6 ht
            have HCn : Hid (cnt (thr (ts.set r false)) n + (gn + 1) = n) := by have := HC.out; show _ = n; omega
            have HEn : Hid (∀ j, j < n → thr (ts.set r false) j = true → (us.set r junk)[j]? = X[j]?) := fun j hj h => by
              rw [thr_set ts r j (by rw [NT.out]; exact hrn) (by rw [NT.out]; exact hj) (by rw [NT.out]; exact hn6)] at h
              by_cases e : j = r
              · rw [if_pos e] at h; cases h
              · rw [if_neg e] at h
                rw [List.getElem?_set, if_neg (fun e2 => e e2.symm)]
                exact HE.out j hj h
            have SUn : Hid (∀ x ∈ us.set r junk, x.size ≤ 281474976710656) := fun x hx => by
              rcases List.mem_or_eq_of_mem_set hx with h | h
              · exact SU.out x h
              · rw [h]; omega
            obtain ⟨old, hold⟩ : ∃ old, us[r]? = some old := ⟨_, List.getElem?_eq_getElem (by rw [NU.out]; exact hrn)⟩
            have HT1 : Hid (Tn (wr.setCell ⟨w8.heap.size, r, none⟩ (.bool false)) gt us) := HT.out.grown (Lib.grownBy_setB (World.grownBy.refl _ _) r _) (by simp; omega)
            have hcu : (wr.setCell ⟨w8.heap.size, r, none⟩ (.bool false)).cell? ⟨gt, r, none⟩ = some (.string old) := by
              have := HT1.out.txl.cel hold
              rwa [Nat.zero_add] at this
            have hfu : (wr.setCell ⟨w8.heap.size, r, none⟩ (.bool false)).frozen? ⟨gt, r, none⟩ = false := by
              obtain ⟨cur2, hB2, _⟩ := HT1.out
              exact hB2.frozen r
            have HTn : Hid (Tn ((wr.setCell ⟨w8.heap.size, r, none⟩ (.bool false)).setCell ⟨gt, r, none⟩ (.string junk)) gt (us.set r junk)) := HT1.out.set r (by rw [NU.out]; exact hrn) junk
            have HFn : Hid (Bk ((wr.setCell ⟨w8.heap.size, r, none⟩ (.bool false)).setCell ⟨gt, r, none⟩ (.string junk)) w8.heap.size (bs (ts.set r false)) 4) := by
              show Bk _ _ _ _
              rw [← bs_set]
              exact (HF.out.set r _).grown (Lib.grownBy_setB (World.grownBy.refl _ _) r _) (by simp; omega)
            have HBn : Hid (Below w8.heap.size w8 ((wr.setCell ⟨w8.heap.size, r, none⟩ (.bool false)).setCell ⟨gt, r, none⟩ (.string junk))) := (HB.out.setCell (Nat.le_refl _) _).setCell (by show w8.heap.size ≤ gt; omega) _
            have NTn : Hid ((ts.set r false).length = n) := by show _ = n; rw [List.length_set, NT.out]
            have NUn : Hid ((us.set r junk).length = n) := by show _ = n; rw [List.length_set, NU.out]
            clear ht hold hcs HT1 HC HE SU HF HT HB NT NU
            go_wp2
            go_roundw
            case rel => exact ⟨i2 + 1, gn + 1, _, _, by omega, by omega, by go_num, by go_num, NTn.out, NUn.out, HCn.out, HEn.out, SUn.out, HFn.out, HTn.out, HBn.out⟩
            case measure => simp [intOf]; omega
        · by_cases hl1 : i2 < L
          · have hl1z : (i2 : Int) < (L : Nat) := by omega
            have hl2z : ¬ (gn : Int) < (M : Nat) := by omega
            clear hlt2
            have hcK : K ≤ cnt (thr ts) n := by have := HC.out; have := HnK.out; omega
            have hrb := (RB.out us ts NU.out NT.out HE.out).1 hcK
            have c7 := C5.out gt ct w8.heap.size us ts wr HT.out.txl (bs_bol HF.out) NU.out NT.out SU.out
            rw [hrb.1, hrb.2, HNX.out] at c7
            have C7 : Hid _ := c7
            clear c7 hrb hcK
            go_wp2_with fail
            refine Calls.mono C7.out ?_
            rintro e w11 ⟨aG, rfl, hM11, hb11⟩
            have TG11 : Hid (TxL w11 aG X) := hM11.txl
            have HF11 : Hid (Bk w11 w8.heap.size (bs ts) 4) := HF.out.grown (gr_of_below hb11 none) (by simp)
            have HT11 : Hid (Tn w11 gt us) := HT.out.below hb11
            have B11 : Hid (Below w8.heap.size w8 w11) := HB.out.trans (hb11.mono HB.out.size)
            clear hM11 hb11 HF HT HB C7
            go_wp2_with fail
            refine Calls.mono (C6.out _ _ _ _ _ TG11.out (TX8.out.below B11.out)) ?_
            rintro e w12 ⟨rfl, hb12⟩
            have HF12 : Hid (Bk w12 w8.heap.size (bs ts) 4) := HF11.out.grown (gr_of_below hb12 none) (by simp)
            have HT12 : Hid (Tn w12 gt us) := HT11.out.below hb12
            have B12 : Hid (Below w8.heap.size w8 w12) := B11.out.trans (hb12.mono B11.out.size)
            clear hb12 HF11 HT11 B11 TG11
            go_wp2_with fail
            go_loopw [23, 28] (fun u t wr => ∃ (at_ gn : Nat) (ts : List Bool), at_ ≤ n ∧ gn ≤ M + 1 ∧ u = .int .i64 gn ∧ t = .int .i64 at_ ∧ Hid (ts.length = n) ∧ Hid (cnt (thr ts) n + gn = n) ∧ Hid (∀ j, j < n → thr ts j = true → us[j]? = X[j]?) ∧ Hid (gn ≤ M → ∀ j, j < at_ → thr ts j = false) ∧ Hid (Bk wr w8.heap.size (bs ts) 4) ∧ Hid (Tn wr gt us) ∧ Hid (Below w8.heap.size w8 wr)) (fun _ t _ => n - (intOf t).toNat)
            case atStart => exact ⟨0, gn, ts, by omega, by omega, rfl, rfl, NT.out, HC.out, HE.out, fun _ j hj => by omega, HF12.out, HT12.out, B12.out⟩
            case round =>
              clear HF12 HT12 B12 NT HC HE
              clear hgn
              obtain ⟨q, gn3, ts3, hq, hgn3, rfl, rfl, NT, HC, HE, HZ, HF, HT, HB⟩ := hrel
              by_cases hqn : q < n
              · have hqz : (q : Int) < (n : Nat) := by omega
                obtain ⟨t, ht⟩ : ∃ t, ts3[q]? = some t := ⟨_, List.getElem?_eq_getElem (by rw [NT.out]; exact hqn)⟩
                have hct : wr.cell? ⟨w8.heap.size, q, none⟩ = some (.bool t) := by rw [HF.out.cell, bs_get, ht]; rfl
                have hft := HF.out.frozen q
                have htv := thr_val ts3 q t ht (by omega)
                cases t with
                | false =>
                  have HZn : Hid (gn3 ≤ M → ∀ j, j < q + 1 → thr ts3 j = false) := fun h j hj => by
                    by_cases e : j = q
                    · rw [e]; exact htv
                    · exact HZ.out h j (by omega)
                  clear ht htv
                  go_wp2
                  go_roundw
                  case rel => exact ⟨q + 1, gn3, ts3, by omega, hgn3, rfl, by go_num, NT.out, HC.out, HE.out, HZn.out, HF.out, HT.out, HB.out⟩
                  case measure => simp [intOf]; omega
                | true =>
                  by_cases hgM : gn3 ≤ M
                  · have hgz : (gn3 : Int) ≤ (M : Nat) := by omega
                    have hcs := cnt_set ts3 q n NT.out hn6 ht
                    have HCn : Hid (cnt (thr (ts3.set q false)) n + (gn3 + 1) = n) := by have := HC.out; show _ = n; omega
                    have hset := fun j hj => thr_set ts3 q j (by rw [NT.out]; exact hqn) (show j < ts3.length by rw [NT.out]; exact hj) (by rw [NT.out]; exact hn6)
                    have HEn : Hid (∀ j, j < n → thr (ts3.set q false) j = true → us[j]? = X[j]?) := fun j hj h => by
                      rw [hset j hj] at h
                      by_cases e : j = q
                      · rw [if_pos e] at h; cases h
                      · rw [if_neg e] at h
                        exact HE.out j hj h
                    have HZn : Hid (gn3 + 1 ≤ M → ∀ j, j < q + 1 → thr (ts3.set q false) j = false) := fun h j hj => by
                      rw [hset j (by omega)]
                      by_cases e : j = q
                      · rw [if_pos e]
                      · rw [if_neg e]
                        exact HZ.out hgM j (by omega)
                    have HFn : Hid (Bk (wr.setCell ⟨w8.heap.size, q, none⟩ (.bool false)) w8.heap.size (bs (ts3.set q false)) 4) := by
                      show Bk _ _ _ _
                      rw [← bs_set]
                      exact HF.out.set q _
                    have HTn : Hid (Tn (wr.setCell ⟨w8.heap.size, q, none⟩ (.bool false)) gt us) := HT.out.grown (Lib.grownBy_setB (World.grownBy.refl _ _) q _) (by simp; omega)
                    have HBn : Hid (Below w8.heap.size w8 (wr.setCell ⟨w8.heap.size, q, none⟩ (.bool false))) := HB.out.setCell (Nat.le_refl _) _
                    have NTn : Hid ((ts3.set q false).length = n) := by show _ = n; rw [List.length_set, NT.out]
                    clear ht htv hcs hset HC HE HZ HF HT HB NT
                    go_wp2
                    go_roundw
                    case rel => exact ⟨q + 1, gn3 + 1, _, by omega, by omega, by go_num, by go_num, NTn.out, HCn.out, HEn.out, HZn.out, HFn.out, HTn.out, HBn.out⟩
                    case measure => simp [intOf]; omega
                  · have hgz : ¬ (gn3 : Int) ≤ (M : Nat) := by omega
                    have HZn : Hid (gn3 ≤ M → ∀ j, j < q + 1 → thr ts3 j = false) := fun h => by omega
                    clear ht htv
                    go_wp2
                    go_roundw
                    case rel => exact ⟨q + 1, gn3, ts3, by omega, hgn3, rfl, by go_num, NT.out, HC.out, HE.out, HZn.out, HF.out, HT.out, HB.out⟩
                    case measure => simp [intOf]; omega
              · have hqz : ¬ (q : Int) < (n : Nat) := by omega
                have hfin : cnt (thr ts3) n < K := by
                  have h1 := HC.out
                  have h2 := HnK.out
                  by_cases h : gn3 ≤ M
                  · have := cnt_none (thr ts3) n (fun j hj => HZ.out h j (by omega))
                    omega
                  · omega
                have hrb := (RB.out us ts3 NU.out NT.out HE.out).2 hfin
                have c7 := C5.out gt ct w8.heap.size us ts3 wr HT.out.txl (bs_bol HF.out) NU.out NT.out SU.out
                rw [hrb] at c7
                obtain ⟨Z, hZ⟩ : ∃ Z, rbX us ts3 (K : Int) = Z := ⟨_, rfl⟩
                rw [hZ] at c7
                obtain ⟨zl, hzl⟩ : ∃ zl, Z.length = zl := ⟨_, rfl⟩
                rw [hzl] at c7
                have C7 : Hid _ := c7
                clear c7 hrb hfin hZ hzl
                go_wp2_with fail
                refine Calls.mono C7.out ?_
                rintro e w13 ⟨aZ, rfl, hM13, hb13⟩
                have B13 : Hid (Below w.heap.size w w13) := B8.out.trans ((HB.out.trans (hb13.mono HB.out.size)).mono hz8)
                clear hM13 hb13
                go_wp2
                go_ret
                exact ⟨rfl, B13.out⟩
          · have hl1z : ¬ (i2 : Int) < (L : Nat) := by omega
            clear hlt2
            have hcK : K ≤ cnt (thr ts) n := by have := HC.out; have := HnK.out; omega
            have hrb := (RB.out us ts NU.out NT.out HE.out).1 hcK
            have c7 := C5.out gt ct w8.heap.size us ts wr HT.out.txl (bs_bol HF.out) NU.out NT.out SU.out
            rw [hrb.1, hrb.2, HNX.out] at c7
            have C7 : Hid _ := c7
            clear c7 hrb hcK
            go_wp2_with fail
            refine Calls.mono C7.out ?_
            rintro e w11 ⟨aG, rfl, hM11, hb11⟩
            have TG11 : Hid (TxL w11 aG X) := hM11.txl
            have HF11 : Hid (Bk w11 w8.heap.size (bs ts) 4) := HF.out.grown (gr_of_below hb11 none) (by simp)
            have HT11 : Hid (Tn w11 gt us) := HT.out.below hb11
            have B11 : Hid (Below w8.heap.size w8 w11) := HB.out.trans (hb11.mono HB.out.size)
            clear hM11 hb11 HF HT HB C7
            go_wp2_with fail
            refine Calls.mono (C6.out _ _ _ _ _ TG11.out (TX8.out.below B11.out)) ?_
            rintro e w12 ⟨rfl, hb12⟩
            have HF12 : Hid (Bk w12 w8.heap.size (bs ts) 4) := HF11.out.grown (gr_of_below hb12 none) (by simp)
            have HT12 : Hid (Tn w12 gt us) := HT11.out.below hb12
            have B12 : Hid (Below w8.heap.size w8 w12) := B11.out.trans (hb12.mono B11.out.size)
            clear hb12 HF11 HT11 B11 TG11
            go_wp2_with fail
            go_loopw [23, 28] (fun u t wr => ∃ (at_ gn : Nat) (ts : List Bool), at_ ≤ n ∧ gn ≤ M + 1 ∧ u = .int .i64 gn ∧ t = .int .i64 at_ ∧ Hid (ts.length = n) ∧ Hid (cnt (thr ts) n + gn = n) ∧ Hid (∀ j, j < n → thr ts j = true → us[j]? = X[j]?) ∧ Hid (gn ≤ M → ∀ j, j < at_ → thr ts j = false) ∧ Hid (Bk wr w8.heap.size (bs ts) 4) ∧ Hid (Tn wr gt us) ∧ Hid (Below w8.heap.size w8 wr)) (fun _ t _ => n - (intOf t).toNat)
            case atStart => exact ⟨0, gn, ts, by omega, by omega, rfl, rfl, NT.out, HC.out, HE.out, fun _ j hj => by omega, HF12.out, HT12.out, B12.out⟩
            case round =>
              clear HF12 HT12 B12 NT HC HE
              clear hgn
              obtain ⟨q, gn3, ts3, hq, hgn3, rfl, rfl, NT, HC, HE, HZ, HF, HT, HB⟩ := hrel
              by_cases hqn : q < n
              · have hqz : (q : Int) < (n : Nat) := by omega
                obtain ⟨t, ht⟩ : ∃ t, ts3[q]? = some t := ⟨_, List.getElem?_eq_getElem (by rw [NT.out]; exact hqn)⟩
                have hct : wr.cell? ⟨w8.heap.size, q, none⟩ = some (.bool t) := by rw [HF.out.cell, bs_get, ht]; rfl
                have hft := HF.out.frozen q
                have htv := thr_val ts3 q t ht (by omega)
                cases t with
                | false =>
                  have HZn : Hid (gn3 ≤ M → ∀ j, j < q + 1 → thr ts3 j = false) := fun h j hj => by
                    by_cases e : j = q
                    · rw [e]; exact htv
                    · exact HZ.out h j (by omega)
                  clear ht htv
                  go_wp2
                  go_roundw
                  case rel => exact ⟨q + 1, gn3, ts3, by omega, hgn3, rfl, by go_num, NT.out, HC.out, HE.out, HZn.out, HF.out, HT.out, HB.out⟩
                  case measure => simp [intOf]; omega
                | true =>
                  by_cases hgM : gn3 ≤ M
                  · have hgz : (gn3 : Int) ≤ (M : Nat) := by omega
                    have hcs := cnt_set ts3 q n NT.out hn6 ht
                    have HCn : Hid (cnt (thr (ts3.set q false)) n + (gn3 + 1) = n) := by have := HC.out; show _ = n; omega
                    have hset := fun j hj => thr_set ts3 q j (by rw [NT.out]; exact hqn) (show j < ts3.length by rw [NT.out]; exact hj) (by rw [NT.out]; exact hn6)
                    have HEn : Hid (∀ j, j < n → thr (ts3.set q false) j = true → us[j]? = X[j]?) := fun j hj h => by
                      rw [hset j hj] at h
                      by_cases e : j = q
                      · rw [if_pos e] at h; cases h
                      · rw [if_neg e] at h
                        exact HE.out j hj h
                    have HZn : Hid (gn3 + 1 ≤ M → ∀ j, j < q + 1 → thr (ts3.set q false) j = false) := fun h j hj => by
                      rw [hset j (by omega)]
                      by_cases e : j = q
                      · rw [if_pos e]
                      · rw [if_neg e]
                        exact HZ.out hgM j (by omega)
                    have HFn : Hid (Bk (wr.setCell ⟨w8.heap.size, q, none⟩ (.bool false)) w8.heap.size (bs (ts3.set q false)) 4) := by
                      show Bk _ _ _ _
                      rw [← bs_set]
                      exact HF.out.set q _
                    have HTn : Hid (Tn (wr.setCell ⟨w8.heap.size, q, none⟩ (.bool false)) gt us) := HT.out.grown (Lib.grownBy_setB (World.grownBy.refl _ _) q _) (by simp; omega)
                    have HBn : Hid (Below w8.heap.size w8 (wr.setCell ⟨w8.heap.size, q, none⟩ (.bool false))) := HB.out.setCell (Nat.le_refl _) _
                    have NTn : Hid ((ts3.set q false).length = n) := by show _ = n; rw [List.length_set, NT.out]
                    clear ht htv hcs hset HC HE HZ HF HT HB NT
                    go_wp2
                    go_roundw
                    case rel => exact ⟨q + 1, gn3 + 1, _, by omega, by omega, by go_num, by go_num, NTn.out, HCn.out, HEn.out, HZn.out, HFn.out, HTn.out, HBn.out⟩
                    case measure => simp [intOf]; omega
                  · have hgz : ¬ (gn3 : Int) ≤ (M : Nat) := by omega
                    have HZn : Hid (gn3 ≤ M → ∀ j, j < q + 1 → thr ts3 j = false) := fun h => by omega
                    clear ht htv
                    go_wp2
                    go_roundw
                    case rel => exact ⟨q + 1, gn3, ts3, by omega, hgn3, rfl, by go_num, NT.out, HC.out, HE.out, HZn.out, HF.out, HT.out, HB.out⟩
                    case measure => simp [intOf]; omega
              · have hqz : ¬ (q : Int) < (n : Nat) := by omega
                have hfin : cnt (thr ts3) n < K := by
                  have h1 := HC.out
                  have h2 := HnK.out
                  by_cases h : gn3 ≤ M
                  · have := cnt_none (thr ts3) n (fun j hj => HZ.out h j (by omega))
                    omega
                  · omega
                have hrb := (RB.out us ts3 NU.out NT.out HE.out).2 hfin
                have c7 := C5.out gt ct w8.heap.size us ts3 wr HT.out.txl (bs_bol HF.out) NU.out NT.out SU.out
                rw [hrb] at c7
                obtain ⟨Z, hZ⟩ : ∃ Z, rbX us ts3 (K : Int) = Z := ⟨_, rfl⟩
                rw [hZ] at c7
                obtain ⟨zl, hzl⟩ : ∃ zl, Z.length = zl := ⟨_, rfl⟩
                rw [hzl] at c7
                have C7 : Hid _ := c7
                clear c7 hrb hfin hZ hzl
                go_wp2_with fail
                refine Calls.mono C7.out ?_
                rintro e w13 ⟨aZ, rfl, hM13, hb13⟩
                have B13 : Hid (Below w.heap.size w w13) := B8.out.trans ((HB.out.trans (hb13.mono HB.out.size)).mono hz8)
                clear hM13 hb13
                go_wp2
                go_ret
                exact ⟨rfl, B13.out⟩
end Go.Proofs.Ytblmblbkfdcbjaa
/- The law's awake: a text cut, one shard missing. -/
namespace Go.Proofs.Ytblmblbkfdcbjaa
open Go.RowKit
set_option linter.unusedSimpArgs false
set_option linter.unusedVariables false
def aw0 : ByteArray := ⟨#[97, 98, 99]⟩
def aw1 : ByteArray := ⟨#[100, 101, 0]⟩
def awP : ByteArray := mkT (fl 3 (mxF (mkT [caV 0 0, caV 0 1]) [aw0, aw1] 2))
theorem aw_cut : cuX ⟨#[97, 98, 99, 100, 101]⟩ 2 = [aw0, aw1] := by decide +kernel
theorem aw_enc : enX [aw0, aw1] 1 = [awP] := by decide +kernel
theorem aw_reb : rbX [⟨#[]⟩, aw1, awP] [false, true, true] 2 = [aw0, aw1, awP] ∧ rbE [⟨#[]⟩, aw1, awP] [false, true, true] 2 = 0 := by decide +kernel
theorem aw_ts {w : World} {g : Nat} {T : TypeId} (h : Bk w g #[.bool false, .bool true, .bool true] T) : BoL w (some ⟨g, 0, none⟩) [false, true, true] := by
  intro i x hx
  refine ⟨_, 0, rfl, h.lt, ?_⟩
  rw [Nat.zero_add, h.cell]
  have hi : i < 3 := (List.getElem?_eq_some_iff.1 hx).1
  match i, hi, hx with
  | 0, _, hx => simp at hx; subst hx; rfl
  | 1, _, hx => simp at hx; subst hx; rfl
  | 2, _, hx => simp at hx; subst hx; rfl
set_option maxHeartbeats 2000000 in
set_option maxRecDepth 100000 in
theorem awake_any (w : World) : Calls Try.prog 30 #[] w fun e w' => e = .returned (.bool true) ∧ Below w.heap.size w w' := by
  have c1 := fun W => cut_any ⟨#[97, 98, 99, 100, 101]⟩ 2 W (by decide) (by decide) (by decide)
  rw [aw_cut, show cuE 2 = 0 from rfl] at c1
  have c2 := fun a W h => encode_any a 2 2 [aw0, aw1] 1 W h rfl (by omega) (fun x hx => by
    have : x = aw0 ∨ x = aw1 := by simpa using hx
    rcases this with h | h <;> rw [h] <;> decide) (by omega) (by omega)
  rw [aw_enc, show enE [aw0, aw1] 1 = 0 from by decide +kernel] at c2
  have c4 := fun a b W hx hb => rebuild_any a b 3 3 3 3 2 [⟨#[]⟩, aw1, awP] [false, true, true] W hx hb rfl rfl (by omega) (by omega) (fun x hx => by
    have : x = ⟨#[]⟩ ∨ x = aw1 ∨ x = awP := by simpa using hx
    rcases this with h | h | h <;> rw [h] <;> decide +kernel) (by omega) (by omega)
  rw [aw_reb.1, aw_reb.2] at c4
  have c5 := fun a b W hx hy => rsame_any a b 2 2 [aw0, aw1] [aw0, aw1] W hx hy (by decide) (by decide)
  rw [decide_eq_true rfl] at c5
  have HW0 : Hid (aw0 = ⟨#[97, 98, 99]⟩) := rfl
  have HW1 : Hid (aw1 = ⟨#[100, 101, 0]⟩) := rfl
  generalize awP = pp at c2 c4
  have C1 : Hid _ := c1
  have C2 : Hid _ := c2
  have C4 : Hid _ := c4
  have C5 : Hid _ := c5
  clear c1 c2 c4 c5
  go_enter Try.func30, Try.ntmps30
  go_wp2_with fail
  refine Calls.mono (C1.out _) ?_
  rintro e w1 ⟨a1, rfl, hM, hb⟩
  have T1 : Hid (TxL w1 a1 [aw0, aw1]) := hM.txl
  have B1 : Hid (Below w.heap.size w w1) := hb
  clear hM hb
  go_wp2_with fail
  refine Calls.mono (C2.out _ _ T1.out) ?_
  rintro e w2 ⟨a2, rfl, hM, hb⟩
  have T2 : Hid (TxL w2 a1 [aw0, aw1]) := T1.out.below hb
  have P2 : Hid (TxL w2 a2 [pp]) := hM.txl
  have B2 : Hid (Below w.heap.size w w2) := B1.out.trans (hb.mono B1.out.size)
  clear hM hb T1 B1
  have T3 : Hid (TxL (w2.alloc (.cells #[.string ⟨#[97, 98, 99]⟩, .string ⟨#[100, 101, 0]⟩] 9)) a1 [aw0, aw1]) := T2.out.alloc _
  have T3' : Hid (TxL (w2.alloc (.cells #[.string ⟨#[97, 98, 99]⟩, .string ⟨#[100, 101, 0]⟩] 9)) (some ⟨w2.heap.size, 0, none⟩) [aw0, aw1]) := by
    have h := bk_new w2 (txc [aw0, aw1]) 9
    exact h.txl
  have B3 : Hid (Below w.heap.size w (w2.alloc (.cells #[.string ⟨#[97, 98, 99]⟩, .string ⟨#[100, 101, 0]⟩] 9))) := B2.out.alloc B2.out.size _
  have P3 : Hid (TxL (w2.alloc (.cells #[.string ⟨#[97, 98, 99]⟩, .string ⟨#[100, 101, 0]⟩] 9)) a2 [pp]) := P2.out.alloc _
  go_wp2_with fail
  refine Calls.mono (C5.out _ _ _ T3.out T3'.out) ?_
  rintro e w3 ⟨rfl, hb⟩
  have T4 : Hid (TxL w3 a1 [aw0, aw1]) := T3.out.below hb
  have P4 : Hid (TxL w3 a2 [pp]) := P3.out.below hb
  have B4 : Hid (Below w.heap.size w w3) := B3.out.trans (hb.mono B3.out.size)
  clear hb T2 P2 B2 T3 T3' B3 P3
  obtain ⟨g1, o1, rfl, hg1, hc1⟩ := T4.out 1 aw1 rfl
  obtain ⟨g2, o2, rfl, hg2, hc2⟩ := P4.out 0 pp rfl
  rw [Nat.add_zero] at hc2
  have TA : Hid (TxL ((w3.drew.alloc (.cells #[.string ⟨#[]⟩, .string aw1, .string pp] 9)).alloc (.cells #[.bool false, .bool true, .bool true] 4)) (some ⟨w3.heap.size, 0, none⟩) [⟨#[]⟩, aw1, pp]) := by
    have h := bk_new w3.drew (txc [⟨#[]⟩, aw1, pp]) 9
    exact h.txl.alloc _
  have BA : Hid (BoL ((w3.drew.alloc (.cells #[.string ⟨#[]⟩, .string aw1, .string pp] 9)).alloc (.cells #[.bool false, .bool true, .bool true] 4)) (some ⟨w3.heap.size + 1, 0, none⟩) [false, true, true]) := by
    have h := bk_new (w3.drew.alloc (.cells #[.string ⟨#[]⟩, .string aw1, .string pp] 9)) #[.bool false, .bool true, .bool true] 4
    rw [al_size] at h
    exact aw_ts h
  have LA : Hid (Below w3.heap.size w3 ((w3.drew.alloc (.cells #[.string ⟨#[]⟩, .string aw1, .string pp] 9)).alloc (.cells #[.bool false, .bool true, .bool true] 4))) := ((Below.refl _ _).drew.alloc (by simp) _).alloc (by simp) _
  have TB : Hid (TxL ((w3.drew.alloc (.cells #[.bool false, .bool true, .bool true] 4)).alloc (.cells #[.string ⟨#[]⟩, .string aw1, .string pp] 9)) (some ⟨w3.heap.size + 1, 0, none⟩) [⟨#[]⟩, aw1, pp]) := by
    have h := bk_new (w3.drew.alloc (.cells #[.bool false, .bool true, .bool true] 4)) (txc [⟨#[]⟩, aw1, pp]) 9
    rw [al_size] at h
    exact h.txl
  have BB : Hid (BoL ((w3.drew.alloc (.cells #[.bool false, .bool true, .bool true] 4)).alloc (.cells #[.string ⟨#[]⟩, .string aw1, .string pp] 9)) (some ⟨w3.heap.size, 0, none⟩) [false, true, true]) := by
    have h := (bk_new w3.drew #[.bool false, .bool true, .bool true] 4).alloc (.cells #[.string ⟨#[]⟩, .string aw1, .string pp] 9)
    exact aw_ts h
  have LB : Hid (Below w3.heap.size w3 ((w3.drew.alloc (.cells #[.bool false, .bool true, .bool true] 4)).alloc (.cells #[.string ⟨#[]⟩, .string aw1, .string pp] 9))) := ((Below.refl _ _).drew.alloc (by simp) _).alloc (by simp) _
  go_wp2_with fail
  go_region_with (go_at_call 27; first
    | (refine Calls.mono (C4.out _ _ _ TA.out BA.out) ?_; rintro e w5 ⟨a5, rfl, hM5, hb5⟩
       have B5 : Hid (Below w3.heap.size w3 w5) := LA.out.trans (hb5.mono LA.out.size)
       have T5 : Hid (TxL w5 a5 [aw0, aw1, pp]) := hM5.txl
       clear hM5 hb5)
    | (refine Calls.mono (C4.out _ _ _ TB.out BB.out) ?_; rintro e w5 ⟨a5, rfl, hM5, hb5⟩
       have B5 : Hid (Below w3.heap.size w3 w5) := LB.out.trans (hb5.mono LB.out.size)
       have T5 : Hid (TxL w5 a5 [aw0, aw1, pp]) := hM5.txl
       clear hM5 hb5))
  all_goals
    obtain ⟨g5, o5, rfl, hg5, hd0⟩ := T5.out 0 ⟨#[97, 98, 99]⟩ rfl
    rw [Nat.add_zero] at hd0
    have hd1 := T5.out.cel (i := 1) (x := aw1) rfl
    have hd2 := T5.out.cel (i := 2) (x := pp) rfl
    have he1 := (T4.out.below B5.out).cel (i := 1) (x := aw1) rfl
    have he2 := (P4.out.below B5.out).cel (i := 0) (x := pp) rfl
    rw [Nat.add_zero] at he2
    have BF : Hid (Below w.heap.size w w5) := B4.out.trans (B5.out.mono B4.out.size)
    clear T5 B5 hc1 hc2
    generalize aw1 = q1 at *
    go_wp2
    go_quiet (fail)
    go_wp2
    go_ret
    exact ⟨by simp, below_drewN BF.out _⟩
end Go.Proofs.Ytblmblbkfdcbjaa
/- Numbers that come in to a law: their ranges. -/
namespace Go.Proofs.Ytblmblbkfdcbjaa
open Go.RowKit
set_option linter.unusedSimpArgs false
set_option linter.unusedVariables false
theorem u8_val (a : Int) (h : (Lit.int .u8 a).wf = true) : ∃ x : UInt8, a = (x.toNat : Int) := by
  have h' : 0 ≤ a ∧ a ≤ 255 := by
    have h3 : (decide (IntKind.u8.min ≤ a) && decide (a ≤ IntKind.u8.max)) = true := h
    have e1 : IntKind.u8.min = 0 := by decide
    have e2 : IntKind.u8.max = 255 := by decide
    rw [e1, e2] at h3
    simpa using h3
  refine ⟨UInt8.ofNat a.toNat, ?_⟩
  simp
  omega
theorem i64_val (a : Int) (h : (Lit.int .i64 a).wf = true) : -9223372036854775808 ≤ a ∧ a ≤ 9223372036854775807 := by
  have h3 : (decide (IntKind.i64.min ≤ a) && decide (a ≤ IntKind.i64.max)) = true := h
  have e1 : IntKind.i64.min = -9223372036854775808 := by decide
  have e2 : IntKind.i64.max = 9223372036854775807 := by decide
  rw [e1, e2] at h3
  simpa using h3
end Go.Proofs.Ytblmblbkfdcbjaa
/- A slice of structs that came in, opened at an index: plain laws on readings, over any program. -/
namespace Go.Proofs.Ytblmblbkfdcbjaa
open Go.ChangeShapes Go.WideShapes Go.ChangeAt Go.RowKit
set_option linter.unusedSimpArgs false
set_option linter.unusedVariables false
theorem weightsAll_mem {H : Type} {P : Program} {e : TypeId} : ∀ {l : List (DataW H)} {d : DataW H}, d ∈ l → ∀ n ∈ d.weights P e, n ∈ DataW.weightsAll P e l
  | [], _, h, _, _ => by simp at h
  | x :: l, d, hd, n, hn => by
    simp only [DataW.weightsAll, List.mem_append]
    rcases List.mem_cons.1 hd with rfl | h
    · exact Or.inl hn
    · exact Or.inr (weightsAll_mem h n hn)
theorem open_elem {H : Type} {enc : TypeId × Value → H} {P : Program} {w : World} {t e : TypeId} {d : DataW H} {ps : List MemPlace} {a0 : Option Addr} {len cap : Nat}
    (ht : P.underlying t = some (.slice e)) (hce : 0 < P.cellsOf e) (h : DataW.Trod enc P w 0 (fun _ => true) true t (.slice a0 len cap) d ps) :
    len ≤ maxLen ∧ ∀ i, i < len → ∃ (b off : Nat) (cs : List Value) (D : DataW H) (Pl : List MemPlace) (n : Nat), a0 = some ⟨b, off, none⟩ ∧ b < w.heap.size ∧ cs.length = P.cellsOf e ∧
      (∀ j, j < P.cellsOf e → w.cell? ⟨b, off + i * P.cellsOf e + j, none⟩ = cs[j]?) ∧ DataW.trod enc P w 0 (fun _ => true) true n e cs = some (D, Pl) ∧ ∀ q ∈ D.weights P e, q ∈ d.weights P t := by
  obtain ⟨fuel, hf⟩ := h
  have hcs : (Value.slice a0 len cap).cells.toList = [.slice a0 len cap] := by simp [Value.cells]
  rw [hcs] at hf
  rcases Go.Deep.open_slice ht hf with ⟨h1, _⟩ | ⟨a, l, c, m, n, D, Pl, h1, _, hl, hm, hmm, hx, hi⟩
  · simp only [List.cons.injEq, Value.slice.injEq, and_true] at h1
    obtain ⟨rfl, rfl, rfl⟩ := h1
    exact ⟨by unfold maxLen; omega, fun i hi => by omega⟩
  · simp only [List.cons.injEq, Value.slice.injEq, and_true] at h1
    obtain ⟨rfl, rfl, rfl⟩ := h1
    have hmc : m = cap := by simpa using hmm
    refine ⟨by omega, fun i hil => ?_⟩
    obtain ⟨cs, h2, h3⟩ := hi i (by omega)
    obtain ⟨_, hlen, hcell⟩ := World.cells?_some h2
    obtain ⟨b, off, spot⟩ := a
    have hsp : spot = none := by
      obtain ⟨cs0, k2, _⟩ := hi 0 (by omega)
      obtain ⟨_, klen, kcell⟩ := World.cells?_some k2
      have kc := kcell 0 hce
      rw [Go.Deep.add_add, Nat.zero_mul, Nat.zero_add, show (⟨b, off, spot⟩ : Addr).add 0 = ⟨b, off, spot⟩ from rfl, List.getElem?_eq_getElem (by omega)] at kc
      exact World.cell?_spot kc
    subst hsp
    have hc0 := hcell 0 hce
    rw [Go.Deep.add_add, add_plain, List.getElem?_eq_getElem (by omega)] at hc0
    refine ⟨b, off, cs, D i, Pl i, n, rfl, block_lt_of_cell hc0, hlen, fun j hj => ?_, h3, fun q hq => ?_⟩
    · have := hcell j hj
      rw [Go.Deep.add_add, add_plain, ← Nat.add_assoc] at this
      exact this
    · simp only [Prod.mk.injEq] at hx
      rw [hx.1]
      simp only [DataW.weights, ht, List.mem_cons, List.mem_append]
      exact Or.inr (Or.inl (weightsAll_mem (List.mem_map.2 ⟨i, by simpa using hil, rfl⟩) q hq))
theorem open_cap {H : Type} {enc : TypeId × Value → H} {P : Program} {w : World} {t e : TypeId} {d : DataW H} {ps : List MemPlace} {a0 : Option Addr} {len cap : Nat}
    (ht : P.underlying t = some (.slice e)) (h : DataW.Trod enc P w 0 (fun _ => true) true t (.slice a0 len cap) d ps) : len ≤ cap ∧ cap ≤ maxLen := by
  obtain ⟨fuel, hf⟩ := h
  have hcs : (Value.slice a0 len cap).cells.toList = [.slice a0 len cap] := by simp [Value.cells]
  rw [hcs] at hf
  rcases Go.Deep.open_slice ht hf with ⟨h1, _⟩ | ⟨a, l, c, m, n, D, Pl, h1, _, hl, hm, hmm, hx, hi⟩
  · simp only [List.cons.injEq, Value.slice.injEq, and_true] at h1
    obtain ⟨rfl, rfl, rfl⟩ := h1
    exact ⟨Nat.le_refl _, by unfold maxLen; omega⟩
  · simp only [List.cons.injEq, Value.slice.injEq, and_true] at h1
    obtain ⟨rfl, rfl, rfl⟩ := h1
    have hmc : m = cap := by simpa using hmm
    omega
end Go.Proofs.Ytblmblbkfdcbjaa
