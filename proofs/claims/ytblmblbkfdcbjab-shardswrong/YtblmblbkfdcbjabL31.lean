/- The walk of ShardsWrong. -/
import Derived.Test.YtblmblbkfdcbjabK18
import Derived.Test.YtblmblbkfdcbjabM9
import Derived.Test.YtblmblbkfdcbjabP23
namespace Go.Proofs.Ytblmblbkfdcbjab
open Go.RowKit
set_option linter.unusedSimpArgs false
set_option linter.unusedVariables false
/-- All but i are there: so many laid. -/
def fiK (n i m : Nat) : List Bool := (List.range n).map fun j => decide (j < m) && decide (j ≠ i)
theorem fiK_len (n i m : Nat) : (fiK n i m).length = n := by simp [fiK]
theorem fiK_get (n i m j : Nat) (h : j < n) : (fiK n i m)[j]? = some (decide (j < m) && decide (j ≠ i)) := by rw [fiK, List.getElem?_map, List.getElem?_range h]; rfl
theorem fiK_zero (n i : Nat) : fiK n i 0 = List.replicate n false := by
  apply List.ext_getElem?
  intro j
  by_cases h : j < n
  · rw [fiK_get n i 0 j h, List.getElem?_replicate, if_pos h]; simp
  · rw [List.getElem?_eq_none (by rw [fiK_len]; omega), List.getElem?_eq_none (by rw [List.length_replicate]; omega)]
theorem fiK_next (n i m : Nat) (h : m < n) : (fiK n i m).set m (decide (m ≠ i)) = fiK n i (m + 1) := by
  apply List.ext_getElem?
  intro j
  rw [List.getElem?_set, fiK_len]
  by_cases hj : j < n
  · rw [fiK_get n i m j hj, fiK_get n i (m + 1) j hj]
    by_cases e : m = j
    · subst e; rw [if_pos rfl, if_pos h]; simp
    · rw [if_neg e]
      congr 2
      rw [decide_eq_decide]; omega
  · rw [if_neg (by omega), List.getElem?_eq_none (by rw [fiK_len]; omega), List.getElem?_eq_none (by rw [fiK_len]; omega)]
set_option maxHeartbeats 4000000 in
set_option maxRecDepth 100000 in
theorem wrong_walk (s : ByteArray) (k m l0 a0 : Int) (y8 : UInt8) (w : World) (hs : s.size ≤ 140737488351232) (k1 : -9223372036854775808 ≤ k) (k2 : k ≤ 9223372036854775807) (m1 : -9223372036854775808 ≤ m) (m2 : m ≤ 9223372036854775807)
    (l1 : -9223372036854775808 ≤ l0) (l2 : l0 ≤ 9223372036854775807) (a1 : -9223372036854775808 ≤ a0) (a2 : a0 ≤ 9223372036854775807)
    (haw : ∀ W, Calls Try.prog 4 #[] W fun e w' => e = .returned (.bool true) ∧ Below W.heap.size W w') :
    Calls Try.prog 3 #[.string s, .int .i64 k, .int .i64 m, .int .i64 l0, .int .i64 a0, c8 y8] w fun e w' => e = .returned (.bool true) ∧ Below w.heap.size w w' := by
  have HW : Hid (∀ W, Calls Try.prog 4 #[] W fun e w' => e = .returned (.bool true) ∧ Below W.heap.size W w') := haw
  have hy8 := y8.toNat_lt
  obtain ⟨t1, ht1⟩ : ∃ t, k.tmod 9 = t := ⟨_, rfl⟩
  have hb1 := tmod_bd k 9 (by omega)
  rw [show ((9 : Nat) : Int) = 9 from rfl, ht1] at hb1
  obtain ⟨r1, hr1, hr1b⟩ := tmod_nat (t1 + 9) 9 (by omega) (by omega)
  rw [show ((9 : Nat) : Int) = 9 from rfl] at hr1
  obtain ⟨t2, ht2⟩ : ∃ t, m.tmod 6 = t := ⟨_, rfl⟩
  have hb2 := tmod_bd m 6 (by omega)
  rw [show ((6 : Nat) : Int) = 6 from rfl, ht2] at hb2
  obtain ⟨r2, hr2, hr2b⟩ := tmod_nat (t2 + 6) 6 (by omega) (by omega)
  rw [show ((6 : Nat) : Int) = 6 from rfl] at hr2
  obtain ⟨K, hK⟩ : ∃ K, 1 + r1 = K := ⟨_, rfl⟩
  obtain ⟨M, hM⟩ : ∃ M, 1 + r2 = M := ⟨_, rfl⟩
  have hKz : (1 : Int) + (r1 : Int) = (K : Int) := by omega
  have hMz : (1 : Int) + (r2 : Int) = (M : Int) := by omega
  have hK1 : 1 ≤ K := by omega
  have hK9 : K ≤ 9 := by omega
  have hM1 : 1 ≤ M := by omega
  have hM6 : M ≤ 6 := by omega
  clear hK hM haw
  obtain ⟨S, hS⟩ : ∃ S, s ++ (⟨#[120]⟩ : ByteArray) = S := ⟨_, rfl⟩
  have hSs : S.size = s.size + 1 := by rw [← hS, ByteArray.size_append]; rfl
  obtain ⟨n, hn⟩ : ∃ n, K + M = n := ⟨_, rfl⟩
  obtain ⟨D, hD⟩ : ∃ D, cutL S K = D := ⟨_, rfl⟩
  obtain ⟨d, hd⟩ : ∃ d, cw S.size K = d := ⟨_, rfl⟩
  have hdl : d ≤ S.size := by rw [← hd]; exact cw_le _ _ hK1
  have hge : S.size ≤ K * d := by rw [← hd]; exact cw_ge _ _ hK1
  have hd1 : 1 ≤ d := by
    rcases Nat.eq_zero_or_pos d with h | h
    · rw [h, Nat.mul_zero] at hge; omega
    · exact h
  have ND : D.length = K := by rw [← hD]; exact cutL_len S K
  have SD : ∀ x ∈ D, x.size = d := by rw [← hD, ← hd]; exact cutL_size S K
  have hwD : wid D = d := wid_eq (by omega) d SD
  have hnK : n - K = M := by omega
  obtain ⟨X, hX⟩ : ∃ X, alX D n d = X := ⟨_, rfl⟩
  obtain ⟨P, hP⟩ : ∃ P, mixL (cyX M K) D d = P := ⟨_, rfl⟩
  have hXP : D ++ P = X := by rw [← hX, ← hP, alX, ND, hnK]
  have NP : P.length = M := by rw [← hP, mixL_len, cyX_len M K (by omega) hK1 (by omega)]
  have NXX : X.length = n := by rw [← hX]; exact alX_len D n K d ND hK1 (by omega) (by omega)
  have SXX : ∀ x ∈ X, x.size = d := by rw [← hX]; exact alX_size D n d SD
  have c1 := fun W => cut_any S (K : Int) W (by omega) (by omega) (by omega)
  rw [show cuX S (K : Int) = D from by unfold cuX; rw [if_pos (by omega), Int.toNat_natCast, hD], show cuE (K : Int) = 0 from by unfold cuE; rw [if_pos (by omega)], ND] at c1
  have henok : enOk D (M : Int) := ⟨by rw [ND]; omega, evn_eq d SD, by omega, by rw [ND]; omega⟩
  have c2 := fun aD W hW => encode_any aD K K D (M : Int) W hW ND (by omega) (fun x hx => by rw [SD x hx]; omega) (by omega) (by omega)
  rw [show enX D (M : Int) = P from by unfold enX; rw [if_pos henok, Int.toNat_natCast, ND, hwD, hP], show enE D (M : Int) = 0 from if_pos henok, NP] at c2
  have C1 : Hid _ := c1
  have C2 : Hid _ := c2
  have HXP : Hid (D ++ P = X) := hXP
  have HND : Hid (D.length = K) := ND
  have HNP : Hid (P.length = M) := NP
  have HNX : Hid (X.length = n) := NXX
  have HSX : Hid (∀ x ∈ X, x.size = d) := SXX
  have HSD : Hid (∀ x ∈ D, x.size = d) := SD
  have HXX : Hid (alX D n d = X) := hX
  have hdb : d ≤ 140737488355328 := by omega
  have hn15 : n ≤ 15 := by omega
  have hn2 : 2 ≤ n := by omega
  have hmb := make_bs n (by omega)
  have HnK : Hid (n = K + M) := hn.symm
  have hKn : K + 1 ≤ n := by omega
  obtain ⟨t3, ht3⟩ : ∃ t, l0.tmod (n : Int) = t := ⟨_, rfl⟩
  have hb3 := tmod_bd l0 n (by omega)
  rw [ht3] at hb3
  obtain ⟨l, hlz, hl⟩ := tmod_nat (t3 + n) n (by omega) (by omega)
  obtain ⟨t4, ht4⟩ : ∃ t, a0.tmod (d : Int) = t := ⟨_, rfl⟩
  have hb4 := tmod_bd a0 d hd1
  rw [ht4] at hb4
  obtain ⟨q, hqz, hq⟩ := tmod_nat (t4 + d) d (by omega) (by omega)
  have hn0 : ((n : Int) == 0) = false := by rw [beq_eq_false_iff_ne]; omega
  have hd0 : ((d : Int) == 0) = false := by rw [beq_eq_false_iff_ne]; omega
  have hlnz : (l : Int) < (n : Nat) := by omega
  have hqdz : (q : Int) < (d : Nat) := by omega
  obtain ⟨x0, hx0⟩ : ∃ x, X[l]? = some x := ⟨_, List.getElem?_eq_getElem (by rw [NXX]; exact hl)⟩
  have HXL : Hid (X[l]? = some x0) := hx0
  have hx0s : x0.size = d := SXX x0 (List.mem_of_getElem? hx0)
  clear c1 c2 hXP ND NP NXX SXX SD hwD henok hD hd hX hP hge hnK hdl hn hx0 k1 k2 m1 m2 l1 l2 a1 a2
  go_enter Try.func3, Try.ntmps3
  go_wp2_with fail
  refine Calls.mono (HW.out _) ?_
  rintro e w2 ⟨rfl, hb⟩
  have B2 : Hid (Below w.heap.size w w2) := hb
  clear hb HW
  go_wp2_with fail
  refine Calls.mono (C1.out _) ?_
  rintro e w3 ⟨aD, rfl, hM3, hb3'⟩
  have TD3 : Hid (TxL w3 aD D) := hM3.txl
  have B3 : Hid (Below w.heap.size w w3) := B2.out.trans (hb3'.mono B2.out.size)
  clear hM3 hb3' B2
  go_wp2_with fail
  refine Calls.mono (C2.out _ _ TD3.out) ?_
  rintro e w4 ⟨aP, rfl, hM4, hb4'⟩
  have TP4 : Hid (TxL w4 aP P) := hM4.txl
  have TD4 : Hid (TxL w4 aD D) := TD3.out.below hb4'
  have B4 : Hid (Below w.heap.size w w4) := B3.out.trans (hb4'.mono B3.out.size)
  have hz4 : w.heap.size ≤ w4.heap.size := B4.out.size
  clear hM4 hb4' B3 TD3 C1 C2
  go_wp2_with (at_builtin; refine wpList_append_txts _ rfl _ _ rfl w4.heap.size _ [] D 0 K K rfl rfl HND.out (World.ownsRow_made (size := 1) w4 #[] 0 (Nat.le_refl _) (by unfold maxLen; omega) rfl) (by simp) aD rfl (TD4.out.alloc _) (by omega) ?_)
  intro v5 w5 ho5 hg5
  have HO5 : Hid (w5.ownsRow w4.heap.size 9 1 v5 K (sv D)) := ho5
  have L5 : Hid (Below w4.heap.size w4 w5) := by
    refine ((Below.refl _ _).alloc (Nat.le_refl _) _).grown hg5 (by simp) (fun g hg => ?_)
    simp [Value.ownBlock] at hg; omega
  have hz5 : w4.heap.size ≤ w5.heap.size := L5.out.size
  clear ho5 hg5
  go_wp2_with (at_builtin; refine wpList_append_txts _ rfl _ _ rfl w4.heap.size _ D P K M M rfl HND.out HNP.out HO5.out hz5 aP rfl (TP4.out.below L5.out) (by omega) ?_)
  intro v6 w6 ho6 hg6
  have L6 : Hid (Below w4.heap.size w4 w6) := L5.out.grown hg6 hz5 (fun g hg => (HO5.out.lt g hg).1)
  rw [HXP.out, ← HnK.out] at ho6
  obtain ⟨n', hn'⟩ : ∃ n', n = n' + 1 := ⟨n - 1, by omega⟩
  obtain ⟨gX, cX, cur, hv6, hgX4, hBX, hcX1, hcX2, hcu⟩ := own_block_at (k := n') (xs := X) (by rw [← hn']; exact ho6)
  rw [← hn'] at hv6 hcX1
  subst hv6
  have HT6 : Hid (Tn w6 gX X) := ⟨cur, hBX, hcu⟩
  have B6 : Hid (Below w.heap.size w w6) := B4.out.trans (L6.out.mono hz4)
  have hgX : w.heap.size ≤ gX := by omega
  have hgX6 : gX < w6.heap.size := hBX.lt
  have hz6 : w.heap.size ≤ w6.heap.size := B6.out.size
  clear ho6 hg6 hBX hcu HO5 L5 L6 TD4 TP4 B4 hn'
  have hcl : w6.cell? ⟨gX, l, none⟩ = some (.string x0) := by
    have := HT6.out.txl.cel HXL.out
    rwa [Nat.zero_add] at this
  obtain ⟨cap, W1, hcv, hcap, hbW, hcby⟩ := conv_to x0 w6
  rw [hx0s] at hcv hcap hcby
  have HC1 : Hid (Cby W1 w6.heap.size d (bt x0)) := hcby
  have HT1 : Hid (Tn W1 gX X) := HT6.out.below hbW
  have HB1 : Hid (Below w.heap.size w W1) := B6.out.trans (hbW.mono B6.out.size)
  have hcb := HC1.out.cell q hq
  have hfb := HC1.out.frozen q hq
  clear hcby hbW B6
  by_cases h0 : y8 = 0
  · subst h0
    obtain ⟨b8, hb8e⟩ : ∃ b : UInt8, b = 1 := ⟨_, rfl⟩
    have hb8 : b8 ≠ 0 := by rw [hb8e]; decide
    have HCs : Hid (Cby (W1.setCell ⟨w6.heap.size, q, none⟩ (Value.int .u8 (bits .xor .u8 ((bt x0 q).toNat : Int) (1 : Int)))) w6.heap.size d (fun j => if j = q then bt x0 q ^^^ b8 else bt x0 j)) := by
      have h := HC1.out.set q hq (bt x0 q ^^^ b8)
      rw [show c8 (bt x0 q ^^^ b8) = Value.int .u8 (bits .xor .u8 ((bt x0 q).toNat : Int) (1 : Int)) from by rw [hb8e]; show Value.int _ _ = _; rw [← xor8]; rfl] at h
      exact h
    clear HC1 hb8e
    have hcv2 := conv_fro w6.heap.size d cap (fun j => if j = q then bt x0 q ^^^ b8 else bt x0 j) (W1.setCell ⟨w6.heap.size, q, none⟩ (Value.int .u8 (bits .xor .u8 ((bt x0 q).toNat : Int) (1 : Int)))) (fun j hj => HCs.out.cell j hj)
    obtain ⟨y, hy⟩ : ∃ y, mkT (fl d (fun j => if j = q then bt x0 q ^^^ b8 else bt x0 j)) = y := ⟨_, rfl⟩
    rw [hy] at hcv2
    have hys : y.size = d := by rw [← hy, mkT_size, fl_len]
    have hyne : y ≠ x0 := fun e => by
      have h1 : bt y q = bt x0 q ^^^ b8 := by rw [← hy, bt_mk, fl_getD d _ q hq, if_pos rfl]
      rw [e] at h1
      apply hb8
      have h2 : bt x0 q ^^^ (bt x0 q ^^^ b8) = bt x0 q ^^^ bt x0 q := by rw [← h1]
      rwa [← UInt8.xor_assoc, UInt8.xor_self, UInt8.zero_xor] at h2
    have HT2 : Hid (Tn (W1.setCell ⟨w6.heap.size, q, none⟩ (Value.int .u8 (bits .xor .u8 ((bt x0 q).toNat : Int) (1 : Int)))) gX X) := HT1.out.grown (Lib.grownBy_setB (World.grownBy.refl _ _) q _) (by simp; omega)
    have hcX : (W1.setCell ⟨w6.heap.size, q, none⟩ (Value.int .u8 (bits .xor .u8 ((bt x0 q).toNat : Int) (1 : Int)))).cell? ⟨gX, l, none⟩ = some (.string x0) := by
      have := HT2.out.txl.cel HXL.out
      rwa [Nat.zero_add] at this
    have hfX : (W1.setCell ⟨w6.heap.size, q, none⟩ (Value.int .u8 (bits .xor .u8 ((bt x0 q).toNat : Int) (1 : Int)))).frozen? ⟨gX, l, none⟩ = false := by
      obtain ⟨cur2, hB2, _⟩ := HT2.out
      exact hB2.frozen l
    have HT3 : Hid (Tn ((W1.setCell ⟨w6.heap.size, q, none⟩ (Value.int .u8 (bits .xor .u8 ((bt x0 q).toNat : Int) (1 : Int)))).setCell ⟨gX, l, none⟩ (.string y)) gX (X.set l y)) := HT2.out.set l (by rw [HNX.out]; exact hl) y
    have HB3 : Hid (Below w.heap.size w ((W1.setCell ⟨w6.heap.size, q, none⟩ (Value.int .u8 (bits .xor .u8 ((bt x0 q).toNat : Int) (1 : Int)))).setCell ⟨gX, l, none⟩ (.string y))) := (HB1.out.setCell (by show w.heap.size ≤ w6.heap.size; omega) _).setCell hgX _
    have hwrg : Wrg D (X.set l y) n K d l := by
      refine ⟨HND.out, hK1, by omega, by omega, by omega, HSD.out, by rw [List.length_set, HNX.out], fun x hx => ?_, hl, fun i hi hne => ?_, ?_⟩
      · rcases List.mem_or_eq_of_mem_set hx with h | h
        · exact HSX.out x h
        · rw [h]; exact hys
      · rw [HXX.out, List.getElem?_set, if_neg (fun e => hne e.symm)]
      · rw [HXX.out, List.getElem?_set, if_pos rfl, if_pos (by rw [HNX.out]; exact hl), HXL.out]
        intro e
        exact hyne (by simpa using e)
    obtain ⟨X', hX'⟩ : ∃ X', X.set l y = X' := ⟨_, rfl⟩
    rw [hX'] at HT3 hwrg
    have c3 := fun W hW => fits_any (some ⟨gX, 0, none⟩) cX n (K : Int) X' W hW hwrg.hX hcX1 hcX2 (by omega) (fun x hx => by rw [hwrg.sX x hx]; omega) (by omega) (by omega)
    rw [hwrg.fits.1, hwrg.fits.2] at c3
    have c5 := fun gb ts W hx hb nt => rebuild_any (some ⟨gX, 0, none⟩) (some ⟨gb, 0, none⟩) cX n n n (K : Int) X' ts W hx hb hwrg.hX nt (by omega) (by omega) (fun x hx => by rw [hwrg.sX x hx]; omega) (by omega) (by omega)
    have C3 : Hid _ := c3
    have C5 : Hid _ := c5
    have WR : Hid (Wrg D X' n K d l) := hwrg
    obtain ⟨w9, hw9⟩ : ∃ w9, (W1.setCell ⟨w6.heap.size, q, none⟩ (Value.int .u8 (bits .xor .u8 ((bt x0 q).toNat : Int) (1 : Int)))).setCell ⟨gX, l, none⟩ (.string y) = w9 := ⟨_, rfl⟩
    rw [hw9] at HT3 HB3
    have HW9 : Hid ((W1.setCell ⟨w6.heap.size, q, none⟩ (Value.int .u8 (bits .xor .u8 ((bt x0 q).toNat : Int) (1 : Int)))).setCell ⟨gX, l, none⟩ (.string y) = w9) := hw9
    clear c3 c5 hwrg hX' hyne hys hy HT2 hw9
    go_wp2_with fail
    rw [HW9.out]
    refine Calls.mono (C3.out _ HT3.out.txl) ?_
    rintro e w10 ⟨rfl, hb10⟩
    have HT10 : Hid (Tn w10 gX X') := HT3.out.below hb10
    have B10 : Hid (Below w.heap.size w w10) := HB3.out.trans (hb10.mono HB3.out.size)
    clear hb10 HT3 HB3 C3
    go_wp2_with fail
    go_loopw [21] (fun t wr => ∃ i : Nat, i ≤ n ∧ t = .int .i64 i ∧ Hid (Tn wr gX X') ∧ Hid (Below w.heap.size w wr)) (fun t _ => n - (intOf t).toNat)
    case atStart => exact ⟨0, by omega, rfl, HT10.out, B10.out⟩
    case round =>
      clear HT10 B10
      obtain ⟨i, hin, rfl, HT, HB⟩ := hrel
      obtain ⟨wo, rfl⟩ : ∃ wo, wo = wr := ⟨_, rfl⟩
      have hzo : w.heap.size ≤ wo.heap.size := HB.out.size
      have hgo : gX < wo.heap.size := HT.out.lt
      by_cases hii : i < n
      · have hiz : (i : Int) < (n : Nat) := by omega
        by_cases hM2 : 2 ≤ M
        · have hM2z : (M : Int) ≥ 2 := by omega
          go_wp2_with fail
          go_loopw [23] (fun t wr => ∃ j : Nat, j ≤ n ∧ t = .int .i64 j ∧ Hid (Bk wr wo.heap.size (bs (fiK n i j)) 4) ∧ Hid (Below wo.heap.size wo wr)) (fun t _ => n - (intOf t).toNat)
          case atStart =>
            refine ⟨0, by omega, rfl, ?_, (Below.refl _ _).alloc (Nat.le_refl _) _⟩
            show Bk _ _ _ _
            rw [fiK_zero]
            exact bk_new wo _ _
          case round =>
            obtain ⟨j, hjn, rfl, HF, HV⟩ := hrel
            have hzr : wo.heap.size < wr.heap.size := HF.out.lt
            by_cases hjj : j < n
            · have hjz : (j : Int) < (n : Nat) := by omega
              have hc : wr.cell? ⟨wo.heap.size, j, none⟩ = some (.bool false) := by rw [HF.out.cell, bs_get, fiK_get n i j j hjj]; simp
              have hf := HF.out.frozen j
              have HFn : Hid (Bk (wr.setCell ⟨wo.heap.size, j, none⟩ (.bool (decide (j ≠ i)))) wo.heap.size (bs (fiK n i (j + 1))) 4) := by
                show Bk _ _ _ _
                rw [← fiK_next n i j hjj, ← bs_set]
                exact HF.out.set j _
              have HVn : Hid (Below wo.heap.size wo (wr.setCell ⟨wo.heap.size, j, none⟩ (.bool (decide (j ≠ i))))) := HV.out.setCell (Nat.le_refl _) _
              by_cases hji : j = i
              · have hbz : ((j : Int) == (i : Int)) = true := by rw [hji]; simp
                have hbn : ((j : Int) != (i : Int)) = false := by rw [bne, hbz]; rfl
                rw [decide_eq_false (by omega)] at HFn HVn
                clear HF HV hji
                go_wp2
                go_roundw
                case rel => exact ⟨j + 1, by omega, by go_num, HFn.out, HVn.out⟩
                case measure => simp [intOf]; omega
              · have hbz : ((j : Int) == (i : Int)) = false := by rw [beq_eq_false_iff_ne]; omega
                have hbn : ((j : Int) != (i : Int)) = true := by rw [bne, hbz]; rfl
                rw [decide_eq_true hji] at HFn HVn
                clear HF HV
                go_wp2
                go_roundw
                case rel => exact ⟨j + 1, by omega, by go_num, HFn.out, HVn.out⟩
                case measure => simp [intOf]; omega
            · have hjz : ¬ (j : Int) < (n : Nat) := by omega
              have hjn2 : j = n := by omega
              have HFf : Hid (Bk wr wo.heap.size (bs (fiK n i n)) 4) := by have h := HF.out; rw [hjn2] at h; exact h
              have hreb := WR.out.rebuilt (fiK n i n) i hii (fiK_len n i n) (fun q hq => thr_val _ q _ (by rw [fiK_get n i n q hq]; simp [hq]) (by omega))
              have c7 := C5.out wo.heap.size (fiK n i n) wr (HT.out.below HV.out).txl (bs_bol HFf.out) (fiK_len n i n)
              rw [hreb.1, hreb.2.1] at c7
              have HEQ : Hid _ := hreb.2.2 (by have := HnK.out; omega)
              obtain ⟨G, hG⟩ : ∃ G, rbX X' (fiK n i n) (K : Int) = G := ⟨_, rfl⟩
              have NG : Hid (G.length = n) := by show G.length = n; rw [← hG]; exact hreb.2.1
              rw [hG] at c7 HEQ
              have C7 : Hid _ := c7
              have HT11 : Hid (Tn wr gX X') := HT.out.below HV.out
              have B11 : Hid (Below w.heap.size w wr) := HB.out.trans (HV.out.mono hzo)
              clear c7 hreb hG hjn2 HF HFf HV
              go_wp2_with fail
              refine Calls.mono C7.out ?_
              rintro e w12 ⟨aG, rfl, hM12, hb12⟩
              have TG12 : Hid (TxL w12 aG G) := hM12.txl
              have HT12 : Hid (Tn w12 gX X') := HT11.out.below hb12
              have B12 : Hid (Below w.heap.size w w12) := B11.out.trans (hb12.mono B11.out.size)
              clear hM12 hb12 HT11 B11 C7
              go_wp2_with fail
              go_loopw [26, 27] (fun u t wr => ∃ (j : Nat) (sm : Bool), j ≤ n ∧ u = .bool sm ∧ t = .int .i64 j ∧ Hid (sm = true ↔ ∀ q, q < j → q ≠ i → G[q]? = X'[q]?) ∧ Hid (Below w12.heap.size w12 wr)) (fun _ t _ => n - (intOf t).toNat)
              case atStart => exact ⟨0, true, by omega, rfl, rfl, ⟨fun _ q hq => by omega, fun _ => rfl⟩, Below.refl _ _⟩
              case round =>
                obtain ⟨j3, sm, hj3, rfl, rfl, HSM, HV⟩ := hrel
                by_cases hj3n : j3 < n
                · have hj3z : (j3 : Int) < (n : Nat) := by omega
                  obtain ⟨gq, hgq⟩ : ∃ x, G[j3]? = some x := ⟨_, List.getElem?_eq_getElem (by rw [NG.out]; exact hj3n)⟩
                  obtain ⟨xq, hxq⟩ : ∃ x, X'[j3]? = some x := ⟨_, List.getElem?_eq_getElem (by rw [WR.out.hX]; exact hj3n)⟩
                  obtain ⟨g3, o3, rfl, hg3, hc3⟩ := (TG12.out.below HV.out) j3 gq hgq
                  have hc4 : wr.cell? ⟨gX, j3, none⟩ = some (.string xq) := by
                    have := ((HT12.out.below HV.out).txl).cel hxq
                    rwa [Nat.zero_add] at this
                  have hstep : ∀ b : Bool, (b = true ↔ (j3 ≠ i → gq = xq)) → ((sm && b) = true ↔ ∀ q, q < j3 + 1 → q ≠ i → G[q]? = X'[q]?) := fun b hb => by
                    rw [Bool.and_eq_true, HSM.out, hb]
                    constructor
                    · rintro ⟨h1, h2⟩ q hq hne
                      by_cases e : q = j3
                      · subst e; rw [hgq, hxq, h2 hne]
                      · exact h1 q (by omega) hne
                    · intro h
                      refine ⟨fun q hq hne => h q (by omega) hne, fun hne => ?_⟩
                      have := h j3 (by omega) hne
                      rw [hgq, hxq] at this
                      exact Option.some.inj this
                  have HST : Hid _ := hstep
                  have hse := str_ne gq xq
                  clear hstep hgq hxq HSM
                  cases sm with
                  | false =>
                    have HS2 : Hid (false = true ↔ ∀ q, q < j3 + 1 → q ≠ i → G[q]? = X'[q]?) := by
                      have := HST.out (decide (j3 ≠ i → gq = xq)) decide_eq_true_iff
                      exact this
                    go_wp2
                    go_quiet (fail)
                    go_wp2
                    go_roundw
                    case rel => exact ⟨j3 + 1, false, by omega, by first | rfl | simp, by go_num, HS2.out, below_drewN HV.out _⟩
                    case measure => simp [intOf]; omega
                  | true =>
                    by_cases hji : j3 = i
                    · have hbz : ((j3 : Int) == (i : Int)) = true := by rw [hji]; simp
                      have HS2 : Hid (∀ q, q < j3 + 1 → q ≠ i → G[q]? = X'[q]?) := by
                        have := HST.out true ⟨fun _ h => absurd hji h, fun _ => rfl⟩
                        exact this.1 rfl
                      clear hji
                      go_wp2
                      go_quiet (fail)
                      go_wp2
                      go_roundw
                      case rel => exact ⟨j3 + 1, true, by omega, by first | rfl | simp, by go_num, ⟨fun _ => HS2.out, fun _ => rfl⟩, below_drewN HV.out _⟩
                      case measure => simp [intOf]; omega
                    · have hbz : ((j3 : Int) == (i : Int)) = false := by rw [beq_eq_false_iff_ne]; omega
                      by_cases hgx : gq = xq
                      · subst hgx
                        have HS2 : Hid (∀ q, q < j3 + 1 → q ≠ i → G[q]? = X'[q]?) := by
                          have := HST.out true ⟨fun _ _ => rfl, fun _ => rfl⟩
                          exact this.1 rfl
                        have hee : (gq.toList == gq.toList) = true := by simp
                        go_wp2
                        go_quiet (fail)
                        go_wp2
                        go_roundw
                        case rel => exact ⟨j3 + 1, true, by omega, by first | rfl | simp, by go_num, ⟨fun _ => HS2.out, fun _ => rfl⟩, below_drewN HV.out _⟩
                        case measure => simp [intOf]; omega
                      · have HS2 : Hid (false = true ↔ ∀ q, q < j3 + 1 → q ≠ i → G[q]? = X'[q]?) := by
                          have := HST.out false ⟨fun h => (by cases h), fun h => absurd (h hji) hgx⟩
                          exact this
                        have hee : (gq.toList == xq.toList) = false := by
                          rw [bne] at hse
                          rw [decide_eq_false hgx] at hse
                          simpa using hse
                        clear hse hgx
                        go_wp2
                        go_quiet (fail)
                        go_wp2
                        go_roundw
                        case rel => exact ⟨j3 + 1, false, by omega, by first | rfl | simp, by go_num, HS2.out, below_drewN HV.out _⟩
                        case measure => simp [intOf]; omega
                · have hj3z : ¬ (j3 : Int) < (n : Nat) := by omega
                  have hfin : sm = true ↔ i = l := by
                    rw [HSM.out, ← HEQ.out]
                    constructor
                    · intro h q hq hne; exact h q (by omega) hne
                    · intro h q hq hne; exact h q (by omega) hne
                  have HTn : Hid (Tn wr gX X') := HT12.out.below HV.out
                  have HBn : Hid (Below w.heap.size w wr) := B12.out.trans (HV.out.mono B12.out.size)
                  by_cases hil : i = l
                  · have hbz : ((i : Int) == (l : Int)) = true := by rw [hil]; simp
                    have hsm : sm = true := hfin.2 hil
                    subst hsm
                    clear hfin hil
                    go_wp2
                    go_roundw
                    case rel => exact ⟨i + 1, by omega, by go_num, HTn.out, HBn.out⟩
                    case measure => simp [intOf]; omega
                  · have hbz : ((i : Int) == (l : Int)) = false := by rw [beq_eq_false_iff_ne]; omega
                    have hsm : sm = false := by
                      cases sm with
                      | false => rfl
                      | true => exact absurd (hfin.1 rfl) hil
                    subst hsm
                    clear hfin
                    go_wp2
                    go_roundw
                    case rel => exact ⟨i + 1, by omega, by go_num, HTn.out, HBn.out⟩
                    case measure => simp [intOf]; omega
        · have hM2z : ¬ (M : Int) ≥ 2 := by omega
          go_wp2
          go_ret
          exact ⟨rfl, HB.out⟩
      · have hiz : ¬ (i : Int) < (n : Nat) := by omega
        go_wp2
        go_ret
        exact ⟨rfl, HB.out⟩
  · have hnz : ((y8.toNat : Int) == 0) = false := by rw [beq_eq_false_iff_ne]; intro e; apply h0; apply UInt8.toNat_inj.1; show y8.toNat = 0; omega
    obtain ⟨b8, hb8e⟩ : ∃ b : UInt8, b = y8 := ⟨_, rfl⟩
    subst hb8e
    have hb8 : b8 ≠ 0 := h0
    clear h0
    have HCs : Hid (Cby (W1.setCell ⟨w6.heap.size, q, none⟩ (Value.int .u8 (bits .xor .u8 ((bt x0 q).toNat : Int) (b8.toNat : Int)))) w6.heap.size d (fun j => if j = q then bt x0 q ^^^ b8 else bt x0 j)) := by
      have h := HC1.out.set q hq (bt x0 q ^^^ b8)
      rw [show c8 (bt x0 q ^^^ b8) = Value.int .u8 (bits .xor .u8 ((bt x0 q).toNat : Int) (b8.toNat : Int)) from by show Value.int _ _ = _; rw [← xor8]] at h
      exact h
    clear HC1
    have hcv2 := conv_fro w6.heap.size d cap (fun j => if j = q then bt x0 q ^^^ b8 else bt x0 j) (W1.setCell ⟨w6.heap.size, q, none⟩ (Value.int .u8 (bits .xor .u8 ((bt x0 q).toNat : Int) (b8.toNat : Int)))) (fun j hj => HCs.out.cell j hj)
    obtain ⟨y, hy⟩ : ∃ y, mkT (fl d (fun j => if j = q then bt x0 q ^^^ b8 else bt x0 j)) = y := ⟨_, rfl⟩
    rw [hy] at hcv2
    have hys : y.size = d := by rw [← hy, mkT_size, fl_len]
    have hyne : y ≠ x0 := fun e => by
      have h1 : bt y q = bt x0 q ^^^ b8 := by rw [← hy, bt_mk, fl_getD d _ q hq, if_pos rfl]
      rw [e] at h1
      apply hb8
      have h2 : bt x0 q ^^^ (bt x0 q ^^^ b8) = bt x0 q ^^^ bt x0 q := by rw [← h1]
      rwa [← UInt8.xor_assoc, UInt8.xor_self, UInt8.zero_xor] at h2
    have HT2 : Hid (Tn (W1.setCell ⟨w6.heap.size, q, none⟩ (Value.int .u8 (bits .xor .u8 ((bt x0 q).toNat : Int) (b8.toNat : Int)))) gX X) := HT1.out.grown (Lib.grownBy_setB (World.grownBy.refl _ _) q _) (by simp; omega)
    have hcX : (W1.setCell ⟨w6.heap.size, q, none⟩ (Value.int .u8 (bits .xor .u8 ((bt x0 q).toNat : Int) (b8.toNat : Int)))).cell? ⟨gX, l, none⟩ = some (.string x0) := by
      have := HT2.out.txl.cel HXL.out
      rwa [Nat.zero_add] at this
    have hfX : (W1.setCell ⟨w6.heap.size, q, none⟩ (Value.int .u8 (bits .xor .u8 ((bt x0 q).toNat : Int) (b8.toNat : Int)))).frozen? ⟨gX, l, none⟩ = false := by
      obtain ⟨cur2, hB2, _⟩ := HT2.out
      exact hB2.frozen l
    have HT3 : Hid (Tn ((W1.setCell ⟨w6.heap.size, q, none⟩ (Value.int .u8 (bits .xor .u8 ((bt x0 q).toNat : Int) (b8.toNat : Int)))).setCell ⟨gX, l, none⟩ (.string y)) gX (X.set l y)) := HT2.out.set l (by rw [HNX.out]; exact hl) y
    have HB3 : Hid (Below w.heap.size w ((W1.setCell ⟨w6.heap.size, q, none⟩ (Value.int .u8 (bits .xor .u8 ((bt x0 q).toNat : Int) (b8.toNat : Int)))).setCell ⟨gX, l, none⟩ (.string y))) := (HB1.out.setCell (by show w.heap.size ≤ w6.heap.size; omega) _).setCell hgX _
    have hwrg : Wrg D (X.set l y) n K d l := by
      refine ⟨HND.out, hK1, by omega, by omega, by omega, HSD.out, by rw [List.length_set, HNX.out], fun x hx => ?_, hl, fun i hi hne => ?_, ?_⟩
      · rcases List.mem_or_eq_of_mem_set hx with h | h
        · exact HSX.out x h
        · rw [h]; exact hys
      · rw [HXX.out, List.getElem?_set, if_neg (fun e => hne e.symm)]
      · rw [HXX.out, List.getElem?_set, if_pos rfl, if_pos (by rw [HNX.out]; exact hl), HXL.out]
        intro e
        exact hyne (by simpa using e)
    obtain ⟨X', hX'⟩ : ∃ X', X.set l y = X' := ⟨_, rfl⟩
    rw [hX'] at HT3 hwrg
    have c3 := fun W hW => fits_any (some ⟨gX, 0, none⟩) cX n (K : Int) X' W hW hwrg.hX hcX1 hcX2 (by omega) (fun x hx => by rw [hwrg.sX x hx]; omega) (by omega) (by omega)
    rw [hwrg.fits.1, hwrg.fits.2] at c3
    have c5 := fun gb ts W hx hb nt => rebuild_any (some ⟨gX, 0, none⟩) (some ⟨gb, 0, none⟩) cX n n n (K : Int) X' ts W hx hb hwrg.hX nt (by omega) (by omega) (fun x hx => by rw [hwrg.sX x hx]; omega) (by omega) (by omega)
    have C3 : Hid _ := c3
    have C5 : Hid _ := c5
    have WR : Hid (Wrg D X' n K d l) := hwrg
    obtain ⟨w9, hw9⟩ : ∃ w9, (W1.setCell ⟨w6.heap.size, q, none⟩ (Value.int .u8 (bits .xor .u8 ((bt x0 q).toNat : Int) (b8.toNat : Int)))).setCell ⟨gX, l, none⟩ (.string y) = w9 := ⟨_, rfl⟩
    rw [hw9] at HT3 HB3
    have HW9 : Hid ((W1.setCell ⟨w6.heap.size, q, none⟩ (Value.int .u8 (bits .xor .u8 ((bt x0 q).toNat : Int) (b8.toNat : Int)))).setCell ⟨gX, l, none⟩ (.string y) = w9) := hw9
    clear c3 c5 hwrg hX' hyne hys hy HT2 hw9
    go_wp2_with fail
    rw [HW9.out]
    refine Calls.mono (C3.out _ HT3.out.txl) ?_
    rintro e w10 ⟨rfl, hb10⟩
    have HT10 : Hid (Tn w10 gX X') := HT3.out.below hb10
    have B10 : Hid (Below w.heap.size w w10) := HB3.out.trans (hb10.mono HB3.out.size)
    clear hb10 HT3 HB3 C3
    go_wp2_with fail
    go_loopw [21] (fun t wr => ∃ i : Nat, i ≤ n ∧ t = .int .i64 i ∧ Hid (Tn wr gX X') ∧ Hid (Below w.heap.size w wr)) (fun t _ => n - (intOf t).toNat)
    case atStart => exact ⟨0, by omega, rfl, HT10.out, B10.out⟩
    case round =>
      clear HT10 B10
      obtain ⟨i, hin, rfl, HT, HB⟩ := hrel
      obtain ⟨wo, rfl⟩ : ∃ wo, wo = wr := ⟨_, rfl⟩
      have hzo : w.heap.size ≤ wo.heap.size := HB.out.size
      have hgo : gX < wo.heap.size := HT.out.lt
      by_cases hii : i < n
      · have hiz : (i : Int) < (n : Nat) := by omega
        by_cases hM2 : 2 ≤ M
        · have hM2z : (M : Int) ≥ 2 := by omega
          go_wp2_with fail
          go_loopw [23] (fun t wr => ∃ j : Nat, j ≤ n ∧ t = .int .i64 j ∧ Hid (Bk wr wo.heap.size (bs (fiK n i j)) 4) ∧ Hid (Below wo.heap.size wo wr)) (fun t _ => n - (intOf t).toNat)
          case atStart =>
            refine ⟨0, by omega, rfl, ?_, (Below.refl _ _).alloc (Nat.le_refl _) _⟩
            show Bk _ _ _ _
            rw [fiK_zero]
            exact bk_new wo _ _
          case round =>
            obtain ⟨j, hjn, rfl, HF, HV⟩ := hrel
            have hzr : wo.heap.size < wr.heap.size := HF.out.lt
            by_cases hjj : j < n
            · have hjz : (j : Int) < (n : Nat) := by omega
              have hc : wr.cell? ⟨wo.heap.size, j, none⟩ = some (.bool false) := by rw [HF.out.cell, bs_get, fiK_get n i j j hjj]; simp
              have hf := HF.out.frozen j
              have HFn : Hid (Bk (wr.setCell ⟨wo.heap.size, j, none⟩ (.bool (decide (j ≠ i)))) wo.heap.size (bs (fiK n i (j + 1))) 4) := by
                show Bk _ _ _ _
                rw [← fiK_next n i j hjj, ← bs_set]
                exact HF.out.set j _
              have HVn : Hid (Below wo.heap.size wo (wr.setCell ⟨wo.heap.size, j, none⟩ (.bool (decide (j ≠ i))))) := HV.out.setCell (Nat.le_refl _) _
              by_cases hji : j = i
              · have hbz : ((j : Int) == (i : Int)) = true := by rw [hji]; simp
                have hbn : ((j : Int) != (i : Int)) = false := by rw [bne, hbz]; rfl
                rw [decide_eq_false (by omega)] at HFn HVn
                clear HF HV hji
                go_wp2
                go_roundw
                case rel => exact ⟨j + 1, by omega, by go_num, HFn.out, HVn.out⟩
                case measure => simp [intOf]; omega
              · have hbz : ((j : Int) == (i : Int)) = false := by rw [beq_eq_false_iff_ne]; omega
                have hbn : ((j : Int) != (i : Int)) = true := by rw [bne, hbz]; rfl
                rw [decide_eq_true hji] at HFn HVn
                clear HF HV
                go_wp2
                go_roundw
                case rel => exact ⟨j + 1, by omega, by go_num, HFn.out, HVn.out⟩
                case measure => simp [intOf]; omega
            · have hjz : ¬ (j : Int) < (n : Nat) := by omega
              have hjn2 : j = n := by omega
              have HFf : Hid (Bk wr wo.heap.size (bs (fiK n i n)) 4) := by have h := HF.out; rw [hjn2] at h; exact h
              have hreb := WR.out.rebuilt (fiK n i n) i hii (fiK_len n i n) (fun q hq => thr_val _ q _ (by rw [fiK_get n i n q hq]; simp [hq]) (by omega))
              have c7 := C5.out wo.heap.size (fiK n i n) wr (HT.out.below HV.out).txl (bs_bol HFf.out) (fiK_len n i n)
              rw [hreb.1, hreb.2.1] at c7
              have HEQ : Hid _ := hreb.2.2 (by have := HnK.out; omega)
              obtain ⟨G, hG⟩ : ∃ G, rbX X' (fiK n i n) (K : Int) = G := ⟨_, rfl⟩
              have NG : Hid (G.length = n) := by show G.length = n; rw [← hG]; exact hreb.2.1
              rw [hG] at c7 HEQ
              have C7 : Hid _ := c7
              have HT11 : Hid (Tn wr gX X') := HT.out.below HV.out
              have B11 : Hid (Below w.heap.size w wr) := HB.out.trans (HV.out.mono hzo)
              clear c7 hreb hG hjn2 HF HFf HV
              go_wp2_with fail
              refine Calls.mono C7.out ?_
              rintro e w12 ⟨aG, rfl, hM12, hb12⟩
              have TG12 : Hid (TxL w12 aG G) := hM12.txl
              have HT12 : Hid (Tn w12 gX X') := HT11.out.below hb12
              have B12 : Hid (Below w.heap.size w w12) := B11.out.trans (hb12.mono B11.out.size)
              clear hM12 hb12 HT11 B11 C7
              go_wp2_with fail
              go_loopw [26, 27] (fun u t wr => ∃ (j : Nat) (sm : Bool), j ≤ n ∧ u = .bool sm ∧ t = .int .i64 j ∧ Hid (sm = true ↔ ∀ q, q < j → q ≠ i → G[q]? = X'[q]?) ∧ Hid (Below w12.heap.size w12 wr)) (fun _ t _ => n - (intOf t).toNat)
              case atStart => exact ⟨0, true, by omega, rfl, rfl, ⟨fun _ q hq => by omega, fun _ => rfl⟩, Below.refl _ _⟩
              case round =>
                obtain ⟨j3, sm, hj3, rfl, rfl, HSM, HV⟩ := hrel
                by_cases hj3n : j3 < n
                · have hj3z : (j3 : Int) < (n : Nat) := by omega
                  obtain ⟨gq, hgq⟩ : ∃ x, G[j3]? = some x := ⟨_, List.getElem?_eq_getElem (by rw [NG.out]; exact hj3n)⟩
                  obtain ⟨xq, hxq⟩ : ∃ x, X'[j3]? = some x := ⟨_, List.getElem?_eq_getElem (by rw [WR.out.hX]; exact hj3n)⟩
                  obtain ⟨g3, o3, rfl, hg3, hc3⟩ := (TG12.out.below HV.out) j3 gq hgq
                  have hc4 : wr.cell? ⟨gX, j3, none⟩ = some (.string xq) := by
                    have := ((HT12.out.below HV.out).txl).cel hxq
                    rwa [Nat.zero_add] at this
                  have hstep : ∀ b : Bool, (b = true ↔ (j3 ≠ i → gq = xq)) → ((sm && b) = true ↔ ∀ q, q < j3 + 1 → q ≠ i → G[q]? = X'[q]?) := fun b hb => by
                    rw [Bool.and_eq_true, HSM.out, hb]
                    constructor
                    · rintro ⟨h1, h2⟩ q hq hne
                      by_cases e : q = j3
                      · subst e; rw [hgq, hxq, h2 hne]
                      · exact h1 q (by omega) hne
                    · intro h
                      refine ⟨fun q hq hne => h q (by omega) hne, fun hne => ?_⟩
                      have := h j3 (by omega) hne
                      rw [hgq, hxq] at this
                      exact Option.some.inj this
                  have HST : Hid _ := hstep
                  have hse := str_ne gq xq
                  clear hstep hgq hxq HSM
                  cases sm with
                  | false =>
                    have HS2 : Hid (false = true ↔ ∀ q, q < j3 + 1 → q ≠ i → G[q]? = X'[q]?) := by
                      have := HST.out (decide (j3 ≠ i → gq = xq)) decide_eq_true_iff
                      exact this
                    go_wp2
                    go_quiet (fail)
                    go_wp2
                    go_roundw
                    case rel => exact ⟨j3 + 1, false, by omega, by first | rfl | simp, by go_num, HS2.out, below_drewN HV.out _⟩
                    case measure => simp [intOf]; omega
                  | true =>
                    by_cases hji : j3 = i
                    · have hbz : ((j3 : Int) == (i : Int)) = true := by rw [hji]; simp
                      have HS2 : Hid (∀ q, q < j3 + 1 → q ≠ i → G[q]? = X'[q]?) := by
                        have := HST.out true ⟨fun _ h => absurd hji h, fun _ => rfl⟩
                        exact this.1 rfl
                      clear hji
                      go_wp2
                      go_quiet (fail)
                      go_wp2
                      go_roundw
                      case rel => exact ⟨j3 + 1, true, by omega, by first | rfl | simp, by go_num, ⟨fun _ => HS2.out, fun _ => rfl⟩, below_drewN HV.out _⟩
                      case measure => simp [intOf]; omega
                    · have hbz : ((j3 : Int) == (i : Int)) = false := by rw [beq_eq_false_iff_ne]; omega
                      by_cases hgx : gq = xq
                      · subst hgx
                        have HS2 : Hid (∀ q, q < j3 + 1 → q ≠ i → G[q]? = X'[q]?) := by
                          have := HST.out true ⟨fun _ _ => rfl, fun _ => rfl⟩
                          exact this.1 rfl
                        have hee : (gq.toList == gq.toList) = true := by simp
                        go_wp2
                        go_quiet (fail)
                        go_wp2
                        go_roundw
                        case rel => exact ⟨j3 + 1, true, by omega, by first | rfl | simp, by go_num, ⟨fun _ => HS2.out, fun _ => rfl⟩, below_drewN HV.out _⟩
                        case measure => simp [intOf]; omega
                      · have HS2 : Hid (false = true ↔ ∀ q, q < j3 + 1 → q ≠ i → G[q]? = X'[q]?) := by
                          have := HST.out false ⟨fun h => (by cases h), fun h => absurd (h hji) hgx⟩
                          exact this
                        have hee : (gq.toList == xq.toList) = false := by
                          rw [bne] at hse
                          rw [decide_eq_false hgx] at hse
                          simpa using hse
                        clear hse hgx
                        go_wp2
                        go_quiet (fail)
                        go_wp2
                        go_roundw
                        case rel => exact ⟨j3 + 1, false, by omega, by first | rfl | simp, by go_num, HS2.out, below_drewN HV.out _⟩
                        case measure => simp [intOf]; omega
                · have hj3z : ¬ (j3 : Int) < (n : Nat) := by omega
                  have hfin : sm = true ↔ i = l := by
                    rw [HSM.out, ← HEQ.out]
                    constructor
                    · intro h q hq hne; exact h q (by omega) hne
                    · intro h q hq hne; exact h q (by omega) hne
                  have HTn : Hid (Tn wr gX X') := HT12.out.below HV.out
                  have HBn : Hid (Below w.heap.size w wr) := B12.out.trans (HV.out.mono B12.out.size)
                  by_cases hil : i = l
                  · have hbz : ((i : Int) == (l : Int)) = true := by rw [hil]; simp
                    have hsm : sm = true := hfin.2 hil
                    subst hsm
                    clear hfin hil
                    go_wp2
                    go_roundw
                    case rel => exact ⟨i + 1, by omega, by go_num, HTn.out, HBn.out⟩
                    case measure => simp [intOf]; omega
                  · have hbz : ((i : Int) == (l : Int)) = false := by rw [beq_eq_false_iff_ne]; omega
                    have hsm : sm = false := by
                      cases sm with
                      | false => rfl
                      | true => exact absurd (hfin.1 rfl) hil
                    subst hsm
                    clear hfin
                    go_wp2
                    go_roundw
                    case rel => exact ⟨i + 1, by omega, by go_num, HTn.out, HBn.out⟩
                    case measure => simp [intOf]; omega
        · have hM2z : ¬ (M : Int) ≥ 2 := by omega
          go_wp2
          go_ret
          exact ⟨rfl, HB.out⟩
      · have hiz : ¬ (i : Int) < (n : Nat) := by omega
        go_wp2
        go_ret
        exact ⟨rfl, HB.out⟩
end Go.Proofs.Ytblmblbkfdcbjab
