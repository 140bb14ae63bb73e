import Derived.Test.YtecpcocnoengiaaY10
/- shards.Rebuild. -/
namespace Go.Proofs.Ytecpcocnoengiaa
open Go.RowKit
set_option linter.unusedSimpArgs false
set_option linter.unusedVariables false
/-- The truths of a slice. -/
def BoL (w : World) (a : Option Addr) (ts : List Bool) : Prop :=
  ∀ i x, ts[i]? = some x → ∃ g o, a = some ⟨g, o, none⟩ ∧ g < w.heap.size ∧ w.cell? ⟨g, o + i, none⟩ = some (.bool x)
theorem BoL.below {w w' : World} {a : Option Addr} {ts : List Bool} (h : BoL w a ts) (hb : Below w.heap.size w w') : BoL w' a ts := by
  intro i x hx
  obtain ⟨g, o, e, hg, hc⟩ := h i x hx
  exact ⟨g, o, e, Nat.lt_of_lt_of_le hg hb.size, by rw [hb.cell (p := ⟨g, o + i, none⟩) hg]; exact hc⟩
/-- What is missing: so many looked at; all. -/
def misK (ts : List Bool) (i : Nat) : List Bool := (List.range 64).map fun j => if j < i then !(ts.getD j true) else false
def mis (ts : List Bool) : List Bool := misK ts ts.length
theorem misK_len (ts : List Bool) (i : Nat) : (misK ts i).length = 64 := by simp [misK]
theorem misK_get (ts : List Bool) (i j : Nat) (h : j < 64) : (misK ts i)[j]? = some (if j < i then !(ts.getD j true) else false) := by rw [misK, List.getElem?_map, List.getElem?_range h]; rfl
theorem misK_zero (ts : List Bool) : misK ts 0 = List.replicate 64 false := by
  apply List.ext_getElem?
  intro j
  by_cases h : j < 64
  · rw [misK_get ts 0 j h, List.getElem?_replicate, if_pos h, if_neg (by omega)]
  · rw [List.getElem?_eq_none (by rw [misK_len]; omega), List.getElem?_eq_none (by rw [List.length_replicate]; omega)]
theorem misK_next (ts : List Bool) (i : Nat) (t : Bool) (h : ts[i]? = some t) (hi : i < 64) : (misK ts i).set i (!t) = misK ts (i + 1) := by
  apply List.ext_getElem?
  intro j
  rw [List.getElem?_set, misK_len]
  by_cases hj : j < 64
  · rw [misK_get ts i j hj, misK_get ts (i + 1) j hj]
    by_cases e : i = j
    · subst e
      rw [if_pos rfl, if_pos hi, if_pos (by omega), List.getD, h]; rfl
    · rw [if_neg e]
      by_cases h1 : j < i
      · rw [if_pos h1, if_pos (by omega)]
      · rw [if_neg h1, if_neg (by omega)]
  · rw [if_neg (by omega), List.getElem?_eq_none (by rw [misK_len]; omega), List.getElem?_eq_none (by rw [misK_len]; omega)]
/-- Is the shard i there? -/
def thr (ts : List Bool) (i : Nat) : Bool := nt (mis ts) i
theorem info_tru : (Try.prog.info? 45).map (fun i => (i.zero, i.size)) = some (some (.agg (bs (List.replicate 64 false))), 64) := by kernel_rfl
theorem size_tru (l : List Bool) (h : l.length = 64) : (Try.prog.info? 45).map (·.size) = some (bs l).size := by
  have : (Try.prog.info? 45).map (·.size) = some 64 := by kernel_rfl
  rw [this, bs_size, h]
/-- What Rebuild answers. -/
def rbOk (xs : List ByteArray) (ts : List Bool) (k : Int) : Prop := ((1 ≤ k ∧ k ≤ 32) ∧ k ≤ (xs.length : Int) ∧ (xs.length : Int) ≤ 64) ∧ ts.length = xs.length
instance (xs : List ByteArray) (ts : List Bool) (k : Int) : Decidable (rbOk xs ts k) := by unfold rbOk; infer_instance
def rbX (xs : List ByteArray) (ts : List Bool) (k : Int) : List ByteArray :=
  if rbOk xs ts k ∧ evn (pkd (thr ts) xs) = true ∧ k ≤ ((pkd (thr ts) xs).length : Int) then reX (thr ts) xs k.toNat (wid (pkd (thr ts) xs)) else []
def rbE (xs : List ByteArray) (ts : List Bool) (k : Int) : Nat :=
  if rbOk xs ts k ∧ evn (pkd (thr ts) xs) = true then (if k ≤ ((pkd (thr ts) xs).length : Int) then 0 else 70) else 1
theorem pkd_mem (p : Nat → Bool) (xs : List ByteArray) : ∀ x ∈ pkd p xs, x ∈ xs := by
  intro x hx
  obtain ⟨i, hi, rfl⟩ := List.mem_map.1 hx
  have hin : i < xs.length := by simpa using (List.mem_filter.1 hi).1
  rw [List.getD, List.getElem?_eq_getElem hin]
  exact List.getElem_mem hin
theorem reX_len (p : Nat → Bool) (X : List ByteArray) (n k d : Nat) (hX : X.length = n) (h1 : 1 ≤ k) (h2 : k ≤ n) (h3 : n ≤ 64) (hn : k ≤ cnt p n) : (reX p X k d).length = n := by
  rw [reX, List.length_append, mixL_len, daX, mixL_len, hX, (used_inv p n k h1 h2 h3 hn).1.1, cyX_len _ _ (by omega) h1 (by omega)]
  omega
theorem rbX_len (xs : List ByteArray) (ts : List Bool) (k : Int) : (rbX xs ts k).length ≤ 64 := by
  unfold rbX
  split
  · rename_i h
    obtain ⟨⟨⟨⟨a1, a2⟩, a3, a4⟩, a5⟩, _, b⟩ := h
    rw [pkd_len] at b
    rw [reX_len (thr ts) xs xs.length k.toNat _ rfl (by omega) (by omega) (by omega) (by omega)]
    omega
  · simp
theorem TxL.take {w : World} {a : Option Addr} {xs : List ByteArray} (h : TxL w a xs) (k : Nat) : TxL w a (xs.take k) := by
  intro i x hx
  rw [List.getElem?_take] at hx
  split at hx
  · exact h i x hx
  · cases hx
theorem putC_same : ∀ (vs : List Value) (o : Nat) (C : Array Value), (∀ j v, vs[j]? = some v → C[o + j]? = some v) → putC C o vs = C
  | [], _, _, _ => rfl
  | v :: r, o, C, h => by
    have h0 : C[o]? = some v := h 0 v rfl
    have e : C.setIfInBounds o v = C := by
      apply Array.ext_getElem?
      intro i
      rw [Array.getElem?_setIfInBounds]
      by_cases e : o = i
      · subst e
        rw [if_pos rfl, if_pos (Array.getElem?_eq_some_iff.1 h0).1, h0]
      · rw [if_neg e]
    rw [putC, e]
    exact putC_same r (o + 1) C (fun j u hj => by have := h (j + 1) u hj; rwa [show o + 1 + j = o + (j + 1) by omega])
theorem putC_self (C : Array Value) : putC C 0 C.toList = C := putC_same _ 0 C (fun j v h => by rwa [Nat.zero_add, ← Array.getElem?_toList])
set_option maxHeartbeats 1000000 in
set_option maxRecDepth 100000 in
theorem rebuild_any (a b : Option Addr) (ca cb n m : Nat) (k : Int) (xs : List ByteArray) (ts : List Bool) (w : World) (hx : TxL w a xs) (ht : BoL w b ts) (nx : xs.length = n) (nt' : ts.length = m) (ln : n ≤ 4611686018427387904) (lm : m ≤ 4611686018427387904)
    (sx : ∀ x ∈ xs, x.size ≤ 281474976710656) (k1 : -9223372036854775808 ≤ k) (k2 : k ≤ 9223372036854775807) :
    Calls Try.prog 9 #[.slice a n ca, .slice b m cb, .int .i64 k] w fun e w' => ∃ ao, e = .returned (.tuple #[.slice ao (rbX xs ts k).length (rbX xs ts k).length, .int .i64 (rbE xs ts k)]) ∧ Mad w ao (rbX xs ts k) w' ∧ Below w.heap.size w w' := by
  have c1 := fun W => together_any (n : Int) k W
  have HX : Hid (TxL w a xs) := hx
  have HT : Hid (BoL w b ts) := ht
  by_cases hk : (1 ≤ k ∧ k ≤ 32) ∧ k ≤ (n : Int) ∧ (n : Int) ≤ 64
  · rw [tgB, decide_eq_true hk] at c1
    have C1 : Hid _ := c1
    clear c1
    by_cases hmn : m = n
    · subst hmn
      have hok : rbOk xs ts k := ⟨by rw [nx]; exact hk, by rw [nx, nt']⟩
      obtain ⟨q, rfl⟩ : ∃ q : Nat, k = q := ⟨k.toNat, by omega⟩
      have hq1 : 1 ≤ q := by omega
      have hq2 : q ≤ 32 := by omega
      have hqm : q ≤ m := by omega
      have hm6 : m ≤ 64 := by omega
      have NX : Hid (xs.length = m) := nx
      have NT : Hid (ts.length = m) := nt'
      have SX : Hid (∀ x ∈ xs, x.size ≤ 281474976710656) := sx
      have hz := (zero_of_info info_tru).1
      have HI := size_tru
      have HOK : Hid (rbOk xs ts (q : Int)) := hok
      clear hx ht nx nt' sx hk hok k1 k2
      go_enter Try.func9, Try.ntmps9
      go_wp2_with fail
      refine Calls.mono (C1.out _) ?_
      rintro e w1 ⟨rfl, hw⟩
      subst hw
      go_wp2_with (first
        | (refine wpList_put rfl 45 (.tmp 8) (.tmp 24) rfl w1.heap.size 0 _ (bs (List.replicate 64 false)) 45 rfl rfl (bk_new w1 (bs (List.replicate 64 false)) 45) (HI _ (by rw [List.length_replicate])) (by simp) (bs_one _) ?_; intro w2 HB2 HG2 hs2))
      have HM2 : Hid (Bk w2 w1.heap.size (bs (misK ts 0)) 45) := by
        have := HB2.out
        rw [putC_self] at this
        rw [misK_zero]
        exact this
      have BW2 : Hid (Below w1.heap.size w1 w2) := below_own ((Below.refl _ _).alloc (Nat.le_refl _) _) (by simp) HG2.out (Nat.le_refl _)
      have hz2 : w1.heap.size < w2.heap.size := by rw [hs2, al_size]; omega
      clear HB2 HG2 hs2
      go_wp2_with fail
      go_loopw [27] (fun t wr => ∃ i : Nat, i ≤ m ∧ t = .int .i64 i ∧ Hid (Bk wr w1.heap.size (bs (misK ts i)) 45) ∧ Hid (Below w1.heap.size w1 wr) ∧ w1.heap.size < wr.heap.size) (fun t _ => m - (intOf t).toNat)
      case atStart => exact ⟨0, by omega, rfl, HM2.out, BW2.out, hz2⟩
      case round =>
        clear HM2 BW2 hz2
        obtain ⟨i, him, rfl, HM, BW, hzr⟩ := hrel
        by_cases hlt : i < m
        · have hiz : (i : Int) < (m : Nat) := by omega
          have hi6 : (i : Int) < 64 := by omega
          obtain ⟨t, hti⟩ : ∃ t, ts[i]? = some t := ⟨_, List.getElem?_eq_getElem (by rw [NT.out]; exact hlt)⟩
          obtain ⟨gb, ob, rfl, hgb, hc1⟩ := (HT.out.below BW.out) i t hti
          have hc2 : wr.cell? ⟨w1.heap.size, i, none⟩ = some (.bool false) := by rw [HM.out.cell, bs_get, misK_get ts i i (by omega), if_neg (by omega)]; rfl
          have hf2 := HM.out.frozen i
          have HMn : Hid (Bk (wr.setCell ⟨w1.heap.size, i, none⟩ (.bool (!t))) w1.heap.size (bs (misK ts (i + 1))) 45) := by
            show Bk _ _ _ _
            rw [← misK_next ts i t hti (by omega), ← bs_set]
            exact HM.out.set i _
          have BWn : Hid (Below w1.heap.size w1 (wr.setCell ⟨w1.heap.size, i, none⟩ (.bool (!t)))) := BW.out.setCell (Nat.le_refl _) _
          have hzn : w1.heap.size < (wr.setCell ⟨w1.heap.size, i, none⟩ (.bool (!t))).heap.size := by simp [World.setCell]; omega
          clear hti HM BW
          go_wp2
          go_roundw
          case rel => exact ⟨i + 1, by omega, by go_num, HMn.out, BWn.out, hzn⟩
          case measure => simp [intOf]; omega
        · have hiz : ¬ (i : Int) < (m : Nat) := by omega
          have hin : i = m := by omega
          have HMf : Hid (Bk wr w1.heap.size (bs (mis ts)) 45) := by
            have := HM.out
            rw [hin, ← NT.out] at this
            exact this
          obtain ⟨L, hL⟩ : ∃ L, mis ts = L := ⟨_, rfl⟩
          have HLL : Hid (L.length = 64) := by show L.length = 64; rw [← hL]; exact misK_len _ _
          have hth : thr ts = nt L := by funext i; rw [thr, hL]
          rw [hL] at HMf
          have HTH : Hid (thr ts = nt L) := hth
          clear hL HM hin hth
          have hpc := picked1_any a ca m xs (nt L) w1.heap.size wr (HX.out.below BW.out) NX.out hm6 (fun W hW i hi => there_any w1.heap.size i L 45 W (HMf.out.below hW hzr) HLL.out (by omega))
          have HPC : Hid _ := hpc
          clear hpc
          go_wp2_with fail
          refine Calls.mono HPC.out ?_
          rintro e w3 ⟨v3, rfl, ho3, hb3⟩
          obtain ⟨ap, cp, rfl, ht3, _⟩ := own_txl ho3
          obtain ⟨hc3, hc3'⟩ : (pkd (nt L) xs).length ≤ cp ∧ cp ≤ maxLen := by
            rcases ho3.2 with ⟨e, h0⟩ | ⟨g, cap, cur, e, _, _, h4, h5, _⟩
            · simp only [Value.slice.injEq] at e
              exact ⟨by omega, by unfold maxLen; omega⟩
            · simp only [Value.slice.injEq] at e
              rw [e.2.2]
              exact ⟨h4, h5⟩
          have TP3 : Hid (TxL w3 ap (pkd (nt L) xs)) := ht3
          have B3 : Hid (Below w1.heap.size w1 w3) := BW.out.trans (hb3.mono (by omega))
          have HM3 : Hid (Bk w3 w1.heap.size (bs L) 45) := HMf.out.below hb3 hzr
          have hpl : (pkd (nt L) xs).length ≤ 64 := by
            rw [pkd_len, NX.out]
            have := cnt_le (nt L) m
            omega
          have hz3 : w1.heap.size < w3.heap.size := Nat.lt_of_lt_of_le hzr hb3.size
          have hc1 := fun W hW => even_any ap cp (pkd (nt L) xs) W hW (by omega)
          obtain ⟨r, hr⟩ : ∃ r, (pkd (nt L) xs).length = r := ⟨_, rfl⟩
          rw [hr] at hc1 hpl hc3 ⊢
          have HR : Hid ((pkd (nt L) xs).length = r) := hr
          clear ho3 ht3 hb3 HPC HMf BW hr
          cases hev : evn (pkd (nt L) xs) with
          | false =>
            rw [hev] at hc1
            have C2 : Hid _ := hc1
            have e1 : Hid (rbX xs ts (q : Int) = []) := if_neg (fun h => by rw [HTH.out, hev] at h; exact absurd h.2.1 (by simp))
            have e2 : Hid (rbE xs ts (q : Int) = 1) := if_neg (fun h => by rw [HTH.out, hev] at h; exact absurd h.2 (by simp))
            clear hc1 hev
            go_wp2_with fail
            refine Calls.mono (C2.out _ TP3.out) ?_
            rintro e w4 ⟨rfl, hb4⟩
            have B4 : Hid (Below w1.heap.size w1 w4) := B3.out.trans (hb4.mono B3.out.size)
            clear hb4
            go_wp2
            go_ret2
            rw [e1.out, e2.out]
            exact ⟨none, rfl, .inl ⟨rfl, rfl⟩, B4.out⟩
          | true =>
            rw [hev] at hc1
            have C2 : Hid _ := hc1
            have HEV : Hid (evn (pkd (nt L) xs) = true) := hev
            clear hc1 hev
            go_wp2_with fail
            refine Calls.mono (C2.out _ TP3.out) ?_
            rintro e w4 ⟨rfl, hb4⟩
            have B4 : Hid (Below w1.heap.size w1 w4) := B3.out.trans (hb4.mono B3.out.size)
            have TP4 : Hid (TxL w4 ap (pkd (nt L) xs)) := TP3.out.below hb4
            have HM4 : Hid (Bk w4 w1.heap.size (bs L) 45) := HM3.out.below hb4 hz3
            have hz4 : w1.heap.size < w4.heap.size := Nat.lt_of_lt_of_le hz3 hb4.size
            clear hb4 TP3 HM3 B3
            by_cases hrq : r < q
            · have hrqz : (r : Int) < (q : Nat) := by omega
              have e1 : Hid (rbX xs ts (q : Int) = []) := if_neg (fun h => by have := h.2.2; rw [HTH.out, HR.out] at this; omega)
              have e2 : Hid (rbE xs ts (q : Int) = 70) := by
                show rbE xs ts (q : Int) = 70
                unfold rbE
                rw [if_pos ⟨HOK.out, by rw [HTH.out]; exact HEV.out⟩, if_neg (by rw [HTH.out, HR.out]; omega)]
              go_wp2
              go_ret2
              rw [e1.out, e2.out]
              exact ⟨none, rfl, .inl ⟨rfl, rfl⟩, B4.out⟩
            · have hrqz : ¬ (r : Int) < (q : Nat) := by omega
              have e1 : Hid (rbX xs ts (q : Int) = reX (nt L) xs q (wid (pkd (nt L) xs))) := by
                show rbX xs ts (q : Int) = _
                unfold rbX
                rw [if_pos ⟨HOK.out, by rw [HTH.out]; exact HEV.out, by rw [HTH.out, HR.out]; omega⟩, HTH.out, Int.toNat_natCast]
              have e2 : Hid (rbE xs ts (q : Int) = 0) := by
                show rbE xs ts (q : Int) = 0
                unfold rbE
                rw [if_pos ⟨HOK.out, by rw [HTH.out]; exact HEV.out⟩, if_pos (by rw [HTH.out, HR.out]; omega)]
              have hcn : q ≤ cnt (nt L) m := by
                have := pkd_len (nt L) xs
                rw [HR.out, NX.out] at this
                omega
              have HCN : Hid (q ≤ cnt (nt L) m) := hcn
              have hqc : q ≤ cp := by omega
              have hpw : wid (pkd (nt L) xs) ≤ 281474976710656 := wid_of (by rw [HR.out]; omega) _ (fun x hx => SX.out x (pkd_mem _ _ x hx))
              obtain ⟨cs, hcs⟩ : ∃ cs : List Value, (bs L).toList = cs := ⟨_, rfl⟩
              have hca : cs.toArray = bs L := by rw [← hcs]
              have hcf := fun W => firstOf_any L q W HLL.out (by omega)
              rw [← hca] at hcf
              have CF : Hid _ := hcf
              have hcr := fun e w0 W hF he hc => rebuildRows_any m q e L w0 W hq1 hqm hm6 HLL.out hF he hc HCN.out
              have CR : Hid _ := hcr
              obtain ⟨hsq, _⟩ := used_inv (nt L) m q hq1 hqm hm6 HCN.out
              obtain ⟨om, ow⟩ := ofD_isM m q hq1 hqm hm6
              obtain ⟨vm, vw⟩ := hsq.isM hq1 (by omega)
              have hcm : ∀ ar cr W, TxL W ar (pdX (ofD m q) (ivX (usd m q (idxU (nt L) m q)))) → TxL W ap ((pkd (nt L) xs).take q) → _ := fun ar cr W hW hV => mixed_any ar ap cr cp m q (wid (pkd (nt L) xs)) (pdX (ofD m q) (ivX (usd m q (idxU (nt L) m q)))) ((pkd (nt L) xs).take q) W hW hV
                (by
                  unfold pdX
                  rw [if_pos ⟨om, vm, by rw [ow, hsq.1]⟩, txtL_len, prodL_len, arrL, List.length_map, ofD_len m q hq1 hqm hm6])
                (by rw [List.length_take, HR.out]; omega) hm6 hq1 (by omega)
                (by
                  unfold pdX
                  rw [if_pos ⟨om, vm, by rw [ow, hsq.1]⟩, vw]
                  intro r hr
                  obtain ⟨z, hz, rfl⟩ := List.mem_map.1 hr
                  rw [mkT_size, List.length_take, prodL_wide _ _ (hsq.wide (by omega)) z hz]
                  omega)
                (fun x hx => evn_all _ HEV.out x (List.mem_of_mem_take hx)) hpw
              rw [reX_prod (nt L) xs m q _ NX.out hq1 hqm hm6 HCN.out] at hcm
              have CM : Hid _ := hcm
              clear hcf hcr hcm hsq om ow vm vw hcn hpw
              have HC64 : Hid (q ≤ cnt (nt L) 64) := by
                have := cnt_mono (nt L) m (64 - m)
                rw [show m + (64 - m) = 64 by omega] at this
                exact Nat.le_trans HCN.out this
              have HRA : Hid (∀ W, Below w4.heap.size w4 W → W.rangeAt w1.heap.size 0 cs) := fun W hW j v hv => by
                rw [Nat.zero_add, (HM4.out.below hW hz4).cell]
                rwa [← hcs, Array.getElem?_toList] at hv
              have hi4 : (Try.prog.info? 45).map (·.size) = some cs.length := by rw [size_tru L HLL.out, ← hcs]; simp
              have hu4 := Try.underlying45
              have hS4 : w4.rangeAt w1.heap.size 0 cs := HRA.out _ (Below.refl _ _)
              clear hcs hca
              go_wp2_with fail
              go_region_held3 (fun W => W.rangeAt w1.heap.size 0 cs) (first | exact HRA.out _ (Below.refl _ _) | exact HRA.out _ (Below.refl _ _).drew | exact HRA.out _ HB45.out | exact HRA.out _ HB46.out | exact HRA.out _ HB47.out)
                (first
                | (go_at_call 15; refine Calls.mono (CM.out _ _ _ HMr.out.txl ((TP4.out.below HB46.out).take q)) ?_; rintro e w7 ⟨ax, rfl, hMx, hb7⟩
                   have HMx : Hid (Mad w6 ax (reX (nt L) xs q (wid (pkd (nt L) xs))) w7) := hMx
                   have HB47 : Hid (Below w4.heap.size w4 w7) := HB46.out.trans (hb7.mono HB46.out.size)
                   clear hMx hb7)
                | (go_at_call 21; refine Calls.mono (CR.out ee w4.drew _ HFo.out hee HEC.out) ?_; rintro e w6 ⟨ar, rfl, hMr, hb6⟩
                   have HMr : Hid (Mad w5 ar (pdX (ofD m q) (ivX (usd m q (idxU (nt L) m q)))) w6) := hMr
                   have HB46 : Hid (Below w4.heap.size w4 w6) := HB45.out.trans (hb6.mono HB45.out.size)
                   clear hMr hb6)
                | (go_at_call 22; refine Calls.mono (CF.out _) ?_; rintro e w5 ⟨ee, rfl, hFo, hee, hcnt⟩
                   have HFo : Hid (Fo w4.drew L ee w5) := hFo
                   have HEC : Hid (cnt (nt L) ee = q) := hcnt HC64.out
                   have HB45 : Hid (Below w4.heap.size w4 w5) := (Below.refl w4.heap.size w4).drew.trans HFo.out.b
                   clear hFo hcnt))
              go_wp2
              go_ret2
              rw [e1.out, e2.out]
              have HLN : (reX (nt L) xs q (wid (pkd (nt L) xs))).length = m := reX_len (nt L) xs m q _ NX.out hq1 hqm hm6 HCN.out
              rw [HLN]
              refine ⟨ax, rfl, ?_, B4.out.trans (HB47.out.mono B4.out.size)⟩
              rcases HMx.out with h | ⟨g, h1, h2, h3⟩
              · exact .inl h
              · exact .inr ⟨g, h1, by have := B4.out.size; have := HB46.out.size; omega, h3⟩
    · have hne : ((m : Int) == (n : Int)) = false := by rw [beq_eq_false_iff_ne]; omega
      have hnn : ((m : Int) != (n : Int)) = true := by rw [bne, hne]; rfl
      have e1 : rbX xs ts k = [] := if_neg (fun h => hmn (by have := (h.1).2; omega))
      have e2 : rbE xs ts k = 1 := if_neg (fun h => hmn (by have := (h.1).2; omega))
      rw [e1, e2]
      clear e1 e2 nx nt' hx ht sx hk
      go_enter Try.func9, Try.ntmps9
      go_wp2_with fail
      refine Calls.mono (C1.out _) ?_
      rintro e w1 ⟨rfl, hw⟩
      subst hw
      go_wp2
      go_ret2
      exact ⟨none, rfl, .inl ⟨rfl, rfl⟩, Below.refl _ _⟩
  · rw [tgB, decide_eq_false hk] at c1
    have C1 : Hid _ := c1
    have e1 : rbX xs ts k = [] := if_neg (fun h => hk (by have := (h.1).1; rw [nx] at this; exact this))
    have e2 : rbE xs ts k = 1 := if_neg (fun h => hk (by have := (h.1).1; rw [nx] at this; exact this))
    rw [e1, e2]
    clear c1 e1 e2 nx nt' hx ht sx hk
    go_enter Try.func9, Try.ntmps9
    go_wp2_with fail
    refine Calls.mono (C1.out _) ?_
    rintro e w1 ⟨rfl, hw⟩
    subst hw
    go_wp2
    go_ret2
    exact ⟨none, rfl, .inl ⟨rfl, rfl⟩, Below.refl _ _⟩
end Go.Proofs.Ytecpcocnoengiaa
/- slices.Equal of texts; shards.Fits. -/
namespace Go.Proofs.Ytecpcocnoengiaa
open Go.RowKit
set_option linter.unusedSimpArgs false
set_option linter.unusedVariables false
set_option maxHeartbeats 1000000 in
set_option maxRecDepth 100000 in
theorem equal_any (a b : Option Addr) (ca cb : Nat) (xs ys : List ByteArray) (w : World) (hx : TxL w a xs) (hy : TxL w b ys) (nx : xs.length ≤ 4611686018427387904) (ny : ys.length ≤ 4611686018427387904) :
    Calls Try.prog 18 #[.slice a xs.length ca, .slice b ys.length cb] w fun e w' => e = .returned (.bool (decide (xs = ys))) ∧ Below w.heap.size w w' := by
  have HX : Hid (TxL w a xs) := hx
  have HY : Hid (TxL w b ys) := hy
  clear hx hy
  by_cases hl : xs.length = ys.length
  · obtain ⟨n, hn⟩ : ∃ n, xs.length = n := ⟨_, rfl⟩
    have hn2 : ys.length = n := by omega
    have HL : Hid (xs.length = n ∧ ys.length = n) := ⟨hn, hn2⟩
    rw [hn, hn2]
    have hnn : n ≤ 4611686018427387904 := by omega
    clear hn hn2 hl nx ny
    go_enter Try.func18, Try.ntmps18
    go_wp2
    go_loopw [13] (fun v wr => ∃ k : Nat, v = .int .i64 k ∧ k ≤ n ∧ Hid (Below w.heap.size w wr) ∧ Hid (∀ i, i < k → xs[i]? = ys[i]?)) (fun v _ => n - (intOf v).toNat)
    case atStart => exact ⟨0, rfl, Nat.zero_le _, Below.refl _ _, fun i hi => by omega⟩
    case round =>
      obtain ⟨k, rfl, hk, HB, HE⟩ := hrel
      by_cases hlt : k < n
      · obtain ⟨x, hx⟩ : ∃ x, xs[k]? = some x := ⟨xs[k]'(by rw [HL.out.1]; exact hlt), List.getElem?_eq_getElem _⟩
        obtain ⟨y, hy⟩ : ∃ y, ys[k]? = some y := ⟨ys[k]'(by rw [HL.out.2]; exact hlt), List.getElem?_eq_getElem _⟩
        obtain ⟨g, o, rfl, hg, hc⟩ := HX.out.below HB.out k x hx
        obtain ⟨g2, o2, rfl, hg2, hc2⟩ := HY.out.below HB.out k y hy
        have H1 : Hid (xs[k]? = some x ∧ ys[k]? = some y) := ⟨hx, hy⟩
        clear hx hy
        have hkz : (k : Int) < (n : Nat) := by omega
        have hbn := str_ne x y
        by_cases he : x = y
        · subst he
          simp only [decide_true, Bool.not_true] at hbn
          go_wp2
          go_quiet (fail)
          go_wp2
          go_roundw
          case rel =>
            refine ⟨k + 1, by go_num, by omega, below_drewN HB.out _, fun i hi => ?_⟩
            by_cases hik : i < k
            · exact HE.out i hik
            · obtain rfl : i = k := by omega
              rw [H1.out.1, H1.out.2]
          case measure => simp [intOf]; omega
        · simp only [he, decide_false, Bool.not_false] at hbn
          have hbe : (x.toList == y.toList) = false := by simpa [bne] using hbn
          go_wp2
          go_quiet (fail)
          go_wp2
          go_ret
          refine ⟨?_, below_drewN HB.out _⟩
          have : decide (xs = ys) = false := decide_eq_false fun e => he (by
            have := H1.out
            rw [e] at this
            exact Option.some.inj (this.1.symm.trans this.2))
          rw [this]; rfl
      · go_wp2
        go_ret
        refine ⟨?_, HB.out⟩
        have : decide (xs = ys) = true := decide_eq_true (List.ext_getElem? fun i => by
          by_cases hi : i < n
          · exact HE.out i (by omega)
          · rw [List.getElem?_eq_none (by rw [HL.out.1]; omega), List.getElem?_eq_none (by rw [HL.out.2]; omega)])
        rw [this]; rfl
  · have hz : ((xs.length : Int) != (ys.length : Int)) = true := by simp; omega
    have hd : decide (xs = ys) = false := decide_eq_false fun e => hl (by rw [e])
    rw [hd]
    clear hd HX HY
    go_enter Try.func18, Try.ntmps18
    go_wp2
    go_ret
    exact ⟨rfl, Below.refl _ _⟩
/-- Do shards go together? -/
def ftOk (xs : List ByteArray) (k : Int) : Prop := ((1 ≤ k ∧ k ≤ 32) ∧ k ≤ (xs.length : Int) ∧ (xs.length : Int) ≤ 64) ∧ evn xs = true
instance (xs : List ByteArray) (k : Int) : Decidable (ftOk xs k) := by unfold ftOk; infer_instance
def ftB (xs : List ByteArray) (k : Int) : Bool := if ftOk xs k then decide (mixL (cyX (xs.length - k.toNat) k.toNat) (xs.take k.toNat) (wid xs) = xs.drop k.toNat) else false
def ftE (xs : List ByteArray) (k : Int) : Nat := if ftOk xs k then 0 else 1
theorem TxL.drop {w : World} {g o : Nat} {xs : List ByteArray} (h : TxL w (some ⟨g, o, none⟩) xs) (k : Nat) : TxL w (some ⟨g, o + k, none⟩) (xs.drop k) := by
  intro i x hx
  rw [List.getElem?_drop] at hx
  obtain ⟨g2, o2, e, hg, hc⟩ := h (k + i) x hx
  obtain ⟨rfl, rfl⟩ : g = g2 ∧ o = o2 := by simpa using e
  exact ⟨g, o + k, rfl, hg, by rw [Nat.add_assoc]; exact hc⟩
set_option maxHeartbeats 1000000 in
set_option maxRecDepth 100000 in
theorem fits_any (a : Option Addr) (c n : Nat) (k : Int) (xs : List ByteArray) (w : World) (hx : TxL w a xs) (nx : xs.length = n) (hnc : n ≤ c) (hcm : c ≤ maxLen) (ln : n ≤ 4611686018427387904) (sx : ∀ x ∈ xs, x.size ≤ 281474976710656) (k1 : -9223372036854775808 ≤ k) (k2 : k ≤ 9223372036854775807) :
    Calls Try.prog 8 #[.slice a n c, .int .i64 k] w fun e w' => e = .returned (.tuple #[.bool (ftB xs k), .int .i64 (ftE xs k)]) ∧ Below w.heap.size w w' := by
  have c1 := fun W => together_any (n : Int) k W
  have c2 := fun W hW => even_any a c xs W hW (by omega)
  rw [nx] at c2
  have HX : Hid (TxL w a xs) := hx
  by_cases hk : (1 ≤ k ∧ k ≤ 32) ∧ k ≤ (n : Int) ∧ (n : Int) ≤ 64
  · rw [tgB, decide_eq_true hk] at c1
    have C1 : Hid _ := c1
    clear c1
    cases hev : evn xs with
    | false =>
      rw [hev] at c2
      have C2 : Hid _ := c2
      have e1 : ftB xs k = false := if_neg (fun h => by have := h.2; rw [hev] at this; cases this)
      have e2 : ftE xs k = 1 := if_neg (fun h => by have := h.2; rw [hev] at this; cases this)
      rw [e1, e2]
      clear c2 e1 e2 nx hx sx hk hev
      go_enter Try.func8, Try.ntmps8
      go_wp2_with fail
      refine Calls.mono (C1.out _) ?_
      rintro e w1 ⟨rfl, hw⟩
      subst hw
      go_wp2_with fail
      refine Calls.mono (C2.out _ HX.out) ?_
      rintro e w2 ⟨rfl, hb2⟩
      have B2 : Hid (Below w1.heap.size w1 w2) := hb2
      clear hb2
      go_wp2
      go_ret2
      exact ⟨rfl, B2.out⟩
    | true =>
      rw [hev] at c2
      have C2 : Hid _ := c2
      have hok : ftOk xs k := ⟨by rw [nx]; exact hk, hev⟩
      obtain ⟨q, rfl⟩ : ∃ q : Nat, k = q := ⟨k.toNat, by omega⟩
      have e1 : ftB xs (q : Int) = decide (mixL (cyX (n - q) q) (xs.take q) (wid xs) = xs.drop q) := by unfold ftB; rw [if_pos hok, Int.toNat_natCast, nx]
      have e2 : ftE xs (q : Int) = 0 := if_pos hok
      rw [e1, e2]
      have hq1 : 1 ≤ q := by omega
      have hq2 : q ≤ 32 := by omega
      have hqn : q ≤ n := by omega
      have hn6 : n ≤ 64 := by omega
      obtain ⟨x0, hx0⟩ : ∃ x0, xs[0]? = some x0 := ⟨_, List.getElem?_eq_getElem (by omega)⟩
      obtain ⟨ga, oa, rfl, hga, _⟩ := hx 0 x0 hx0
      have cl := cyX_len (n - q) q (by omega) hq1 (by omega)
      have c3 := fun W => parity_any (n - q) q W (by omega) hq1 (by omega)
      have c4 := fun ar cr W hW hV => mixed_any ar (some ⟨ga, oa, none⟩) cr c (n - q) q (wid xs) (cyX (n - q) q) (xs.take q) W hW hV cl (by rw [List.length_take, nx]; omega) (by omega) hq1 (by omega) (cyX_size (n - q) q (by omega) hq1 (by omega)) (fun x hx => evn_all xs hev x (List.mem_of_mem_take hx)) (wid_of (by omega) _ sx)
      have ml : (mixL (cyX (n - q) q) (xs.take q) (wid xs)).length = n - q := by rw [mixL_len, cl]
      have dl : (xs.drop q).length = n - q := by rw [List.length_drop, nx]
      have c5 := fun p b cp cb W hW hV => equal_any p b cp cb (mixL (cyX (n - q) q) (xs.take q) (wid xs)) (xs.drop q) W hW hV (by rw [ml]; omega) (by rw [dl]; omega)
      rw [ml, dl] at c5
      obtain ⟨R, hR⟩ : ∃ R, mixL (cyX (n - q) q) (xs.take q) (wid xs) = R := ⟨_, rfl⟩
      rw [hR] at c4 c5 ⊢
      obtain ⟨m, hm⟩ : ∃ m, n - q = m := ⟨_, rfl⟩
      rw [hm] at c3 c4 c5
      have hmz : (n : Int) - (q : Int) = (m : Int) := by omega
      have hmn : q + m = n := by omega
      have hqz : (q : Int) ≤ (n : Nat) := by omega
      have C3 : Hid _ := c3
      have C4 : Hid _ := c4
      have C5 : Hid _ := c5
      have HXa : Hid (TxL w (some ⟨ga, oa, none⟩) xs) := hx
      have NXs : Hid (xs.length = n) := nx
      clear c2 c3 c4 c5 hR hm hx0 cl ml dl e1 e2 hok hk hev nx hx sx HX k1 k2
      go_enter Try.func8, Try.ntmps8
      go_wp2_with fail
      refine Calls.mono (C1.out _) ?_
      rintro e w1 ⟨rfl, hw⟩
      subst hw
      go_wp2_with fail
      refine Calls.mono (C2.out _ HXa.out) ?_
      rintro e w2 ⟨rfl, hb2⟩
      have B2 : Hid (Below w1.heap.size w1 w2) := hb2
      have HX2 : Hid (TxL w2 (some ⟨ga, oa, none⟩) xs) := HXa.out.below hb2
      clear hb2
      have hwm : IntKind.i64.wrap (m : Int) = (m : Int) := by rw [IntKind.wrap_i64]; omega
      by_cases hcq : c = q
      · have HDR : Hid (∀ W, Below w2.heap.size w2 W → TxL W (some ⟨ga, oa, none⟩) (xs.drop q)) := fun W hW => by
          rw [List.drop_eq_nil_of_le (by rw [NXs.out]; omega)]
          intro i x hx
          simp at hx
        subst hcq
        have hnq : n - c = m := by omega
        go_wp2_with fail
        go_region_with (first
          | (go_at_call 16; refine Calls.mono (C3.out _) ?_; rintro e w3 ⟨ar, rfl, hM3, hb3⟩
             have HM3 : Hid (Mad w2.drew ar (cyX m c) w3) := hM3
             have B3 : Hid (Below w2.heap.size w2 w3) := (Below.refl w2.heap.size w2).drew.trans hb3
             clear hM3 hb3)
          | (go_at_call 15; refine Calls.mono (C4.out _ _ _ HM3.out.txl ((HX2.out.below B3.out).take c)) ?_; rintro e w4 ⟨ap, rfl, hM4, hb4⟩
             have HM4 : Hid (Mad w3 ap R w4) := hM4
             have B4 : Hid (Below w2.heap.size w2 w4) := B3.out.trans (hb4.mono B3.out.size)
             clear hM4 hb4)
          | (go_at_call 18; refine Calls.mono (C5.out _ _ _ _ _ HM4.out.txl (HDR.out _ B4.out)) ?_; rintro e w5 ⟨rfl, hb5⟩
             have B5 : Hid (Below w2.heap.size w2 w5) := B4.out.trans (hb5.mono B4.out.size)
             clear hb5))
        all_goals
          go_wp2
          go_ret2
          exact ⟨rfl, B2.out.trans (B5.out.mono B2.out.size)⟩
      · have HDR : Hid (∀ W, Below w2.heap.size w2 W → TxL W (some ⟨ga, oa + q, none⟩) (xs.drop q)) := fun W hW => (HX2.out.below hW).drop q
        have hnq : n - q = m := by omega
        go_wp2_with fail
        go_region_with (first
          | (go_at_call 16; refine Calls.mono (C3.out _) ?_; rintro e w3 ⟨ar, rfl, hM3, hb3⟩
             have HM3 : Hid (Mad w2.drew ar (cyX m q) w3) := hM3
             have B3 : Hid (Below w2.heap.size w2 w3) := (Below.refl w2.heap.size w2).drew.trans hb3
             clear hM3 hb3)
          | (go_at_call 15; refine Calls.mono (C4.out _ _ _ HM3.out.txl ((HX2.out.below B3.out).take q)) ?_; rintro e w4 ⟨ap, rfl, hM4, hb4⟩
             have HM4 : Hid (Mad w3 ap R w4) := hM4
             have B4 : Hid (Below w2.heap.size w2 w4) := B3.out.trans (hb4.mono B3.out.size)
             clear hM4 hb4)
          | (go_at_call 18; refine Calls.mono (C5.out _ _ _ _ _ HM4.out.txl (HDR.out _ B4.out)) ?_; rintro e w5 ⟨rfl, hb5⟩
             have B5 : Hid (Below w2.heap.size w2 w5) := B4.out.trans (hb5.mono B4.out.size)
             clear hb5))
        all_goals
          go_wp2
          go_ret2
          exact ⟨rfl, B2.out.trans (B5.out.mono B2.out.size)⟩
  · rw [tgB, decide_eq_false hk] at c1
    have C1 : Hid _ := c1
    have e1 : ftB xs k = false := if_neg (fun h => hk (by have := h.1; rw [nx] at this; exact this))
    have e2 : ftE xs k = 1 := if_neg (fun h => hk (by have := h.1; rw [nx] at this; exact this))
    rw [e1, e2]
    clear c1 c2 e1 e2 nx hx sx hk
    go_enter Try.func8, Try.ntmps8
    go_wp2_with fail
    refine Calls.mono (C1.out _) ?_
    rintro e w1 ⟨rfl, hw⟩
    subst hw
    go_wp2
    go_ret2
    exact ⟨rfl, Below.refl _ _⟩
end Go.Proofs.Ytecpcocnoengiaa
