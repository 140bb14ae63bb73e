import Derived.Test.YtcfniaknbbgheaaDoorY4
import Derived.Test.YtcfniaknbbgheaaDoorY13
import Derived.RegionTactic
import Derived.Deep.RegionHeld3
import Derived.Test.YtcfniaknbbgheaaDoorY8
/- The document's Check. -/
namespace Go.Proofs.YtcfniaknbbgheaaDoor
open Go.RowKit
set_option linter.unusedSimpArgs false
set_option linter.unusedVariables false
theorem wrap10 (n : Int) (h0 : 0 ≤ n) (h1 : n ≤ 1099511627776) : IntKind.i64.wrap n = n := by
  simp [IntKind.wrap, IntKind.bits, IntKind.signed]
  omega
theorem ck_bad {a : At} (h : okA a = false) : ckE a = 1 := by unfold ckE; rw [h]; rfl
theorem okA_no {a : At} (h : okA a = true → False) : okA a = false := Bool.eq_false_iff.2 h
theorem tgB_in {t : ByteArray} {n : Nat} (h : tgB n t = true) {i : Nat} (hi : i < t.size) (hz : (t[i]'hi).toNat = 0) : False := by
  unfold tgB at h
  split at h
  · simp only [Bool.and_eq_true] at h
    have h2 := List.all_eq_true.1 h.2 (t[i]'hi) (by
      have : (t[i]'hi) ∈ t.data := Array.getElem_mem hi
      simpa using this)
    have h3 : t[i]'hi = 0 := by apply UInt8.toNat_inj.1; rw [hz]; rfl
    rw [h3] at h2
    simp at h2
  · have := of_decide_eq_true h; omega
theorem nz_of {t : ByteArray} (h : ∀ i (hi : i < t.size), (t[i]'hi).toNat ≠ 0) : nz t = true := by
  unfold nz
  rw [List.all_eq_true]
  intro x hx
  obtain ⟨i, hi, he⟩ := List.getElem_of_mem hx
  have hi2 : i < t.size := by rw [data_len] at hi; exact hi
  have := h i hi2
  have e : t[i]'hi2 = x := by rw [← he]; rfl
  rw [e] at this
  simp only [bne_iff_ne, ne_eq]
  intro h0
  rw [h0] at this
  exact this rfl
theorem okA_of {a : At} (h1 : 1 ≤ a.nd) (h2 : a.nd ≤ 3) (h3 : a.md ≤ 4095) (h4 : 0 ≤ a.mt) (h5 : a.mt ≤ 1099511627776) (h6 : tgB a.nd a.tg = true) (h7 : xsB a.xs = true) : okA a = true := by
  unfold okA ndB mdB mtB
  rw [decide_eq_true ⟨h1, h2⟩, decide_eq_true h3, decide_eq_true ⟨h4, h5⟩, h6, h7]
  rfl
set_option maxHeartbeats 16000000 in
set_option maxRecDepth 100000 in
theorem rcheck10 (nd md ui gi : Nat) (mt : Int) (tg : ByteArray) (xs : List (ByteArray × ByteArray)) (ad : Option Addr) (n c : Nat) (w : World) (hX : XaL w ad xs) (hl : xs.length = n) (hn : n ≤ 4611686018427387904) (ht : tg.size ≤ 140737488351232) (hT : U8 w) :
    Calls Tryd.prog 15 #[atV nd md ui gi mt tg (.slice ad n c)] w fun e w' => e = .returned (.int .i64 (ckE ⟨nd, md, ui, gi, mt, tg, xs⟩)) ∧ Below w.heap.size w w' := by
  have HX : Hid (XaL w ad xs) := hX
  have HT : Hid (U8 w) := hT
  have HL : Hid (xs.length = n) := hl
  have hsz := size_nil tg
  obtain ⟨q, hq⟩ : ∃ q, (tg.toList == []) = q := ⟨_, rfl⟩
  have hq2 : (tg.toList != []) = !q := by simp [bne, hq]
  rw [hq] at hsz
  have HSZ : Hid (q = decide (tg.size = 0)) := hsz
  have HB0 : Hid (Below w.heap.size w (w.alloc (.cells #[.int .u8 (nd : Int), .int .u32 (md : Int), .int .u32 (ui : Int), .int .u32 (gi : Int), .int .i64 mt, .string tg, .slice ad n c] 25))) := (Below.refl _ _).alloc (Nat.le_refl _) _
  clear hX hT hsz
  by_cases h1 : (nd : Int) < 1
  · have hbad : okA ⟨nd, md, ui, gi, mt, tg, xs⟩ = false := okA_no fun h => by
      obtain ⟨k1, k2, k3, k4, k5⟩ := okA_out h
      simp only at k1 k2 k3 k4 k5
      omega
    rw [ck_bad hbad]
    clear hbad
    go_enter Tryd.func15, Tryd.ntmps15
    go_wp2
    go_ret
    exact ⟨rfl, HB0.out⟩
  by_cases h2 : (3 : Int) < nd
  · have hbad : okA ⟨nd, md, ui, gi, mt, tg, xs⟩ = false := okA_no fun h => by
      obtain ⟨k1, k2, k3, k4, k5⟩ := okA_out h
      simp only at k1 k2 k3 k4 k5
      omega
    rw [ck_bad hbad]
    clear hbad
    go_enter Tryd.func15, Tryd.ntmps15
    go_wp2
    go_ret
    exact ⟨rfl, HB0.out⟩
  by_cases h3 : (4095 : Int) < md
  · have hbad : okA ⟨nd, md, ui, gi, mt, tg, xs⟩ = false := okA_no fun h => by
      obtain ⟨k1, k2, k3, k4, k5⟩ := okA_out h
      simp only at k1 k2 k3 k4 k5
      omega
    rw [ck_bad hbad]
    clear hbad
    go_enter Tryd.func15, Tryd.ntmps15
    go_wp2
    go_ret
    exact ⟨rfl, HB0.out⟩
  by_cases h4 : mt < 0
  · have hbad : okA ⟨nd, md, ui, gi, mt, tg, xs⟩ = false := okA_no fun h => by
      obtain ⟨k1, k2, k3, k4, k5⟩ := okA_out h
      simp only at k1 k2 k3 k4 k5
      omega
    rw [ck_bad hbad]
    clear hbad
    go_enter Tryd.func15, Tryd.ntmps15
    go_wp2
    go_ret
    exact ⟨rfl, HB0.out⟩
  by_cases h5 : (1099511627776 : Int) < mt
  · have hbad : okA ⟨nd, md, ui, gi, mt, tg, xs⟩ = false := okA_no fun h => by
      obtain ⟨k1, k2, k3, k4, k5⟩ := okA_out h
      simp only at k1 k2 k3 k4 k5
      omega
    rw [ck_bad hbad]
    clear hbad
    go_enter Tryd.func15, Tryd.ntmps15
    go_wp2
    go_ret
    exact ⟨rfl, HB0.out⟩
  by_cases h6 : (16 : Int) < n
  · have hbad : okA ⟨nd, md, ui, gi, mt, tg, xs⟩ = false := okA_no fun h => by
      obtain ⟨k1, k2, k3, k4, k5⟩ := okA_out h
      simp only at k1 k2 k3 k4 k5
      have := (xsB_out k5).1; omega
    rw [ck_bad hbad]
    clear hbad
    go_enter Tryd.func15, Tryd.ntmps15
    go_wp2
    go_ret
    exact ⟨rfl, HB0.out⟩
  have HN : Hid ((1 ≤ nd ∧ nd ≤ 3) ∧ md ≤ 4095 ∧ (0 ≤ mt ∧ mt ≤ 1099511627776) ∧ n ≤ 16) := by refine ⟨⟨?_, ?_⟩, ?_, ⟨?_, ?_⟩, ?_⟩ <;> omega
  by_cases h3n : nd = 3
  · have h3z : ((nd : Int) != 3) = false := by simp [h3n]
    have h3y : ((nd : Int) == 3) = true := by simp [h3n]
    have H3 : Hid (nd = 3) := h3n
    clear h3n
    cases q with
    | true =>
      have hbad : okA ⟨nd, md, ui, gi, mt, tg, xs⟩ = false := okA_no fun h => by
        obtain ⟨k1, k2, k3, k4, k5⟩ := okA_out h
        unfold tgB at k4
        rw [if_pos H3.out] at k4
        simp only [Bool.and_eq_true] at k4
        have z1 := of_decide_eq_true k4.1.1
        have z2 := of_decide_eq_true HSZ.out.symm
        exact z1 z2
      rw [ck_bad hbad]
      clear hbad
      go_enter Tryd.func15, Tryd.ntmps15
      go_wp2
      go_ret
      exact ⟨rfl, HB0.out⟩
    | false =>
      by_cases hl1 : (1024 : Int) < tg.size
      · have hbad : okA ⟨nd, md, ui, gi, mt, tg, xs⟩ = false := okA_no fun h => by
          obtain ⟨k1, k2, k3, k4, k5⟩ := okA_out h
          have := tg_small k4
          simp only at this
          omega
        rw [ck_bad hbad]
        clear hbad
        go_enter Tryd.func15, Tryd.ntmps15
        go_wp2
        go_ret
        exact ⟨rfl, HB0.out⟩
      · have HTG : Hid ((∀ i (hi : i < tg.size), (tg[i]'hi).toNat ≠ 0) → tgB nd tg = true) := fun h => by
          unfold tgB
          rw [if_pos H3.out, nz_of h, decide_eq_true (by have := of_decide_eq_false HSZ.out.symm; exact this), decide_eq_true (by omega)]
          rfl
        go_enter Tryd.func15, Tryd.ntmps15
        go_wp2
        have BA : Hid (Bk (w.alloc (.cells #[.int .u8 (nd : Int), .int .u32 (md : Int), .int .u32 (ui : Int), .int .u32 (gi : Int), .int .i64 mt, .string tg, .slice ad n c] 25)) w.heap.size #[.int .u8 (nd : Int), .int .u32 (md : Int), .int .u32 (ui : Int), .int .u32 (gi : Int), .int .i64 mt, .string tg, .slice ad n c] 25) := bk_new _ _ _
        go_loopw [3] (fun v wr => ∃ k : Nat, v = .int .i64 k ∧ k ≤ tg.size ∧ Hid (Below w.heap.size w wr) ∧ Hid (Bk wr w.heap.size #[.int .u8 (nd : Int), .int .u32 (md : Int), .int .u32 (ui : Int), .int .u32 (gi : Int), .int .i64 mt, .string tg, .slice ad n c] 25) ∧ Hid (∀ i (hi : i < tg.size), i < k → (tg[i]'hi).toNat ≠ 0)) (fun v _ => tg.size - (intOf v).toNat)
        case atStart => exact ⟨0, rfl, Nat.zero_le _, HB0.out, BA.out, fun i _ hi => by omega⟩
        case round =>
          clear BA HB0
          obtain ⟨k, rfl, hk, HB, BK, HE⟩ := hrel
          have a5 : wr.cell? ⟨w.heap.size, 5, none⟩ = some (.string tg) := by rw [BK.out.cell]; rfl
          by_cases hlt : k < tg.size
          · have hkz : (k : Int) < (tg.size : Nat) := by omega
            by_cases hz0 : (tg[k]'hlt).toNat = 0
            · have hbad : Hid (ckE ⟨nd, md, ui, gi, mt, tg, xs⟩ = 1) := ck_bad (okA_no fun h => tgB_in (okA_out h).2.2.2.1 hlt hz0)
              have hzz : (((tg[k]'hlt).toNat : Int) == 0) = true := by simp [hz0]
              clear hz0
              go_wp2
              go_ret
              exact ⟨by rw [hbad.out]; rfl, HB.out⟩
            · have hzz : (((tg[k]'hlt).toNat : Int) == 0) = false := by simp; omega
              have HZ0 : Hid ((tg[k]'hlt).toNat ≠ 0) := hz0
              clear hz0
              go_wp2
              go_roundw
              case rel => exact ⟨k + 1, by go_num, by omega, HB.out, BK.out, fun i hi h => by
                by_cases hik : i < k
                · exact HE.out i hi hik
                · obtain rfl : i = k := by omega
                  exact HZ0.out⟩
              case measure => simp [intOf]; omega
          · have hkz : ¬ (k : Int) < (tg.size : Nat) := by omega
            have HTG2 : Hid (tgB nd tg = true) := HTG.out (fun i hi => HE.out i hi (by omega))
            clear HTG HE
            have HBw : Hid (Below w.heap.size w wr) := HB.out
            go_wp2
            clear a5
            go_loopw [4] (fun v wq => ∃ j : Nat, v = .int .i64 j ∧ j ≤ n ∧ Hid (Below w.heap.size w wq) ∧ Hid (Bk wq w.heap.size #[.int .u8 (nd : Int), .int .u32 (md : Int), .int .u32 (ui : Int), .int .u32 (gi : Int), .int .i64 mt, .string tg, .slice ad n c] 25) ∧ Hid (∀ i, i < j → xAt xs i = true)) (fun v _ => n - (intOf v).toNat)
            case atStart => exact ⟨0, rfl, Nat.zero_le _, HBw.out, BK.out, fun i hi => by omega⟩
            case round =>
              clear HBw BK HB
              obtain ⟨j, rfl, hj, HB, BK, HE⟩ := hrel
              have a6 : wr.cell? ⟨w.heap.size, 6, none⟩ = some (.slice ad n c) := by rw [BK.out.cell]; rfl
              have hba := BK.out.lt
              by_cases hlt2 : j < n
              · have hjz : (j : Int) < (n : Nat) := by omega
                obtain ⟨x, hx⟩ : ∃ x, xs[j]? = some x := ⟨xs[j]'(by rw [HL.out]; exact hlt2), List.getElem?_eq_getElem _⟩
                obtain ⟨g, o, rfl, hg, hc1, hc2, hs1, hs2⟩ := HX.out.below HB.out j x hx
                have HY : Hid (0 < j → ∃ y, xs[j - 1]? = some y ∧ wr.cell? ⟨g, o + (j - 1) * 2, none⟩ = some (.string y.1)) := fun h0 => by
                  obtain ⟨y, hy⟩ : ∃ y, xs[j - 1]? = some y := ⟨xs[j - 1]'(by rw [HL.out]; omega), List.getElem?_eq_getElem _⟩
                  obtain ⟨g', o', e, _, hc, _⟩ := HX.out.below HB.out (j - 1) y hy
                  cases e
                  exact ⟨y, hy, hc⟩
                obtain ⟨x1, x2⟩ := x
                simp only at hc1 hc2 hs1 hs2
                have H1 : Hid (xs[j]? = some (x1, x2)) := hx
                have hgs : w.heap.size ≤ wr.heap.size := HB.out.size
                have BU : Hid (Bk (wr.alloc (.cells #[.string x1, .string x2] 55)) wr.heap.size #[.string x1, .string x2] 55) := bk_new _ _ _
                have BD : Hid (Below wr.heap.size wr (wr.alloc (.cells #[.string x1, .string x2] 55))) := (Below.refl _ _).alloc (Nat.le_refl _) _
                have u0 : (wr.alloc (.cells #[.string x1, .string x2] 55)).cell? ⟨wr.heap.size, 0, none⟩ = some (.string x1) := by rw [BU.out.cell]; rfl
                have u1 : (wr.alloc (.cells #[.string x1, .string x2] 55)).cell? ⟨wr.heap.size, 1, none⟩ = some (.string x2) := by rw [BU.out.cell]; rfl
                have u6 : (wr.alloc (.cells #[.string x1, .string x2] 55)).cell? ⟨w.heap.size, 6, none⟩ = some (.slice (some ⟨g, o, none⟩) n c) := by rw [World.cell?_alloc_past _ _ _ hba]; exact a6
                obtain ⟨r, hr⟩ : ∃ r, rnE x1.data.toList = r := ⟨_, rfl⟩
                have HCK : Hid (Calls Tryd.prog 39 #[.string x1] (wr.alloc (.cells #[.string x1, .string x2] 55)).drew fun e w' => e = .returned (.int .i64 r) ∧ Hid (Below wr.heap.size wr w') ∧ w'.cell? ⟨wr.heap.size, 0, none⟩ = some (.string x1) ∧ w'.cell? ⟨wr.heap.size, 1, none⟩ = some (.string x2) ∧ w'.cell? ⟨w.heap.size, 6, none⟩ = some (.slice (some ⟨g, o, none⟩) n c)) := by
                  have h := rcheck_any x1 (wr.alloc (.cells #[.string x1, .string x2] 55)).drew ((HT.out.below HB.out).below BD.out.drew)
                  rw [hr] at h
                  refine h.mono ?_
                  rintro e w' ⟨rfl, hb⟩
                  have hb' : Below wr.heap.size wr w' := BD.out.drew.trans (hb.mono (by rw [show (wr.alloc (.cells #[.string x1, .string x2] 55)).drew.heap.size = (wr.alloc (.cells #[.string x1, .string x2] 55)).heap.size from rfl, al_size]; omega))
                  have hu : Bk w' wr.heap.size #[.string x1, .string x2] 55 := Bk.below (w := (wr.alloc (.cells #[.string x1, .string x2] 55)).drew) BU.out hb BU.out.lt
                  exact ⟨rfl, hb', by rw [hu.cell]; rfl, by rw [hu.cell]; rfl, by rw [hb'.cell (p := ⟨w.heap.size, 6, none⟩) hba]; exact a6⟩
                have HR : Hid (rnE x1.data.toList = r) := hr
                have HCB : Hid (xAt xs j = false → ckE ⟨nd, md, ui, gi, mt, tg, xs⟩ = 1) := fun h => ck_bad (okA_no fun ho => by
                  have := xsB_no (xs := xs) (i := j) (by rw [HL.out]; exact hlt2) h
                  have h2 := (okA_out ho).2.2.2.2
                  simp only at h2
                  rw [this] at h2; cases h2)
                clear hx hr
                by_cases hr0 : r = 0
                · subst hr0
                  by_cases hvn : 4096 < x2.size
                  · have hv : (4096 : Int) < x2.size := by omega
                    have HXB : Hid (xB (x1, x2) = false) := xB_vl (by show ¬ x2.size ≤ 4096; omega)
                    clear HY
                    have CQ : Hid (∀ W, ((W.cell? ⟨wr.heap.size, 0, none⟩ = some (.string x1) ∧ W.cell? ⟨wr.heap.size, 1, none⟩ = some (.string x2)) ∧ Below wr.heap.size wr W ∧ wr.heap.size < W.heap.size) → Calls Tryd.prog 39 #[.string x1] W (fun e w'' => e = .returned (.int .i64 0) ∧ ((w''.cell? ⟨wr.heap.size, 0, none⟩ = some (.string x1) ∧ w''.cell? ⟨wr.heap.size, 1, none⟩ = some (.string x2)) ∧ Below wr.heap.size wr w'' ∧ wr.heap.size < w''.heap.size))) := fun W hW => by
                      have h := rcheck_any x1 W ((HT.out.below HB.out).below hW.2.1)
                      rw [HR.out] at h
                      refine h.mono ?_
                      rintro e w' ⟨rfl, hb⟩
                      exact ⟨rfl, ⟨by rw [hb.cell (p := ⟨wr.heap.size, 0, none⟩) hW.2.2]; exact hW.1.1, by rw [hb.cell (p := ⟨wr.heap.size, 1, none⟩) hW.2.2]; exact hW.1.2⟩, hW.2.1.trans (hb.mono hW.2.1.size), Nat.lt_of_lt_of_le hW.2.2 hb.size⟩
                    go_wp2
                    refine region_class10 (fun W => (W.cell? ⟨wr.heap.size, 0, none⟩ = some (.string x1) ∧ W.cell? ⟨wr.heap.size, 1, none⟩ = some (.string x2)) ∧ Below wr.heap.size wr W ∧ wr.heap.size < W.heap.size) (by kernel_rfl) (by kernel_rfl) ⟨⟨u0, u1⟩, BD.out.drew, BU.out.lt⟩ ?_
                    repeat (first
                      | go_big_quiet_skip
                      | (go_big_quiet_want
                         first
                           | (refine quiet_str10 _ rfl wr.heap.size 0 x1 rfl (fun _ h => h.1.1) ?_; go_big_quiet_on; simp only [Act.put, List.setIfInBounds_toArray, List.set_cons_zero, List.set_cons_succ])
                           | (refine quiet_str10 _ rfl wr.heap.size 1 x2 rfl (fun _ h => h.1.2) ?_; go_big_quiet_on; simp only [Act.put, List.setIfInBounds_toArray, List.set_cons_zero, List.set_cons_succ])
                           | (refine quiet_call10 (.int .i64 0) 39 #[.string x1] ?_ ?_ ?_; (focus (intro W hW; go_simp; done)); (focus (intro W hW; exact CQ.out W hW)); go_big_quiet_on; simp only [Act.put, List.setIfInBounds_toArray, List.set_cons_zero, List.set_cons_succ])
                           | (refine quiet_val10 (.bool false) ?_ ?_; (focus (intro W hW; go_simp; done)); go_big_quiet_on; simp only [Act.put, List.setIfInBounds_toArray, List.set_cons_zero, List.set_cons_succ])
                           | (refine quiet_val10 (.bool true) ?_ ?_; (focus (intro W hW; go_simp; done)); go_big_quiet_on; simp only [Act.put, List.setIfInBounds_toArray, List.set_cons_zero, List.set_cons_succ])
                           | (refine quiet_val10 (.int .i64 (x2.size : Int)) ?_ ?_; (focus (intro W hW; go_simp; done)); go_big_quiet_on; simp only [Act.put, List.setIfInBounds_toArray, List.set_cons_zero, List.set_cons_succ])
                           | (refine quiet_val10 (.pointer (some ⟨wr.heap.size, 0, none⟩)) ?_ ?_; (focus (intro W hW; go_simp; done)); go_big_quiet_on; simp only [Act.put, List.setIfInBounds_toArray, List.set_cons_zero, List.set_cons_succ])
                           | (refine quiet_val10 (.pointer (some ⟨wr.heap.size, 1, none⟩)) ?_ ?_; (focus (intro W hW; go_simp; done)); go_big_quiet_on; simp only [Act.put, List.setIfInBounds_toArray, List.set_cons_zero, List.set_cons_succ])
                           | (go_big_quiet_op; go_big_quiet_on)))
                    refine wpQuiet_nil ?_
                    intro w6 hw6
                    have HB6 : Hid (Below wr.heap.size wr w6) := hw6.2.1
                    clear hw6
                    go_wp2
                    go_ret
                    exact ⟨by rw [HCB.out (xAt_bad H1.out HXB.out)]; rfl, HB.out.trans (HB6.out.mono hgs)⟩
                  · have hv : ¬ (4096 : Int) < x2.size := by omega
                    have HXB : Hid (xB (x1, x2) = true) := xB_yes HR.out (by show x2.size ≤ 4096; omega)
                    by_cases hj0 : 0 < j
                    · obtain ⟨y, hy, hyc⟩ := HY.out hj0
                      obtain ⟨y1, y2⟩ := y
                      have HYY : Hid (xs[j - 1]? = some (y1, y2)) := hy
                      simp only at hyc
                      have uy : (wr.alloc (.cells #[.string x1, .string x2] 55)).cell? ⟨g, o + (j - 1) * 2, none⟩ = some (.string y1) := by rw [World.cell?_alloc_past _ _ _ hg]; exact hyc
                      have hj0z : (0 : Int) < j := by omega
                      have hjm : ((j : Int) - 1).toNat = j - 1 := by omega
                      have hj1 : (0 : Int) ≤ (j : Int) - 1 := by omega
                      have hj2 : (j : Int) - 1 < (n : Int) := by omega
                      have H8 : Hid (IntKind.i64.wrap ((j : Int) - 1) = (j : Int) - 1) := wrap10 _ (by omega) (by omega)
                      obtain ⟨b, hb⟩ : ∃ q, Op.bytesLess y1.toList x1.toList = q := ⟨_, rfl⟩
                      have HQ : Hid (xAt xs j = b) := by rw [xAt_two hj0 H1.out HYY.out HXB.out]; exact hb
                      have HCK2 : Hid (Calls Tryd.prog 39 #[.string x1] (wr.alloc (.cells #[.string x1, .string x2] 55)).drew fun e w' => e = .returned (.int .i64 (0 : Nat)) ∧ Hid (Below wr.heap.size wr w') ∧ w'.cell? ⟨wr.heap.size, 0, none⟩ = some (.string x1) ∧ w'.cell? ⟨wr.heap.size, 1, none⟩ = some (.string x2) ∧ w'.cell? ⟨w.heap.size, 6, none⟩ = some (.slice (some ⟨g, o, none⟩) n c) ∧ w'.cell? ⟨g, o + (j - 1) * 2, none⟩ = some (.string y1)) := by
                        refine HCK.out.mono ?_
                        rintro e w' ⟨rfl, h1, h2, h3, h4⟩
                        exact ⟨rfl, h1, h2, h3, h4, by rw [h1.out.cell (p := ⟨g, o + (j - 1) * 2, none⟩) hg]; exact hyc⟩
                      clear hy HY HCK HCK2
                      cases b with
                      | true =>
                        have CQ : Hid (∀ W, ((W.cell? ⟨wr.heap.size, 0, none⟩ = some (.string x1) ∧ W.cell? ⟨wr.heap.size, 1, none⟩ = some (.string x2)) ∧ (W.cell? ⟨w.heap.size, 6, none⟩ = some (.slice (some ⟨g, o, none⟩) n c) ∧ W.cell? ⟨g, o + (j - 1) * 2, none⟩ = some (.string y1)) ∧ Below wr.heap.size wr W ∧ wr.heap.size < W.heap.size) → Calls Tryd.prog 39 #[.string x1] W (fun e w'' => e = .returned (.int .i64 0) ∧ ((w''.cell? ⟨wr.heap.size, 0, none⟩ = some (.string x1) ∧ w''.cell? ⟨wr.heap.size, 1, none⟩ = some (.string x2)) ∧ (w''.cell? ⟨w.heap.size, 6, none⟩ = some (.slice (some ⟨g, o, none⟩) n c) ∧ w''.cell? ⟨g, o + (j - 1) * 2, none⟩ = some (.string y1)) ∧ Below wr.heap.size wr w'' ∧ wr.heap.size < w''.heap.size))) := fun W hW => by
                          have h := rcheck_any x1 W ((HT.out.below HB.out).below hW.2.2.1)
                          rw [HR.out] at h
                          refine h.mono ?_
                          rintro e w' ⟨rfl, hb⟩
                          exact ⟨rfl, ⟨by rw [hb.cell (p := ⟨wr.heap.size, 0, none⟩) hW.2.2.2]; exact hW.1.1, by rw [hb.cell (p := ⟨wr.heap.size, 1, none⟩) hW.2.2.2]; exact hW.1.2⟩, ⟨by rw [hb.cell (p := ⟨w.heap.size, 6, none⟩) (Nat.lt_of_lt_of_le hba hW.2.2.1.size)]; exact hW.2.1.1, by rw [hb.cell (p := ⟨g, o + (j - 1) * 2, none⟩) (Nat.lt_of_lt_of_le hg hW.2.2.1.size)]; exact hW.2.1.2⟩, hW.2.2.1.trans (hb.mono hW.2.2.1.size), Nat.lt_of_lt_of_le hW.2.2.2 hb.size⟩
                        go_wp2
                        refine region_class10 (fun W => ((W.cell? ⟨wr.heap.size, 0, none⟩ = some (.string x1) ∧ W.cell? ⟨wr.heap.size, 1, none⟩ = some (.string x2)) ∧ (W.cell? ⟨w.heap.size, 6, none⟩ = some (.slice (some ⟨g, o, none⟩) n c) ∧ W.cell? ⟨g, o + (j - 1) * 2, none⟩ = some (.string y1)) ∧ Below wr.heap.size wr W ∧ wr.heap.size < W.heap.size)) (by kernel_rfl) (by kernel_rfl) ⟨⟨u0, u1⟩, ⟨u6, uy⟩, BD.out.drew, BU.out.lt⟩ ?_
                        repeat (first
                          | go_big_quiet_skip
                          | (go_big_quiet_want
                             first
                               | (refine quiet_str10 _ rfl wr.heap.size 0 x1 rfl (fun _ h => h.1.1) ?_; go_big_quiet_on; simp only [Act.put, List.setIfInBounds_toArray, List.set_cons_zero, List.set_cons_succ])
                               | (refine quiet_str10 _ rfl wr.heap.size 1 x2 rfl (fun _ h => h.1.2) ?_; go_big_quiet_on; simp only [Act.put, List.setIfInBounds_toArray, List.set_cons_zero, List.set_cons_succ])
                               | (refine quiet_str10 _ rfl g (o + (j - 1) * 2) y1 rfl (fun _ h => h.2.1.2) ?_; go_big_quiet_on; simp only [Act.put, List.setIfInBounds_toArray, List.set_cons_zero, List.set_cons_succ])
                               | (refine quiet_call10 (.int .i64 0) 39 #[.string x1] ?_ ?_ ?_; (focus (intro W hW; go_simp; done)); (focus (intro W hW; exact CQ.out W hW)); go_big_quiet_on; simp only [Act.put, List.setIfInBounds_toArray, List.set_cons_zero, List.set_cons_succ])
                               | (refine quiet_val10 (.bool false) ?_ ?_; (focus (intro W hW; have hw6 := hW.2.1.1; go_simp; done)); go_big_quiet_on; simp only [Act.put, List.setIfInBounds_toArray, List.set_cons_zero, List.set_cons_succ])
                               | (refine quiet_val10 (.bool true) ?_ ?_; (focus (intro W hW; have hw6 := hW.2.1.1; go_simp; done)); go_big_quiet_on; simp only [Act.put, List.setIfInBounds_toArray, List.set_cons_zero, List.set_cons_succ])
                               | (refine quiet_val10 (.int .i64 (x2.size : Int)) ?_ ?_; (focus (intro W hW; have hw6 := hW.2.1.1; go_simp; done)); go_big_quiet_on; simp only [Act.put, List.setIfInBounds_toArray, List.set_cons_zero, List.set_cons_succ])
                               | (refine quiet_val10 (.pointer (some ⟨wr.heap.size, 0, none⟩)) ?_ ?_; (focus (intro W hW; have hw6 := hW.2.1.1; go_simp; done)); go_big_quiet_on; simp only [Act.put, List.setIfInBounds_toArray, List.set_cons_zero, List.set_cons_succ])
                               | (refine quiet_val10 (.pointer (some ⟨wr.heap.size, 1, none⟩)) ?_ ?_; (focus (intro W hW; have hw6 := hW.2.1.1; go_simp; done)); go_big_quiet_on; simp only [Act.put, List.setIfInBounds_toArray, List.set_cons_zero, List.set_cons_succ])
                               | (refine quiet_val10 (.int .i64 (j : Int)) ?_ ?_; (focus (intro W hW; have hw6 := hW.2.1.1; go_simp; done)); go_big_quiet_on; simp only [Act.put, List.setIfInBounds_toArray, List.set_cons_zero, List.set_cons_succ])
                               | (refine quiet_val10 (.pointer (some ⟨w.heap.size, 6, none⟩)) ?_ ?_; (focus (intro W hW; have hw6 := hW.2.1.1; go_simp; done)); go_big_quiet_on; simp only [Act.put, List.setIfInBounds_toArray, List.set_cons_zero, List.set_cons_succ])
                               | (refine quiet_val10 (.slice (some ⟨g, o, none⟩) n c) ?_ ?_; (focus (intro W hW; have hw6 := hW.2.1.1; go_simp; done)); go_big_quiet_on; simp only [Act.put, List.setIfInBounds_toArray, List.set_cons_zero, List.set_cons_succ])
                               | (refine quiet_val10 (.int .i64 ((j : Int) - 1)) ?_ ?_; (focus (intro W hW; go_simp; first | done | exact H8.out | (rw [H8.out]; done) | omega)); go_big_quiet_on; simp only [Act.put, List.setIfInBounds_toArray, List.set_cons_zero, List.set_cons_succ])
                               | (refine quiet_val10 (.pointer (some ⟨g, o + (j - 1) * 2, none⟩)) ?_ ?_; (focus (intro W hW; go_simp; first | done | omega)); go_big_quiet_on; simp only [Act.put, List.setIfInBounds_toArray, List.set_cons_zero, List.set_cons_succ])
                               | (go_big_quiet_op; go_big_quiet_on)))
                        refine wpQuiet_nil ?_
                        intro w6 hw6
                        have HB6 : Hid (Below wr.heap.size wr w6) := hw6.2.2.1
                        clear hw6
                        go_wp2
                        go_roundw
                        case rel => exact ⟨j + 1, by go_num, by omega, HB.out.trans (HB6.out.mono hgs), BK.out.below HB6.out BK.out.lt, fun i hi => by
                          by_cases hik : i < j
                          · exact HE.out i hik
                          · obtain rfl : i = j := by omega
                            exact HQ.out⟩
                        case measure => simp [intOf]; omega
                      | false =>
                        have CQ : Hid (∀ W, ((W.cell? ⟨wr.heap.size, 0, none⟩ = some (.string x1) ∧ W.cell? ⟨wr.heap.size, 1, none⟩ = some (.string x2)) ∧ (W.cell? ⟨w.heap.size, 6, none⟩ = some (.slice (some ⟨g, o, none⟩) n c) ∧ W.cell? ⟨g, o + (j - 1) * 2, none⟩ = some (.string y1)) ∧ Below wr.heap.size wr W ∧ wr.heap.size < W.heap.size) → Calls Tryd.prog 39 #[.string x1] W (fun e w'' => e = .returned (.int .i64 0) ∧ ((w''.cell? ⟨wr.heap.size, 0, none⟩ = some (.string x1) ∧ w''.cell? ⟨wr.heap.size, 1, none⟩ = some (.string x2)) ∧ (w''.cell? ⟨w.heap.size, 6, none⟩ = some (.slice (some ⟨g, o, none⟩) n c) ∧ w''.cell? ⟨g, o + (j - 1) * 2, none⟩ = some (.string y1)) ∧ Below wr.heap.size wr w'' ∧ wr.heap.size < w''.heap.size))) := fun W hW => by
                          have h := rcheck_any x1 W ((HT.out.below HB.out).below hW.2.2.1)
                          rw [HR.out] at h
                          refine h.mono ?_
                          rintro e w' ⟨rfl, hb⟩
                          exact ⟨rfl, ⟨by rw [hb.cell (p := ⟨wr.heap.size, 0, none⟩) hW.2.2.2]; exact hW.1.1, by rw [hb.cell (p := ⟨wr.heap.size, 1, none⟩) hW.2.2.2]; exact hW.1.2⟩, ⟨by rw [hb.cell (p := ⟨w.heap.size, 6, none⟩) (Nat.lt_of_lt_of_le hba hW.2.2.1.size)]; exact hW.2.1.1, by rw [hb.cell (p := ⟨g, o + (j - 1) * 2, none⟩) (Nat.lt_of_lt_of_le hg hW.2.2.1.size)]; exact hW.2.1.2⟩, hW.2.2.1.trans (hb.mono hW.2.2.1.size), Nat.lt_of_lt_of_le hW.2.2.2 hb.size⟩
                        go_wp2
                        refine region_class10 (fun W => ((W.cell? ⟨wr.heap.size, 0, none⟩ = some (.string x1) ∧ W.cell? ⟨wr.heap.size, 1, none⟩ = some (.string x2)) ∧ (W.cell? ⟨w.heap.size, 6, none⟩ = some (.slice (some ⟨g, o, none⟩) n c) ∧ W.cell? ⟨g, o + (j - 1) * 2, none⟩ = some (.string y1)) ∧ Below wr.heap.size wr W ∧ wr.heap.size < W.heap.size)) (by kernel_rfl) (by kernel_rfl) ⟨⟨u0, u1⟩, ⟨u6, uy⟩, BD.out.drew, BU.out.lt⟩ ?_
                        repeat (first
                          | go_big_quiet_skip
                          | (go_big_quiet_want
                             first
                               | (refine quiet_str10 _ rfl wr.heap.size 0 x1 rfl (fun _ h => h.1.1) ?_; go_big_quiet_on; simp only [Act.put, List.setIfInBounds_toArray, List.set_cons_zero, List.set_cons_succ])
                               | (refine quiet_str10 _ rfl wr.heap.size 1 x2 rfl (fun _ h => h.1.2) ?_; go_big_quiet_on; simp only [Act.put, List.setIfInBounds_toArray, List.set_cons_zero, List.set_cons_succ])
                               | (refine quiet_str10 _ rfl g (o + (j - 1) * 2) y1 rfl (fun _ h => h.2.1.2) ?_; go_big_quiet_on; simp only [Act.put, List.setIfInBounds_toArray, List.set_cons_zero, List.set_cons_succ])
                               | (refine quiet_call10 (.int .i64 0) 39 #[.string x1] ?_ ?_ ?_; (focus (intro W hW; go_simp; done)); (focus (intro W hW; exact CQ.out W hW)); go_big_quiet_on; simp only [Act.put, List.setIfInBounds_toArray, List.set_cons_zero, List.set_cons_succ])
                               | (refine quiet_val10 (.bool false) ?_ ?_; (focus (intro W hW; have hw6 := hW.2.1.1; go_simp; done)); go_big_quiet_on; simp only [Act.put, List.setIfInBounds_toArray, List.set_cons_zero, List.set_cons_succ])
                               | (refine quiet_val10 (.bool true) ?_ ?_; (focus (intro W hW; have hw6 := hW.2.1.1; go_simp; done)); go_big_quiet_on; simp only [Act.put, List.setIfInBounds_toArray, List.set_cons_zero, List.set_cons_succ])
                               | (refine quiet_val10 (.int .i64 (x2.size : Int)) ?_ ?_; (focus (intro W hW; have hw6 := hW.2.1.1; go_simp; done)); go_big_quiet_on; simp only [Act.put, List.setIfInBounds_toArray, List.set_cons_zero, List.set_cons_succ])
                               | (refine quiet_val10 (.pointer (some ⟨wr.heap.size, 0, none⟩)) ?_ ?_; (focus (intro W hW; have hw6 := hW.2.1.1; go_simp; done)); go_big_quiet_on; simp only [Act.put, List.setIfInBounds_toArray, List.set_cons_zero, List.set_cons_succ])
                               | (refine quiet_val10 (.pointer (some ⟨wr.heap.size, 1, none⟩)) ?_ ?_; (focus (intro W hW; have hw6 := hW.2.1.1; go_simp; done)); go_big_quiet_on; simp only [Act.put, List.setIfInBounds_toArray, List.set_cons_zero, List.set_cons_succ])
                               | (refine quiet_val10 (.int .i64 (j : Int)) ?_ ?_; (focus (intro W hW; have hw6 := hW.2.1.1; go_simp; done)); go_big_quiet_on; simp only [Act.put, List.setIfInBounds_toArray, List.set_cons_zero, List.set_cons_succ])
                               | (refine quiet_val10 (.pointer (some ⟨w.heap.size, 6, none⟩)) ?_ ?_; (focus (intro W hW; have hw6 := hW.2.1.1; go_simp; done)); go_big_quiet_on; simp only [Act.put, List.setIfInBounds_toArray, List.set_cons_zero, List.set_cons_succ])
                               | (refine quiet_val10 (.slice (some ⟨g, o, none⟩) n c) ?_ ?_; (focus (intro W hW; have hw6 := hW.2.1.1; go_simp; done)); go_big_quiet_on; simp only [Act.put, List.setIfInBounds_toArray, List.set_cons_zero, List.set_cons_succ])
                               | (refine quiet_val10 (.int .i64 ((j : Int) - 1)) ?_ ?_; (focus (intro W hW; go_simp; first | done | exact H8.out | (rw [H8.out]; done) | omega)); go_big_quiet_on; simp only [Act.put, List.setIfInBounds_toArray, List.set_cons_zero, List.set_cons_succ])
                               | (refine quiet_val10 (.pointer (some ⟨g, o + (j - 1) * 2, none⟩)) ?_ ?_; (focus (intro W hW; go_simp; first | done | omega)); go_big_quiet_on; simp only [Act.put, List.setIfInBounds_toArray, List.set_cons_zero, List.set_cons_succ])
                               | (go_big_quiet_op; go_big_quiet_on)))
                        refine wpQuiet_nil ?_
                        intro w6 hw6
                        have HB6 : Hid (Below wr.heap.size wr w6) := hw6.2.2.1
                        clear hw6
                        go_wp2
                        go_ret
                        exact ⟨by rw [HCB.out HQ.out]; rfl, HB.out.trans (HB6.out.mono hgs)⟩
                    · have hj0z : ¬ (0 : Int) < j := by omega
                      clear HY
                      have CQ : Hid (∀ W, ((W.cell? ⟨wr.heap.size, 0, none⟩ = some (.string x1) ∧ W.cell? ⟨wr.heap.size, 1, none⟩ = some (.string x2)) ∧ (W.cell? ⟨w.heap.size, 6, none⟩ = some (.slice (some ⟨g, o, none⟩) n c) ∧ True) ∧ Below wr.heap.size wr W ∧ wr.heap.size < W.heap.size) → Calls Tryd.prog 39 #[.string x1] W (fun e w'' => e = .returned (.int .i64 0) ∧ ((w''.cell? ⟨wr.heap.size, 0, none⟩ = some (.string x1) ∧ w''.cell? ⟨wr.heap.size, 1, none⟩ = some (.string x2)) ∧ (w''.cell? ⟨w.heap.size, 6, none⟩ = some (.slice (some ⟨g, o, none⟩) n c) ∧ True) ∧ Below wr.heap.size wr w'' ∧ wr.heap.size < w''.heap.size))) := fun W hW => by
                        have h := rcheck_any x1 W ((HT.out.below HB.out).below hW.2.2.1)
                        rw [HR.out] at h
                        refine h.mono ?_
                        rintro e w' ⟨rfl, hb⟩
                        exact ⟨rfl, ⟨by rw [hb.cell (p := ⟨wr.heap.size, 0, none⟩) hW.2.2.2]; exact hW.1.1, by rw [hb.cell (p := ⟨wr.heap.size, 1, none⟩) hW.2.2.2]; exact hW.1.2⟩, ⟨by rw [hb.cell (p := ⟨w.heap.size, 6, none⟩) (Nat.lt_of_lt_of_le hba hW.2.2.1.size)]; exact hW.2.1.1, trivial⟩, hW.2.2.1.trans (hb.mono hW.2.2.1.size), Nat.lt_of_lt_of_le hW.2.2.2 hb.size⟩
                      go_wp2
                      refine region_class10 (fun W => ((W.cell? ⟨wr.heap.size, 0, none⟩ = some (.string x1) ∧ W.cell? ⟨wr.heap.size, 1, none⟩ = some (.string x2)) ∧ (W.cell? ⟨w.heap.size, 6, none⟩ = some (.slice (some ⟨g, o, none⟩) n c) ∧ True) ∧ Below wr.heap.size wr W ∧ wr.heap.size < W.heap.size)) (by kernel_rfl) (by kernel_rfl) ⟨⟨u0, u1⟩, ⟨u6, trivial⟩, BD.out.drew, BU.out.lt⟩ ?_
                      repeat (first
                        | go_big_quiet_skip
                        | (go_big_quiet_want
                           first
                             | (refine quiet_str10 _ rfl wr.heap.size 0 x1 rfl (fun _ h => h.1.1) ?_; go_big_quiet_on; simp only [Act.put, List.setIfInBounds_toArray, List.set_cons_zero, List.set_cons_succ])
                             | (refine quiet_str10 _ rfl wr.heap.size 1 x2 rfl (fun _ h => h.1.2) ?_; go_big_quiet_on; simp only [Act.put, List.setIfInBounds_toArray, List.set_cons_zero, List.set_cons_succ])
                             | (refine quiet_call10 (.int .i64 0) 39 #[.string x1] ?_ ?_ ?_; (focus (intro W hW; go_simp; done)); (focus (intro W hW; exact CQ.out W hW)); go_big_quiet_on; simp only [Act.put, List.setIfInBounds_toArray, List.set_cons_zero, List.set_cons_succ])
                             | (refine quiet_val10 (.bool false) ?_ ?_; (focus (intro W hW; have hw6 := hW.2.1.1; go_simp; done)); go_big_quiet_on; simp only [Act.put, List.setIfInBounds_toArray, List.set_cons_zero, List.set_cons_succ])
                             | (refine quiet_val10 (.bool true) ?_ ?_; (focus (intro W hW; have hw6 := hW.2.1.1; go_simp; done)); go_big_quiet_on; simp only [Act.put, List.setIfInBounds_toArray, List.set_cons_zero, List.set_cons_succ])
                             | (refine quiet_val10 (.int .i64 (x2.size : Int)) ?_ ?_; (focus (intro W hW; have hw6 := hW.2.1.1; go_simp; done)); go_big_quiet_on; simp only [Act.put, List.setIfInBounds_toArray, List.set_cons_zero, List.set_cons_succ])
                             | (refine quiet_val10 (.pointer (some ⟨wr.heap.size, 0, none⟩)) ?_ ?_; (focus (intro W hW; have hw6 := hW.2.1.1; go_simp; done)); go_big_quiet_on; simp only [Act.put, List.setIfInBounds_toArray, List.set_cons_zero, List.set_cons_succ])
                             | (refine quiet_val10 (.pointer (some ⟨wr.heap.size, 1, none⟩)) ?_ ?_; (focus (intro W hW; have hw6 := hW.2.1.1; go_simp; done)); go_big_quiet_on; simp only [Act.put, List.setIfInBounds_toArray, List.set_cons_zero, List.set_cons_succ])
                             | (refine quiet_val10 (.int .i64 (j : Int)) ?_ ?_; (focus (intro W hW; have hw6 := hW.2.1.1; go_simp; done)); go_big_quiet_on; simp only [Act.put, List.setIfInBounds_toArray, List.set_cons_zero, List.set_cons_succ])
                             | (go_big_quiet_op; go_big_quiet_on)))
                      refine wpQuiet_nil ?_
                      intro w6 hw6
                      have HB6 : Hid (Below wr.heap.size wr w6) := hw6.2.2.1
                      clear hw6
                      go_wp2
                      go_roundw
                      case rel => exact ⟨j + 1, by go_num, by omega, HB.out.trans (HB6.out.mono hgs), BK.out.below HB6.out BK.out.lt, fun i hi => by
                        obtain rfl : i = 0 := by omega
                        obtain rfl : j = 0 := by omega
                        exact xAt_zero H1.out HXB.out⟩
                      case measure => simp [intOf]; omega
                · have hrz : ((r : Int) != 0) = true := by simp [hr0]
                  have HXB : Hid (xB (x1, x2) = false) := xB_nm (by show ¬ _; rw [HR.out]; exact hr0)
                  clear HY hr0
                  have CQ : Hid (∀ W, ((W.cell? ⟨wr.heap.size, 0, none⟩ = some (.string x1) ∧ W.cell? ⟨wr.heap.size, 1, none⟩ = some (.string x2)) ∧ (W.cell? ⟨w.heap.size, 6, none⟩ = some (.slice (some ⟨g, o, none⟩) n c) ∧ True) ∧ Below wr.heap.size wr W ∧ wr.heap.size < W.heap.size) → Calls Tryd.prog 39 #[.string x1] W (fun e w'' => e = .returned (.int .i64 r) ∧ ((w''.cell? ⟨wr.heap.size, 0, none⟩ = some (.string x1) ∧ w''.cell? ⟨wr.heap.size, 1, none⟩ = some (.string x2)) ∧ (w''.cell? ⟨w.heap.size, 6, none⟩ = some (.slice (some ⟨g, o, none⟩) n c) ∧ True) ∧ Below wr.heap.size wr w'' ∧ wr.heap.size < w''.heap.size))) := fun W hW => by
                    have h := rcheck_any x1 W ((HT.out.below HB.out).below hW.2.2.1)
                    rw [HR.out] at h
                    refine h.mono ?_
                    rintro e w' ⟨rfl, hb⟩
                    exact ⟨rfl, ⟨by rw [hb.cell (p := ⟨wr.heap.size, 0, none⟩) hW.2.2.2]; exact hW.1.1, by rw [hb.cell (p := ⟨wr.heap.size, 1, none⟩) hW.2.2.2]; exact hW.1.2⟩, ⟨by rw [hb.cell (p := ⟨w.heap.size, 6, none⟩) (Nat.lt_of_lt_of_le hba hW.2.2.1.size)]; exact hW.2.1.1, trivial⟩, hW.2.2.1.trans (hb.mono hW.2.2.1.size), Nat.lt_of_lt_of_le hW.2.2.2 hb.size⟩
                  go_wp2
                  refine region_class10 (fun W => ((W.cell? ⟨wr.heap.size, 0, none⟩ = some (.string x1) ∧ W.cell? ⟨wr.heap.size, 1, none⟩ = some (.string x2)) ∧ (W.cell? ⟨w.heap.size, 6, none⟩ = some (.slice (some ⟨g, o, none⟩) n c) ∧ True) ∧ Below wr.heap.size wr W ∧ wr.heap.size < W.heap.size)) (by kernel_rfl) (by kernel_rfl) ⟨⟨u0, u1⟩, ⟨u6, trivial⟩, BD.out.drew, BU.out.lt⟩ ?_
                  repeat (first
                    | go_big_quiet_skip
                    | (go_big_quiet_want
                       first
                         | (refine quiet_str10 _ rfl wr.heap.size 0 x1 rfl (fun _ h => h.1.1) ?_; go_big_quiet_on; simp only [Act.put, List.setIfInBounds_toArray, List.set_cons_zero, List.set_cons_succ])
                         | (refine quiet_str10 _ rfl wr.heap.size 1 x2 rfl (fun _ h => h.1.2) ?_; go_big_quiet_on; simp only [Act.put, List.setIfInBounds_toArray, List.set_cons_zero, List.set_cons_succ])
                         | (refine quiet_call10 (.int .i64 r) 39 #[.string x1] ?_ ?_ ?_; (focus (intro W hW; go_simp; done)); (focus (intro W hW; exact CQ.out W hW)); go_big_quiet_on; simp only [Act.put, List.setIfInBounds_toArray, List.set_cons_zero, List.set_cons_succ])
                         | (refine quiet_val10 (.bool false) ?_ ?_; (focus (intro W hW; have hw6 := hW.2.1.1; go_simp; done)); go_big_quiet_on; simp only [Act.put, List.setIfInBounds_toArray, List.set_cons_zero, List.set_cons_succ])
                         | (refine quiet_val10 (.bool true) ?_ ?_; (focus (intro W hW; have hw6 := hW.2.1.1; go_simp; done)); go_big_quiet_on; simp only [Act.put, List.setIfInBounds_toArray, List.set_cons_zero, List.set_cons_succ])
                         | (refine quiet_val10 (.int .i64 (x2.size : Int)) ?_ ?_; (focus (intro W hW; have hw6 := hW.2.1.1; go_simp; done)); go_big_quiet_on; simp only [Act.put, List.setIfInBounds_toArray, List.set_cons_zero, List.set_cons_succ])
                         | (refine quiet_val10 (.pointer (some ⟨wr.heap.size, 0, none⟩)) ?_ ?_; (focus (intro W hW; have hw6 := hW.2.1.1; go_simp; done)); go_big_quiet_on; simp only [Act.put, List.setIfInBounds_toArray, List.set_cons_zero, List.set_cons_succ])
                         | (refine quiet_val10 (.pointer (some ⟨wr.heap.size, 1, none⟩)) ?_ ?_; (focus (intro W hW; have hw6 := hW.2.1.1; go_simp; done)); go_big_quiet_on; simp only [Act.put, List.setIfInBounds_toArray, List.set_cons_zero, List.set_cons_succ])
                         | (refine quiet_val10 (.int .i64 (j : Int)) ?_ ?_; (focus (intro W hW; have hw6 := hW.2.1.1; go_simp; done)); go_big_quiet_on; simp only [Act.put, List.setIfInBounds_toArray, List.set_cons_zero, List.set_cons_succ])
                         | (go_big_quiet_op; go_big_quiet_on)))
                  refine wpQuiet_nil ?_
                  intro w6 hw6
                  have HB6 : Hid (Below wr.heap.size wr w6) := hw6.2.2.1
                  clear hw6
                  go_wp2
                  go_ret
                  exact ⟨by rw [HCB.out (xAt_bad H1.out HXB.out)]; rfl, HB.out.trans (HB6.out.mono hgs)⟩
              · have hjz : ¬ (j : Int) < (n : Nat) := by omega
                have hok : Hid (ckE ⟨nd, md, ui, gi, mt, tg, xs⟩ = 0) := by
                  show _ = _
                  unfold ckE
                  rw [okA_of HN.out.1.1 HN.out.1.2 HN.out.2.1 HN.out.2.2.1.1 HN.out.2.2.1.2 HTG2.out (xsB_yes (by rw [HL.out]; exact HN.out.2.2.2) fun i hi => HE.out i (by rw [HL.out] at hi; omega))]
                  rfl
                go_wp2
                go_ret
                exact ⟨by rw [hok.out]; rfl, HB.out⟩
  · have h3z : ((nd : Int) != 3) = true := by simp; omega
    have h3y : ((nd : Int) == 3) = false := by simp; omega
    cases q with
    | true =>
      have HTG : Hid ((∀ i (hi : i < tg.size), (tg[i]'hi).toNat ≠ 0) → tgB nd tg = true) := fun h => by
        unfold tgB
        rw [if_neg h3n]
        exact HSZ.out.symm
      go_enter Tryd.func15, Tryd.ntmps15
      go_wp2
      have BA : Hid (Bk (w.alloc (.cells #[.int .u8 (nd : Int), .int .u32 (md : Int), .int .u32 (ui : Int), .int .u32 (gi : Int), .int .i64 mt, .string tg, .slice ad n c] 25)) w.heap.size #[.int .u8 (nd : Int), .int .u32 (md : Int), .int .u32 (ui : Int), .int .u32 (gi : Int), .int .i64 mt, .string tg, .slice ad n c] 25) := bk_new _ _ _
      go_loopw [3] (fun v wr => ∃ k : Nat, v = .int .i64 k ∧ k ≤ tg.size ∧ Hid (Below w.heap.size w wr) ∧ Hid (Bk wr w.heap.size #[.int .u8 (nd : Int), .int .u32 (md : Int), .int .u32 (ui : Int), .int .u32 (gi : Int), .int .i64 mt, .string tg, .slice ad n c] 25) ∧ Hid (∀ i (hi : i < tg.size), i < k → (tg[i]'hi).toNat ≠ 0)) (fun v _ => tg.size - (intOf v).toNat)
      case atStart => exact ⟨0, rfl, Nat.zero_le _, HB0.out, BA.out, fun i _ hi => by omega⟩
      case round =>
        clear BA HB0
        obtain ⟨k, rfl, hk, HB, BK, HE⟩ := hrel
        have a5 : wr.cell? ⟨w.heap.size, 5, none⟩ = some (.string tg) := by rw [BK.out.cell]; rfl
        by_cases hlt : k < tg.size
        · have hkz : (k : Int) < (tg.size : Nat) := by omega
          by_cases hz0 : (tg[k]'hlt).toNat = 0
          · have hbad : Hid (ckE ⟨nd, md, ui, gi, mt, tg, xs⟩ = 1) := ck_bad (okA_no fun h => tgB_in (okA_out h).2.2.2.1 hlt hz0)
            have hzz : (((tg[k]'hlt).toNat : Int) == 0) = true := by simp [hz0]
            clear hz0
            go_wp2
            go_ret
            exact ⟨by rw [hbad.out]; rfl, HB.out⟩
          · have hzz : (((tg[k]'hlt).toNat : Int) == 0) = false := by simp; omega
            have HZ0 : Hid ((tg[k]'hlt).toNat ≠ 0) := hz0
            clear hz0
            go_wp2
            go_roundw
            case rel => exact ⟨k + 1, by go_num, by omega, HB.out, BK.out, fun i hi h => by
              by_cases hik : i < k
              · exact HE.out i hi hik
              · obtain rfl : i = k := by omega
                exact HZ0.out⟩
            case measure => simp [intOf]; omega
        · have hkz : ¬ (k : Int) < (tg.size : Nat) := by omega
          have HTG2 : Hid (tgB nd tg = true) := HTG.out (fun i hi => HE.out i hi (by omega))
          clear HTG HE
          have HBw : Hid (Below w.heap.size w wr) := HB.out
          go_wp2
          clear a5
          go_loopw [4] (fun v wq => ∃ j : Nat, v = .int .i64 j ∧ j ≤ n ∧ Hid (Below w.heap.size w wq) ∧ Hid (Bk wq w.heap.size #[.int .u8 (nd : Int), .int .u32 (md : Int), .int .u32 (ui : Int), .int .u32 (gi : Int), .int .i64 mt, .string tg, .slice ad n c] 25) ∧ Hid (∀ i, i < j → xAt xs i = true)) (fun v _ => n - (intOf v).toNat)
          case atStart => exact ⟨0, rfl, Nat.zero_le _, HBw.out, BK.out, fun i hi => by omega⟩
          case round =>
            clear HBw BK HB
            obtain ⟨j, rfl, hj, HB, BK, HE⟩ := hrel
            have a6 : wr.cell? ⟨w.heap.size, 6, none⟩ = some (.slice ad n c) := by rw [BK.out.cell]; rfl
            have hba := BK.out.lt
            by_cases hlt2 : j < n
            · have hjz : (j : Int) < (n : Nat) := by omega
              obtain ⟨x, hx⟩ : ∃ x, xs[j]? = some x := ⟨xs[j]'(by rw [HL.out]; exact hlt2), List.getElem?_eq_getElem _⟩
              obtain ⟨g, o, rfl, hg, hc1, hc2, hs1, hs2⟩ := HX.out.below HB.out j x hx
              have HY : Hid (0 < j → ∃ y, xs[j - 1]? = some y ∧ wr.cell? ⟨g, o + (j - 1) * 2, none⟩ = some (.string y.1)) := fun h0 => by
                obtain ⟨y, hy⟩ : ∃ y, xs[j - 1]? = some y := ⟨xs[j - 1]'(by rw [HL.out]; omega), List.getElem?_eq_getElem _⟩
                obtain ⟨g', o', e, _, hc, _⟩ := HX.out.below HB.out (j - 1) y hy
                cases e
                exact ⟨y, hy, hc⟩
              obtain ⟨x1, x2⟩ := x
              simp only at hc1 hc2 hs1 hs2
              have H1 : Hid (xs[j]? = some (x1, x2)) := hx
              have hgs : w.heap.size ≤ wr.heap.size := HB.out.size
              have BU : Hid (Bk (wr.alloc (.cells #[.string x1, .string x2] 55)) wr.heap.size #[.string x1, .string x2] 55) := bk_new _ _ _
              have BD : Hid (Below wr.heap.size wr (wr.alloc (.cells #[.string x1, .string x2] 55))) := (Below.refl _ _).alloc (Nat.le_refl _) _
              have u0 : (wr.alloc (.cells #[.string x1, .string x2] 55)).cell? ⟨wr.heap.size, 0, none⟩ = some (.string x1) := by rw [BU.out.cell]; rfl
              have u1 : (wr.alloc (.cells #[.string x1, .string x2] 55)).cell? ⟨wr.heap.size, 1, none⟩ = some (.string x2) := by rw [BU.out.cell]; rfl
              have u6 : (wr.alloc (.cells #[.string x1, .string x2] 55)).cell? ⟨w.heap.size, 6, none⟩ = some (.slice (some ⟨g, o, none⟩) n c) := by rw [World.cell?_alloc_past _ _ _ hba]; exact a6
              obtain ⟨r, hr⟩ : ∃ r, rnE x1.data.toList = r := ⟨_, rfl⟩
              have HCK : Hid (Calls Tryd.prog 39 #[.string x1] (wr.alloc (.cells #[.string x1, .string x2] 55)).drew fun e w' => e = .returned (.int .i64 r) ∧ Hid (Below wr.heap.size wr w') ∧ w'.cell? ⟨wr.heap.size, 0, none⟩ = some (.string x1) ∧ w'.cell? ⟨wr.heap.size, 1, none⟩ = some (.string x2) ∧ w'.cell? ⟨w.heap.size, 6, none⟩ = some (.slice (some ⟨g, o, none⟩) n c)) := by
                have h := rcheck_any x1 (wr.alloc (.cells #[.string x1, .string x2] 55)).drew ((HT.out.below HB.out).below BD.out.drew)
                rw [hr] at h
                refine h.mono ?_
                rintro e w' ⟨rfl, hb⟩
                have hb' : Below wr.heap.size wr w' := BD.out.drew.trans (hb.mono (by rw [show (wr.alloc (.cells #[.string x1, .string x2] 55)).drew.heap.size = (wr.alloc (.cells #[.string x1, .string x2] 55)).heap.size from rfl, al_size]; omega))
                have hu : Bk w' wr.heap.size #[.string x1, .string x2] 55 := Bk.below (w := (wr.alloc (.cells #[.string x1, .string x2] 55)).drew) BU.out hb BU.out.lt
                exact ⟨rfl, hb', by rw [hu.cell]; rfl, by rw [hu.cell]; rfl, by rw [hb'.cell (p := ⟨w.heap.size, 6, none⟩) hba]; exact a6⟩
              have HR : Hid (rnE x1.data.toList = r) := hr
              have HCB : Hid (xAt xs j = false → ckE ⟨nd, md, ui, gi, mt, tg, xs⟩ = 1) := fun h => ck_bad (okA_no fun ho => by
                have := xsB_no (xs := xs) (i := j) (by rw [HL.out]; exact hlt2) h
                have h2 := (okA_out ho).2.2.2.2
                simp only at h2
                rw [this] at h2; cases h2)
              clear hx hr
              by_cases hr0 : r = 0
              · subst hr0
                by_cases hvn : 4096 < x2.size
                · have hv : (4096 : Int) < x2.size := by omega
                  have HXB : Hid (xB (x1, x2) = false) := xB_vl (by show ¬ x2.size ≤ 4096; omega)
                  clear HY
                  have CQ : Hid (∀ W, ((W.cell? ⟨wr.heap.size, 0, none⟩ = some (.string x1) ∧ W.cell? ⟨wr.heap.size, 1, none⟩ = some (.string x2)) ∧ Below wr.heap.size wr W ∧ wr.heap.size < W.heap.size) → Calls Tryd.prog 39 #[.string x1] W (fun e w'' => e = .returned (.int .i64 0) ∧ ((w''.cell? ⟨wr.heap.size, 0, none⟩ = some (.string x1) ∧ w''.cell? ⟨wr.heap.size, 1, none⟩ = some (.string x2)) ∧ Below wr.heap.size wr w'' ∧ wr.heap.size < w''.heap.size))) := fun W hW => by
                    have h := rcheck_any x1 W ((HT.out.below HB.out).below hW.2.1)
                    rw [HR.out] at h
                    refine h.mono ?_
                    rintro e w' ⟨rfl, hb⟩
                    exact ⟨rfl, ⟨by rw [hb.cell (p := ⟨wr.heap.size, 0, none⟩) hW.2.2]; exact hW.1.1, by rw [hb.cell (p := ⟨wr.heap.size, 1, none⟩) hW.2.2]; exact hW.1.2⟩, hW.2.1.trans (hb.mono hW.2.1.size), Nat.lt_of_lt_of_le hW.2.2 hb.size⟩
                  go_wp2
                  refine region_class10 (fun W => (W.cell? ⟨wr.heap.size, 0, none⟩ = some (.string x1) ∧ W.cell? ⟨wr.heap.size, 1, none⟩ = some (.string x2)) ∧ Below wr.heap.size wr W ∧ wr.heap.size < W.heap.size) (by kernel_rfl) (by kernel_rfl) ⟨⟨u0, u1⟩, BD.out.drew, BU.out.lt⟩ ?_
                  repeat (first
                    | go_big_quiet_skip
                    | (go_big_quiet_want
                       first
                         | (refine quiet_str10 _ rfl wr.heap.size 0 x1 rfl (fun _ h => h.1.1) ?_; go_big_quiet_on; simp only [Act.put, List.setIfInBounds_toArray, List.set_cons_zero, List.set_cons_succ])
                         | (refine quiet_str10 _ rfl wr.heap.size 1 x2 rfl (fun _ h => h.1.2) ?_; go_big_quiet_on; simp only [Act.put, List.setIfInBounds_toArray, List.set_cons_zero, List.set_cons_succ])
                         | (refine quiet_call10 (.int .i64 0) 39 #[.string x1] ?_ ?_ ?_; (focus (intro W hW; go_simp; done)); (focus (intro W hW; exact CQ.out W hW)); go_big_quiet_on; simp only [Act.put, List.setIfInBounds_toArray, List.set_cons_zero, List.set_cons_succ])
                         | (refine quiet_val10 (.bool false) ?_ ?_; (focus (intro W hW; go_simp; done)); go_big_quiet_on; simp only [Act.put, List.setIfInBounds_toArray, List.set_cons_zero, List.set_cons_succ])
                         | (refine quiet_val10 (.bool true) ?_ ?_; (focus (intro W hW; go_simp; done)); go_big_quiet_on; simp only [Act.put, List.setIfInBounds_toArray, List.set_cons_zero, List.set_cons_succ])
                         | (refine quiet_val10 (.int .i64 (x2.size : Int)) ?_ ?_; (focus (intro W hW; go_simp; done)); go_big_quiet_on; simp only [Act.put, List.setIfInBounds_toArray, List.set_cons_zero, List.set_cons_succ])
                         | (refine quiet_val10 (.pointer (some ⟨wr.heap.size, 0, none⟩)) ?_ ?_; (focus (intro W hW; go_simp; done)); go_big_quiet_on; simp only [Act.put, List.setIfInBounds_toArray, List.set_cons_zero, List.set_cons_succ])
                         | (refine quiet_val10 (.pointer (some ⟨wr.heap.size, 1, none⟩)) ?_ ?_; (focus (intro W hW; go_simp; done)); go_big_quiet_on; simp only [Act.put, List.setIfInBounds_toArray, List.set_cons_zero, List.set_cons_succ])
                         | (go_big_quiet_op; go_big_quiet_on)))
                  refine wpQuiet_nil ?_
                  intro w6 hw6
                  have HB6 : Hid (Below wr.heap.size wr w6) := hw6.2.1
                  clear hw6
                  go_wp2
                  go_ret
                  exact ⟨by rw [HCB.out (xAt_bad H1.out HXB.out)]; rfl, HB.out.trans (HB6.out.mono hgs)⟩
                · have hv : ¬ (4096 : Int) < x2.size := by omega
                  have HXB : Hid (xB (x1, x2) = true) := xB_yes HR.out (by show x2.size ≤ 4096; omega)
                  by_cases hj0 : 0 < j
                  · obtain ⟨y, hy, hyc⟩ := HY.out hj0
                    obtain ⟨y1, y2⟩ := y
                    have HYY : Hid (xs[j - 1]? = some (y1, y2)) := hy
                    simp only at hyc
                    have uy : (wr.alloc (.cells #[.string x1, .string x2] 55)).cell? ⟨g, o + (j - 1) * 2, none⟩ = some (.string y1) := by rw [World.cell?_alloc_past _ _ _ hg]; exact hyc
                    have hj0z : (0 : Int) < j := by omega
                    have hjm : ((j : Int) - 1).toNat = j - 1 := by omega
                    have hj1 : (0 : Int) ≤ (j : Int) - 1 := by omega
                    have hj2 : (j : Int) - 1 < (n : Int) := by omega
                    have H8 : Hid (IntKind.i64.wrap ((j : Int) - 1) = (j : Int) - 1) := wrap10 _ (by omega) (by omega)
                    obtain ⟨b, hb⟩ : ∃ q, Op.bytesLess y1.toList x1.toList = q := ⟨_, rfl⟩
                    have HQ : Hid (xAt xs j = b) := by rw [xAt_two hj0 H1.out HYY.out HXB.out]; exact hb
                    have HCK2 : Hid (Calls Tryd.prog 39 #[.string x1] (wr.alloc (.cells #[.string x1, .string x2] 55)).drew fun e w' => e = .returned (.int .i64 (0 : Nat)) ∧ Hid (Below wr.heap.size wr w') ∧ w'.cell? ⟨wr.heap.size, 0, none⟩ = some (.string x1) ∧ w'.cell? ⟨wr.heap.size, 1, none⟩ = some (.string x2) ∧ w'.cell? ⟨w.heap.size, 6, none⟩ = some (.slice (some ⟨g, o, none⟩) n c) ∧ w'.cell? ⟨g, o + (j - 1) * 2, none⟩ = some (.string y1)) := by
                      refine HCK.out.mono ?_
                      rintro e w' ⟨rfl, h1, h2, h3, h4⟩
                      exact ⟨rfl, h1, h2, h3, h4, by rw [h1.out.cell (p := ⟨g, o + (j - 1) * 2, none⟩) hg]; exact hyc⟩
                    clear hy HY HCK HCK2
                    cases b with
                    | true =>
                      have CQ : Hid (∀ W, ((W.cell? ⟨wr.heap.size, 0, none⟩ = some (.string x1) ∧ W.cell? ⟨wr.heap.size, 1, none⟩ = some (.string x2)) ∧ (W.cell? ⟨w.heap.size, 6, none⟩ = some (.slice (some ⟨g, o, none⟩) n c) ∧ W.cell? ⟨g, o + (j - 1) * 2, none⟩ = some (.string y1)) ∧ Below wr.heap.size wr W ∧ wr.heap.size < W.heap.size) → Calls Tryd.prog 39 #[.string x1] W (fun e w'' => e = .returned (.int .i64 0) ∧ ((w''.cell? ⟨wr.heap.size, 0, none⟩ = some (.string x1) ∧ w''.cell? ⟨wr.heap.size, 1, none⟩ = some (.string x2)) ∧ (w''.cell? ⟨w.heap.size, 6, none⟩ = some (.slice (some ⟨g, o, none⟩) n c) ∧ w''.cell? ⟨g, o + (j - 1) * 2, none⟩ = some (.string y1)) ∧ Below wr.heap.size wr w'' ∧ wr.heap.size < w''.heap.size))) := fun W hW => by
                        have h := rcheck_any x1 W ((HT.out.below HB.out).below hW.2.2.1)
                        rw [HR.out] at h
                        refine h.mono ?_
                        rintro e w' ⟨rfl, hb⟩
                        exact ⟨rfl, ⟨by rw [hb.cell (p := ⟨wr.heap.size, 0, none⟩) hW.2.2.2]; exact hW.1.1, by rw [hb.cell (p := ⟨wr.heap.size, 1, none⟩) hW.2.2.2]; exact hW.1.2⟩, ⟨by rw [hb.cell (p := ⟨w.heap.size, 6, none⟩) (Nat.lt_of_lt_of_le hba hW.2.2.1.size)]; exact hW.2.1.1, by rw [hb.cell (p := ⟨g, o + (j - 1) * 2, none⟩) (Nat.lt_of_lt_of_le hg hW.2.2.1.size)]; exact hW.2.1.2⟩, hW.2.2.1.trans (hb.mono hW.2.2.1.size), Nat.lt_of_lt_of_le hW.2.2.2 hb.size⟩
                      go_wp2
                      refine region_class10 (fun W => ((W.cell? ⟨wr.heap.size, 0, none⟩ = some (.string x1) ∧ W.cell? ⟨wr.heap.size, 1, none⟩ = some (.string x2)) ∧ (W.cell? ⟨w.heap.size, 6, none⟩ = some (.slice (some ⟨g, o, none⟩) n c) ∧ W.cell? ⟨g, o + (j - 1) * 2, none⟩ = some (.string y1)) ∧ Below wr.heap.size wr W ∧ wr.heap.size < W.heap.size)) (by kernel_rfl) (by kernel_rfl) ⟨⟨u0, u1⟩, ⟨u6, uy⟩, BD.out.drew, BU.out.lt⟩ ?_
                      repeat (first
                        | go_big_quiet_skip
                        | (go_big_quiet_want
                           first
                             | (refine quiet_str10 _ rfl wr.heap.size 0 x1 rfl (fun _ h => h.1.1) ?_; go_big_quiet_on; simp only [Act.put, List.setIfInBounds_toArray, List.set_cons_zero, List.set_cons_succ])
                             | (refine quiet_str10 _ rfl wr.heap.size 1 x2 rfl (fun _ h => h.1.2) ?_; go_big_quiet_on; simp only [Act.put, List.setIfInBounds_toArray, List.set_cons_zero, List.set_cons_succ])
                             | (refine quiet_str10 _ rfl g (o + (j - 1) * 2) y1 rfl (fun _ h => h.2.1.2) ?_; go_big_quiet_on; simp only [Act.put, List.setIfInBounds_toArray, List.set_cons_zero, List.set_cons_succ])
                             | (refine quiet_call10 (.int .i64 0) 39 #[.string x1] ?_ ?_ ?_; (focus (intro W hW; go_simp; done)); (focus (intro W hW; exact CQ.out W hW)); go_big_quiet_on; simp only [Act.put, List.setIfInBounds_toArray, List.set_cons_zero, List.set_cons_succ])
                             | (refine quiet_val10 (.bool false) ?_ ?_; (focus (intro W hW; have hw6 := hW.2.1.1; go_simp; done)); go_big_quiet_on; simp only [Act.put, List.setIfInBounds_toArray, List.set_cons_zero, List.set_cons_succ])
                             | (refine quiet_val10 (.bool true) ?_ ?_; (focus (intro W hW; have hw6 := hW.2.1.1; go_simp; done)); go_big_quiet_on; simp only [Act.put, List.setIfInBounds_toArray, List.set_cons_zero, List.set_cons_succ])
                             | (refine quiet_val10 (.int .i64 (x2.size : Int)) ?_ ?_; (focus (intro W hW; have hw6 := hW.2.1.1; go_simp; done)); go_big_quiet_on; simp only [Act.put, List.setIfInBounds_toArray, List.set_cons_zero, List.set_cons_succ])
                             | (refine quiet_val10 (.pointer (some ⟨wr.heap.size, 0, none⟩)) ?_ ?_; (focus (intro W hW; have hw6 := hW.2.1.1; go_simp; done)); go_big_quiet_on; simp only [Act.put, List.setIfInBounds_toArray, List.set_cons_zero, List.set_cons_succ])
                             | (refine quiet_val10 (.pointer (some ⟨wr.heap.size, 1, none⟩)) ?_ ?_; (focus (intro W hW; have hw6 := hW.2.1.1; go_simp; done)); go_big_quiet_on; simp only [Act.put, List.setIfInBounds_toArray, List.set_cons_zero, List.set_cons_succ])
                             | (refine quiet_val10 (.int .i64 (j : Int)) ?_ ?_; (focus (intro W hW; have hw6 := hW.2.1.1; go_simp; done)); go_big_quiet_on; simp only [Act.put, List.setIfInBounds_toArray, List.set_cons_zero, List.set_cons_succ])
                             | (refine quiet_val10 (.pointer (some ⟨w.heap.size, 6, none⟩)) ?_ ?_; (focus (intro W hW; have hw6 := hW.2.1.1; go_simp; done)); go_big_quiet_on; simp only [Act.put, List.setIfInBounds_toArray, List.set_cons_zero, List.set_cons_succ])
                             | (refine quiet_val10 (.slice (some ⟨g, o, none⟩) n c) ?_ ?_; (focus (intro W hW; have hw6 := hW.2.1.1; go_simp; done)); go_big_quiet_on; simp only [Act.put, List.setIfInBounds_toArray, List.set_cons_zero, List.set_cons_succ])
                             | (refine quiet_val10 (.int .i64 ((j : Int) - 1)) ?_ ?_; (focus (intro W hW; go_simp; first | done | exact H8.out | (rw [H8.out]; done) | omega)); go_big_quiet_on; simp only [Act.put, List.setIfInBounds_toArray, List.set_cons_zero, List.set_cons_succ])
                             | (refine quiet_val10 (.pointer (some ⟨g, o + (j - 1) * 2, none⟩)) ?_ ?_; (focus (intro W hW; go_simp; first | done | omega)); go_big_quiet_on; simp only [Act.put, List.setIfInBounds_toArray, List.set_cons_zero, List.set_cons_succ])
                             | (go_big_quiet_op; go_big_quiet_on)))
                      refine wpQuiet_nil ?_
                      intro w6 hw6
                      have HB6 : Hid (Below wr.heap.size wr w6) := hw6.2.2.1
                      clear hw6
                      go_wp2
                      go_roundw
                      case rel => exact ⟨j + 1, by go_num, by omega, HB.out.trans (HB6.out.mono hgs), BK.out.below HB6.out BK.out.lt, fun i hi => by
                        by_cases hik : i < j
                        · exact HE.out i hik
                        · obtain rfl : i = j := by omega
                          exact HQ.out⟩
                      case measure => simp [intOf]; omega
                    | false =>
                      have CQ : Hid (∀ W, ((W.cell? ⟨wr.heap.size, 0, none⟩ = some (.string x1) ∧ W.cell? ⟨wr.heap.size, 1, none⟩ = some (.string x2)) ∧ (W.cell? ⟨w.heap.size, 6, none⟩ = some (.slice (some ⟨g, o, none⟩) n c) ∧ W.cell? ⟨g, o + (j - 1) * 2, none⟩ = some (.string y1)) ∧ Below wr.heap.size wr W ∧ wr.heap.size < W.heap.size) → Calls Tryd.prog 39 #[.string x1] W (fun e w'' => e = .returned (.int .i64 0) ∧ ((w''.cell? ⟨wr.heap.size, 0, none⟩ = some (.string x1) ∧ w''.cell? ⟨wr.heap.size, 1, none⟩ = some (.string x2)) ∧ (w''.cell? ⟨w.heap.size, 6, none⟩ = some (.slice (some ⟨g, o, none⟩) n c) ∧ w''.cell? ⟨g, o + (j - 1) * 2, none⟩ = some (.string y1)) ∧ Below wr.heap.size wr w'' ∧ wr.heap.size < w''.heap.size))) := fun W hW => by
                        have h := rcheck_any x1 W ((HT.out.below HB.out).below hW.2.2.1)
                        rw [HR.out] at h
                        refine h.mono ?_
                        rintro e w' ⟨rfl, hb⟩
                        exact ⟨rfl, ⟨by rw [hb.cell (p := ⟨wr.heap.size, 0, none⟩) hW.2.2.2]; exact hW.1.1, by rw [hb.cell (p := ⟨wr.heap.size, 1, none⟩) hW.2.2.2]; exact hW.1.2⟩, ⟨by rw [hb.cell (p := ⟨w.heap.size, 6, none⟩) (Nat.lt_of_lt_of_le hba hW.2.2.1.size)]; exact hW.2.1.1, by rw [hb.cell (p := ⟨g, o + (j - 1) * 2, none⟩) (Nat.lt_of_lt_of_le hg hW.2.2.1.size)]; exact hW.2.1.2⟩, hW.2.2.1.trans (hb.mono hW.2.2.1.size), Nat.lt_of_lt_of_le hW.2.2.2 hb.size⟩
                      go_wp2
                      refine region_class10 (fun W => ((W.cell? ⟨wr.heap.size, 0, none⟩ = some (.string x1) ∧ W.cell? ⟨wr.heap.size, 1, none⟩ = some (.string x2)) ∧ (W.cell? ⟨w.heap.size, 6, none⟩ = some (.slice (some ⟨g, o, none⟩) n c) ∧ W.cell? ⟨g, o + (j - 1) * 2, none⟩ = some (.string y1)) ∧ Below wr.heap.size wr W ∧ wr.heap.size < W.heap.size)) (by kernel_rfl) (by kernel_rfl) ⟨⟨u0, u1⟩, ⟨u6, uy⟩, BD.out.drew, BU.out.lt⟩ ?_
                      repeat (first
                        | go_big_quiet_skip
                        | (go_big_quiet_want
                           first
                             | (refine quiet_str10 _ rfl wr.heap.size 0 x1 rfl (fun _ h => h.1.1) ?_; go_big_quiet_on; simp only [Act.put, List.setIfInBounds_toArray, List.set_cons_zero, List.set_cons_succ])
                             | (refine quiet_str10 _ rfl wr.heap.size 1 x2 rfl (fun _ h => h.1.2) ?_; go_big_quiet_on; simp only [Act.put, List.setIfInBounds_toArray, List.set_cons_zero, List.set_cons_succ])
                             | (refine quiet_str10 _ rfl g (o + (j - 1) * 2) y1 rfl (fun _ h => h.2.1.2) ?_; go_big_quiet_on; simp only [Act.put, List.setIfInBounds_toArray, List.set_cons_zero, List.set_cons_succ])
                             | (refine quiet_call10 (.int .i64 0) 39 #[.string x1] ?_ ?_ ?_; (focus (intro W hW; go_simp; done)); (focus (intro W hW; exact CQ.out W hW)); go_big_quiet_on; simp only [Act.put, List.setIfInBounds_toArray, List.set_cons_zero, List.set_cons_succ])
                             | (refine quiet_val10 (.bool false) ?_ ?_; (focus (intro W hW; have hw6 := hW.2.1.1; go_simp; done)); go_big_quiet_on; simp only [Act.put, List.setIfInBounds_toArray, List.set_cons_zero, List.set_cons_succ])
                             | (refine quiet_val10 (.bool true) ?_ ?_; (focus (intro W hW; have hw6 := hW.2.1.1; go_simp; done)); go_big_quiet_on; simp only [Act.put, List.setIfInBounds_toArray, List.set_cons_zero, List.set_cons_succ])
                             | (refine quiet_val10 (.int .i64 (x2.size : Int)) ?_ ?_; (focus (intro W hW; have hw6 := hW.2.1.1; go_simp; done)); go_big_quiet_on; simp only [Act.put, List.setIfInBounds_toArray, List.set_cons_zero, List.set_cons_succ])
                             | (refine quiet_val10 (.pointer (some ⟨wr.heap.size, 0, none⟩)) ?_ ?_; (focus (intro W hW; have hw6 := hW.2.1.1; go_simp; done)); go_big_quiet_on; simp only [Act.put, List.setIfInBounds_toArray, List.set_cons_zero, List.set_cons_succ])
                             | (refine quiet_val10 (.pointer (some ⟨wr.heap.size, 1, none⟩)) ?_ ?_; (focus (intro W hW; have hw6 := hW.2.1.1; go_simp; done)); go_big_quiet_on; simp only [Act.put, List.setIfInBounds_toArray, List.set_cons_zero, List.set_cons_succ])
                             | (refine quiet_val10 (.int .i64 (j : Int)) ?_ ?_; (focus (intro W hW; have hw6 := hW.2.1.1; go_simp; done)); go_big_quiet_on; simp only [Act.put, List.setIfInBounds_toArray, List.set_cons_zero, List.set_cons_succ])
                             | (refine quiet_val10 (.pointer (some ⟨w.heap.size, 6, none⟩)) ?_ ?_; (focus (intro W hW; have hw6 := hW.2.1.1; go_simp; done)); go_big_quiet_on; simp only [Act.put, List.setIfInBounds_toArray, List.set_cons_zero, List.set_cons_succ])
                             | (refine quiet_val10 (.slice (some ⟨g, o, none⟩) n c) ?_ ?_; (focus (intro W hW; have hw6 := hW.2.1.1; go_simp; done)); go_big_quiet_on; simp only [Act.put, List.setIfInBounds_toArray, List.set_cons_zero, List.set_cons_succ])
                             | (refine quiet_val10 (.int .i64 ((j : Int) - 1)) ?_ ?_; (focus (intro W hW; go_simp; first | done | exact H8.out | (rw [H8.out]; done) | omega)); go_big_quiet_on; simp only [Act.put, List.setIfInBounds_toArray, List.set_cons_zero, List.set_cons_succ])
                             | (refine quiet_val10 (.pointer (some ⟨g, o + (j - 1) * 2, none⟩)) ?_ ?_; (focus (intro W hW; go_simp; first | done | omega)); go_big_quiet_on; simp only [Act.put, List.setIfInBounds_toArray, List.set_cons_zero, List.set_cons_succ])
                             | (go_big_quiet_op; go_big_quiet_on)))
                      refine wpQuiet_nil ?_
                      intro w6 hw6
                      have HB6 : Hid (Below wr.heap.size wr w6) := hw6.2.2.1
                      clear hw6
                      go_wp2
                      go_ret
                      exact ⟨by rw [HCB.out HQ.out]; rfl, HB.out.trans (HB6.out.mono hgs)⟩
                  · have hj0z : ¬ (0 : Int) < j := by omega
                    clear HY
                    have CQ : Hid (∀ W, ((W.cell? ⟨wr.heap.size, 0, none⟩ = some (.string x1) ∧ W.cell? ⟨wr.heap.size, 1, none⟩ = some (.string x2)) ∧ (W.cell? ⟨w.heap.size, 6, none⟩ = some (.slice (some ⟨g, o, none⟩) n c) ∧ True) ∧ Below wr.heap.size wr W ∧ wr.heap.size < W.heap.size) → Calls Tryd.prog 39 #[.string x1] W (fun e w'' => e = .returned (.int .i64 0) ∧ ((w''.cell? ⟨wr.heap.size, 0, none⟩ = some (.string x1) ∧ w''.cell? ⟨wr.heap.size, 1, none⟩ = some (.string x2)) ∧ (w''.cell? ⟨w.heap.size, 6, none⟩ = some (.slice (some ⟨g, o, none⟩) n c) ∧ True) ∧ Below wr.heap.size wr w'' ∧ wr.heap.size < w''.heap.size))) := fun W hW => by
                      have h := rcheck_any x1 W ((HT.out.below HB.out).below hW.2.2.1)
                      rw [HR.out] at h
                      refine h.mono ?_
                      rintro e w' ⟨rfl, hb⟩
                      exact ⟨rfl, ⟨by rw [hb.cell (p := ⟨wr.heap.size, 0, none⟩) hW.2.2.2]; exact hW.1.1, by rw [hb.cell (p := ⟨wr.heap.size, 1, none⟩) hW.2.2.2]; exact hW.1.2⟩, ⟨by rw [hb.cell (p := ⟨w.heap.size, 6, none⟩) (Nat.lt_of_lt_of_le hba hW.2.2.1.size)]; exact hW.2.1.1, trivial⟩, hW.2.2.1.trans (hb.mono hW.2.2.1.size), Nat.lt_of_lt_of_le hW.2.2.2 hb.size⟩
                    go_wp2
                    refine region_class10 (fun W => ((W.cell? ⟨wr.heap.size, 0, none⟩ = some (.string x1) ∧ W.cell? ⟨wr.heap.size, 1, none⟩ = some (.string x2)) ∧ (W.cell? ⟨w.heap.size, 6, none⟩ = some (.slice (some ⟨g, o, none⟩) n c) ∧ True) ∧ Below wr.heap.size wr W ∧ wr.heap.size < W.heap.size)) (by kernel_rfl) (by kernel_rfl) ⟨⟨u0, u1⟩, ⟨u6, trivial⟩, BD.out.drew, BU.out.lt⟩ ?_
                    repeat (first
                      | go_big_quiet_skip
                      | (go_big_quiet_want
                         first
                           | (refine quiet_str10 _ rfl wr.heap.size 0 x1 rfl (fun _ h => h.1.1) ?_; go_big_quiet_on; simp only [Act.put, List.setIfInBounds_toArray, List.set_cons_zero, List.set_cons_succ])
                           | (refine quiet_str10 _ rfl wr.heap.size 1 x2 rfl (fun _ h => h.1.2) ?_; go_big_quiet_on; simp only [Act.put, List.setIfInBounds_toArray, List.set_cons_zero, List.set_cons_succ])
                           | (refine quiet_call10 (.int .i64 0) 39 #[.string x1] ?_ ?_ ?_; (focus (intro W hW; go_simp; done)); (focus (intro W hW; exact CQ.out W hW)); go_big_quiet_on; simp only [Act.put, List.setIfInBounds_toArray, List.set_cons_zero, List.set_cons_succ])
                           | (refine quiet_val10 (.bool false) ?_ ?_; (focus (intro W hW; have hw6 := hW.2.1.1; go_simp; done)); go_big_quiet_on; simp only [Act.put, List.setIfInBounds_toArray, List.set_cons_zero, List.set_cons_succ])
                           | (refine quiet_val10 (.bool true) ?_ ?_; (focus (intro W hW; have hw6 := hW.2.1.1; go_simp; done)); go_big_quiet_on; simp only [Act.put, List.setIfInBounds_toArray, List.set_cons_zero, List.set_cons_succ])
                           | (refine quiet_val10 (.int .i64 (x2.size : Int)) ?_ ?_; (focus (intro W hW; have hw6 := hW.2.1.1; go_simp; done)); go_big_quiet_on; simp only [Act.put, List.setIfInBounds_toArray, List.set_cons_zero, List.set_cons_succ])
                           | (refine quiet_val10 (.pointer (some ⟨wr.heap.size, 0, none⟩)) ?_ ?_; (focus (intro W hW; have hw6 := hW.2.1.1; go_simp; done)); go_big_quiet_on; simp only [Act.put, List.setIfInBounds_toArray, List.set_cons_zero, List.set_cons_succ])
                           | (refine quiet_val10 (.pointer (some ⟨wr.heap.size, 1, none⟩)) ?_ ?_; (focus (intro W hW; have hw6 := hW.2.1.1; go_simp; done)); go_big_quiet_on; simp only [Act.put, List.setIfInBounds_toArray, List.set_cons_zero, List.set_cons_succ])
                           | (refine quiet_val10 (.int .i64 (j : Int)) ?_ ?_; (focus (intro W hW; have hw6 := hW.2.1.1; go_simp; done)); go_big_quiet_on; simp only [Act.put, List.setIfInBounds_toArray, List.set_cons_zero, List.set_cons_succ])
                           | (go_big_quiet_op; go_big_quiet_on)))
                    refine wpQuiet_nil ?_
                    intro w6 hw6
                    have HB6 : Hid (Below wr.heap.size wr w6) := hw6.2.2.1
                    clear hw6
                    go_wp2
                    go_roundw
                    case rel => exact ⟨j + 1, by go_num, by omega, HB.out.trans (HB6.out.mono hgs), BK.out.below HB6.out BK.out.lt, fun i hi => by
                      obtain rfl : i = 0 := by omega
                      obtain rfl : j = 0 := by omega
                      exact xAt_zero H1.out HXB.out⟩
                    case measure => simp [intOf]; omega
              · have hrz : ((r : Int) != 0) = true := by simp [hr0]
                have HXB : Hid (xB (x1, x2) = false) := xB_nm (by show ¬ _; rw [HR.out]; exact hr0)
                clear HY hr0
                have CQ : Hid (∀ W, ((W.cell? ⟨wr.heap.size, 0, none⟩ = some (.string x1) ∧ W.cell? ⟨wr.heap.size, 1, none⟩ = some (.string x2)) ∧ (W.cell? ⟨w.heap.size, 6, none⟩ = some (.slice (some ⟨g, o, none⟩) n c) ∧ True) ∧ Below wr.heap.size wr W ∧ wr.heap.size < W.heap.size) → Calls Tryd.prog 39 #[.string x1] W (fun e w'' => e = .returned (.int .i64 r) ∧ ((w''.cell? ⟨wr.heap.size, 0, none⟩ = some (.string x1) ∧ w''.cell? ⟨wr.heap.size, 1, none⟩ = some (.string x2)) ∧ (w''.cell? ⟨w.heap.size, 6, none⟩ = some (.slice (some ⟨g, o, none⟩) n c) ∧ True) ∧ Below wr.heap.size wr w'' ∧ wr.heap.size < w''.heap.size))) := fun W hW => by
                  have h := rcheck_any x1 W ((HT.out.below HB.out).below hW.2.2.1)
                  rw [HR.out] at h
                  refine h.mono ?_
                  rintro e w' ⟨rfl, hb⟩
                  exact ⟨rfl, ⟨by rw [hb.cell (p := ⟨wr.heap.size, 0, none⟩) hW.2.2.2]; exact hW.1.1, by rw [hb.cell (p := ⟨wr.heap.size, 1, none⟩) hW.2.2.2]; exact hW.1.2⟩, ⟨by rw [hb.cell (p := ⟨w.heap.size, 6, none⟩) (Nat.lt_of_lt_of_le hba hW.2.2.1.size)]; exact hW.2.1.1, trivial⟩, hW.2.2.1.trans (hb.mono hW.2.2.1.size), Nat.lt_of_lt_of_le hW.2.2.2 hb.size⟩
                go_wp2
                refine region_class10 (fun W => ((W.cell? ⟨wr.heap.size, 0, none⟩ = some (.string x1) ∧ W.cell? ⟨wr.heap.size, 1, none⟩ = some (.string x2)) ∧ (W.cell? ⟨w.heap.size, 6, none⟩ = some (.slice (some ⟨g, o, none⟩) n c) ∧ True) ∧ Below wr.heap.size wr W ∧ wr.heap.size < W.heap.size)) (by kernel_rfl) (by kernel_rfl) ⟨⟨u0, u1⟩, ⟨u6, trivial⟩, BD.out.drew, BU.out.lt⟩ ?_
                repeat (first
                  | go_big_quiet_skip
                  | (go_big_quiet_want
                     first
                       | (refine quiet_str10 _ rfl wr.heap.size 0 x1 rfl (fun _ h => h.1.1) ?_; go_big_quiet_on; simp only [Act.put, List.setIfInBounds_toArray, List.set_cons_zero, List.set_cons_succ])
                       | (refine quiet_str10 _ rfl wr.heap.size 1 x2 rfl (fun _ h => h.1.2) ?_; go_big_quiet_on; simp only [Act.put, List.setIfInBounds_toArray, List.set_cons_zero, List.set_cons_succ])
                       | (refine quiet_call10 (.int .i64 r) 39 #[.string x1] ?_ ?_ ?_; (focus (intro W hW; go_simp; done)); (focus (intro W hW; exact CQ.out W hW)); go_big_quiet_on; simp only [Act.put, List.setIfInBounds_toArray, List.set_cons_zero, List.set_cons_succ])
                       | (refine quiet_val10 (.bool false) ?_ ?_; (focus (intro W hW; have hw6 := hW.2.1.1; go_simp; done)); go_big_quiet_on; simp only [Act.put, List.setIfInBounds_toArray, List.set_cons_zero, List.set_cons_succ])
                       | (refine quiet_val10 (.bool true) ?_ ?_; (focus (intro W hW; have hw6 := hW.2.1.1; go_simp; done)); go_big_quiet_on; simp only [Act.put, List.setIfInBounds_toArray, List.set_cons_zero, List.set_cons_succ])
                       | (refine quiet_val10 (.int .i64 (x2.size : Int)) ?_ ?_; (focus (intro W hW; have hw6 := hW.2.1.1; go_simp; done)); go_big_quiet_on; simp only [Act.put, List.setIfInBounds_toArray, List.set_cons_zero, List.set_cons_succ])
                       | (refine quiet_val10 (.pointer (some ⟨wr.heap.size, 0, none⟩)) ?_ ?_; (focus (intro W hW; have hw6 := hW.2.1.1; go_simp; done)); go_big_quiet_on; simp only [Act.put, List.setIfInBounds_toArray, List.set_cons_zero, List.set_cons_succ])
                       | (refine quiet_val10 (.pointer (some ⟨wr.heap.size, 1, none⟩)) ?_ ?_; (focus (intro W hW; have hw6 := hW.2.1.1; go_simp; done)); go_big_quiet_on; simp only [Act.put, List.setIfInBounds_toArray, List.set_cons_zero, List.set_cons_succ])
                       | (refine quiet_val10 (.int .i64 (j : Int)) ?_ ?_; (focus (intro W hW; have hw6 := hW.2.1.1; go_simp; done)); go_big_quiet_on; simp only [Act.put, List.setIfInBounds_toArray, List.set_cons_zero, List.set_cons_succ])
                       | (go_big_quiet_op; go_big_quiet_on)))
                refine wpQuiet_nil ?_
                intro w6 hw6
                have HB6 : Hid (Below wr.heap.size wr w6) := hw6.2.2.1
                clear hw6
                go_wp2
                go_ret
                exact ⟨by rw [HCB.out (xAt_bad H1.out HXB.out)]; rfl, HB.out.trans (HB6.out.mono hgs)⟩
            · have hjz : ¬ (j : Int) < (n : Nat) := by omega
              have hok : Hid (ckE ⟨nd, md, ui, gi, mt, tg, xs⟩ = 0) := by
                show _ = _
                unfold ckE
                rw [okA_of HN.out.1.1 HN.out.1.2 HN.out.2.1 HN.out.2.2.1.1 HN.out.2.2.1.2 HTG2.out (xsB_yes (by rw [HL.out]; exact HN.out.2.2.2) fun i hi => HE.out i (by rw [HL.out] at hi; omega))]
                rfl
              go_wp2
              go_ret
              exact ⟨by rw [hok.out]; rfl, HB.out⟩
    | false =>
      have hbad : okA ⟨nd, md, ui, gi, mt, tg, xs⟩ = false := okA_no fun h => by
        obtain ⟨k1, k2, k3, k4, k5⟩ := okA_out h
        unfold tgB at k4
        rw [if_neg h3n] at k4
        rw [← HSZ.out] at k4
        cases k4
      rw [ck_bad hbad]
      clear hbad
      go_enter Tryd.func15, Tryd.ntmps15
      go_wp2
      go_ret
      exact ⟨rfl, HB0.out⟩
end Go.Proofs.YtcfniaknbbgheaaDoor
