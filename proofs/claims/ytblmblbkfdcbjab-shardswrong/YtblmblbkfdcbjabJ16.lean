/- slices.Equal of texts; shards.Fits. -/
import Derived.Test.YtblmblbkfdcbjabJ15
namespace Go.Proofs.Ytblmblbkfdcbjab
open Go.RowKit
set_option linter.unusedSimpArgs false
set_option linter.unusedVariables false
set_option maxHeartbeats 1000000 in
set_option maxRecDepth 100000 in
theorem equal_any (a b : Option Addr) (ca cb : Nat) (xs ys : List ByteArray) (w : World) (hx : TxL w a xs) (hy : TxL w b ys) (nx : xs.length ≤ 4611686018427387904) (ny : ys.length ≤ 4611686018427387904) :
    Calls Try.prog 15 #[.slice a xs.length ca, .slice b ys.length cb] w fun e w' => e = .returned (.bool (decide (xs = ys))) ∧ Below w.heap.size w w' := by
  have HX : Hid (TxL w a xs) := hx
  have HY : Hid (TxL w b ys) := hy
  clear hx hy
  by_cases hl : xs.length = ys.length
  · obtain ⟨n, hn⟩ : ∃ n, xs.length = n := ⟨_, rfl⟩
    have hn2 : ys.length = n := by omega
    have HL : Hid (xs.length = n ∧ ys.length = n) := ⟨hn, hn2⟩
    rw [hn, hn2]
    have hnn : n ≤ 4611686018427387904 := by omega
    clear hn hn2 hl nx ny
    go_enter Try.func15, Try.ntmps15
    go_wp2
    go_loopw [13] (fun v wr => ∃ k : Nat, v = .int .i64 k ∧ k ≤ n ∧ Hid (Below w.heap.size w wr) ∧ Hid (∀ i, i < k → xs[i]? = ys[i]?)) (fun v _ => n - (intOf v).toNat)
    case atStart => exact ⟨0, rfl, Nat.zero_le _, Below.refl _ _, fun i hi => by omega⟩
    case round =>
      obtain ⟨k, rfl, hk, HB, HE⟩ := hrel
      by_cases hlt : k < n
      · obtain ⟨x, hx⟩ : ∃ x, xs[k]? = some x := ⟨xs[k]'(by rw [HL.out.1]; exact hlt), List.getElem?_eq_getElem _⟩
        obtain ⟨y, hy⟩ : ∃ y, ys[k]? = some y := ⟨ys[k]'(by rw [HL.out.2]; exact hlt), List.getElem?_eq_getElem _⟩
        obtain ⟨g, o, rfl, hg, hc⟩ := HX.out.below HB.out k x hx
        obtain ⟨g2, o2, rfl, hg2, hc2⟩ := HY.out.below HB.out k y hy
        have H1 : Hid (xs[k]? = some x ∧ ys[k]? = some y) := ⟨hx, hy⟩
        clear hx hy
        have hkz : (k : Int) < (n : Nat) := by omega
        have hbn := str_ne x y
        by_cases he : x = y
        · subst he
          simp only [decide_true, Bool.not_true] at hbn
          go_wp2
          go_quiet (fail)
          go_wp2
          go_roundw
          case rel =>
            refine ⟨k + 1, by go_num, by omega, below_drewN HB.out _, fun i hi => ?_⟩
            by_cases hik : i < k
            · exact HE.out i hik
            · obtain rfl : i = k := by omega
              rw [H1.out.1, H1.out.2]
          case measure => simp [intOf]; omega
        · simp only [he, decide_false, Bool.not_false] at hbn
          have hbe : (x.toList == y.toList) = false := by simpa [bne] using hbn
          go_wp2
          go_quiet (fail)
          go_wp2
          go_ret
          refine ⟨?_, below_drewN HB.out _⟩
          have : decide (xs = ys) = false := decide_eq_false fun e => he (by
            have := H1.out
            rw [e] at this
            exact Option.some.inj (this.1.symm.trans this.2))
          rw [this]; rfl
      · go_wp2
        go_ret
        refine ⟨?_, HB.out⟩
        have : decide (xs = ys) = true := decide_eq_true (List.ext_getElem? fun i => by
          by_cases hi : i < n
          · exact HE.out i (by omega)
          · rw [List.getElem?_eq_none (by rw [HL.out.1]; omega), List.getElem?_eq_none (by rw [HL.out.2]; omega)])
        rw [this]; rfl
  · have hz : ((xs.length : Int) != (ys.length : Int)) = true := by simp; omega
    have hd : decide (xs = ys) = false := decide_eq_false fun e => hl (by rw [e])
    rw [hd]
    clear hd HX HY
    go_enter Try.func15, Try.ntmps15
    go_wp2
    go_ret
    exact ⟨rfl, Below.refl _ _⟩
/-- Do shards go together? -/
def ftOk (xs : List ByteArray) (k : Int) : Prop := ((1 ≤ k ∧ k ≤ 32) ∧ k ≤ (xs.length : Int) ∧ (xs.length : Int) ≤ 64) ∧ evn xs = true
instance (xs : List ByteArray) (k : Int) : Decidable (ftOk xs k) := by unfold ftOk; infer_instance
def ftB (xs : List ByteArray) (k : Int) : Bool := if ftOk xs k then decide (mixL (cyX (xs.length - k.toNat) k.toNat) (xs.take k.toNat) (wid xs) = xs.drop k.toNat) else false
def ftE (xs : List ByteArray) (k : Int) : Nat := if ftOk xs k then 0 else 1
theorem TxL.drop {w : World} {g o : Nat} {xs : List ByteArray} (h : TxL w (some ⟨g, o, none⟩) xs) (k : Nat) : TxL w (some ⟨g, o + k, none⟩) (xs.drop k) := by
  intro i x hx
  rw [List.getElem?_drop] at hx
  obtain ⟨g2, o2, e, hg, hc⟩ := h (k + i) x hx
  obtain ⟨rfl, rfl⟩ : g = g2 ∧ o = o2 := by simpa using e
  exact ⟨g, o + k, rfl, hg, by rw [Nat.add_assoc]; exact hc⟩
set_option maxHeartbeats 1000000 in
set_option maxRecDepth 100000 in
theorem fits_any (a : Option Addr) (c n : Nat) (k : Int) (xs : List ByteArray) (w : World) (hx : TxL w a xs) (nx : xs.length = n) (hnc : n ≤ c) (hcm : c ≤ maxLen) (ln : n ≤ 4611686018427387904) (sx : ∀ x ∈ xs, x.size ≤ 281474976710656) (k1 : -9223372036854775808 ≤ k) (k2 : k ≤ 9223372036854775807) :
    Calls Try.prog 7 #[.slice a n c, .int .i64 k] w fun e w' => e = .returned (.tuple #[.bool (ftB xs k), .int .i64 (ftE xs k)]) ∧ Below w.heap.size w w' := by
  have c1 := fun W => together_any (n : Int) k W
  have c2 := fun W hW => even_any a c xs W hW (by omega)
  rw [nx] at c2
  have HX : Hid (TxL w a xs) := hx
  by_cases hk : (1 ≤ k ∧ k ≤ 32) ∧ k ≤ (n : Int) ∧ (n : Int) ≤ 64
  · rw [tgB, decide_eq_true hk] at c1
    have C1 : Hid _ := c1
    clear c1
    cases hev : evn xs with
    | false =>
      rw [hev] at c2
      have C2 : Hid _ := c2
      have e1 : ftB xs k = false := if_neg (fun h => by have := h.2; rw [hev] at this; cases this)
      have e2 : ftE xs k = 1 := if_neg (fun h => by have := h.2; rw [hev] at this; cases this)
      rw [e1, e2]
      clear c2 e1 e2 nx hx sx hk hev
      go_enter Try.func7, Try.ntmps7
      go_wp2_with fail
      refine Calls.mono (C1.out _) ?_
      rintro e w1 ⟨rfl, hw⟩
      subst hw
      go_wp2_with fail
      refine Calls.mono (C2.out _ HX.out) ?_
      rintro e w2 ⟨rfl, hb2⟩
      have B2 : Hid (Below w1.heap.size w1 w2) := hb2
      clear hb2
      go_wp2
      go_ret2
      exact ⟨rfl, B2.out⟩
    | true =>
      rw [hev] at c2
      have C2 : Hid _ := c2
      have hok : ftOk xs k := ⟨by rw [nx]; exact hk, hev⟩
      obtain ⟨q, rfl⟩ : ∃ q : Nat, k = q := ⟨k.toNat, by omega⟩
      have e1 : ftB xs (q : Int) = decide (mixL (cyX (n - q) q) (xs.take q) (wid xs) = xs.drop q) := by unfold ftB; rw [if_pos hok, Int.toNat_natCast, nx]
      have e2 : ftE xs (q : Int) = 0 := if_pos hok
      rw [e1, e2]
      have hq1 : 1 ≤ q := by omega
      have hq2 : q ≤ 32 := by omega
      have hqn : q ≤ n := by omega
      have hn6 : n ≤ 64 := by omega
      obtain ⟨x0, hx0⟩ : ∃ x0, xs[0]? = some x0 := ⟨_, List.getElem?_eq_getElem (by omega)⟩
      obtain ⟨ga, oa, rfl, hga, _⟩ := hx 0 x0 hx0
      have cl := cyX_len (n - q) q (by omega) hq1 (by omega)
      have c3 := fun W => parity_any (n - q) q W (by omega) hq1 (by omega)
      have c4 := fun ar cr W hW hV => mixed_any ar (some ⟨ga, oa, none⟩) cr c (n - q) q (wid xs) (cyX (n - q) q) (xs.take q) W hW hV cl (by rw [List.length_take, nx]; omega) (by omega) hq1 (by omega) (cyX_size (n - q) q (by omega) hq1 (by omega)) (fun x hx => evn_all xs hev x (List.mem_of_mem_take hx)) (wid_of (by omega) _ sx)
      have ml : (mixL (cyX (n - q) q) (xs.take q) (wid xs)).length = n - q := by rw [mixL_len, cl]
      have dl : (xs.drop q).length = n - q := by rw [List.length_drop, nx]
      have c5 := fun p b cp cb W hW hV => equal_any p b cp cb (mixL (cyX (n - q) q) (xs.take q) (wid xs)) (xs.drop q) W hW hV (by rw [ml]; omega) (by rw [dl]; omega)
      rw [ml, dl] at c5
      obtain ⟨R, hR⟩ : ∃ R, mixL (cyX (n - q) q) (xs.take q) (wid xs) = R := ⟨_, rfl⟩
      rw [hR] at c4 c5 ⊢
      obtain ⟨m, hm⟩ : ∃ m, n - q = m := ⟨_, rfl⟩
      rw [hm] at c3 c4 c5
      have hmz : (n : Int) - (q : Int) = (m : Int) := by omega
      have hmn : q + m = n := by omega
      have hqz : (q : Int) ≤ (n : Nat) := by omega
      have C3 : Hid _ := c3
      have C4 : Hid _ := c4
      have C5 : Hid _ := c5
      have HXa : Hid (TxL w (some ⟨ga, oa, none⟩) xs) := hx
      have NXs : Hid (xs.length = n) := nx
      clear c2 c3 c4 c5 hR hm hx0 cl ml dl e1 e2 hok hk hev nx hx sx HX k1 k2
      go_enter Try.func7, Try.ntmps7
      go_wp2_with fail
      refine Calls.mono (C1.out _) ?_
      rintro e w1 ⟨rfl, hw⟩
      subst hw
      go_wp2_with fail
      refine Calls.mono (C2.out _ HXa.out) ?_
      rintro e w2 ⟨rfl, hb2⟩
      have B2 : Hid (Below w1.heap.size w1 w2) := hb2
      have HX2 : Hid (TxL w2 (some ⟨ga, oa, none⟩) xs) := HXa.out.below hb2
      clear hb2
      have hwm : IntKind.i64.wrap (m : Int) = (m : Int) := by rw [IntKind.wrap_i64]; omega
      by_cases hcq : c = q
      · have HDR : Hid (∀ W, Below w2.heap.size w2 W → TxL W (some ⟨ga, oa, none⟩) (xs.drop q)) := fun W hW => by
          rw [List.drop_eq_nil_of_le (by rw [NXs.out]; omega)]
          intro i x hx
          simp at hx
        subst hcq
        have hnq : n - c = m := by omega
        go_wp2_with fail
        go_region_with (first
          | (go_at_call 13; refine Calls.mono (C3.out _) ?_; rintro e w3 ⟨ar, rfl, hM3, hb3⟩
             have HM3 : Hid (Mad w2.drew ar (cyX m c) w3) := hM3
             have B3 : Hid (Below w2.heap.size w2 w3) := (Below.refl w2.heap.size w2).drew.trans hb3
             clear hM3 hb3)
          | (go_at_call 12; refine Calls.mono (C4.out _ _ _ HM3.out.txl ((HX2.out.below B3.out).take c)) ?_; rintro e w4 ⟨ap, rfl, hM4, hb4⟩
             have HM4 : Hid (Mad w3 ap R w4) := hM4
             have B4 : Hid (Below w2.heap.size w2 w4) := B3.out.trans (hb4.mono B3.out.size)
             clear hM4 hb4)
          | (go_at_call 15; refine Calls.mono (C5.out _ _ _ _ _ HM4.out.txl (HDR.out _ B4.out)) ?_; rintro e w5 ⟨rfl, hb5⟩
             have B5 : Hid (Below w2.heap.size w2 w5) := B4.out.trans (hb5.mono B4.out.size)
             clear hb5))
        all_goals
          go_wp2
          go_ret2
          exact ⟨rfl, B2.out.trans (B5.out.mono B2.out.size)⟩
      · have HDR : Hid (∀ W, Below w2.heap.size w2 W → TxL W (some ⟨ga, oa + q, none⟩) (xs.drop q)) := fun W hW => (HX2.out.below hW).drop q
        have hnq : n - q = m := by omega
        go_wp2_with fail
        go_region_with (first
          | (go_at_call 13; refine Calls.mono (C3.out _) ?_; rintro e w3 ⟨ar, rfl, hM3, hb3⟩
             have HM3 : Hid (Mad w2.drew ar (cyX m q) w3) := hM3
             have B3 : Hid (Below w2.heap.size w2 w3) := (Below.refl w2.heap.size w2).drew.trans hb3
             clear hM3 hb3)
          | (go_at_call 12; refine Calls.mono (C4.out _ _ _ HM3.out.txl ((HX2.out.below B3.out).take q)) ?_; rintro e w4 ⟨ap, rfl, hM4, hb4⟩
             have HM4 : Hid (Mad w3 ap R w4) := hM4
             have B4 : Hid (Below w2.heap.size w2 w4) := B3.out.trans (hb4.mono B3.out.size)
             clear hM4 hb4)
          | (go_at_call 15; refine Calls.mono (C5.out _ _ _ _ _ HM4.out.txl (HDR.out _ B4.out)) ?_; rintro e w5 ⟨rfl, hb5⟩
             have B5 : Hid (Below w2.heap.size w2 w5) := B4.out.trans (hb5.mono B4.out.size)
             clear hb5))
        all_goals
          go_wp2
          go_ret2
          exact ⟨rfl, B2.out.trans (B5.out.mono B2.out.size)⟩
  · rw [tgB, decide_eq_false hk] at c1
    have C1 : Hid _ := c1
    have e1 : ftB xs k = false := if_neg (fun h => hk (by have := h.1; rw [nx] at this; exact this))
    have e2 : ftE xs k = 1 := if_neg (fun h => hk (by have := h.1; rw [nx] at this; exact this))
    rw [e1, e2]
    clear c1 c2 e1 e2 nx hx sx hk
    go_enter Try.func7, Try.ntmps7
    go_wp2_with fail
    refine Calls.mono (C1.out _) ?_
    rintro e w1 ⟨rfl, hw⟩
    subst hw
    go_wp2
    go_ret2
    exact ⟨rfl, Below.refl _ _⟩
end Go.Proofs.Ytblmblbkfdcbjab
