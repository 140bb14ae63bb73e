import Derived.Test.YtblmblbkfdcbjaaY12
import Derived.Test.YtblmblbkfdcbjaaY4
import Derived.Test.YtblmblbkfdcbjaaY5
/- slices.Equal of texts; shards.Fits. -/
namespace Go.Proofs.Ytblmblbkfdcbjaa
open Go.RowKit
set_option linter.unusedSimpArgs false
set_option linter.unusedVariables false
set_option maxHeartbeats 1000000 in
set_option maxRecDepth 100000 in
theorem equal_any (a b : Option Addr) (ca cb : Nat) (xs ys : List ByteArray) (w : World) (hx : TxL w a xs) (hy : TxL w b ys) (nx : xs.length ≤ 4611686018427387904) (ny : ys.length ≤ 4611686018427387904) :
    Calls Try.prog 55 #[.slice a xs.length ca, .slice b ys.length cb] w fun e w' => e = .returned (.bool (decide (xs = ys))) ∧ Below w.heap.size w w' := by
  have HX : Hid (TxL w a xs) := hx
  have HY : Hid (TxL w b ys) := hy
  clear hx hy
  by_cases hl : xs.length = ys.length
  · obtain ⟨n, hn⟩ : ∃ n, xs.length = n := ⟨_, rfl⟩
    have hn2 : ys.length = n := by omega
    have HL : Hid (xs.length = n ∧ ys.length = n) := ⟨hn, hn2⟩
    rw [hn, hn2]
    have hnn : n ≤ 4611686018427387904 := by omega
    clear hn hn2 hl nx ny
    go_enter Try.func55, Try.ntmps55
    go_wp2
    go_loopw [13] (fun v wr => ∃ k : Nat, v = .int .i64 k ∧ k ≤ n ∧ Hid (Below w.heap.size w wr) ∧ Hid (∀ i, i < k → xs[i]? = ys[i]?)) (fun v _ => n - (intOf v).toNat)
    case atStart => exact ⟨0, rfl, Nat.zero_le _, Below.refl _ _, fun i hi => by omega⟩
    case round =>
      obtain ⟨k, rfl, hk, HB, HE⟩ := hrel
      by_cases hlt : k < n
      · obtain ⟨x, hx⟩ : ∃ x, xs[k]? = some x := ⟨xs[k]'(by rw [HL.out.1]; exact hlt), List.getElem?_eq_getElem _⟩
        obtain ⟨y, hy⟩ : ∃ y, ys[k]? = some y := ⟨ys[k]'(by rw [HL.out.2]; exact hlt), List.getElem?_eq_getElem _⟩
        obtain ⟨g, o, rfl, hg, hc⟩ := HX.out.below HB.out k x hx
        obtain ⟨g2, o2, rfl, hg2, hc2⟩ := HY.out.below HB.out k y hy
        have H1 : Hid (xs[k]? = some x ∧ ys[k]? = some y) := ⟨hx, hy⟩
        clear hx hy
        have hkz : (k : Int) < (n : Nat) := by omega
        have hbn := str_ne x y
        by_cases he : x = y
        · subst he
          simp only [decide_true, Bool.not_true] at hbn
          go_wp2
          go_quiet (fail)
          go_wp2
          go_roundw
          case rel =>
            refine ⟨k + 1, by go_num, by omega, below_drewN HB.out _, fun i hi => ?_⟩
            by_cases hik : i < k
            · exact HE.out i hik
            · obtain rfl : i = k := by omega
              rw [H1.out.1, H1.out.2]
          case measure => simp [intOf]; omega
        · simp only [he, decide_false, Bool.not_false] at hbn
          have hbe : (x.toList == y.toList) = false := by simpa [bne] using hbn
          go_wp2
          go_quiet (fail)
          go_wp2
          go_ret
          refine ⟨?_, below_drewN HB.out _⟩
          have : decide (xs = ys) = false := decide_eq_false fun e => he (by
            have := H1.out
            rw [e] at this
            exact Option.some.inj (this.1.symm.trans this.2))
          rw [this]; rfl
      · go_wp2
        go_ret
        refine ⟨?_, HB.out⟩
        have : decide (xs = ys) = true := decide_eq_true (List.ext_getElem? fun i => by
          by_cases hi : i < n
          · exact HE.out i (by omega)
          · rw [List.getElem?_eq_none (by rw [HL.out.1]; omega), List.getElem?_eq_none (by rw [HL.out.2]; omega)])
        rw [this]; rfl
  · have hz : ((xs.length : Int) != (ys.length : Int)) = true := by simp; omega
    have hd : decide (xs = ys) = false := decide_eq_false fun e => hl (by rw [e])
    rw [hd]
    clear hd HX HY
    go_enter Try.func55, Try.ntmps55
    go_wp2
    go_ret
    exact ⟨rfl, Below.refl _ _⟩
/-- Do shards go together? -/
def ftOk (xs : List ByteArray) (k : Int) : Prop := ((1 ≤ k ∧ k ≤ 32) ∧ k ≤ (xs.length : Int) ∧ (xs.length : Int) ≤ 64) ∧ evn xs = true
instance (xs : List ByteArray) (k : Int) : Decidable (ftOk xs k) := by unfold ftOk; infer_instance
def ftB (xs : List ByteArray) (k : Int) : Bool := if ftOk xs k then decide (mixL (cyX (xs.length - k.toNat) k.toNat) (xs.take k.toNat) (wid xs) = xs.drop k.toNat) else false
def ftE (xs : List ByteArray) (k : Int) : Nat := if ftOk xs k then 0 else 1
theorem TxL.drop {w : World} {g o : Nat} {xs : List ByteArray} (h : TxL w (some ⟨g, o, none⟩) xs) (k : Nat) : TxL w (some ⟨g, o + k, none⟩) (xs.drop k) := by
  intro i x hx
  rw [List.getElem?_drop] at hx
  obtain ⟨g2, o2, e, hg, hc⟩ := h (k + i) x hx
  obtain ⟨rfl, rfl⟩ : g = g2 ∧ o = o2 := by simpa using e
  exact ⟨g, o + k, rfl, hg, by rw [Nat.add_assoc]; exact hc⟩
set_option maxHeartbeats 1000000 in
set_option maxRecDepth 100000 in
theorem fits_any (a : Option Addr) (c n : Nat) (k : Int) (xs : List ByteArray) (w : World) (hx : TxL w a xs) (nx : xs.length = n) (hnc : n ≤ c) (hcm : c ≤ maxLen) (ln : n ≤ 4611686018427387904) (sx : ∀ x ∈ xs, x.size ≤ 281474976710656) (k1 : -9223372036854775808 ≤ k) (k2 : k ≤ 9223372036854775807) :
    Calls Try.prog 29 #[.slice a n c, .int .i64 k] w fun e w' => e = .returned (.tuple #[.bool (ftB xs k), .int .i64 (ftE xs k)]) ∧ Below w.heap.size w w' := by
  have c1 := fun W => together_any (n : Int) k W
  have c2 := fun W hW => even_any a c xs W hW (by omega)
  rw [nx] at c2
  have HX : Hid (TxL w a xs) := hx
  by_cases hk : (1 ≤ k ∧ k ≤ 32) ∧ k ≤ (n : Int) ∧ (n : Int) ≤ 64
  · rw [tgB, decide_eq_true hk] at c1
    have C1 : Hid _ := c1
    clear c1
    cases hev : evn xs with
    | false =>
      rw [hev] at c2
      have C2 : Hid _ := c2
      have e1 : ftB xs k = false := if_neg (fun h => by have := h.2; rw [hev] at this; cases this)
      have e2 : ftE xs k = 1 := if_neg (fun h => by have := h.2; rw [hev] at this; cases this)
      rw [e1, e2]
      clear c2 e1 e2 nx hx sx hk hev
      go_enter Try.func29, Try.ntmps29
      go_wp2_with fail
      refine Calls.mono (C1.out _) ?_
      rintro e w1 ⟨rfl, hw⟩
      subst hw
      go_wp2_with fail
      refine Calls.mono (C2.out _ HX.out) ?_
      rintro e w2 ⟨rfl, hb2⟩
      have B2 : Hid (Below w1.heap.size w1 w2) := hb2
      clear hb2
      go_wp2
      go_ret2
      exact ⟨rfl, B2.out⟩
    | true =>
      rw [hev] at c2
      have C2 : Hid _ := c2
      have hok : ftOk xs k := ⟨by rw [nx]; exact hk, hev⟩
      obtain ⟨q, rfl⟩ : ∃ q : Nat, k = q := ⟨k.toNat, by omega⟩
      have e1 : ftB xs (q : Int) = decide (mixL (cyX (n - q) q) (xs.take q) (wid xs) = xs.drop q) := by unfold ftB; rw [if_pos hok, Int.toNat_natCast, nx]
      have e2 : ftE xs (q : Int) = 0 := if_pos hok
      rw [e1, e2]
      have hq1 : 1 ≤ q := by omega
      have hq2 : q ≤ 32 := by omega
      have hqn : q ≤ n := by omega
      have hn6 : n ≤ 64 := by omega
      obtain ⟨x0, hx0⟩ : ∃ x0, xs[0]? = some x0 := ⟨_, List.getElem?_eq_getElem (by omega)⟩
      obtain ⟨ga, oa, rfl, hga, _⟩ := hx 0 x0 hx0
      have cl := cyX_len (n - q) q (by omega) hq1 (by omega)
      have c3 := fun W => parity_any (n - q) q W (by omega) hq1 (by omega)
      have c4 := fun ar cr W hW hV => mixed_any ar (some ⟨ga, oa, none⟩) cr c (n - q) q (wid xs) (cyX (n - q) q) (xs.take q) W hW hV cl (by rw [List.length_take, nx]; omega) (by omega) hq1 (by omega) (cyX_size (n - q) q (by omega) hq1 (by omega)) (fun x hx => evn_all xs hev x (List.mem_of_mem_take hx)) (wid_of (by omega) _ sx)
      have ml : (mixL (cyX (n - q) q) (xs.take q) (wid xs)).length = n - q := by rw [mixL_len, cl]
      have dl : (xs.drop q).length = n - q := by rw [List.length_drop, nx]
      have c5 := fun p b cp cb W hW hV => equal_any p b cp cb (mixL (cyX (n - q) q) (xs.take q) (wid xs)) (xs.drop q) W hW hV (by rw [ml]; omega) (by rw [dl]; omega)
      rw [ml, dl] at c5
      obtain ⟨R, hR⟩ : ∃ R, mixL (cyX (n - q) q) (xs.take q) (wid xs) = R := ⟨_, rfl⟩
      rw [hR] at c4 c5 ⊢
      obtain ⟨m, hm⟩ : ∃ m, n - q = m := ⟨_, rfl⟩
      rw [hm] at c3 c4 c5
      have hmz : (n : Int) - (q : Int) = (m : Int) := by omega
      have hmn : q + m = n := by omega
      have hqz : (q : Int) ≤ (n : Nat) := by omega
      have C3 : Hid _ := c3
      have C4 : Hid _ := c4
      have C5 : Hid _ := c5
      have HXa : Hid (TxL w (some ⟨ga, oa, none⟩) xs) := hx
      have NXs : Hid (xs.length = n) := nx
      clear c2 c3 c4 c5 hR hm hx0 cl ml dl e1 e2 hok hk hev nx hx sx HX k1 k2
      go_enter Try.func29, Try.ntmps29
      go_wp2_with fail
      refine Calls.mono (C1.out _) ?_
      rintro e w1 ⟨rfl, hw⟩
      subst hw
      go_wp2_with fail
      refine Calls.mono (C2.out _ HXa.out) ?_
      rintro e w2 ⟨rfl, hb2⟩
      have B2 : Hid (Below w1.heap.size w1 w2) := hb2
      have HX2 : Hid (TxL w2 (some ⟨ga, oa, none⟩) xs) := HXa.out.below hb2
      clear hb2
      have hwm : IntKind.i64.wrap (m : Int) = (m : Int) := by rw [IntKind.wrap_i64]; omega
      by_cases hcq : c = q
      · have HDR : Hid (∀ W, Below w2.heap.size w2 W → TxL W (some ⟨ga, oa, none⟩) (xs.drop q)) := fun W hW => by
          rw [List.drop_eq_nil_of_le (by rw [NXs.out]; omega)]
          intro i x hx
          simp at hx
        subst hcq
        have hnq : n - c = m := by omega
        go_wp2_with fail
        go_region_with (first
          | (go_at_call 49; refine Calls.mono (C3.out _) ?_; rintro e w3 ⟨ar, rfl, hM3, hb3⟩
             have HM3 : Hid (Mad w2.drew ar (cyX m c) w3) := hM3
             have B3 : Hid (Below w2.heap.size w2 w3) := (Below.refl w2.heap.size w2).drew.trans hb3
             clear hM3 hb3)
          | (go_at_call 48; refine Calls.mono (C4.out _ _ _ HM3.out.txl ((HX2.out.below B3.out).take c)) ?_; rintro e w4 ⟨ap, rfl, hM4, hb4⟩
             have HM4 : Hid (Mad w3 ap R w4) := hM4
             have B4 : Hid (Below w2.heap.size w2 w4) := B3.out.trans (hb4.mono B3.out.size)
             clear hM4 hb4)
          | (go_at_call 55; refine Calls.mono (C5.out _ _ _ _ _ HM4.out.txl (HDR.out _ B4.out)) ?_; rintro e w5 ⟨rfl, hb5⟩
             have B5 : Hid (Below w2.heap.size w2 w5) := B4.out.trans (hb5.mono B4.out.size)
             clear hb5))
        all_goals
          go_wp2
          go_ret2
          exact ⟨rfl, B2.out.trans (B5.out.mono B2.out.size)⟩
      · have HDR : Hid (∀ W, Below w2.heap.size w2 W → TxL W (some ⟨ga, oa + q, none⟩) (xs.drop q)) := fun W hW => (HX2.out.below hW).drop q
        have hnq : n - q = m := by omega
        go_wp2_with fail
        go_region_with (first
          | (go_at_call 49; refine Calls.mono (C3.out _) ?_; rintro e w3 ⟨ar, rfl, hM3, hb3⟩
             have HM3 : Hid (Mad w2.drew ar (cyX m q) w3) := hM3
             have B3 : Hid (Below w2.heap.size w2 w3) := (Below.refl w2.heap.size w2).drew.trans hb3
             clear hM3 hb3)
          | (go_at_call 48; refine Calls.mono (C4.out _ _ _ HM3.out.txl ((HX2.out.below B3.out).take q)) ?_; rintro e w4 ⟨ap, rfl, hM4, hb4⟩
             have HM4 : Hid (Mad w3 ap R w4) := hM4
             have B4 : Hid (Below w2.heap.size w2 w4) := B3.out.trans (hb4.mono B3.out.size)
             clear hM4 hb4)
          | (go_at_call 55; refine Calls.mono (C5.out _ _ _ _ _ HM4.out.txl (HDR.out _ B4.out)) ?_; rintro e w5 ⟨rfl, hb5⟩
             have B5 : Hid (Below w2.heap.size w2 w5) := B4.out.trans (hb5.mono B4.out.size)
             clear hb5))
        all_goals
          go_wp2
          go_ret2
          exact ⟨rfl, B2.out.trans (B5.out.mono B2.out.size)⟩
  · rw [tgB, decide_eq_false hk] at c1
    have C1 : Hid _ := c1
    have e1 : ftB xs k = false := if_neg (fun h => hk (by have := h.1; rw [nx] at this; exact this))
    have e2 : ftE xs k = 1 := if_neg (fun h => hk (by have := h.1; rw [nx] at this; exact this))
    rw [e1, e2]
    clear c1 c2 e1 e2 nx hx sx hk
    go_enter Try.func29, Try.ntmps29
    go_wp2_with fail
    refine Calls.mono (C1.out _) ?_
    rintro e w1 ⟨rfl, hw⟩
    subst hw
    go_wp2
    go_ret2
    exact ⟨rfl, Below.refl _ _⟩
end Go.Proofs.Ytblmblbkfdcbjaa
/- A text cut into shards: shards.Cut. -/
namespace Go.Proofs.Ytblmblbkfdcbjaa
open Go.RowKit
set_option linter.unusedSimpArgs false
set_option linter.unusedVariables false
/-- A shard's length; the shards; the errors. -/
def cw (N k : Nat) : Nat := if N % k = 0 then N / k else N / k + 1
def cutL (s : ByteArray) (k : Nat) : List ByteArray := (List.range k).map fun i => mkT (fl (cw s.size k) fun j => bt s (i * cw s.size k + j))
def cuX (s : ByteArray) (k : Int) : List ByteArray := if 1 ≤ k ∧ k ≤ 32 then cutL s k.toNat else []
def cuE (k : Int) : Nat := if 1 ≤ k ∧ k ≤ 32 then 0 else 1
theorem cutL_len (s : ByteArray) (k : Nat) : (cutL s k).length = k := by simp [cutL]
theorem cutL_at (s : ByteArray) (k i : Nat) (h : i < k) : (cutL s k)[i]? = some (mkT (fl (cw s.size k) fun j => bt s (i * cw s.size k + j))) := by rw [cutL, List.getElem?_map, List.getElem?_range h]; rfl
theorem cuX_len (s : ByteArray) (k : Int) : (cuX s k).length ≤ 64 := by
  unfold cuX
  split
  · rw [cutL_len]; omega
  · simp
theorem cw_le (N k : Nat) (h : 1 ≤ k) : cw N k ≤ N := by
  unfold cw
  have := Nat.div_le_self N k
  split
  · exact this
  · rename_i h0
    have h1 : k ≠ 1 := fun e => h0 (by rw [e, Nat.mod_one])
    have h2 : N ≠ 0 := fun e => h0 (by rw [e, Nat.zero_mod])
    have := Nat.div_lt_self (n := N) (k := k) (by omega) (by omega)
    omega
theorem cw_ge (N k : Nat) (h : 1 ≤ k) : N ≤ k * cw N k := by
  unfold cw
  have := Nat.div_add_mod N k
  have hm := Nat.mod_lt N (show 0 < k by omega)
  split
  · omega
  · rw [Nat.mul_add, Nat.mul_one]; omega
theorem bt_cut (s : ByteArray) (x j : Nat) : bt (s.extract x s.size) j = bt s (x + j) := by
  by_cases h : x + j < s.size
  · have h1 : j < (s.extract x s.size).size := by rw [ByteArray.size_extract]; omega
    rw [← bt_at _ _ h1, ← bt_at _ _ h, ByteArray.getElem_extract]
  · rw [bt_out s _ (by omega), bt_out _ _ (by rw [ByteArray.size_extract]; omega)]
theorem bt_none (j : Nat) : bt ByteArray.empty j = 0 := bt_out _ _ (by show (0 : Nat) ≤ j; omega)
theorem copy_cut (t : ByteArray) (D g : Nat) (W : World) (hB : Bk W g (rc (fl D fun _ => 0)) 5) :
    ∃ v W2, (Builtin.copy_ #[44, 9] 3 #[.slice (some ⟨g, 0, none⟩) D D, .string t]).run Try.prog W = .ok v W2 ∧ Bk W2 g (rc (fl D (bt t))) 5 ∧ W.grownBy W2 (some g) ∧ W2.heap.size = W.heap.size := by
  have hi : (Try.prog.info? 5).map (·.size) = some 1 := by kernel_rfl
  have hm : Nat.min t.size D ≤ D := Nat.min_le_right _ _
  have hm2 : Nat.min t.size D ≤ t.size := Nat.min_le_left _ _
  have hm3 : ∀ p, p < D → ¬ p < Nat.min t.size D → t.size ≤ p := fun p h1 h2 => by
    by_cases h : t.size ≤ D
    · rw [show Nat.min t.size D = t.size from Nat.min_eq_left h] at h2; omega
    · rw [show Nat.min t.size D = D from Nat.min_eq_right (by omega)] at h2; omega
  have h := copy_txt W 44 9 3 5 g 0 D D t (P := Try.prog) Try.underlying44 hi (fun j hj => by
      rw [Nat.zero_add, hB.cell, rc_get, fl_get D _ j (by omega)]; rfl) (fun j hj => hB.frozen _)
  obtain ⟨m, hmm⟩ : ∃ m, Nat.min t.size D = m := ⟨_, rfl⟩
  rw [hmm] at h hm hm2 hm3
  refine ⟨_, _, h, ?_, gr_puts g _ _ (World.grownBy.refl _ _), setCells_size g _ _ _⟩
  have h2 := Bk.puts (rc (t.data.toList.take m)).toList 0 _ W hB
  have hl : (t.data.toList.take m).length = m := by rw [List.length_take, Array.length_toList]; exact Nat.min_eq_left hm2
  rw [putC_rc _ _ _ (by rw [fl_len, hl]; omega)] at h2
  have e : putB (fl D fun _ => 0) 0 (t.data.toList.take m) = fl D (bt t) := by
    apply List.ext_getElem?
    intro p
    rw [putB_get _ _ _ (by rw [fl_len, hl]; omega), hl]
    by_cases hp : p < D
    · rw [fl_get D _ p hp, fl_get D _ p hp]
      by_cases hq : p < m
      · rw [if_pos ⟨by omega, by omega⟩, Nat.sub_zero, List.getElem?_take, if_pos hq, bt, List.getD]
        have : p < t.data.toList.length := by rw [Array.length_toList]; show p < t.size; omega
        rw [List.getElem?_eq_getElem this]; rfl
      · rw [if_neg (by omega), bt_out t p (hm3 p hp hq)]
    · rw [if_neg (by omega), List.getElem?_eq_none (by rw [fl_len]; omega), List.getElem?_eq_none (by rw [fl_len]; omega)]
  rw [e] at h2
  exact h2
set_option maxHeartbeats 1000000 in
set_option maxRecDepth 100000 in
theorem cut_any (s : ByteArray) (k : Int) (w : World) (hs : s.size ≤ 140737488351232) (k1 : -9223372036854775808 ≤ k) (k2 : k ≤ 9223372036854775807) :
    Calls Try.prog 20 #[.string s, .int .i64 k] w fun e w' => ∃ ao, e = .returned (.tuple #[.slice ao (cuX s k).length (cuX s k).length, .int .i64 (cuE k)]) ∧ Mad w ao (cuX s k) w' ∧ Below w.heap.size w w' := by
  have hh := hold_any k
  by_cases h1 : 1 ≤ k ∧ k ≤ 32
  · rw [hlB, decide_eq_true h1] at hh
    have C1 : Hid _ := hh
    have e1 : cuX s k = cutL s k.toNat := if_pos h1
    have e2 : cuE k = 0 := if_pos h1
    obtain ⟨n, rfl⟩ : ∃ n : Nat, k = n := ⟨k.toNat, by omega⟩
    rw [e1, e2, Int.toNat_natCast, cutL_len]
    clear hh e1 e2
    obtain ⟨h1a, h1b⟩ := h1
    have hn1 : 1 ≤ n := by omega
    have hn2 : n ≤ 32 := by omega
    have hcl := cw_le s.size n hn1
    have hcw : cw s.size n = if s.size % n = 0 then s.size / n else s.size / n + 1 := rfl
    have hmk := make_txts n (by omega)
    have hmu := make_u8 (cw s.size n) (by omega)
    have HL : Hid (∀ i, i < n → (cutL s n)[i]? = some (mkT (fl (cw s.size n) fun j => bt s (i * cw s.size n + j)))) := fun i hi => cutL_at s n i hi
    have NL : Hid ((cutL s n).length = n) := cutL_len s n
    obtain ⟨D, hD⟩ : ∃ D, cw s.size n = D := ⟨_, rfl⟩
    obtain ⟨Q, hQ⟩ : ∃ Q, s.size / n = Q := ⟨_, rfl⟩
    obtain ⟨R, hR⟩ : ∃ R, s.size % n = R := ⟨_, rfl⟩
    rw [hD, hQ, hR] at hcw
    rw [hD] at hcl hmu HL
    have hq0 : ((n : Int) == 0) = false := by rw [beq_eq_false_iff_ne]; omega
    have hdt : (s.size : Int).tdiv (n : Int) = (Q : Int) := by rw [Int.tdiv_eq_ediv_of_nonneg (by omega), ← hQ]; exact (Int.natCast_ediv _ _).symm
    have hmt : (s.size : Int).tmod (n : Int) = (R : Int) := by rw [Int.tmod_eq_emod_of_nonneg (by omega), ← hR]; exact (Int.natCast_emod _ _).symm
    have hdz : (s.size : Int) / (n : Int) = (Q : Int) := by rw [← hQ]; exact (Int.natCast_ediv _ _).symm
    have hmz : (s.size : Int) % (n : Int) = (R : Int) := by rw [← hR]; exact (Int.natCast_emod _ _).symm
    have hQs : Q ≤ s.size := by rw [← hQ]; exact Nat.div_le_self _ _
    have hRs : R ≤ s.size := by rw [← hR]; exact Nat.mod_le _ _
    clear hQ hR hD
    have hQR : (R = 0 ∧ D = Q) ∨ (R ≠ 0 ∧ D = Q + 1) := by
      by_cases h : R = 0
      · rw [if_pos h] at hcw; exact .inl ⟨h, hcw⟩
      · rw [if_neg h] at hcw; exact .inr ⟨h, hcw⟩
    clear hcw
    rcases hQR with ⟨hR0, hQ1⟩ | ⟨hR0, hQ1⟩
    · subst hQ1
      subst hR0
      go_enter Try.func20, Try.ntmps20
      go_wp2_with fail
      refine Calls.mono (C1.out _) ?_
      rintro e w1 ⟨rfl, hw⟩
      subst hw
      go_wp2_with fail
      go_loopw [28] (fun v wr => ∃ i : Nat, i ≤ n ∧ v = .int .i64 i ∧ Hid (Bk wr w1.heap.size (txc (prt (cutL s n) i)) 9) ∧ Hid (Below w1.heap.size w1 wr) ∧ w1.heap.size < wr.heap.size) (fun v _ => n - (intOf v).toNat)
      case atStart =>
        refine ⟨0, by omega, rfl, ?_, (Below.refl _ _).alloc (Nat.le_refl _) _, by rw [al_size]; omega⟩
        show Bk _ _ _ _
        rw [prt_zero, NL.out]
        exact bk_new w1 _ _
      case round =>
        obtain ⟨i, hi, rfl, HT, HW, hsz⟩ := hrel
        by_cases hlt : i < n
        · have hiz : (i : Int) < (n : Nat) := by omega
          obtain ⟨x, hx⟩ : ∃ x, i * D = x := ⟨_, rfl⟩
          have hxz : (i : Int) * (D : Int) = (x : Int) := by rw [← hx]; exact (Int.natCast_mul _ _).symm
          have hxb : x ≤ 4611686018427387904 := by
            rw [← hx]
            exact Nat.le_trans (Nat.mul_le_mul (show i ≤ 32 by omega) (show D ≤ 140737488351232 by omega)) (by decide)
          by_cases hxs : s.size < x
          · have hxs2 : ¬ x ≤ s.size := by omega
            obtain ⟨v, W2, hcp, hB2, hG2, hs2⟩ := copy_cut ByteArray.empty D wr.heap.size (wr.alloc (.cells (rc (fl D fun _ => 0)) 5)) (bk_new wr _ _)
            have hfl : fl D (bt ByteArray.empty) = fl D (fun j => bt s (i * D + j)) := fl_congr D _ _ (fun p hp => by rw [bt_none, bt_out s _ (by rw [hx]; omega)])
            rw [hfl] at hB2
            rw [al_size] at hs2
            have hcv := conv_all (fl D fun j => bt s (i * D + j)) wr.heap.size D D 5 W2 (fl_len _ _) hB2
            have HWa : Below w1.heap.size w1 W2 := below_own (HW.out.alloc (by omega) _) (by rw [al_size]; omega) hG2 (by omega)
            have HT2 : Bk W2 w1.heap.size (txc (prt (cutL s n) i)) 9 := (HT.out.alloc _).grown hG2 (by simp; omega)
            have hc4 : W2.cell? ⟨w1.heap.size, i, none⟩ = some (.string (mkT [])) := by rw [HT2.cell, txc_get, prt_at _ i (by rw [NL.out]; exact hlt)]; rfl
            have hf4 := HT2.frozen i
            have HN : Hid (Bk (W2.setCell ⟨w1.heap.size, i, none⟩ (.string (mkT (fl D fun j => bt s (i * D + j))))) w1.heap.size (txc (prt (cutL s n) (i + 1))) 9) := by
              show Bk _ _ _ _
              rw [← prt_next _ i _ (HL.out i hlt), ← txc_set]
              exact HT2.set i _
            obtain ⟨pt, hpt⟩ : ∃ pt, mkT (fl D fun j => bt s (i * D + j)) = pt := ⟨_, rfl⟩
            rw [hpt] at hcv HN
            have HWn : Hid (Below w1.heap.size w1 (W2.setCell ⟨w1.heap.size, i, none⟩ (.string pt))) := HWa.setCell (Nat.le_refl _) _
            have hszn : w1.heap.size < (W2.setCell ⟨w1.heap.size, i, none⟩ (.string pt)).heap.size := by simp [World.setCell]; omega
            clear hB2 hG2 hfl HWa HT2 hpt hx HT HW
            go_wp2
            go_roundw
            case rel => exact ⟨i + 1, by omega, by go_num, HN.out, HWn.out, hszn⟩
            case measure => simp [intOf]; omega
          · have hxs2 : x ≤ s.size := by omega
            have hxs3 : (x : Int) ≤ (s.size : Nat) := by omega
            obtain ⟨v, W2, hcp, hB2, hG2, hs2⟩ := copy_cut (s.extract x s.size) D wr.heap.size (wr.alloc (.cells (rc (fl D fun _ => 0)) 5)) (bk_new wr _ _)
            have hfl : fl D (bt (s.extract x s.size)) = fl D (fun j => bt s (i * D + j)) := fl_congr D _ _ (fun p hp => by rw [bt_cut, hx])
            rw [hfl] at hB2
            rw [al_size] at hs2
            have hcv := conv_all (fl D fun j => bt s (i * D + j)) wr.heap.size D D 5 W2 (fl_len _ _) hB2
            have HWa : Below w1.heap.size w1 W2 := below_own (HW.out.alloc (by omega) _) (by rw [al_size]; omega) hG2 (by omega)
            have HT2 : Bk W2 w1.heap.size (txc (prt (cutL s n) i)) 9 := (HT.out.alloc _).grown hG2 (by simp; omega)
            have hc4 : W2.cell? ⟨w1.heap.size, i, none⟩ = some (.string (mkT [])) := by rw [HT2.cell, txc_get, prt_at _ i (by rw [NL.out]; exact hlt)]; rfl
            have hf4 := HT2.frozen i
            have HN : Hid (Bk (W2.setCell ⟨w1.heap.size, i, none⟩ (.string (mkT (fl D fun j => bt s (i * D + j))))) w1.heap.size (txc (prt (cutL s n) (i + 1))) 9) := by
              show Bk _ _ _ _
              rw [← prt_next _ i _ (HL.out i hlt), ← txc_set]
              exact HT2.set i _
            obtain ⟨pt, hpt⟩ : ∃ pt, mkT (fl D fun j => bt s (i * D + j)) = pt := ⟨_, rfl⟩
            rw [hpt] at hcv HN
            have HWn : Hid (Below w1.heap.size w1 (W2.setCell ⟨w1.heap.size, i, none⟩ (.string pt))) := HWa.setCell (Nat.le_refl _) _
            have hszn : w1.heap.size < (W2.setCell ⟨w1.heap.size, i, none⟩ (.string pt)).heap.size := by simp [World.setCell]; omega
            clear hB2 hG2 hfl HWa HT2 hpt hx HT HW
            go_wp2
            go_roundw
            case rel => exact ⟨i + 1, by omega, by go_num, HN.out, HWn.out, hszn⟩
            case measure => simp [intOf]; omega
        · have hiz : ¬ (i : Int) < (n : Nat) := by omega
          have hin : i = n := by omega
          have HF : Hid (Bk wr w1.heap.size (txc (cutL s n)) 9) := by
            have := HT.out
            have e := prt_all (cutL s n)
            rw [NL.out] at e
            rw [hin, e] at this
            exact this
          clear hin
          go_wp2
          go_ret2
          exact ⟨_, rfl, .inr ⟨_, rfl, Nat.le_refl _, HF.out⟩, HW.out⟩
    · have hQ2 : (Q : Int) + 1 = (D : Int) := by omega
      have hDb : (D : Int) ≤ 140737488351232 := by omega
      have hDa : (0 : Int) ≤ (D : Int) := by omega
      clear hQ1
      have hR1 : ((R : Int) == 0) = false := by rw [beq_eq_false_iff_ne]; omega
      go_enter Try.func20, Try.ntmps20
      go_wp2_with fail
      refine Calls.mono (C1.out _) ?_
      rintro e w1 ⟨rfl, hw⟩
      subst hw
      go_wp2_with fail
      go_loopw [28] (fun v wr => ∃ i : Nat, i ≤ n ∧ v = .int .i64 i ∧ Hid (Bk wr w1.heap.size (txc (prt (cutL s n) i)) 9) ∧ Hid (Below w1.heap.size w1 wr) ∧ w1.heap.size < wr.heap.size) (fun v _ => n - (intOf v).toNat)
      case atStart =>
        refine ⟨0, by omega, rfl, ?_, (Below.refl _ _).alloc (Nat.le_refl _) _, by rw [al_size]; omega⟩
        show Bk _ _ _ _
        rw [prt_zero, NL.out]
        exact bk_new w1 _ _
      case round =>
        obtain ⟨i, hi, rfl, HT, HW, hsz⟩ := hrel
        by_cases hlt : i < n
        · have hiz : (i : Int) < (n : Nat) := by omega
          obtain ⟨x, hx⟩ : ∃ x, i * D = x := ⟨_, rfl⟩
          have hxz : (i : Int) * (D : Int) = (x : Int) := by rw [← hx]; exact (Int.natCast_mul _ _).symm
          have hxb : x ≤ 4611686018427387904 := by
            rw [← hx]
            exact Nat.le_trans (Nat.mul_le_mul (show i ≤ 32 by omega) (show D ≤ 140737488351232 by omega)) (by decide)
          by_cases hxs : s.size < x
          · have hxs2 : ¬ x ≤ s.size := by omega
            obtain ⟨v, W2, hcp, hB2, hG2, hs2⟩ := copy_cut ByteArray.empty D wr.heap.size (wr.alloc (.cells (rc (fl D fun _ => 0)) 5)) (bk_new wr _ _)
            have hfl : fl D (bt ByteArray.empty) = fl D (fun j => bt s (i * D + j)) := fl_congr D _ _ (fun p hp => by rw [bt_none, bt_out s _ (by rw [hx]; omega)])
            rw [hfl] at hB2
            rw [al_size] at hs2
            have hcv := conv_all (fl D fun j => bt s (i * D + j)) wr.heap.size D D 5 W2 (fl_len _ _) hB2
            have HWa : Below w1.heap.size w1 W2 := below_own (HW.out.alloc (by omega) _) (by rw [al_size]; omega) hG2 (by omega)
            have HT2 : Bk W2 w1.heap.size (txc (prt (cutL s n) i)) 9 := (HT.out.alloc _).grown hG2 (by simp; omega)
            have hc4 : W2.cell? ⟨w1.heap.size, i, none⟩ = some (.string (mkT [])) := by rw [HT2.cell, txc_get, prt_at _ i (by rw [NL.out]; exact hlt)]; rfl
            have hf4 := HT2.frozen i
            have HN : Hid (Bk (W2.setCell ⟨w1.heap.size, i, none⟩ (.string (mkT (fl D fun j => bt s (i * D + j))))) w1.heap.size (txc (prt (cutL s n) (i + 1))) 9) := by
              show Bk _ _ _ _
              rw [← prt_next _ i _ (HL.out i hlt), ← txc_set]
              exact HT2.set i _
            obtain ⟨pt, hpt⟩ : ∃ pt, mkT (fl D fun j => bt s (i * D + j)) = pt := ⟨_, rfl⟩
            rw [hpt] at hcv HN
            have HWn : Hid (Below w1.heap.size w1 (W2.setCell ⟨w1.heap.size, i, none⟩ (.string pt))) := HWa.setCell (Nat.le_refl _) _
            have hszn : w1.heap.size < (W2.setCell ⟨w1.heap.size, i, none⟩ (.string pt)).heap.size := by simp [World.setCell]; omega
            clear hB2 hG2 hfl HWa HT2 hpt hx HT HW
            go_wp2
            go_roundw
            case rel => exact ⟨i + 1, by omega, by go_num, HN.out, HWn.out, hszn⟩
            case measure => simp [intOf]; omega
          · have hxs2 : x ≤ s.size := by omega
            have hxs3 : (x : Int) ≤ (s.size : Nat) := by omega
            obtain ⟨v, W2, hcp, hB2, hG2, hs2⟩ := copy_cut (s.extract x s.size) D wr.heap.size (wr.alloc (.cells (rc (fl D fun _ => 0)) 5)) (bk_new wr _ _)
            have hfl : fl D (bt (s.extract x s.size)) = fl D (fun j => bt s (i * D + j)) := fl_congr D _ _ (fun p hp => by rw [bt_cut, hx])
            rw [hfl] at hB2
            rw [al_size] at hs2
            have hcv := conv_all (fl D fun j => bt s (i * D + j)) wr.heap.size D D 5 W2 (fl_len _ _) hB2
            have HWa : Below w1.heap.size w1 W2 := below_own (HW.out.alloc (by omega) _) (by rw [al_size]; omega) hG2 (by omega)
            have HT2 : Bk W2 w1.heap.size (txc (prt (cutL s n) i)) 9 := (HT.out.alloc _).grown hG2 (by simp; omega)
            have hc4 : W2.cell? ⟨w1.heap.size, i, none⟩ = some (.string (mkT [])) := by rw [HT2.cell, txc_get, prt_at _ i (by rw [NL.out]; exact hlt)]; rfl
            have hf4 := HT2.frozen i
            have HN : Hid (Bk (W2.setCell ⟨w1.heap.size, i, none⟩ (.string (mkT (fl D fun j => bt s (i * D + j))))) w1.heap.size (txc (prt (cutL s n) (i + 1))) 9) := by
              show Bk _ _ _ _
              rw [← prt_next _ i _ (HL.out i hlt), ← txc_set]
              exact HT2.set i _
            obtain ⟨pt, hpt⟩ : ∃ pt, mkT (fl D fun j => bt s (i * D + j)) = pt := ⟨_, rfl⟩
            rw [hpt] at hcv HN
            have HWn : Hid (Below w1.heap.size w1 (W2.setCell ⟨w1.heap.size, i, none⟩ (.string pt))) := HWa.setCell (Nat.le_refl _) _
            have hszn : w1.heap.size < (W2.setCell ⟨w1.heap.size, i, none⟩ (.string pt)).heap.size := by simp [World.setCell]; omega
            clear hB2 hG2 hfl HWa HT2 hpt hx HT HW
            go_wp2
            go_roundw
            case rel => exact ⟨i + 1, by omega, by go_num, HN.out, HWn.out, hszn⟩
            case measure => simp [intOf]; omega
        · have hiz : ¬ (i : Int) < (n : Nat) := by omega
          have hin : i = n := by omega
          have HF : Hid (Bk wr w1.heap.size (txc (cutL s n)) 9) := by
            have := HT.out
            have e := prt_all (cutL s n)
            rw [NL.out] at e
            rw [hin, e] at this
            exact this
          clear hin
          go_wp2
          go_ret2
          exact ⟨_, rfl, .inr ⟨_, rfl, Nat.le_refl _, HF.out⟩, HW.out⟩
  · rw [hlB, decide_eq_false h1] at hh
    have C1 : Hid _ := hh
    have e1 : cuX s k = [] := if_neg h1
    have e2 : cuE k = 1 := if_neg h1
    rw [e1, e2]
    clear hh e1 e2 h1
    go_enter Try.func20, Try.ntmps20
    go_wp2_with fail
    refine Calls.mono (C1.out _) ?_
    rintro e w1 ⟨rfl, hw⟩
    subst hw
    go_wp2
    go_ret2
    exact ⟨none, rfl, .inl ⟨rfl, rfl⟩, Below.refl _ _⟩
end Go.Proofs.Ytblmblbkfdcbjaa
