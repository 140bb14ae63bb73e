/- The walk of FieldMatrices. -/
import Derived.Test.YtblmblbkfdcbjaaF35
import Derived.Test.YtblmblbkfdcbjaaF16M
import Derived.Test.YtblmblbkfdcbjaaM6
import Derived.Test.YtblmblbkfdcbjaaL19F
import Derived.Deep.RegionHeld3
namespace Go.Proofs.Ytblmblbkfdcbjaa
open Go.RowKit
set_option linter.unusedSimpArgs false
set_option linter.unusedVariables false
/-- A list in a block of the call's own, a text behind it. -/
def Mk (w : World) (g : Nat) (xs : List ByteArray) (m : ByteArray) : Prop := ∃ cur, Bk w g cur 9 ∧ ∀ (j : Nat) (x : ByteArray), (xs ++ [m])[j]? = some x → cur[j]? = some (.string x)
theorem Mk.lt {w : World} {g : Nat} {xs : List ByteArray} {m : ByteArray} (h : Mk w g xs m) : g < w.heap.size := by
  obtain ⟨cur, hB, _⟩ := h
  exact hB.lt
theorem Mk.txl {w : World} {g : Nat} {xs : List ByteArray} {m : ByteArray} (h : Mk w g xs m) : TxL w (some ⟨g, 0, none⟩) xs := by
  obtain ⟨cur, hB, hc⟩ := h
  intro i x hx
  refine ⟨g, 0, rfl, hB.lt, ?_⟩
  rw [Nat.zero_add, hB.cell]
  exact hc i x (by rw [List.getElem?_append_left (List.getElem?_eq_some_iff.1 hx).1]; exact hx)
theorem Mk.mark {w : World} {g : Nat} {xs : List ByteArray} {m : ByteArray} (h : Mk w g xs m) : w.cell? ⟨g, xs.length, none⟩ = some (.string m) := by
  obtain ⟨cur, hB, hc⟩ := h
  rw [hB.cell]
  exact hc _ m (by simp)
theorem Mk.grown {w w' : World} {g : Nat} {xs : List ByteArray} {m : ByteArray} {r : Option Nat} (h : Mk w g xs m) (hg : w.grownBy w' r) (hr : r ≠ some g) : Mk w' g xs m := by
  obtain ⟨cur, hB, hc⟩ := h
  exact ⟨cur, hB.grown hg hr, hc⟩
theorem Mk.below {w w' : World} {g : Nat} {xs : List ByteArray} {m : ByteArray} (h : Mk w g xs m) (hb : Below w.heap.size w w') : Mk w' g xs m := h.grown (gr_of_below hb none) (by simp)
theorem Mk.set {w : World} {g : Nat} {xs : List ByteArray} {m : ByteArray} (h : Mk w g xs m) (i : Nat) (hi : i < xs.length) (x : ByteArray) : Mk (w.setCell ⟨g, i, none⟩ (.string x)) g (xs.set i x) m := by
  obtain ⟨cur, hB, hc⟩ := h
  refine ⟨_, hB.set i _, fun j y hy => ?_⟩
  have h0 := hc i xs[i] (by rw [List.getElem?_append_left hi, List.getElem?_eq_getElem hi])
  have hic : i < cur.size := (Array.getElem?_eq_some_iff.1 h0).1
  rw [← List.set_append_left _ _ hi, List.getElem?_set] at hy
  rw [Array.getElem?_setIfInBounds]
  by_cases e : i = j
  · subst e
    rw [if_pos rfl, if_pos (by simp; omega)] at hy
    cases hy
    rw [if_pos rfl, if_pos hic]
  · rw [if_neg e] at hy ⊢
    exact hc j y hy
theorem Mk.other {w : World} {g g' : Nat} {xs : List ByteArray} {m : ByteArray} (h : Mk w g xs m) (hne : g' ≠ g) (i : Nat) (v : Value) : Mk (w.setCell ⟨g', i, none⟩ v) g xs m :=
  h.grown (Lib.grownBy_setB (gr_refl w (some g')) i v) (by simpa using hne)
/-- A row of texts of the call's own with one more behind. -/
theorem mk_of {w : World} {B k : Nat} {v : Value} {xs : List ByteArray} {m : ByteArray} (h : w.ownsRow B 9 1 v (k + 1) (sv (xs ++ [m]))) :
    ∃ g cap, v = .slice (some ⟨g, 0, none⟩) (k + 1) cap ∧ B ≤ g ∧ Mk w g xs m ∧ k + 1 ≤ cap ∧ cap ≤ maxLen := by
  obtain ⟨g, cap, cur, h1, h2, h3, h4, h5, h6⟩ := own_block_at h
  exact ⟨g, cap, h1, h2, ⟨cur, h3, h6⟩, h4, h5⟩
set_option maxHeartbeats 4000000 in
set_option maxRecDepth 100000 in
theorem matrices_walk (a b : Option Addr) (ca cb n k : Nat) (xs ys : List ByteArray) (w : World) (hx : TxL w a xs) (hy : TxL w b ys) (nx : xs.length = n) (ny : ys.length = k) (lx : n * 16 ≤ 140737488351232) (ly : k * 16 ≤ 140737488351232)
    (sx : ∀ x ∈ xs, x.size ≤ 140737488351232) (sy : ∀ x ∈ ys, x.size ≤ 140737488351232) :
    Calls Try.prog 3 #[.slice a n ca, .slice b k cb] w fun e w' => e = .returned (.bool true) ∧ Below w.heap.size w w' := by
  have HX : Hid (TxL w a xs) := hx
  have HY : Hid (TxL w b ys) := hy
  have NX : Hid (xs.length = n) := nx
  have NY : Hid (ys.length = k) := ny
  clear hx hy nx ny
  obtain ⟨i0, hi, hz0, hz1s, hz2⟩ := info_parts inf_str
  go_enter Try.func3, Try.ntmps3
  go_wp2_with (at_builtin; refine wpList_append_txts _ rfl _ _ rfl w.heap.size _ [] xs 0 n ca rfl rfl NX.out (World.ownsRow_made (size := 1) w #[] 0 (Nat.le_refl _) (by unfold maxLen; omega) rfl) (by simp) a rfl (HX.out.alloc _) (by omega) ?_)
  intro v1 w1 ho1 hg1
  have HO1 : Hid (w1.ownsRow w.heap.size 9 1 v1 n (sv xs)) := ho1
  have HB1 : Hid (Below w.heap.size w w1) := by
    refine ((Below.refl _ _).alloc (Nat.le_refl _) _).grown hg1 (by simp) (fun g hg => ?_)
    simp [Value.ownBlock] at hg; omega
  have hz1 : w.heap.size ≤ w1.heap.size := HB1.out.size
  clear ho1 hg1
  go_wp2_with (at_builtin; refine wpList_append_own _ rfl _ _ 22 rfl w.heap.size 9 i0 (.string ⟨#[]⟩) 1 16 Try.underlying22 hi hz0 hz1s hz2 rfl (by decide) _ _ _ rfl (HO1.out.alloc _) ⟨w1.heap.size, 0, none⟩ 1 1 [.string ⟨#[109, 97, 114, 107]⟩] rfl rfl (news_one _ _ _) (one_str _) (by unfold maxLen; omega) (by omega) (by simp; omega) ?_)
  intro v2 w2 ho2 hg2 _
  obtain ⟨gx, cx, rfl, lx2, hm2, cx1, cx2⟩ := mk_of (xs := xs) (by rw [sv_append]; exact ho2)
  have MX2 : Hid (Mk w2 gx xs ⟨#[109, 97, 114, 107]⟩) := hm2
  have HB2 : Hid (Below w.heap.size w w2) := apn_bel HB1.out hz1 HO1.out hg2
  have hz2' : w.heap.size ≤ w2.heap.size := HB2.out.size
  clear ho2 hg2 hm2 HO1
  go_wp2_with (at_builtin; refine wpList_append_txts _ rfl _ _ rfl w2.heap.size _ [] ys 0 k cb rfl rfl NY.out (World.ownsRow_made (size := 1) w2 #[] 0 (Nat.le_refl _) (by unfold maxLen; omega) rfl) (by simp) b rfl ((HY.out.below HB2.out).alloc _) (by omega) ?_)
  intro v3 w3 ho3 hg3
  have HO3 : Hid (w3.ownsRow w2.heap.size 9 1 v3 k (sv ys)) := ho3
  have HB3 : Hid (Below w2.heap.size w2 w3) := by
    refine ((Below.refl _ _).alloc (Nat.le_refl _) _).grown hg3 (by simp) (fun g hg => ?_)
    simp [Value.ownBlock] at hg; omega
  have hz3 : w2.heap.size ≤ w3.heap.size := HB3.out.size
  clear ho3 hg3
  go_wp2_with (at_builtin; refine wpList_append_own _ rfl _ _ 22 rfl w2.heap.size 9 i0 (.string ⟨#[]⟩) 1 16 Try.underlying22 hi hz0 hz1s hz2 rfl (by decide) _ _ _ rfl (HO3.out.alloc _) ⟨w3.heap.size, 0, none⟩ 1 1 [.string ⟨#[109, 97, 114, 107]⟩] rfl rfl (news_one _ _ _) (one_str _) (by unfold maxLen; omega) (by omega) (by simp; omega) ?_)
  intro v4 w4 ho4 hg4 _
  obtain ⟨gy, cy, rfl, ly4, hm4, cy1, cy2⟩ := mk_of (xs := ys) (by rw [sv_append]; exact ho4)
  have MY4 : Hid (Mk w4 gy ys ⟨#[109, 97, 114, 107]⟩) := hm4
  have HB24 : Hid (Below w2.heap.size w2 w4) := apn_bel HB3.out hz3 HO3.out hg4
  have hz4' : w2.heap.size ≤ w4.heap.size := HB24.out.size
  have MX4 : Hid (Mk w4 gx xs ⟨#[109, 97, 114, 107]⟩) := MX2.out.below HB24.out
  have HB4 : Hid (Below w.heap.size w w4) := HB2.out.trans (HB24.out.mono hz2')
  have hgx : gx < w2.heap.size := MX2.out.lt
  have hne : gx ≠ gy := by omega
  clear ho4 hg4 hm4 HO3 HB24 HB3 MX2 HB1
  have SX : Hid (∀ x ∈ xs, x.size ≤ 140737488351232) := sx
  have SY : Hid (∀ x ∈ ys, x.size ≤ 140737488351232) := sy
  clear sx sy HB2 HX
  go_wp2_with fail
  go_loopw [9] (fun t wr => ∃ (r : Nat) (zs : List ByteArray), r ≤ 2 ∧ t = .int .i64 r ∧ Hid (zs.length = n) ∧ Hid (∀ x ∈ zs, x.size ≤ 140737488351232) ∧ Hid (Mk wr gx zs ⟨#[109, 97, 114, 107]⟩) ∧ Hid (Mk wr gy ys ⟨#[109, 97, 114, 107]⟩) ∧ Hid (Below w.heap.size w wr)) (fun t _ => 2 - (intOf t).toNat)
  case atStart => exact ⟨0, xs, by omega, rfl, NX.out, SX.out, MX4.out, MY4.out, HB4.out⟩
  case round =>
    obtain ⟨r, zs, hr2, rfl, NZ, SZ, MX, MY, HB⟩ := hrel
    have hzr : w.heap.size ≤ wr.heap.size := HB.out.size
    by_cases hlt : r < 2
    · have hrz : (r : Int) < 2 := by omega
      go_wp2_with (at_builtin; refine wpList_append_txts _ rfl _ _ rfl wr.heap.size _ [] zs 0 n cx rfl rfl NZ.out (World.ownsRow_made (size := 1) wr #[] 0 (Nat.le_refl _) (by unfold maxLen; omega) rfl) (by simp) (some ⟨gx, 0, none⟩) rfl (MX.out.txl.alloc _) (by omega) ?_)
      intro v5 w5 ho5 hg5
      have hb5 : Below wr.heap.size wr w5 := by
        refine ((Below.refl _ _).alloc (Nat.le_refl _) _).grown hg5 (by simp) (fun g hg => ?_)
        simp [Value.ownBlock] at hg; omega
      obtain ⟨aw, cw, hv5, hta, _⟩ := own_txl (xs := zs) (by rw [NZ.out]; exact ho5)
      rw [NZ.out] at hv5
      subst hv5
      have HB5 : Hid (Below w.heap.size w w5) := HB.out.trans (hb5.mono hzr)
      have hz5 : w.heap.size ≤ w5.heap.size := HB5.out.size
      have TA : Hid (TxL w5 aw zs) := hta
      have MX5 : Hid (Mk w5 gx zs ⟨#[109, 97, 114, 107]⟩) := MX.out.below hb5
      have MY5 : Hid (Mk w5 gy ys ⟨#[109, 97, 114, 107]⟩) := MY.out.below hb5
      have TB : Hid (TxL w5 b ys) := HY.out.below HB5.out
      clear ho5 hg5 hb5 hta MX MY HB
      have sz : ∀ x ∈ zs, x.size ≤ 4611686018427387904 := fun x hx => by have := SZ.out x hx; omega
      have sy : ∀ x ∈ ys, x.size ≤ 4611686018427387904 := fun x hx => by have := SY.out x hx; omega
      have ln : zs.length ≤ 4611686018427387904 := by rw [NZ.out]; omega
      have lk : ys.length ≤ 4611686018427387904 := by rw [NY.out]; omega
      have c1 := fun W hW => rcheck_any aw cw zs W hW ln sz
      have c2 := fun W hW => check_any (some ⟨gx, 0, none⟩) cx zs W hW ln sz
      have c3 := fun W hW hV => rp_any aw b cw cb zs ys W hW hV ln sz lk sy
      have c4 := fun W hW hV => fp_any (some ⟨gx, 0, none⟩) (some ⟨gy, 0, none⟩) cx cy zs ys W hW hV ln sz lk sy
      have c5 := fun W hW => ri_any aw cw zs W hW ln sz
      have c6 := fun W hW => invert_any (some ⟨gx, 0, none⟩) cx zs W hW ln sz
      have c7 := fun W hW => rrank_any aw cw zs W hW ln sz
      have c8 := fun W hW => rank_any (some ⟨gx, 0, none⟩) cx zs W hW ln sz
      have c9 := fun W hW hV => rsame_any (some ⟨gx, 0, none⟩) aw cx cw zs zs W hW hV ln ln
      have c10 := fun W hW hV => rsame_any (some ⟨gy, 0, none⟩) b cy cb ys ys W hW hV lk lk
      rw [decide_eq_true rfl] at c9 c10
      have l1 := pdX_len zs ys
      have l2 := ivX_len zs
      obtain ⟨P, hP⟩ : ∃ P, pdX zs ys = P := ⟨_, rfl⟩
      obtain ⟨I, hI⟩ : ∃ I, ivX zs = I := ⟨_, rfl⟩
      obtain ⟨E1, hE1⟩ : ∃ E, pdE zs ys = E := ⟨_, rfl⟩
      obtain ⟨E2, hE2⟩ : ∃ E, ivE zs = E := ⟨_, rfl⟩
      obtain ⟨R1, hR1⟩ : ∃ E, ckR zs = E := ⟨_, rfl⟩
      obtain ⟨R2, hR2⟩ : ∃ E, ckC zs = E := ⟨_, rfl⟩
      obtain ⟨R3, hR3⟩ : ∃ E, ckE zs = E := ⟨_, rfl⟩
      obtain ⟨R4, hR4⟩ : ∃ E, rkM zs = E := ⟨_, rfl⟩
      obtain ⟨p1, hp1⟩ : ∃ E, P.length = E := ⟨_, rfl⟩
      obtain ⟨p2, hp2⟩ : ∃ E, I.length = E := ⟨_, rfl⟩
      rw [NZ.out] at c1 c2 c3 c4 c5 c6 c7 c8 c9
      rw [NY.out] at c3 c4 c10
      rw [hR1, hR2, hR3] at c1 c2
      rw [hP, hE1, hp1] at c3 c4
      rw [hI, hE2, hp2] at c5 c6
      rw [hR4, hR3] at c7 c8
      rw [hP, hp1] at l1
      rw [hI, hp2] at l2
      have C1 : Hid _ := c1
      have C2 : Hid _ := c2
      have C3 : Hid _ := c3
      have C4 : Hid _ := c4
      have C5 : Hid _ := c5
      have C6 : Hid _ := c6
      have C7 : Hid _ := c7
      have C8 : Hid _ := c8
      have C9 : Hid _ := c9
      have C10 : Hid _ := c10
      have HP1 : Hid (P.length = p1) := hp1
      have HP2 : Hid (I.length = p2) := hp2
      clear c1 c2 c3 c4 c5 c6 c7 c8 c9 c10 hP hI hE1 hE2 hR1 hR2 hR3 hR4 hp1 hp2 sz sy ln lk
      go_wp2_with fail
      refine Calls.mono (C1.out _ TA.out) ?_
      rintro e w6 ⟨rfl, hb6⟩
      have B6 : Hid (Below w5.heap.size w5 w6) := hb6
      clear hb6
      go_wp2_with fail
      refine Calls.mono (C2.out _ (MX5.out.below B6.out).txl) ?_
      rintro e w7 ⟨rfl, ⟨dn, hw7⟩⟩
      have B7 : Hid (Below w5.heap.size w5 w7) := by rw [hw7]; exact below_drewN B6.out dn
      clear hw7 B6
      go_wp2_with fail
      refine Calls.mono (C3.out _ (TA.out.below B7.out) (TB.out.below B7.out)) ?_
      rintro e w8 ⟨pa, pc, rfl, hA, hb8⟩
      have PA8 : Hid (Ans w7 pa P w8) := hA
      have B8 : Hid (Below w5.heap.size w5 w8) := B7.out.trans (hb8.mono B7.out.size)
      have z8 : w7.heap.size ≤ w8.heap.size := hb8.size
      clear hA hb8
      go_wp2_with fail
      refine Calls.mono (C4.out _ (MX5.out.below B8.out).txl (MY5.out.below B8.out).txl) ?_
      rintro e w9 ⟨pq, rfl, hA, hb9⟩
      have PQ9 : Hid (Mad w8 pq P w9) := hA
      have PA9 : Hid (Ans w7 pa P w9) := PA8.out.below hb9
      have B9 : Hid (Below w5.heap.size w5 w9) := B8.out.trans (hb9.mono B8.out.size)
      have z9 : w8.heap.size ≤ w9.heap.size := hb9.size
      clear hA hb9
      go_wp2_with fail
      refine Calls.mono (C4.out _ (MX5.out.below B9.out).txl (MY5.out.below B9.out).txl) ?_
      rintro e w10 ⟨pr, rfl, hA, hb10⟩
      have B10 : Hid (Below w5.heap.size w5 w10) := B9.out.trans (hb10.mono B9.out.size)
      have f1 := fresh_of (c2 := p1) (c3 := pc) HP1.out l1 (PA9.out.below hb10) (PQ9.out.below hb10) hA (fun b o s e => (PA8.out.2 b o s e).2) (fun b o s e => (PQ9.out.lo b o s e).2)
      have F1 : Hid _ := f1
      clear f1 hA hb10
      go_wp2_with fail
      refine Calls.mono F1.out ?_
      rintro e w11 ⟨rfl, hg11⟩
      have B11 : Hid (Below w5.heap.size w5 w11) := B10.out.grown hg11 B10.out.size (fun g hg => by
        obtain ⟨o, s, e⟩ := map_block hg
        have h1 := PQ9.out.lo g o s e
        have := B8.out.size
        omega)
      clear hg11 F1 B10 B9 B8 B7 PA8 PA9 PQ9
      go_wp2_with fail
      refine Calls.mono (C5.out _ (TA.out.below B11.out)) ?_
      rintro e w12 ⟨ia, ic, rfl, hA, hb⟩
      have PA12 : Hid (Ans w11 ia I w12) := hA
      have B12 : Hid (Below w5.heap.size w5 w12) := B11.out.trans (hb.mono B11.out.size)
      have z12 : w11.heap.size ≤ w12.heap.size := hb.size
      clear hA hb
      go_wp2_with fail
      refine Calls.mono (C6.out _ (MX5.out.below B12.out).txl) ?_
      rintro e w13 ⟨iq, rfl, hA, hb13⟩
      have PQ13 : Hid (Mad w12 iq I w13) := hA
      have PA13 : Hid (Ans w11 ia I w13) := PA12.out.below hb13
      have B13 : Hid (Below w5.heap.size w5 w13) := B12.out.trans (hb13.mono B12.out.size)
      have z13 : w12.heap.size ≤ w13.heap.size := hb13.size
      clear hA hb13
      go_wp2_with fail
      refine Calls.mono (C6.out _ (MX5.out.below B13.out).txl) ?_
      rintro e w14 ⟨ir, rfl, hA, hb14⟩
      have B14 : Hid (Below w5.heap.size w5 w14) := B13.out.trans (hb14.mono B13.out.size)
      have f1 := fresh_of (c2 := p2) (c3 := ic) HP2.out l2 (PA13.out.below hb14) (PQ13.out.below hb14) hA (fun b o s e => (PA12.out.2 b o s e).2) (fun b o s e => (PQ13.out.lo b o s e).2)
      have F1 : Hid _ := f1
      clear f1 hA hb14
      go_wp2_with fail
      refine Calls.mono F1.out ?_
      rintro e w15 ⟨rfl, hg15⟩
      have B15 : Hid (Below w5.heap.size w5 w15) := B14.out.grown hg15 B14.out.size (fun g hg => by
        obtain ⟨o, s, e⟩ := map_block hg
        have h1 := PQ13.out.lo g o s e
        have := B12.out.size
        omega)
      clear hg15 F1 B14 B13 B12 PA12 PA13 PQ13 B11
      go_wp2_with fail
      refine Calls.mono (C7.out _ (TA.out.below B15.out)) ?_
      rintro e w16 ⟨rfl, hb⟩
      have B16 : Hid (Below w5.heap.size w5 w16) := B15.out.trans (hb.mono B15.out.size)
      clear hb
      go_wp2_with fail
      refine Calls.mono (C8.out _ (MX5.out.below B16.out).txl) ?_
      rintro e w17 ⟨rfl, hb⟩
      have B17 : Hid (Below w5.heap.size w5 w17) := B16.out.trans (hb.mono B16.out.size)
      clear hb B16 B15
      go_wp2_with fail
      refine Calls.mono (C9.out _ (MX5.out.below B17.out).txl (TA.out.below B17.out)) ?_
      rintro e w18 ⟨rfl, hb⟩
      have B18 : Hid (Below w5.heap.size w5 w18) := B17.out.trans (hb.mono B17.out.size)
      clear hb
      go_wp2_with fail
      refine Calls.mono (C10.out _ (MY5.out.below B18.out).txl (TB.out.below B18.out)) ?_
      rintro e w19 ⟨rfl, hb⟩
      have B19 : Hid (Below w5.heap.size w5 w19) := B18.out.trans (hb.mono B18.out.size)
      clear hb B17 B18 C1 C2 C3 C4 C5 C6 C7 C8 C9 C10
      have m1 := (MX5.out.below B19.out).mark
      rw [NZ.out] at m1
      have m2 := (MY5.out.below B19.out).mark
      rw [NY.out] at m2
      go_wp2_with fail
      clear m1 m2
      have MXs : Hid (Mk w19 gx zs ⟨#[109, 97, 114, 107]⟩) := MX5.out.below B19.out
      have MYs : Hid (Mk w19 gy ys ⟨#[109, 97, 114, 107]⟩) := MY5.out.below B19.out
      have HBs : Hid (Below w.heap.size w w19) := HB5.out.trans (B19.out.mono hz5)
      go_loopw [23] (fun t wr => ∃ (i : Nat) (us : List ByteArray), i ≤ n / 2 ∧ t = .int .i64 i ∧ Hid (us.length = n) ∧ Hid (∀ x ∈ us, x.size ≤ 140737488351232) ∧ Hid (Mk wr gx us ⟨#[109, 97, 114, 107]⟩) ∧ Hid (Mk wr gy ys ⟨#[109, 97, 114, 107]⟩) ∧ Hid (Below w.heap.size w wr)) (fun t _ => n / 2 - (intOf t).toNat)
      case atStart => exact ⟨0, zs, by omega, rfl, NZ.out, SZ.out, MXs.out, MYs.out, HBs.out⟩
      case round =>
        clear MXs MYs HBs B19 MX5 MY5 TA TB HB5 NZ SZ
        obtain ⟨i, us, hi2, rfl, NU, SU, MX, MY, HB⟩ := hrel
        have hzr : w.heap.size ≤ wr.heap.size := HB.out.size
        by_cases hlt2 : i < n / 2
        · have hiz : (i : Int) < (n : Int) / 2 := by omega
          obtain ⟨m, hm⟩ : ∃ m : Nat, n = m + 1 + i := ⟨n - 1 - i, by omega⟩
          have hmz : (n : Int) - 1 - (i : Int) = (m : Int) := by omega
          have hmn : m < n := by omega
          have him : i ≠ m := by omega
          obtain ⟨A, hA⟩ : ∃ A, us[i]? = some A := ⟨_, List.getElem?_eq_getElem (by rw [NU.out]; omega)⟩
          obtain ⟨C, hC⟩ : ∃ C, us[m]? = some C := ⟨_, List.getElem?_eq_getElem (by rw [NU.out]; omega)⟩
          obtain ⟨cur, hB, hc⟩ := MX.out
          have e1 : wr.cell? ⟨gx, i, none⟩ = some (.string A) := by rw [hB.cell]; exact hc i A (by rw [List.getElem?_append_left (by rw [NU.out]; omega)]; exact hA)
          have e2 : wr.cell? ⟨gx, m, none⟩ = some (.string C) := by rw [hB.cell]; exact hc m C (by rw [List.getElem?_append_left (by rw [NU.out]; omega)]; exact hC)
          have f1 := hB.frozen i
          have f2 := hB.frozen m
          have e3 : (wr.setCell ⟨gx, i, none⟩ (.string C)).cell? ⟨gx, m, none⟩ = some (.string C) := by
            rw [cel_other (by intro e; exact him (Addr.mk.inj e).2.1)]; exact e2
          have f3 : (wr.setCell ⟨gx, i, none⟩ (.string C)).frozen? ⟨gx, m, none⟩ = false := by rw [World.frozen?_setCell]; exact f2
          have MXn : Hid (Mk ((wr.setCell ⟨gx, i, none⟩ (.string C)).setCell ⟨gx, m, none⟩ (.string A)) gx ((us.set i C).set m A) ⟨#[109, 97, 114, 107]⟩) := (MX.out.set i (by rw [NU.out]; omega) C).set m (by rw [List.length_set, NU.out]; omega) A
          have MYn : Hid (Mk ((wr.setCell ⟨gx, i, none⟩ (.string C)).setCell ⟨gx, m, none⟩ (.string A)) gy ys ⟨#[109, 97, 114, 107]⟩) := (MY.out.other hne i _).other hne m _
          have HBn : Hid (Below w.heap.size w ((wr.setCell ⟨gx, i, none⟩ (.string C)).setCell ⟨gx, m, none⟩ (.string A))) := (HB.out.setCell lx2 _).setCell lx2 _
          have NUn : Hid (((us.set i C).set m A).length = n) := by show _ = n; rw [List.length_set, List.length_set, NU.out]
          have SUn : Hid (∀ x ∈ (us.set i C).set m A, x.size ≤ 140737488351232) := fun x hx => by
            rcases List.mem_or_eq_of_mem_set hx with h | h
            · rcases List.mem_or_eq_of_mem_set h with h | h
              · exact SU.out x h
              · rw [h]; exact SU.out C (List.mem_of_getElem? hC)
            · rw [h]; exact SU.out A (List.mem_of_getElem? hA)
          clear hB hc hA hC MX MY HB NU SU
          go_wp2_with fail
          go_big_region
          go_wp2
          go_roundw
          case rel => exact ⟨i + 1, _, by omega, by go_num, NUn.out, SUn.out, MXn.out.below (Below.refl _ _).drew, MYn.out.below (Below.refl _ _).drew, HBn.out.drew⟩
          case measure => simp [intOf]; omega
        · have hiz : ¬ (i : Int) < (n : Int) / 2 := by omega
          go_wp2
          go_roundw
          case rel => exact ⟨r + 1, us, by omega, by go_num, NU.out, SU.out, MX.out, MY.out, HB.out⟩
          case measure => simp [intOf]; omega
    · go_wp2
      go_ret
      exact ⟨rfl, HB.out⟩
end Go.Proofs.Ytblmblbkfdcbjaa
