/- The walk of FieldSquares. -/
import Derived.Test.YtefmabfhephdjabK8
import Derived.Test.YtefmabfhephdjabF12
import Derived.Test.YtefmabfhephdjabL19F
import Derived.Deep.RegionHeld3
namespace Go.Proofs.Ytefmabfhephdjab
open Go.RowKit
set_option linter.unusedSimpArgs false
set_option linter.unusedVariables false
theorem side_of (r : Int) : ∃ (r1 : Int) (R0 R : Nat), r.tmod 64 = r1 ∧ -64 < r1 ∧ r1 < 64 ∧ (r1 + 64) % 64 = (R0 : Int) ∧ (r1 + 64).tmod 64 = (R0 : Int) ∧ (1 : Int) + (R0 : Int) = (R : Int) ∧ R0 < 64 ∧ 1 ≤ R ∧ R ≤ 64 := by
  obtain ⟨r1, h1, h2, h3⟩ : ∃ r1, r.tmod 64 = r1 ∧ -64 < r1 ∧ r1 < 64 := by
    refine ⟨_, rfl, ?_, ?_⟩
    · rcases Int.lt_or_le r 0 with h | h
      · have e : r.tmod 64 = -((-r) % 64) := by
          have := Int.neg_tmod (-r) 64
          rw [Int.neg_neg] at this
          rw [this, Int.tmod_eq_emod_of_nonneg (by omega)]
        omega
      · rw [Int.tmod_eq_emod_of_nonneg h]; omega
    · rcases Int.lt_or_le r 0 with h | h
      · have e : r.tmod 64 = -((-r) % 64) := by
          have := Int.neg_tmod (-r) 64
          rw [Int.neg_neg] at this
          rw [this, Int.tmod_eq_emod_of_nonneg (by omega)]
        omega
      · rw [Int.tmod_eq_emod_of_nonneg h]; omega
  refine ⟨r1, ((r1 + 64) % 64).toNat, ((r1 + 64) % 64).toNat + 1, h1, h2, h3, by omega, ?_, by omega, by omega, by omega, by omega⟩
  rw [Int.tmod_eq_emod_of_nonneg (by omega)]
  omega
/-- What the loops rest on: the matrix, and the places that were picked. -/
structure Sq (w : World) (g : Nat) (m : List ByteArray) (b1 b2 : Option Addr) (ps qs : List Nat) : Prop where
  m : Bk w g (txc m) 9
  p : ∀ (i x : Nat), ps[i]? = some x → ∃ g, b1 = some ⟨g, 0, none⟩ ∧ g < w.heap.size ∧ w.cell? ⟨g, i, none⟩ = some (.int .i64 (x : Int))
  q : ∀ (i x : Nat), qs[i]? = some x → ∃ g, b2 = some ⟨g, 0, none⟩ ∧ g < w.heap.size ∧ w.cell? ⟨g, i, none⟩ = some (.int .i64 (x : Int))
theorem Sq.below {w w' : World} {g : Nat} {m : List ByteArray} {b1 b2 : Option Addr} {ps qs : List Nat} (h : Sq w g m b1 b2 ps qs) (hb : Below w.heap.size w w') : Sq w' g m b1 b2 ps qs := by
  refine ⟨h.m.below hb h.m.lt, fun i x hx => ?_, fun i x hx => ?_⟩
  · obtain ⟨g2, e, hg, hc⟩ := h.p i x hx
    exact ⟨g2, e, Nat.lt_of_lt_of_le hg hb.size, by rw [hb.cell (p := ⟨g2, i, none⟩) hg]; exact hc⟩
  · obtain ⟨g2, e, hg, hc⟩ := h.q i x hx
    exact ⟨g2, e, Nat.lt_of_lt_of_le hg hb.size, by rw [hb.cell (p := ⟨g2, i, none⟩) hg]; exact hc⟩
theorem own_byts {w : World} {B : Nat} {v : Value} {l : List UInt8} {e : TypeId} (h : w.ownsRow B e 1 v l.length (bv l)) (hl : 1 ≤ l.length) : ∃ g c, v = .slice (some ⟨g, 0, none⟩) l.length c ∧ ∀ (i : Nat) (x : UInt8), l[i]? = some x → w.cell? ⟨g, i, none⟩ = some (c8 x) := by
  rcases h.2 with ⟨rfl, h0⟩ | ⟨g, cap, cur, rfl, hle, hg, hn, _, hc, ht⟩
  · omega
  · refine ⟨g, cap, rfl, fun i x hi => ?_⟩
    have hil : i < l.length := (List.getElem?_eq_some_iff.1 hi).1
    have e := congrArg (·[i]?) ht
    rw [Nat.mul_one] at e
    simp only [List.getElem?_take, if_pos hil, bv, List.getElem?_map, hi, Option.map_some] at e
    simp only [World.cell?, hg]
    rw [← Array.getElem?_toList]; exact e
theorem conv_byts (l : List UInt8) (g cap : Nat) (w : World) (hB : ∀ (i : Nat) (x : UInt8), l[i]? = some x → w.cell? ⟨g, i, none⟩ = some (c8 x)) :
    (convert 34 9 (.slice (some ⟨g, 0, none⟩) l.length cap)).run Try.prog w = .ok (.string (mkT l)) w := by
  have h := run_convert_bytes_arg w 34 5 Try.underlying34 Try.underlying5 g 0 l.length cap (l.map fun x : UInt8 => (x.toNat : Int)) (by simp) (fun i hi => by
    rw [Nat.zero_add, hB i l[i] (List.getElem?_eq_getElem hi), List.getD, List.getElem?_map, List.getElem?_eq_getElem hi]; rfl) 9 Try.underlying9
  rw [h]
  have e : strOfNums (l.map fun x : UInt8 => (x.toNat : Int)) = mkT l := by
    unfold strOfNums mkT
    rw [List.map_map]
    congr 2
    conv => rhs; rw [← List.map_id l]
    apply List.map_congr_left
    intro x _
    simp
  rw [e]
theorem own_dr {w : World} {B n : Nat} {v : Value} {xs : List Value} {e : TypeId} (h : w.ownsRow B e 1 v n xs) (o : Obj) : (w.drew.alloc o).ownsRow B e 1 v n xs := (h.kept (gr_of_below (Below.refl _ _).drew none) (by cases v.ownBlock <;> simp)).alloc o
theorem news_dr (w : World) (p : Value) (T : TypeId) : ∀ (j : Nat) (u : Value), [p][j]? = some u → (w.drew.alloc (.cells #[p] T)).cell? ((⟨w.heap.size, 0, none⟩ : Addr).add j) = some u := news_one w.drew p T
theorem apn_dr {B n : Nat} {w wr w1 : World} {o : Obj} {v : Value} {xs : List Value} {e : TypeId} (hb : Below B w wr) (hz : B ≤ wr.heap.size) (ho : wr.ownsRow B e 1 v n xs) (hg : (wr.drew.alloc o).grownBy w1 v.ownBlock) : Below B w w1 :=
  apn_bel hb.drew hz (ho.kept (gr_of_below (Below.refl _ _).drew none) (by cases v.ownBlock <;> simp)) hg
set_option maxHeartbeats 4000000 in
set_option maxRecDepth 100000 in
theorem squares_long (r c : Int) (a1 a2 : Option Addr) (L1 L2 c1 c2 : Nat) (w : World) (u1 : ByS w a1 L1) (u2 : ByS w a2 L2) (k1 : L1 ≤ 9223372036854775807) (k2 : L2 ≤ 9223372036854775807) (hc1 : L1 ≤ c1) (hlong : 12 < L1) :
    Calls Try.prog 4 #[.int .i64 r, .int .i64 c, .slice a1 L1 c1, .slice a2 L2 c2] w fun e w' => e = .returned (.bool true) ∧ Below w.heap.size w w' := by
  obtain ⟨r1, R0, R, hr1, hr2, hr3, hr4, hr5, hr6, hr7, hr8, hr9⟩ := side_of r
  obtain ⟨d1, C0, C, hd1, hd2, hd3, hd4, hd5, hd6, hd7, hd8, hd9⟩ := side_of c
  have hcy := fun W => cauchyP_yes R C W hr8 hr9 hd8 hd9
  have HU1 : Hid (ByS w a1 L1) := u1
  have HU2 : Hid (ByS w a2 L2) := u2
  obtain ⟨g0, o0, x0, rfl, _, _⟩ := u1 0 (by omega)
  have CY : Hid _ := hcy
  have hl12 : (12 : Int) < (L1 : Nat) := by omega
  have hc12 : (12 : Int) ≤ (c1 : Nat) := by omega
  clear hcy u1 u2
  go_enter Try.func4, Try.ntmps4
  go_wp2_with fail
  refine (awake_any _).mono ?_
  rintro e w1 ⟨rfl, hb1⟩
  have B1 : Hid (Below w.heap.size w w1) := hb1
  clear hb1
  go_wp2_with fail
  refine Calls.mono (CY.out _) ?_
  rintro e w2 ⟨g, rfl, hg, hB2, hb2⟩
  have HM2 : Hid (Bk w2 g (txc (txtL C (caL R C))) 9) := hB2
  have B2 : Hid (Below w.heap.size w w2) := B1.out.trans (hb2.mono B1.out.size)
  clear hB2 hb2 hg
  go_wp2_with fail
  refine Calls.mono (picked_any _ 12 c1 R w2 (fun i hi => (HU1.out.below B2.out) i (by omega)) (by omega) hr8 hr9) ?_
  rintro e w3 ⟨v3, ps, rfl, hown3, hris3, hb3⟩
  obtain ⟨b1, q1, rfl, hcells1⟩ := own_ints hown3
  have HP3 : Hid (∀ (i x : Nat), ps[i]? = some x → ∃ g, b1 = some ⟨g, 0, none⟩ ∧ g < w3.heap.size ∧ w3.cell? ⟨g, i, none⟩ = some (.int .i64 (x : Int))) := fun i x hx => by
    obtain ⟨g, e, h1, _, h2⟩ := hcells1 i x hx
    exact ⟨g, e, h1, h2⟩
  have HRP : Hid (Ris R ps) := hris3
  have B3 : Hid (Below w.heap.size w w3) := B2.out.trans (hb3.mono B2.out.size)
  have HM3 : Hid (Bk w3 g (txc (txtL C (caL R C))) 9) := HM2.out.below hb3 HM2.out.lt
  clear hown3 hcells1 hris3 hb3 HM2
  go_wp2_with fail
  refine Calls.mono (picked_any a2 L2 c2 C w3 (HU2.out.below B3.out) k2 hd8 hd9) ?_
  rintro e w4 ⟨v4, qs, rfl, hown4, hris4, hb4⟩
  obtain ⟨b2, q2, rfl, hcells2⟩ := own_ints hown4
  have HRQ : Hid (Ris C qs) := hris4
  have HS4 : Hid (Sq w4 g (txtL C (caL R C)) b1 b2 ps qs) := by
    refine ⟨HM3.out.below hb4 HM3.out.lt, fun i x hx => ?_, fun i x hx => ?_⟩
    · obtain ⟨g2, e, hg, hc⟩ := HP3.out i x hx
      exact ⟨g2, e, Nat.lt_of_lt_of_le hg hb4.size, by rw [hb4.cell (p := ⟨g2, i, none⟩) hg]; exact hc⟩
    · obtain ⟨g, e, h1, _, h2⟩ := hcells2 i x hx
      exact ⟨g, e, h1, h2⟩
  have B4 : Hid (Below w.heap.size w w4) := B3.out.trans (hb4.mono B3.out.size)
  clear hown4 hcells2 hris4 hb4 HM3 HP3
  obtain ⟨P, hP⟩ : ∃ P, ps.length = P := ⟨_, rfl⟩
  obtain ⟨Q, hQ⟩ : ∃ Q, qs.length = Q := ⟨_, rfl⟩
  have HPL : Hid (ps.length = P) := hP
  have HQL : Hid (qs.length = Q) := hQ
  have hP64 : P ≤ 64 := by have := HRP.out.len; omega
  have hQ64 : Q ≤ 64 := by have := HRQ.out.len; omega
  rw [hP, hQ]
  clear hP hQ
  obtain ⟨N, hN, hNP, hNQ⟩ : ∃ N : Nat, (if Q < P then (Q : Int) else (P : Int)) = (N : Int) ∧ N ≤ P ∧ N ≤ Q := by
    by_cases h : Q < P
    · exact ⟨Q, by rw [if_pos h], by omega, by omega⟩
    · exact ⟨P, by rw [if_neg h], by omega, by omega⟩
  by_cases hN0 : N = 0
  · have hNb : ((N : Int) == 0) = true := by rw [hN0]; rfl
    clear hN0
    go_wp2
    go_ret
    exact ⟨rfl, B4.out⟩
  · have hNb : ((N : Int) == 0) = false := by rw [beq_eq_false_iff_ne]; omega
    obtain ⟨i0, hi, hz0, hz1, hz2⟩ := info_parts inf_str
    obtain ⟨j0, hj, hy0, hy1, hy2⟩ := info_parts inf_byte
    go_wp2_with fail
    go_loopw [14, 15] (fun v t wr => ∃ i : Nat, i ≤ N ∧ t = .int .i64 i ∧ Hid (wr.ownsRow w4.heap.size 9 1 v i (sv ((prX ps qs N).take i))) ∧ Hid (Below w4.heap.size w4 wr)) (fun _ t _ => N - (intOf t).toNat)
    case atStart => exact ⟨0, by omega, rfl, World.ownsRow_nil _ _ _ _, Below.refl _ _⟩
    case round =>
      obtain ⟨i, hiN, rfl, HO, HB⟩ := hrel
      have hzr : w4.heap.size ≤ wr.heap.size := HB.out.size
      by_cases hlt : i < N
      · have hiz : (i : Int) < (N : Nat) := by omega
        have hiP : (i : Int) < (P : Nat) := by omega
        obtain ⟨x, hx⟩ : ∃ x, ps[i]? = some x := ⟨_, List.getElem?_eq_getElem (by rw [HPL.out]; omega)⟩
        have hxR : x < R := HRP.out.2 x (List.mem_of_getElem? hx)
        have hxz : (x : Int) < (R : Nat) := by omega
        obtain ⟨gp, rfl, hgp, hcp⟩ := HS4.out.p i x hx
        have HXD : Hid (ps.getD i 0 = x) := by show ps.getD i 0 = x; rw [List.getD, hx]; rfl
        have HT : Hid ((prX ps qs N).take (i + 1) = (prX ps qs N).take i ++ [mkT (prR qs N x)]) := by show _ = _; rw [prX_take ps qs N i hlt, HXD.out]
        have hcm : w4.cell? ⟨g, x, none⟩ = some (.string (mkT ((caR C x).take C))) := by
          rw [HS4.out.m.cell, txc_get, txtL, List.getElem?_map, caL_at R C x hxR]; rfl
        have hgm := HS4.out.m.lt
        have hTs : (mkT ((caR C x).take C)).size = C := by rw [mkT_size, List.length_take, caR_len]; omega
        have HTI : Hid (∀ (j : Nat), j < C → ((caR C x).take C)[j]? = some (caV x j)) := fun j hj => by
          rw [List.getElem?_take, if_pos hj, caR, List.getElem?_map, List.getElem?_range (by omega)]
          simp [hj]
        obtain ⟨tl, htl⟩ : ∃ tl, (caR C x).take C = tl := ⟨_, rfl⟩
        rw [htl] at hcm hTs HTI
        clear hx htl
        obtain ⟨w5, hw5⟩ : ∃ w5, wr = w5 := ⟨_, rfl⟩
        rw [hw5] at HO HB hzr ⊢
        clear hw5
        go_wp2
        go_loopw [16, 17] (fun v t W => ∃ k : Nat, k ≤ N ∧ t = .int .i64 k ∧ Hid (W.ownsRow w5.heap.size 5 1 v k (bv ((prR qs N x).take k))) ∧ Hid (Below w5.heap.size w5 W)) (fun _ t _ => N - (intOf t).toNat)
        case atStart => exact ⟨0, by omega, rfl, World.ownsRow_nil _ _ _ _, Below.refl _ _⟩
        case round =>
          obtain ⟨k, hkN, rfl, HOb, HBb⟩ := hrel
          have hzb : w5.heap.size ≤ wr.heap.size := HBb.out.size
          have HB4 : Hid (Below w4.heap.size w4 wr) := HB.out.trans (HBb.out.mono hzr)
          by_cases hlk : k < N
          · have hkz : (k : Int) < (N : Nat) := by omega
            have hkQ : (k : Int) < (Q : Nat) := by omega
            obtain ⟨y, hy⟩ : ∃ y, qs[k]? = some y := ⟨_, List.getElem?_eq_getElem (by rw [HQL.out]; omega)⟩
            have hyC : y < C := HRQ.out.2 y (List.mem_of_getElem? hy)
            obtain ⟨gq, rfl, hgq, hcq⟩ := HS4.out.q k y hy
            have HTb : Hid ((prR qs N x).take (k + 1) = (prR qs N x).take k ++ [caV x y]) := by
              show _ = _
              rw [prR_take qs N x k hlk, show qs.getD k 0 = y from by rw [List.getD, hy]; rfl]
            have e1 : wr.cell? ⟨gp, i, none⟩ = some (.int .i64 (x : Int)) := by rw [HB4.out.cell (p := ⟨gp, i, none⟩) hgp]; exact hcp
            have e2 : wr.cell? ⟨g, x, none⟩ = some (.string (mkT tl)) := by rw [HB4.out.cell (p := ⟨g, x, none⟩) hgm]; exact hcm
            have e3 : wr.cell? ⟨gq, k, none⟩ = some (.int .i64 (y : Int)) := by rw [HB4.out.cell (p := ⟨gq, k, none⟩) hgq]; exact hcq
            have hix := index_txt tl y (caV x y) (HTI.out y hyC)
            generalize caV x y = z at *
            clear hy
            go_wp2_with fail
            go_region_held3 (fun w' => w'.cell? ⟨gp, i, none⟩ = some (.int .i64 (x : Int)) ∧ w'.cell? ⟨g, x, none⟩ = some (.string (mkT tl)) ∧ w'.cell? ⟨gq, k, none⟩ = some (.int .i64 (y : Int)))
              (first | go_keep | (exact ⟨by rw [HB7.out.cell (p := ⟨gp, i, none⟩) (show gp < w5.heap.size by omega)]; rw [HBb.out.cell (p := ⟨gp, i, none⟩) (show gp < w5.heap.size by omega)] at e1; exact e1, by rw [HB7.out.cell (p := ⟨g, x, none⟩) (show g < w5.heap.size by omega)]; rw [HBb.out.cell (p := ⟨g, x, none⟩) (show g < w5.heap.size by omega)] at e2; exact e2, by rw [HB7.out.cell (p := ⟨gq, k, none⟩) (show gq < w5.heap.size by omega)]; rw [HBb.out.cell (p := ⟨gq, k, none⟩) (show gq < w5.heap.size by omega)] at e3; exact e3⟩))
              ((refine step_append_lies _ (by rfl) _ _ _ (by rfl) w5.heap.size 5 j0 (.int .u8 0) 1 1 Try.underlying34 hj hy0 hy1 hy2 rfl (by decide) u16 k _ (by rfl) (own_dr HOb.out _) ⟨wr.heap.size, 0, none⟩ 1 1 [c8 z] (by rfl) rfl (news_dr wr _ _) (one_byte _) (by omega) (by unfold maxLen; omega) (by omega) (by show w5.heap.size ≤ (wr.alloc _).heap.size; simp; omega) (wr.heap.size + 1) (by show (wr.alloc _).heap.size = _; simp) ?_; intro g7 cap7 w7 hown7 hgrow hat hlt7; have HB7 : Hid (Below w5.heap.size w5 w7) := apn_dr HBb.out hzb HOb.out hgrow))
            have HO7 : Hid (w7.ownsRow w5.heap.size 5 1 (.slice (some ⟨g7, 0, none⟩) (k + 1) cap7) (k + 1) (bv ((prR qs N x).take (k + 1)))) := by
              show w7.ownsRow _ _ _ _ _ _
              rw [HTb.out, bv_append]; exact hown7
            clear hown7 hgrow hat e1 e2 e3 hix
            go_wp2
            go_roundw
            case rel => exact ⟨k + 1, by omega, by go_num, HO7.out, HB7.out⟩
            case measure => simp [intOf]; omega
          · have hkN2 : k = N := by omega
            have HOe : Hid (wr.ownsRow w5.heap.size 5 1 u16 (prR qs N x).length (bv (prR qs N x))) := by
              have h := HOb.out
              rw [hkN2, List.take_of_length_le (by rw [prR_len]; omega)] at h
              show wr.ownsRow _ _ _ _ _ _
              rw [prR_len]
              exact h
            obtain ⟨gb, cb, rfl, hcells⟩ := own_byts HOe.out (by rw [prR_len]; omega)
            have hcv := conv_byts (prR qs N x) gb cb wr hcells
            rw [prR_len] at hcv ⊢
            generalize mkT (prR qs N x) = pt at *
            have HOo : Hid (wr.ownsRow w4.heap.size 9 1 u14 i (sv ((prX ps qs N).take i))) := own_kept HO.out HBb.out
            have HC1 : Hid (∀ (j : Nat) (u : Value), [Value.string pt][j]? = some u → (wr.alloc (.cells #[Value.string pt] 9)).cell? ((⟨wr.heap.size, 0, none⟩ : Addr).add j) = some u) := news_one _ _ _
            clear hkN2 HOb HOe hcells HO HB
            go_wp2_with (at_builtin; refine wpList_append_own _ rfl _ _ 23 rfl w4.heap.size 9 i0 (.string ⟨#[]⟩) 1 16 Try.underlying23 hi hz0 hz1 hz2 rfl (by decide) _ _ _ rfl (HOo.out.alloc _) ⟨wr.heap.size, 0, none⟩ 1 1 [.string pt] rfl rfl HC1.out (one_str _) (by unfold maxLen; omega) (by omega) (by simp; omega) ?_)
            intro v' w7 hown1 hgrow _
            have HO7 : Hid (w7.ownsRow w4.heap.size 9 1 v' (i + 1) (sv ((prX ps qs N).take (i + 1)))) := by
              show w7.ownsRow w4.heap.size 9 1 v' (i + 1) (sv ((prX ps qs N).take (i + 1)))
              rw [HT.out, sv_append]; exact hown1
            have HB7 : Hid (Below w4.heap.size w4 w7) := apn_bel HB4.out (by omega) HOo.out hgrow
            clear hown1 hgrow HOo HC1 hcv
            go_wp2
            go_roundw
            case rel => exact ⟨i + 1, by omega, by go_num, HO7.out, HB7.out⟩
            case measure => simp [intOf]; omega
      · have hin : i = N := by omega
        have HOe : Hid (wr.ownsRow w4.heap.size 9 1 u14 (prX ps qs N).length (sv (prX ps qs N))) := by
          have h := HO.out
          rw [hin, List.take_of_length_le (by rw [prX_len]; omega)] at h
          show wr.ownsRow _ _ _ _ _ _
          rw [prX_len]
          exact h
        obtain ⟨ap, cp, rfl, htx, _⟩ := own_txl HOe.out
        have hiv := invert_any ap cp (prX ps qs N) wr htx (by rw [prX_len]; omega) (fun y hy => by rw [prX_size ps qs N y hy]; omega)
        rw [part_ok ps qs R C N HRP.out HRQ.out hr9 hd9 (by omega) (by rw [HPL.out]; exact hNP) (by rw [HQL.out]; exact hNQ)] at hiv
        rw [prX_len] at hiv ⊢
        generalize ivX (prX ps qs N) = vv at *
        have HIV : Hid _ := hiv
        clear hin HO HOe htx hiv
        go_wp2_with fail
        refine Calls.mono HIV.out ?_
        rintro e w8 ⟨ao, rfl, _, hb8⟩
        have B8 : Hid (Below wr.heap.size wr w8) := hb8
        clear hb8
        go_wp2
        go_ret
        exact ⟨rfl, (B4.out.trans (HB.out.mono B4.out.size)).trans (B8.out.mono (by have := B4.out.size; omega))⟩
set_option maxHeartbeats 4000000 in
set_option maxRecDepth 100000 in
theorem squares_short (r c : Int) (a1 a2 : Option Addr) (L1 L2 c1 c2 : Nat) (w : World) (u1 : ByS w a1 L1) (u2 : ByS w a2 L2) (k1 : L1 ≤ 9223372036854775807) (k2 : L2 ≤ 9223372036854775807) (hshort : L1 ≤ 12) :
    Calls Try.prog 4 #[.int .i64 r, .int .i64 c, .slice a1 L1 c1, .slice a2 L2 c2] w fun e w' => e = .returned (.bool true) ∧ Below w.heap.size w w' := by
  obtain ⟨r1, R0, R, hr1, hr2, hr3, hr4, hr5, hr6, hr7, hr8, hr9⟩ := side_of r
  obtain ⟨d1, C0, C, hd1, hd2, hd3, hd4, hd5, hd6, hd7, hd8, hd9⟩ := side_of c
  have hcy := fun W => cauchyP_yes R C W hr8 hr9 hd8 hd9
  have HU1 : Hid (ByS w a1 L1) := u1
  have HU2 : Hid (ByS w a2 L2) := u2
  have CY : Hid _ := hcy
  have hl12 : ¬ (12 : Int) < (L1 : Nat) := by omega
  clear hcy u1 u2
  go_enter Try.func4, Try.ntmps4
  go_wp2_with fail
  refine (awake_any _).mono ?_
  rintro e w1 ⟨rfl, hb1⟩
  have B1 : Hid (Below w.heap.size w w1) := hb1
  clear hb1
  go_wp2_with fail
  refine Calls.mono (CY.out _) ?_
  rintro e w2 ⟨g, rfl, hg, hB2, hb2⟩
  have HM2 : Hid (Bk w2 g (txc (txtL C (caL R C))) 9) := hB2
  have B2 : Hid (Below w.heap.size w w2) := B1.out.trans (hb2.mono B1.out.size)
  clear hB2 hb2 hg
  go_wp2_with fail
  refine Calls.mono (picked_any a1 L1 c1 R w2 (HU1.out.below B2.out) k1 hr8 hr9) ?_
  rintro e w3 ⟨v3, ps, rfl, hown3, hris3, hb3⟩
  obtain ⟨b1, q1, rfl, hcells1⟩ := own_ints hown3
  have HP3 : Hid (∀ (i x : Nat), ps[i]? = some x → ∃ g, b1 = some ⟨g, 0, none⟩ ∧ g < w3.heap.size ∧ w3.cell? ⟨g, i, none⟩ = some (.int .i64 (x : Int))) := fun i x hx => by
    obtain ⟨g, e, h1, _, h2⟩ := hcells1 i x hx
    exact ⟨g, e, h1, h2⟩
  have HRP : Hid (Ris R ps) := hris3
  have B3 : Hid (Below w.heap.size w w3) := B2.out.trans (hb3.mono B2.out.size)
  have HM3 : Hid (Bk w3 g (txc (txtL C (caL R C))) 9) := HM2.out.below hb3 HM2.out.lt
  clear hown3 hcells1 hris3 hb3 HM2
  go_wp2_with fail
  refine Calls.mono (picked_any a2 L2 c2 C w3 (HU2.out.below B3.out) k2 hd8 hd9) ?_
  rintro e w4 ⟨v4, qs, rfl, hown4, hris4, hb4⟩
  obtain ⟨b2, q2, rfl, hcells2⟩ := own_ints hown4
  have HRQ : Hid (Ris C qs) := hris4
  have HS4 : Hid (Sq w4 g (txtL C (caL R C)) b1 b2 ps qs) := by
    refine ⟨HM3.out.below hb4 HM3.out.lt, fun i x hx => ?_, fun i x hx => ?_⟩
    · obtain ⟨g2, e, hg, hc⟩ := HP3.out i x hx
      exact ⟨g2, e, Nat.lt_of_lt_of_le hg hb4.size, by rw [hb4.cell (p := ⟨g2, i, none⟩) hg]; exact hc⟩
    · obtain ⟨g, e, h1, _, h2⟩ := hcells2 i x hx
      exact ⟨g, e, h1, h2⟩
  have B4 : Hid (Below w.heap.size w w4) := B3.out.trans (hb4.mono B3.out.size)
  clear hown4 hcells2 hris4 hb4 HM3 HP3
  obtain ⟨P, hP⟩ : ∃ P, ps.length = P := ⟨_, rfl⟩
  obtain ⟨Q, hQ⟩ : ∃ Q, qs.length = Q := ⟨_, rfl⟩
  have HPL : Hid (ps.length = P) := hP
  have HQL : Hid (qs.length = Q) := hQ
  have hP64 : P ≤ 64 := by have := HRP.out.len; omega
  have hQ64 : Q ≤ 64 := by have := HRQ.out.len; omega
  rw [hP, hQ]
  clear hP hQ
  obtain ⟨N, hN, hNP, hNQ⟩ : ∃ N : Nat, (if Q < P then (Q : Int) else (P : Int)) = (N : Int) ∧ N ≤ P ∧ N ≤ Q := by
    by_cases h : Q < P
    · exact ⟨Q, by rw [if_pos h], by omega, by omega⟩
    · exact ⟨P, by rw [if_neg h], by omega, by omega⟩
  by_cases hN0 : N = 0
  · have hNb : ((N : Int) == 0) = true := by rw [hN0]; rfl
    clear hN0
    go_wp2
    go_ret
    exact ⟨rfl, B4.out⟩
  · have hNb : ((N : Int) == 0) = false := by rw [beq_eq_false_iff_ne]; omega
    obtain ⟨i0, hi, hz0, hz1, hz2⟩ := info_parts inf_str
    obtain ⟨j0, hj, hy0, hy1, hy2⟩ := info_parts inf_byte
    go_wp2_with fail
    go_loopw [14, 15] (fun v t wr => ∃ i : Nat, i ≤ N ∧ t = .int .i64 i ∧ Hid (wr.ownsRow w4.heap.size 9 1 v i (sv ((prX ps qs N).take i))) ∧ Hid (Below w4.heap.size w4 wr)) (fun _ t _ => N - (intOf t).toNat)
    case atStart => exact ⟨0, by omega, rfl, World.ownsRow_nil _ _ _ _, Below.refl _ _⟩
    case round =>
      obtain ⟨i, hiN, rfl, HO, HB⟩ := hrel
      have hzr : w4.heap.size ≤ wr.heap.size := HB.out.size
      by_cases hlt : i < N
      · have hiz : (i : Int) < (N : Nat) := by omega
        have hiP : (i : Int) < (P : Nat) := by omega
        obtain ⟨x, hx⟩ : ∃ x, ps[i]? = some x := ⟨_, List.getElem?_eq_getElem (by rw [HPL.out]; omega)⟩
        have hxR : x < R := HRP.out.2 x (List.mem_of_getElem? hx)
        have hxz : (x : Int) < (R : Nat) := by omega
        obtain ⟨gp, rfl, hgp, hcp⟩ := HS4.out.p i x hx
        have HXD : Hid (ps.getD i 0 = x) := by show ps.getD i 0 = x; rw [List.getD, hx]; rfl
        have HT : Hid ((prX ps qs N).take (i + 1) = (prX ps qs N).take i ++ [mkT (prR qs N x)]) := by show _ = _; rw [prX_take ps qs N i hlt, HXD.out]
        have hcm : w4.cell? ⟨g, x, none⟩ = some (.string (mkT ((caR C x).take C))) := by
          rw [HS4.out.m.cell, txc_get, txtL, List.getElem?_map, caL_at R C x hxR]; rfl
        have hgm := HS4.out.m.lt
        have hTs : (mkT ((caR C x).take C)).size = C := by rw [mkT_size, List.length_take, caR_len]; omega
        have HTI : Hid (∀ (j : Nat), j < C → ((caR C x).take C)[j]? = some (caV x j)) := fun j hj => by
          rw [List.getElem?_take, if_pos hj, caR, List.getElem?_map, List.getElem?_range (by omega)]
          simp [hj]
        obtain ⟨tl, htl⟩ : ∃ tl, (caR C x).take C = tl := ⟨_, rfl⟩
        rw [htl] at hcm hTs HTI
        clear hx htl
        obtain ⟨w5, hw5⟩ : ∃ w5, wr = w5 := ⟨_, rfl⟩
        rw [hw5] at HO HB hzr ⊢
        clear hw5
        go_wp2
        go_loopw [16, 17] (fun v t W => ∃ k : Nat, k ≤ N ∧ t = .int .i64 k ∧ Hid (W.ownsRow w5.heap.size 5 1 v k (bv ((prR qs N x).take k))) ∧ Hid (Below w5.heap.size w5 W)) (fun _ t _ => N - (intOf t).toNat)
        case atStart => exact ⟨0, by omega, rfl, World.ownsRow_nil _ _ _ _, Below.refl _ _⟩
        case round =>
          obtain ⟨k, hkN, rfl, HOb, HBb⟩ := hrel
          have hzb : w5.heap.size ≤ wr.heap.size := HBb.out.size
          have HB4 : Hid (Below w4.heap.size w4 wr) := HB.out.trans (HBb.out.mono hzr)
          by_cases hlk : k < N
          · have hkz : (k : Int) < (N : Nat) := by omega
            have hkQ : (k : Int) < (Q : Nat) := by omega
            obtain ⟨y, hy⟩ : ∃ y, qs[k]? = some y := ⟨_, List.getElem?_eq_getElem (by rw [HQL.out]; omega)⟩
            have hyC : y < C := HRQ.out.2 y (List.mem_of_getElem? hy)
            obtain ⟨gq, rfl, hgq, hcq⟩ := HS4.out.q k y hy
            have HTb : Hid ((prR qs N x).take (k + 1) = (prR qs N x).take k ++ [caV x y]) := by
              show _ = _
              rw [prR_take qs N x k hlk, show qs.getD k 0 = y from by rw [List.getD, hy]; rfl]
            have e1 : wr.cell? ⟨gp, i, none⟩ = some (.int .i64 (x : Int)) := by rw [HB4.out.cell (p := ⟨gp, i, none⟩) hgp]; exact hcp
            have e2 : wr.cell? ⟨g, x, none⟩ = some (.string (mkT tl)) := by rw [HB4.out.cell (p := ⟨g, x, none⟩) hgm]; exact hcm
            have e3 : wr.cell? ⟨gq, k, none⟩ = some (.int .i64 (y : Int)) := by rw [HB4.out.cell (p := ⟨gq, k, none⟩) hgq]; exact hcq
            have hix := index_txt tl y (caV x y) (HTI.out y hyC)
            generalize caV x y = z at *
            clear hy
            go_wp2_with fail
            go_region_held3 (fun w' => w'.cell? ⟨gp, i, none⟩ = some (.int .i64 (x : Int)) ∧ w'.cell? ⟨g, x, none⟩ = some (.string (mkT tl)) ∧ w'.cell? ⟨gq, k, none⟩ = some (.int .i64 (y : Int)))
              (first | go_keep | (exact ⟨by rw [HB7.out.cell (p := ⟨gp, i, none⟩) (show gp < w5.heap.size by omega)]; rw [HBb.out.cell (p := ⟨gp, i, none⟩) (show gp < w5.heap.size by omega)] at e1; exact e1, by rw [HB7.out.cell (p := ⟨g, x, none⟩) (show g < w5.heap.size by omega)]; rw [HBb.out.cell (p := ⟨g, x, none⟩) (show g < w5.heap.size by omega)] at e2; exact e2, by rw [HB7.out.cell (p := ⟨gq, k, none⟩) (show gq < w5.heap.size by omega)]; rw [HBb.out.cell (p := ⟨gq, k, none⟩) (show gq < w5.heap.size by omega)] at e3; exact e3⟩))
              ((refine step_append_lies _ (by rfl) _ _ _ (by rfl) w5.heap.size 5 j0 (.int .u8 0) 1 1 Try.underlying34 hj hy0 hy1 hy2 rfl (by decide) u16 k _ (by rfl) (own_dr HOb.out _) ⟨wr.heap.size, 0, none⟩ 1 1 [c8 z] (by rfl) rfl (news_dr wr _ _) (one_byte _) (by omega) (by unfold maxLen; omega) (by omega) (by show w5.heap.size ≤ (wr.alloc _).heap.size; simp; omega) (wr.heap.size + 1) (by show (wr.alloc _).heap.size = _; simp) ?_; intro g7 cap7 w7 hown7 hgrow hat hlt7; have HB7 : Hid (Below w5.heap.size w5 w7) := apn_dr HBb.out hzb HOb.out hgrow))
            have HO7 : Hid (w7.ownsRow w5.heap.size 5 1 (.slice (some ⟨g7, 0, none⟩) (k + 1) cap7) (k + 1) (bv ((prR qs N x).take (k + 1)))) := by
              show w7.ownsRow _ _ _ _ _ _
              rw [HTb.out, bv_append]; exact hown7
            clear hown7 hgrow hat e1 e2 e3 hix
            go_wp2
            go_roundw
            case rel => exact ⟨k + 1, by omega, by go_num, HO7.out, HB7.out⟩
            case measure => simp [intOf]; omega
          · have hkN2 : k = N := by omega
            have HOe : Hid (wr.ownsRow w5.heap.size 5 1 u16 (prR qs N x).length (bv (prR qs N x))) := by
              have h := HOb.out
              rw [hkN2, List.take_of_length_le (by rw [prR_len]; omega)] at h
              show wr.ownsRow _ _ _ _ _ _
              rw [prR_len]
              exact h
            obtain ⟨gb, cb, rfl, hcells⟩ := own_byts HOe.out (by rw [prR_len]; omega)
            have hcv := conv_byts (prR qs N x) gb cb wr hcells
            rw [prR_len] at hcv ⊢
            generalize mkT (prR qs N x) = pt at *
            have HOo : Hid (wr.ownsRow w4.heap.size 9 1 u14 i (sv ((prX ps qs N).take i))) := own_kept HO.out HBb.out
            have HC1 : Hid (∀ (j : Nat) (u : Value), [Value.string pt][j]? = some u → (wr.alloc (.cells #[Value.string pt] 9)).cell? ((⟨wr.heap.size, 0, none⟩ : Addr).add j) = some u) := news_one _ _ _
            clear hkN2 HOb HOe hcells HO HB
            go_wp2_with (at_builtin; refine wpList_append_own _ rfl _ _ 23 rfl w4.heap.size 9 i0 (.string ⟨#[]⟩) 1 16 Try.underlying23 hi hz0 hz1 hz2 rfl (by decide) _ _ _ rfl (HOo.out.alloc _) ⟨wr.heap.size, 0, none⟩ 1 1 [.string pt] rfl rfl HC1.out (one_str _) (by unfold maxLen; omega) (by omega) (by simp; omega) ?_)
            intro v' w7 hown1 hgrow _
            have HO7 : Hid (w7.ownsRow w4.heap.size 9 1 v' (i + 1) (sv ((prX ps qs N).take (i + 1)))) := by
              show w7.ownsRow w4.heap.size 9 1 v' (i + 1) (sv ((prX ps qs N).take (i + 1)))
              rw [HT.out, sv_append]; exact hown1
            have HB7 : Hid (Below w4.heap.size w4 w7) := apn_bel HB4.out (by omega) HOo.out hgrow
            clear hown1 hgrow HOo HC1 hcv
            go_wp2
            go_roundw
            case rel => exact ⟨i + 1, by omega, by go_num, HO7.out, HB7.out⟩
            case measure => simp [intOf]; omega
      · have hin : i = N := by omega
        have HOe : Hid (wr.ownsRow w4.heap.size 9 1 u14 (prX ps qs N).length (sv (prX ps qs N))) := by
          have h := HO.out
          rw [hin, List.take_of_length_le (by rw [prX_len]; omega)] at h
          show wr.ownsRow _ _ _ _ _ _
          rw [prX_len]
          exact h
        obtain ⟨ap, cp, rfl, htx, _⟩ := own_txl HOe.out
        have hiv := invert_any ap cp (prX ps qs N) wr htx (by rw [prX_len]; omega) (fun y hy => by rw [prX_size ps qs N y hy]; omega)
        rw [part_ok ps qs R C N HRP.out HRQ.out hr9 hd9 (by omega) (by rw [HPL.out]; exact hNP) (by rw [HQL.out]; exact hNQ)] at hiv
        rw [prX_len] at hiv ⊢
        generalize ivX (prX ps qs N) = vv at *
        have HIV : Hid _ := hiv
        clear hin HO HOe htx hiv
        go_wp2_with fail
        refine Calls.mono HIV.out ?_
        rintro e w8 ⟨ao, rfl, _, hb8⟩
        have B8 : Hid (Below wr.heap.size wr w8) := hb8
        clear hb8
        go_wp2
        go_ret
        exact ⟨rfl, (B4.out.trans (HB.out.mono B4.out.size)).trans (B8.out.mono (by have := B4.out.size; omega))⟩
theorem squares_walk (r c : Int) (a1 a2 : Option Addr) (L1 L2 c1 c2 : Nat) (w : World) (u1 : ByS w a1 L1) (u2 : ByS w a2 L2) (k1 : L1 ≤ 9223372036854775807) (k2 : L2 ≤ 9223372036854775807) (hc1 : L1 ≤ c1) :
    Calls Try.prog 4 #[.int .i64 r, .int .i64 c, .slice a1 L1 c1, .slice a2 L2 c2] w fun e w' => e = .returned (.bool true) ∧ Below w.heap.size w w' := by
  by_cases h : 12 < L1
  · exact squares_long r c a1 a2 L1 L2 c1 c2 w u1 u2 k1 k2 hc1 h
  · exact squares_short r c a1 a2 L1 L2 c1 c2 w u1 u2 k1 k2 (by omega)
end Go.Proofs.Ytefmabfhephdjab
