/- The document's Whole. -/
import Derived.Test.YtblmblbkfdcbjaaJ10
import Derived.Lib.AppendStr
namespace Go.Proofs.Ytblmblbkfdcbjaa
open Go.RowKit
set_option linter.unusedSimpArgs false
set_option linter.unusedVariables false
/-- The front of a row of bytes of the call's own, as a text. -/
theorem conv_own {w : World} {B : Nat} {v : Value} {l : List UInt8} (h : w.ownsRow B 5 1 v l.length (bv l)) (n : Nat) (hn : n ≤ l.length) :
    ∃ a c, v = .slice a l.length c ∧ l.length ≤ c ∧ (a = none → l.length = 0) ∧ (∀ q, a = some q → ∃ g, q = ⟨g, 0, none⟩) ∧ ∀ cap, (convert 44 9 (.slice a n cap)).run Try.prog w = .ok (.string (mkT (l.take n))) w := by
  rcases h.2 with ⟨rfl, h0⟩ | ⟨g, cap, cur, rfl, hle, hg, h1, _, hc, ht⟩
  · have e : l = [] := List.eq_nil_of_length_eq_zero h0
    subst e
    have e2 : n = 0 := by simpa using hn
    subst e2
    refine ⟨none, 0, rfl, by simp, fun _ => rfl, fun q hq => (by cases hq), fun cap => ?_⟩
    exact run_convert_bytes_nil (P := Try.prog) w 44 5 Try.underlying44 Try.underlying5 0 cap 9 Try.underlying9
  · refine ⟨some ⟨g, 0, none⟩, cap, rfl, h1, fun h => (by cases h), fun q hq => (by cases hq; exact ⟨g, rfl⟩), fun cap2 => ?_⟩
    have h := run_convert_bytes_arg w 44 5 Try.underlying44 Try.underlying5 g 0 n cap2 ((l.take n).map fun x : UInt8 => (x.toNat : Int)) (by simp; omega) (fun i hi => by
      have e := congrArg (·[i]?) ht
      simp only [List.getElem?_take, Nat.mul_one, if_pos (show i < l.length by omega), bv, List.getElem?_map] at e
      rw [List.getElem?_eq_getElem (show i < l.length by omega)] at e
      rw [Nat.zero_add]
      simp only [World.cell?, hg]
      rw [← Array.getElem?_toList, e, List.getD, List.getElem?_map, List.getElem?_take, if_pos hi, List.getElem?_eq_getElem (show i < l.length by omega)]; rfl) 9 Try.underlying9
    rw [h]
    have e : strOfNums ((l.take n).map fun x : UInt8 => (x.toNat : Int)) = mkT (l.take n) := by
      unfold strOfNums mkT
      rw [List.map_map]
      congr 2
      conv => rhs; rw [← List.map_id (l.take n)]
      apply List.map_congr_left
      intro x _
      simp
    rw [e]
set_option maxHeartbeats 1000000 in
set_option maxRecDepth 100000 in
theorem rwhole_any (a : Option Addr) (c k : Nat) (xs : List ByteArray) (n : Int) (w : World) (hx : TxL w a xs) (nx : xs.length = k) (ln : k ≤ 4611686018427387904) (hp : k ≤ 32 → k * wid xs ≤ 140737488355328) (n1 : -9223372036854775808 ≤ n) (n2 : n ≤ 9223372036854775807) :
    Calls Try.prog 22 #[.slice a k c, .int .i64 n] w fun e w' => e = .returned (.tuple #[.string (woX xs n), .int .i64 (woE xs n)]) ∧ Below w.heap.size w w' := by
  have he := fun W hW => alike_any a c xs W hW (by omega)
  rw [nx] at he
  have HX : Hid (TxL w a xs) := hx
  by_cases h1a : 1 ≤ k
  · have h1z : ¬ (k : Int) < 1 := by omega
    by_cases h1b : k ≤ 32
    · have h1y : ¬ (k : Int) > 32 := by omega
      obtain ⟨x0, hx0⟩ : ∃ x0, xs[0]? = some x0 := ⟨_, List.getElem?_eq_getElem (by omega)⟩
      have hwd : wid xs = x0.size := by simp [wid, hx0]
      have hpb := hp h1b
      rw [hwd] at hpb
      have hs0 : x0.size ≤ 140737488355328 := Nat.le_trans (Nat.le_mul_of_pos_left _ (by omega)) hpb
      have HX0 : Hid (∀ W, TxL W a xs → ∃ g o, a = some ⟨g, o, none⟩ ∧ W.cell? ⟨g, o, none⟩ = some (.string x0)) := fun W hW => by
        obtain ⟨g, o, e, _, hc⟩ := hW 0 x0 hx0
        exact ⟨g, o, e, by rw [Nat.add_zero] at hc; exact hc⟩
      by_cases h2 : evn xs = true
      · have SX : Hid (∀ x ∈ xs, x.size = x0.size) := by rw [← hwd]; exact evn_all xs h2
        have hok : woOk xs n ↔ 0 ≤ n ∧ n ≤ ((k * x0.size : Nat) : Int) := by
          unfold woOk
          rw [nx, hwd, h2]
          simp [h1a, h1b]
        rw [h2] at he
        have C2 : Hid _ := he
        clear he
        obtain ⟨d, hd⟩ : ∃ d, x0.size = d := ⟨_, rfl⟩
        obtain ⟨M, hM⟩ : ∃ M, k * d = M := ⟨_, rfl⟩
        have hMz : (k : Int) * (d : Int) = (M : Int) := by rw [← hM]; exact (Int.natCast_mul _ _).symm
        rw [hd] at hok hpb
        rw [hM] at hok hpb
        rw [hd] at hs0
        rw [hd] at SX
        by_cases h3 : 0 ≤ n
        · have h3a : ¬ n < 0 := by omega
          by_cases h4 : n ≤ (M : Int)
          · have h4a : ¬ n > (M : Int) := by omega
            have e1 : woX xs n = mkT ((alB xs).take n.toNat) := if_pos (hok.2 ⟨h3, h4⟩)
            have e2 : woE xs n = 0 := if_pos (hok.2 ⟨h3, h4⟩)
            obtain ⟨N, rfl⟩ : ∃ N : Nat, n = N := ⟨n.toNat, by omega⟩
            rw [e1, e2, Int.toNat_natCast]
            have hMN : ¬ M < N := by omega
            have hMNd : decide (M < N) = false := decide_eq_false hMN
            have hN0d : decide ((N : Int) < 0) = false := decide_eq_false h3a
            have NX : Hid (xs.length = k) := nx
            have HM : Hid (k * d = M) := hM
            have HAL : Hid ((alB xs).length = M) := by show _ = M; rw [alB_len xs d SX.out, nx, hM]
            have HAJ : Hid (∀ j, j ≤ k → (alB (xs.take j)).length = j * d) := fun j hj => by
              rw [alB_len (xs.take j) d (fun y hy => SX.out y (List.mem_of_mem_take hy)), List.length_take, NX.out, Nat.min_eq_left (by omega)]
            obtain ⟨i0, hi, hz0, hz1, hzb⟩ := info_parts inf_byte
            clear hok e1 e2 hwd hx0 hM nx hx h2 hp
            go_enter Try.func22, Try.ntmps22
            go_wp2_with fail
            refine Calls.mono (C2.out _ HX.out) ?_
            rintro e w2 ⟨rfl, hb2⟩
            have B2 : Hid (Below w.heap.size w w2) := hb2
            have HX2 : Hid (TxL w2 a xs) := HX.out.below hb2
            obtain ⟨ga, oa, rfl, hc0⟩ := HX0.out w2 HX2.out
            clear hb2
            go_wp2_with fail
            go_loopw [6, 7] (fun v t wr => ∃ (j o : Nat), j ≤ k ∧ t = .int .i64 j ∧ o ≤ 140737488355328 ∧ Hid (j * d = o) ∧ Hid (wr.ownsRow w2.heap.size 5 1 v o (bv (alB (xs.take j)))) ∧ Hid (Below w2.heap.size w2 wr)) (fun _ t _ => k - (intOf t).toNat)
            case atStart => exact ⟨0, 0, by omega, rfl, by omega, by show 0 * d = 0; omega, World.ownsRow_nil _ _ _ _, Below.refl _ _⟩
            case round =>
              obtain ⟨j, o, hjk, rfl, hob, HJ, HO, HW⟩ := hrel
              have hzr : w2.heap.size ≤ wr.heap.size := HW.out.size
              by_cases hlt : j < k
              · have hjz : (j : Int) < (k : Nat) := by omega
                obtain ⟨x, hxj⟩ : ∃ x, xs[j]? = some x := ⟨_, List.getElem?_eq_getElem (by rw [NX.out]; exact hlt)⟩
                have hxs := SX.out x (List.mem_of_getElem? hxj)
                have hc1 : wr.cell? ⟨ga, oa + j, none⟩ = some (.string x) := (HX2.out.below HW.out).cel hxj
                have HJn : Hid ((j + 1) * d = o + d) := by show (j + 1) * d = _; rw [Nat.add_mul, Nat.one_mul, HJ.out]
                have hon : o + d ≤ 140737488355328 := by
                  have h1 := HJn.out
                  have h2 : (j + 1) * d ≤ k * d := Nat.mul_le_mul_right d (by omega)
                  rw [HM.out] at h2
                  omega
                have HN : Hid (bv (alB (xs.take (j + 1))) = bv (alB (xs.take j)) ++ Lib.strCells x) := by
                  show _ = _
                  rw [alB_next xs j x hxj, bv_append]; rfl
                clear hxj
                go_wp2_with (at_builtin; refine Lib.wpList_append_own_string _ rfl _ _ 44 9 rfl w2.heap.size 5 i0 Try.underlying44 Try.underlying9 hi hz0 hz1 hzb _ _ _ rfl HO.out x rfl (by unfold maxLen; omega) (by omega) hzr ?_)
                intro v' w7 hown1 hgrow _
                have HO7 : Hid (w7.ownsRow w2.heap.size 5 1 v' (o + d) (bv (alB (xs.take (j + 1))))) := by
                  show World.ownsRow _ _ _ _ _ _ _
                  rw [HN.out]; exact hown1
                have HB7 : Hid (Below w2.heap.size w2 w7) := HW.out.grown hgrow hzr (fun g hg => (HO.out.lt g hg).1)
                clear hown1 hgrow HO HW
                go_wp2
                go_roundw
                case rel => exact ⟨j + 1, o + d, by omega, by go_num, hon, HJn.out, HO7.out, HB7.out⟩
                case measure => simp [intOf]; omega
              · have hjz : ¬ (j : Int) < (k : Nat) := by omega
                have hjk2 : j = k := by omega
                have hom : o = M := by rw [← HJ.out, hjk2, HM.out]
                have hown := HO.out
                rw [hom, hjk2, ← NX.out, List.take_length, ← HAL.out] at hown
                obtain ⟨q, cq, hv, hcq, hq0, hq1, hcv⟩ := conv_own hown N (by rw [HAL.out]; omega)
                rw [HAL.out] at hv hcq hq0
                subst hv
                obtain ⟨pt, hpt⟩ : ∃ pt, mkT ((alB xs).take N) = pt := ⟨_, rfl⟩
                rw [hpt] at hcv
                have HPT : Hid (mkT ((alB xs).take N) = pt) := hpt
                have HBn : Hid (Below w.heap.size w wr) := B2.out.trans (HW.out.mono B2.out.size)
                clear hown hjk2 hom HO HW HJ hpt
                cases q with
                | none =>
                  have hM0 := hq0 rfl
                  subst hM0
                  have hN0 : N = 0 := by omega
                  subst hN0
                  have hcv2 := hcv cq
                  clear hcv hq0 hq1
                  go_wp2
                  go_ret2
                  exact ⟨by rw [← HPT.out]; rfl, HBn.out⟩
                | some q =>
                  obtain ⟨g, rfl⟩ := hq1 q rfl
                  have hcv2 := hcv cq
                  clear hcv hq0 hq1
                  go_wp2
                  go_ret2
                  exact ⟨by rw [HPT.out]; rfl, HBn.out⟩
          · have h4a : n > (M : Int) := by omega
            have e1 : woX xs n = mkT [] := if_neg (fun h => h4 (hok.1 h).2)
            have e2 : woE xs n = 1 := if_neg (fun h => h4 (hok.1 h).2)
            rw [e1, e2]
            clear e1 e2 nx hx hp hx0
            go_enter Try.func22, Try.ntmps22
            go_wp2_with fail
            refine Calls.mono (C2.out _ HX.out) ?_
            rintro e w2 ⟨rfl, hb2⟩
            have B2 : Hid (Below w.heap.size w w2) := hb2
            obtain ⟨ga, oa, rfl, hc0⟩ := HX0.out w2 (HX.out.below hb2)
            clear hb2
            go_wp2
            go_ret2
            exact ⟨rfl, B2.out⟩
        · have h3a : n < 0 := by omega
          have e1 : woX xs n = mkT [] := if_neg (fun h => h3 (hok.1 h).1)
          have e2 : woE xs n = 1 := if_neg (fun h => h3 (hok.1 h).1)
          rw [e1, e2]
          clear e1 e2 nx hx hp hx0
          go_enter Try.func22, Try.ntmps22
          go_wp2_with fail
          refine Calls.mono (C2.out _ HX.out) ?_
          rintro e w2 ⟨rfl, hb2⟩
          have B2 : Hid (Below w.heap.size w w2) := hb2
          clear hb2
          go_wp2
          go_ret2
          exact ⟨rfl, B2.out⟩
      · have h2z : evn xs = false := by simpa using h2
        rw [h2z] at he
        have C2 : Hid _ := he
        clear he
        have e1 : woX xs n = mkT [] := if_neg (fun h => h2 h.2.1)
        have e2 : woE xs n = 1 := if_neg (fun h => h2 h.2.1)
        rw [e1, e2]
        clear e1 e2 nx hx hp hx0 h2z
        go_enter Try.func22, Try.ntmps22
        go_wp2_with fail
        refine Calls.mono (C2.out _ HX.out) ?_
        rintro e w2 ⟨rfl, hb2⟩
        have B2 : Hid (Below w.heap.size w w2) := hb2
        clear hb2
        go_wp2
        go_ret2
        exact ⟨rfl, B2.out⟩
    · have h1y : (k : Int) > 32 := by omega
      have e1 : woX xs n = mkT [] := if_neg (fun h => h1b (by have := h.1.2; omega))
      have e2 : woE xs n = 1 := if_neg (fun h => h1b (by have := h.1.2; omega))
      rw [e1, e2]
      clear e1 e2 nx hx hp he
      go_enter Try.func22, Try.ntmps22
      go_wp2
      go_ret2
      exact ⟨rfl, Below.refl _ _⟩
  · have h1z : (k : Int) < 1 := by omega
    have e1 : woX xs n = mkT [] := if_neg (fun h => h1a (by have := h.1.1; omega))
    have e2 : woE xs n = 1 := if_neg (fun h => h1a (by have := h.1.1; omega))
    rw [e1, e2]
    clear e1 e2 nx hx hp he
    go_enter Try.func22, Try.ntmps22
    go_wp2
    go_ret2
    exact ⟨rfl, Below.refl _ _⟩
end Go.Proofs.Ytblmblbkfdcbjaa
