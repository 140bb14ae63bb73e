/- The document's Cut. -/
import Derived.Test.YtblmblbkfdcbjaaJ8
namespace Go.Proofs.Ytblmblbkfdcbjaa
open Go.RowKit
set_option linter.unusedSimpArgs false
set_option linter.unusedVariables false
theorem cut_next (s : ByteArray) (D x j : Nat) : (fl D (fun p => if p < j then bt s (x + p) else 0)).set j (bt s (x + j)) = fl D (fun p => if p < j + 1 then bt s (x + p) else 0) := by
  rw [fl_set]
  refine fl_congr D _ _ (fun p hp => ?_)
  by_cases e : p = j
  · subst e; rw [if_pos rfl, if_pos (by omega)]
  · rw [if_neg e]
    by_cases h : p < j
    · rw [if_pos h, if_pos (by omega)]
    · rw [if_neg h, if_neg (by omega)]
/-- A shard under way. -/
structure Cn (w0 : World) (l : List UInt8) (W : World) : Prop where
  r : Bk W w0.heap.size (rc l) 5
  b : Below w0.heap.size w0 W
theorem Cn.step {w0 W : World} {l : List UInt8} (h : Cn w0 l W) (j : Nat) (v : UInt8) : Cn w0 (l.set j v) (W.setCell ⟨w0.heap.size, j, none⟩ (c8 v)) :=
  ⟨by rw [← rc_set]; exact h.r.set j _, below_own h.b h.b.size (Lib.grownBy_setB (World.grownBy.refl _ _) _ _) (Nat.le_refl _)⟩
set_option maxHeartbeats 2000000 in
set_option maxRecDepth 100000 in
theorem rcut_any (s : ByteArray) (k : Int) (w : World) (hs : s.size ≤ 140737488351232) (k1 : -9223372036854775808 ≤ k) (k2 : k ≤ 9223372036854775807) :
    Calls Try.prog 19 #[.string s, .int .i64 k] w fun e w' => ∃ ao c, e = .returned (.tuple #[.slice ao (cuX s k).length c, .int .i64 (cuE k)]) ∧ Ans w ao (cuX s k) w' ∧ Below w.heap.size w w' := by
  by_cases h1a : 1 ≤ k
  · by_cases h1b : k ≤ 32
    · have e1 : cuX s k = cutL s k.toNat := if_pos ⟨h1a, h1b⟩
      have e2 : cuE k = 0 := if_pos ⟨h1a, h1b⟩
      obtain ⟨n, rfl⟩ : ∃ n : Nat, k = n := ⟨k.toNat, by omega⟩
      rw [e1, e2, Int.toNat_natCast]
      clear e1 e2
      have hn1 : 1 ≤ n := by omega
      have hn2 : n ≤ 32 := by omega
      have hcl := cw_le s.size n hn1
      have hcw : cw s.size n = if s.size % n = 0 then s.size / n else s.size / n + 1 := rfl
      have hmu := make_u8 (cw s.size n) (by omega)
      have HL : Hid (∀ i, i < n → (cutL s n)[i]? = some (mkT (fl (cw s.size n) fun j => bt s (i * cw s.size n + j)))) := fun i hi => cutL_at s n i hi
      have NL : Hid ((cutL s n).length = n) := cutL_len s n
      have hdm := Nat.div_add_mod s.size n
      have hmd := Nat.mul_comm n (s.size / n)
      obtain ⟨D, hD⟩ : ∃ D, cw s.size n = D := ⟨_, rfl⟩
      obtain ⟨Q, hQ⟩ : ∃ Q, s.size / n = Q := ⟨_, rfl⟩
      obtain ⟨R, hR⟩ : ∃ R, s.size % n = R := ⟨_, rfl⟩
      rw [hD, hQ, hR] at hcw
      rw [hD] at hcl hmu HL
      rw [hQ, hR] at hdm
      rw [hQ] at hmd
      obtain ⟨M, hM⟩ : ∃ M, Q * n = M := ⟨_, rfl⟩
      have hMz : (Q : Int) * (n : Int) = (M : Int) := by rw [← hM]; exact (Int.natCast_mul _ _).symm
      have hMs : M + R = s.size := by omega
      have hq0 : ((n : Int) == 0) = false := by rw [beq_eq_false_iff_ne]; omega
      have hdt : (s.size : Int).tdiv (n : Int) = (Q : Int) := by rw [Int.tdiv_eq_ediv_of_nonneg (by omega), ← hQ]; exact (Int.natCast_ediv _ _).symm
      have hdz : (s.size : Int) / (n : Int) = (Q : Int) := by rw [← hQ]; exact (Int.natCast_ediv _ _).symm
      have hQs : Q ≤ s.size := by rw [← hQ]; exact Nat.div_le_self _ _
      clear hQ hR hD hdm hmd hM
      have hQR : (R = 0 ∧ D = Q) ∨ (R ≠ 0 ∧ D = Q + 1) := by
        by_cases h : R = 0
        · rw [if_pos h] at hcw; exact .inl ⟨h, hcw⟩
        · rw [if_neg h] at hcw; exact .inr ⟨h, hcw⟩
      clear hcw
      obtain ⟨i0, hi, hz0, hz1, hz2⟩ := info_parts inf_str
      rcases hQR with ⟨hR0, hQ1⟩ | ⟨hR0, hQ1⟩
      · subst hQ1
        have hMM : ¬ (M : Int) < (s.size : Nat) := by omega
        go_enter Try.func19, Try.ntmps19
        go_wp2_with fail
        go_loopw [7, 8] (fun v t wr => ∃ i : Nat, i ≤ n ∧ t = .int .i64 i ∧ Hid (wr.ownsRow w.heap.size 9 1 v i (sv ((cutL s n).take i))) ∧ Hid (Below w.heap.size w wr)) (fun _ t _ => n - (intOf t).toNat)
        case atStart => exact ⟨0, by omega, rfl, World.ownsRow_nil _ _ _ _, Below.refl _ _⟩
        case round =>
          obtain ⟨i, hin, rfl, HO, HB⟩ := hrel
          obtain ⟨wo, rfl⟩ : ∃ wo, wo = wr := ⟨_, rfl⟩
          have hzr : w.heap.size ≤ wo.heap.size := HB.out.size
          by_cases hlt : i < n
          · have hiz : (i : Int) < (n : Nat) := by omega
            have HLi := HL.out i hlt
            obtain ⟨x, hx⟩ : ∃ x, i * D = x := ⟨_, rfl⟩
            rw [hx] at HLi
            have HT : Hid ((cutL s n).take (i + 1) = (cutL s n).take i ++ [mkT (fl D fun j => bt s (x + j))]) := by
              show _ = _
              rw [List.take_add_one, HLi]; rfl
            have hxz : (i : Int) * (D : Int) = (x : Int) := by rw [← hx]; exact (Int.natCast_mul _ _).symm
            have hxb : x ≤ 4611686018427387904 := by
              rw [← hx]
              exact Nat.le_trans (Nat.mul_le_mul (show i ≤ 32 by omega) (show D ≤ 140737488351232 by omega)) (by decide)
            clear HLi hx
            have HC0 : Hid (Cn wo (fl D (fun p => if p < 0 then bt s (x + p) else 0)) (wo.alloc (.cells (rc (fl D fun _ => 0)) 5))) := ⟨by
              rw [fl_congr D (fun p => if p < 0 then bt s (x + p) else 0) (fun _ => 0) (fun p _ => if_neg (by omega))]
              exact bk_new _ _ _, (Below.refl _ _).alloc (Nat.le_refl _) _⟩
            go_wp2_with fail
            go_loopw [10] (fun t W => ∃ j : Nat, j ≤ D ∧ t = .int .i64 j ∧ Hid (Cn wo (fl D (fun p => if p < j then bt s (x + p) else 0)) W)) (fun t _ => D - (intOf t).toNat)
            case atStart => exact ⟨0, by omega, rfl, HC0.out⟩
            case round =>
              clear HC0
              obtain ⟨j, hjD, rfl, HC⟩ := hrel
              by_cases hlj : j < D
              · have hjz : (j : Int) < (D : Nat) := by omega
                by_cases hls : x + j < s.size
                · have hlz : (x : Int) + (j : Int) < (s.size : Nat) := by omega
                  have hcl0 : wr.cell? ⟨wo.heap.size, j, none⟩ = some (c8 0) := by rw [HC.out.r.cell, rc_get, fl_get D _ j hlj, if_neg (by omega)]; rfl
                  have hfr := HC.out.r.frozen j
                  have HN : Hid (Cn wo (fl D (fun p => if p < j + 1 then bt s (x + p) else 0)) (wr.setCell ⟨wo.heap.size, j, none⟩ (c8 s[x + j]))) := by
                    show Cn _ _ _
                    rw [← cut_next, ← bt_at s (x + j) hls]
                    exact HC.out.step j _
                  clear HC
                  go_wp2
                  go_roundw
                  case rel => exact ⟨j + 1, by omega, by go_num, HN.out⟩
                  case measure => simp [intOf]; omega
                · have hlz : ¬ (x : Int) + (j : Int) < (s.size : Nat) := by omega
                  have hB2 : Bk wr wo.heap.size (rc (fl D fun p => bt s (x + p))) 5 := by
                    have := HC.out.r
                    rwa [fl_congr D (fun p => if p < j then bt s (x + p) else 0) (fun p => bt s (x + p)) (fun p _ => by
                      by_cases h : p < j
                      · rw [if_pos h]
                      · rw [if_neg h, bt_out s _ (by omega)])] at this
                  have hcv := conv_all (fl D fun p => bt s (x + p)) wo.heap.size D D 5 wr (fl_len _ _) hB2
                  obtain ⟨pt, hpt⟩ : ∃ pt, mkT (fl D fun p => bt s (x + p)) = pt := ⟨_, rfl⟩
                  rw [hpt] at hcv HT
                  have HOo : Hid (wr.ownsRow w.heap.size 9 1 u7 i (sv ((cutL s n).take i))) := own_kept HO.out HC.out.b
                  have HBo : Hid (Below w.heap.size w wr) := HB.out.trans (HC.out.b.mono hzr)
                  have hzo : w.heap.size ≤ wr.heap.size := HBo.out.size
                  clear hB2 hpt HO HB HC
                  go_wp2_with (at_builtin; refine wpList_append_own _ rfl _ _ 22 rfl w.heap.size 9 i0 (.string ⟨#[]⟩) 1 16 Try.underlying22 hi hz0 hz1 hz2 rfl (by decide) _ _ _ rfl (HOo.out.alloc _) ⟨wr.heap.size, 0, none⟩ 1 1 [.string pt] rfl rfl (news_one _ _ _) (one_str _) (by unfold maxLen; omega) (by omega) (by simp; omega) ?_)
                  intro v' w7 hown1 hgrow _
                  have HO7 : Hid (w7.ownsRow w.heap.size 9 1 v' (i + 1) (sv ((cutL s n).take (i + 1)))) := by
                    show World.ownsRow _ _ _ _ _ _ _
                    rw [HT.out, sv_append]; exact hown1
                  have HB7 : Hid (Below w.heap.size w w7) := apn_bel HBo.out hzo HOo.out hgrow
                  clear hown1 hgrow HOo HBo hcv
                  go_wp2
                  go_roundw
                  case rel => exact ⟨i + 1, by omega, by go_num, HO7.out, HB7.out⟩
                  case measure => simp [intOf]; omega
              · have hjz : ¬ (j : Int) < (D : Nat) := by omega
                have hB2 : Bk wr wo.heap.size (rc (fl D fun p => bt s (x + p))) 5 := by
                  have := HC.out.r
                  rwa [fl_congr D (fun p => if p < j then bt s (x + p) else 0) (fun p => bt s (x + p)) (fun p hp => by rw [if_pos (by omega)])] at this
                have hcv := conv_all (fl D fun p => bt s (x + p)) wo.heap.size D D 5 wr (fl_len _ _) hB2
                obtain ⟨pt, hpt⟩ : ∃ pt, mkT (fl D fun p => bt s (x + p)) = pt := ⟨_, rfl⟩
                rw [hpt] at hcv HT
                have HOo : Hid (wr.ownsRow w.heap.size 9 1 u7 i (sv ((cutL s n).take i))) := own_kept HO.out HC.out.b
                have HBo : Hid (Below w.heap.size w wr) := HB.out.trans (HC.out.b.mono hzr)
                have hzo : w.heap.size ≤ wr.heap.size := HBo.out.size
                clear hB2 hpt HO HB HC
                go_wp2_with (at_builtin; refine wpList_append_own _ rfl _ _ 22 rfl w.heap.size 9 i0 (.string ⟨#[]⟩) 1 16 Try.underlying22 hi hz0 hz1 hz2 rfl (by decide) _ _ _ rfl (HOo.out.alloc _) ⟨wr.heap.size, 0, none⟩ 1 1 [.string pt] rfl rfl (news_one _ _ _) (one_str _) (by unfold maxLen; omega) (by omega) (by simp; omega) ?_)
                intro v' w7 hown1 hgrow _
                have HO7 : Hid (w7.ownsRow w.heap.size 9 1 v' (i + 1) (sv ((cutL s n).take (i + 1)))) := by
                  show World.ownsRow _ _ _ _ _ _ _
                  rw [HT.out, sv_append]; exact hown1
                have HB7 : Hid (Below w.heap.size w w7) := apn_bel HBo.out hzo HOo.out hgrow
                clear hown1 hgrow HOo HBo hcv
                go_wp2
                go_roundw
                case rel => exact ⟨i + 1, by omega, by go_num, HO7.out, HB7.out⟩
                case measure => simp [intOf]; omega
          · have hiz : ¬ (i : Int) < (n : Nat) := by omega
            have hin2 : i = n := by omega
            have hown := HO.out
            rw [hin2, List.take_of_length_le (by rw [NL.out]; omega)] at hown
            obtain ⟨q, cq, hq, hA⟩ := ans_of (xs := cutL s n) (by rw [NL.out]; exact hown)
            subst hq
            have HAn : Hid (Ans w q (cutL s n) wo) := hA
            clear hown hA hin2 HO
            go_wp2
            go_ret2
            first | exact ⟨q, cq, rfl, HAn.out, HB.out⟩ | exact ⟨q, ⟨cq, rfl⟩, HAn.out, HB.out⟩
      · have hQ2 : (Q : Int) + 1 = (D : Int) := by omega
        have hMM : (M : Int) < (s.size : Nat) := by omega
        have hDb : (D : Int) ≤ 140737488351232 := by omega
        have hDa : (0 : Int) ≤ (D : Int) := by omega
        clear hQ1
        go_enter Try.func19, Try.ntmps19
        go_wp2_with fail
        go_loopw [7, 8] (fun v t wr => ∃ i : Nat, i ≤ n ∧ t = .int .i64 i ∧ Hid (wr.ownsRow w.heap.size 9 1 v i (sv ((cutL s n).take i))) ∧ Hid (Below w.heap.size w wr)) (fun _ t _ => n - (intOf t).toNat)
        case atStart => exact ⟨0, by omega, rfl, World.ownsRow_nil _ _ _ _, Below.refl _ _⟩
        case round =>
          obtain ⟨i, hin, rfl, HO, HB⟩ := hrel
          obtain ⟨wo, rfl⟩ : ∃ wo, wo = wr := ⟨_, rfl⟩
          have hzr : w.heap.size ≤ wo.heap.size := HB.out.size
          by_cases hlt : i < n
          · have hiz : (i : Int) < (n : Nat) := by omega
            have HLi := HL.out i hlt
            obtain ⟨x, hx⟩ : ∃ x, i * D = x := ⟨_, rfl⟩
            rw [hx] at HLi
            have HT : Hid ((cutL s n).take (i + 1) = (cutL s n).take i ++ [mkT (fl D fun j => bt s (x + j))]) := by
              show _ = _
              rw [List.take_add_one, HLi]; rfl
            have hxz : (i : Int) * (D : Int) = (x : Int) := by rw [← hx]; exact (Int.natCast_mul _ _).symm
            have hxb : x ≤ 4611686018427387904 := by
              rw [← hx]
              exact Nat.le_trans (Nat.mul_le_mul (show i ≤ 32 by omega) (show D ≤ 140737488351232 by omega)) (by decide)
            clear HLi hx
            have HC0 : Hid (Cn wo (fl D (fun p => if p < 0 then bt s (x + p) else 0)) (wo.alloc (.cells (rc (fl D fun _ => 0)) 5))) := ⟨by
              rw [fl_congr D (fun p => if p < 0 then bt s (x + p) else 0) (fun _ => 0) (fun p _ => if_neg (by omega))]
              exact bk_new _ _ _, (Below.refl _ _).alloc (Nat.le_refl _) _⟩
            go_wp2_with fail
            go_loopw [10] (fun t W => ∃ j : Nat, j ≤ D ∧ t = .int .i64 j ∧ Hid (Cn wo (fl D (fun p => if p < j then bt s (x + p) else 0)) W)) (fun t _ => D - (intOf t).toNat)
            case atStart => exact ⟨0, by omega, rfl, HC0.out⟩
            case round =>
              clear HC0
              obtain ⟨j, hjD, rfl, HC⟩ := hrel
              by_cases hlj : j < D
              · have hjz : (j : Int) < (D : Nat) := by omega
                by_cases hls : x + j < s.size
                · have hlz : (x : Int) + (j : Int) < (s.size : Nat) := by omega
                  have hcl0 : wr.cell? ⟨wo.heap.size, j, none⟩ = some (c8 0) := by rw [HC.out.r.cell, rc_get, fl_get D _ j hlj, if_neg (by omega)]; rfl
                  have hfr := HC.out.r.frozen j
                  have HN : Hid (Cn wo (fl D (fun p => if p < j + 1 then bt s (x + p) else 0)) (wr.setCell ⟨wo.heap.size, j, none⟩ (c8 s[x + j]))) := by
                    show Cn _ _ _
                    rw [← cut_next, ← bt_at s (x + j) hls]
                    exact HC.out.step j _
                  clear HC
                  go_wp2
                  go_roundw
                  case rel => exact ⟨j + 1, by omega, by go_num, HN.out⟩
                  case measure => simp [intOf]; omega
                · have hlz : ¬ (x : Int) + (j : Int) < (s.size : Nat) := by omega
                  have hB2 : Bk wr wo.heap.size (rc (fl D fun p => bt s (x + p))) 5 := by
                    have := HC.out.r
                    rwa [fl_congr D (fun p => if p < j then bt s (x + p) else 0) (fun p => bt s (x + p)) (fun p _ => by
                      by_cases h : p < j
                      · rw [if_pos h]
                      · rw [if_neg h, bt_out s _ (by omega)])] at this
                  have hcv := conv_all (fl D fun p => bt s (x + p)) wo.heap.size D D 5 wr (fl_len _ _) hB2
                  obtain ⟨pt, hpt⟩ : ∃ pt, mkT (fl D fun p => bt s (x + p)) = pt := ⟨_, rfl⟩
                  rw [hpt] at hcv HT
                  have HOo : Hid (wr.ownsRow w.heap.size 9 1 u7 i (sv ((cutL s n).take i))) := own_kept HO.out HC.out.b
                  have HBo : Hid (Below w.heap.size w wr) := HB.out.trans (HC.out.b.mono hzr)
                  have hzo : w.heap.size ≤ wr.heap.size := HBo.out.size
                  clear hB2 hpt HO HB HC
                  go_wp2_with (at_builtin; refine wpList_append_own _ rfl _ _ 22 rfl w.heap.size 9 i0 (.string ⟨#[]⟩) 1 16 Try.underlying22 hi hz0 hz1 hz2 rfl (by decide) _ _ _ rfl (HOo.out.alloc _) ⟨wr.heap.size, 0, none⟩ 1 1 [.string pt] rfl rfl (news_one _ _ _) (one_str _) (by unfold maxLen; omega) (by omega) (by simp; omega) ?_)
                  intro v' w7 hown1 hgrow _
                  have HO7 : Hid (w7.ownsRow w.heap.size 9 1 v' (i + 1) (sv ((cutL s n).take (i + 1)))) := by
                    show World.ownsRow _ _ _ _ _ _ _
                    rw [HT.out, sv_append]; exact hown1
                  have HB7 : Hid (Below w.heap.size w w7) := apn_bel HBo.out hzo HOo.out hgrow
                  clear hown1 hgrow HOo HBo hcv
                  go_wp2
                  go_roundw
                  case rel => exact ⟨i + 1, by omega, by go_num, HO7.out, HB7.out⟩
                  case measure => simp [intOf]; omega
              · have hjz : ¬ (j : Int) < (D : Nat) := by omega
                have hB2 : Bk wr wo.heap.size (rc (fl D fun p => bt s (x + p))) 5 := by
                  have := HC.out.r
                  rwa [fl_congr D (fun p => if p < j then bt s (x + p) else 0) (fun p => bt s (x + p)) (fun p hp => by rw [if_pos (by omega)])] at this
                have hcv := conv_all (fl D fun p => bt s (x + p)) wo.heap.size D D 5 wr (fl_len _ _) hB2
                obtain ⟨pt, hpt⟩ : ∃ pt, mkT (fl D fun p => bt s (x + p)) = pt := ⟨_, rfl⟩
                rw [hpt] at hcv HT
                have HOo : Hid (wr.ownsRow w.heap.size 9 1 u7 i (sv ((cutL s n).take i))) := own_kept HO.out HC.out.b
                have HBo : Hid (Below w.heap.size w wr) := HB.out.trans (HC.out.b.mono hzr)
                have hzo : w.heap.size ≤ wr.heap.size := HBo.out.size
                clear hB2 hpt HO HB HC
                go_wp2_with (at_builtin; refine wpList_append_own _ rfl _ _ 22 rfl w.heap.size 9 i0 (.string ⟨#[]⟩) 1 16 Try.underlying22 hi hz0 hz1 hz2 rfl (by decide) _ _ _ rfl (HOo.out.alloc _) ⟨wr.heap.size, 0, none⟩ 1 1 [.string pt] rfl rfl (news_one _ _ _) (one_str _) (by unfold maxLen; omega) (by omega) (by simp; omega) ?_)
                intro v' w7 hown1 hgrow _
                have HO7 : Hid (w7.ownsRow w.heap.size 9 1 v' (i + 1) (sv ((cutL s n).take (i + 1)))) := by
                  show World.ownsRow _ _ _ _ _ _ _
                  rw [HT.out, sv_append]; exact hown1
                have HB7 : Hid (Below w.heap.size w w7) := apn_bel HBo.out hzo HOo.out hgrow
                clear hown1 hgrow HOo HBo hcv
                go_wp2
                go_roundw
                case rel => exact ⟨i + 1, by omega, by go_num, HO7.out, HB7.out⟩
                case measure => simp [intOf]; omega
          · have hiz : ¬ (i : Int) < (n : Nat) := by omega
            have hin2 : i = n := by omega
            have hown := HO.out
            rw [hin2, List.take_of_length_le (by rw [NL.out]; omega)] at hown
            obtain ⟨q, cq, hq, hA⟩ := ans_of (xs := cutL s n) (by rw [NL.out]; exact hown)
            subst hq
            have HAn : Hid (Ans w q (cutL s n) wo) := hA
            clear hown hA hin2 HO
            go_wp2
            go_ret2
            first | exact ⟨q, cq, rfl, HAn.out, HB.out⟩ | exact ⟨q, ⟨cq, rfl⟩, HAn.out, HB.out⟩
    · have e1 : cuX s k = [] := if_neg (fun h => h1b h.2)
      have e2 : cuE k = 1 := if_neg (fun h => h1b h.2)
      rw [e1, e2]
      clear e1 e2
      go_enter Try.func19, Try.ntmps19
      go_wp2
      go_ret2
      first | exact ⟨none, 0, rfl, ⟨fun i x hx => by simp at hx, fun b o s e => by cases e⟩, Below.refl _ _⟩ | exact ⟨none, ⟨0, rfl⟩, ⟨fun i x hx => by simp at hx, fun b o s e => by cases e⟩, Below.refl _ _⟩
  · have e1 : cuX s k = [] := if_neg (fun h => h1a h.1)
    have e2 : cuE k = 1 := if_neg (fun h => h1a h.1)
    rw [e1, e2]
    clear e1 e2
    go_enter Try.func19, Try.ntmps19
    go_wp2
    go_ret2
    first | exact ⟨none, 0, rfl, ⟨fun i x hx => by simp at hx, fun b o s e => by cases e⟩, Below.refl _ _⟩ | exact ⟨none, ⟨0, rfl⟩, ⟨fun i x hx => by simp at hx, fun b o s e => by cases e⟩, Below.refl _ _⟩
end Go.Proofs.Ytblmblbkfdcbjaa
