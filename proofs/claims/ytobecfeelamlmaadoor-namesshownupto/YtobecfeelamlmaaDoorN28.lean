/- The document's Read. -/
import Derived.Test.YtobecfeelamlmaaDoorN27
namespace Go.Proofs.YtobecfeelamlmaaDoor
open Go.RowKit
set_option linter.unusedSimpArgs false
set_option linter.unusedVariables false
theorem drop_c (s : ByteArray) (i : Nat) (h : i < s.size) : s.data.toList.drop i = s[i] :: s.data.toList.drop (i + 1) := by
  rw [List.drop_eq_getElem_cons (by rw [data_len]; exact h)]; rfl
theorem drop_ne (s : ByteArray) (i : Nat) (h : i < s.size) : s.data.toList.drop i ≠ [] := by rw [drop_c s i h]; simp
theorem new_u8 (w : World) (a : Value) (T : TypeId) : ∀ (j : Nat) (u : Value), [a][j]? = some u → (w.alloc (.cells #[a] T)).cell? ((⟨w.heap.size, 0, none⟩ : Addr).add j) = some u := new_one w a T
theorem news_u8 (w : World) (a : Value) (T : TypeId) : ∀ (j : Nat) (u : Value), [a][j]? = some u → ((w.alloc (.cells #[a] T)).drew).cell? ((⟨w.heap.size, 0, none⟩ : Addr).add j) = some u := new_one w a T
theorem sz_al (w : World) (o : Obj) : ((w.alloc o).drew).heap.size = w.heap.size + 1 := by
  show (w.alloc o).heap.size = _
  simp
set_option maxHeartbeats 20000000 in
set_option maxRecDepth 100000 in
theorem rRead_any (s : ByteArray) (w : World) (hs : s.size ≤ 1048576) (hT : U8 w) (hz : Tz w) :
    Calls Tryd.prog 6 #[.string s] w fun e w' => RdE s e ∧ Below w.heap.size w w' := by
  have HT : Hid (U8 w ∧ Tz w) := ⟨hT, hz⟩
  have hTz : 7 < w.heap.size := hz.2
  clear hT hz
  obtain ⟨i0, hi, hz0, hz1, hzb⟩ := info_parts inf_u8
  go_enter Tryd.func6, Tryd.ntmps6
  go_wp2
  go_loopw [4, 5] (fun v4 v5 wr => ∃ (i : Nat) (pre : List UInt8), v5 = .int .i64 i ∧ i ≤ s.size + 1 ∧ wr.ownsRow w.heap.size 5 1 v4 pre.length (bcl pre) ∧ Hid (Below w.heap.size w wr) ∧ pre.length ≤ 4 * i ∧ Hid (Way s.data.toList pre (s.data.toList.drop i))) (fun v4 v5 _ => s.size + 1 - (intOf v5).toNat)
  case atStart => exact ⟨0, [], rfl, Nat.zero_le _, World.ownsRow_nil _ _ _ _, Below.refl _ _, by simp, way_start _⟩
  case round =>
    obtain ⟨i, pre, rfl, hi1, hown, HB, hpl, HW⟩ := hrel
    have HO : Hid (wr.ownsRow w.heap.size 5 1 u4 pre.length (bcl pre)) := hown
    have hz : w.heap.size ≤ wr.heap.size := HB.out.size
    clear hown
    by_cases hlt : i < s.size
    · have hltz : (i : Int) < (s.size : Nat) := by omega
      have hdr := drop_c s i hlt
      have hne := drop_ne s i hlt
      obtain ⟨c, hc⟩ : ∃ c, s[i] = c := ⟨_, rfl⟩
      rw [hc] at hdr
      have HC : Hid (s[i] = c) := hc
      have app : ∀ c', Hid (Way s.data.toList (pre ++ [c']) (s.data.toList.drop (i + 1))) → True := fun _ _ => trivial
      clear app
      by_cases hA : c ≠ 92 ∨ i + 1 = s.size
      · have HW2 : Hid (Way s.data.toList (pre ++ [c]) (s.data.toList.drop (i + 1))) := by
          refine way_step HW.out hne ?_
          rw [hdr]
          by_cases h92 : c = 92
          · have he : i + 1 = s.size := hA.resolve_left (fun h => h h92)
            rw [h92, show s.data.toList.drop (i + 1) = [] from List.drop_eq_nil_of_le (by rw [data_len]; omega)]
            exact tak_one _ _ _
          · exact tak_true (tak_plain c _ h92)
        have hcn : (((s[i]).toNat : Int) != 92) = true ∨ ((((s[i]).toNat : Int) != 92) = false ∧ ((i : Int) + 1 == (s.size : Int)) = true) := by
          rw [hc]
          by_cases h92 : c = 92
          · exact .inr ⟨by rw [h92]; rfl, by have := hA.resolve_left (fun h => h h92); simp; omega⟩
          · refine .inl ?_
            have : c.toNat ≠ 92 := fun e => h92 (UInt8.toNat_inj.1 e)
            simp; omega
        rw [← hc] at HW2
        clear hdr hne hA HC hc
        rcases hcn with q1 | ⟨q1, q2⟩
        all_goals
          go_wp2_with (at_builtin; refine wpList_append_own _ rfl _ _ 37 rfl w.heap.size 5 i0 (.int .u8 0) 1 1 Tryd.underlying37 hi hz0 hz1 hzb rfl (by decide) _ _ _ rfl (HO.out.alloc _) ⟨wr.heap.size, 0, none⟩ 1 1 [.int .u8 (s[i].toNat : Int)] rfl rfl (new_u8 _ _ _) (one_u8 _) (by first | omega | (unfold maxLen; omega) | (simp; omega)) (by first | omega | (unfold maxLen; omega) | (simp; omega)) (by first | omega | (unfold maxLen; omega) | (simp; omega)) ?_)
          intro v' w7 hown7 hgrow _
          have HO7 : Hid (w7.ownsRow w.heap.size 5 1 v' (pre ++ [s[i]]).length (bcl (pre ++ [s[i]]))) := by
            show w7.ownsRow w.heap.size 5 1 v' (pre ++ [s[i]]).length (bcl (pre ++ [s[i]]))
            rw [bcl_app, List.length_append]; exact hown7
          have HB7 : Hid (Below w.heap.size w w7) := apn_below HB.out hz HO.out hgrow
          clear hown7 hgrow
          go_wp2
          go_roundw
          case rel => exact ⟨i + 1, pre ++ [s[i]], by go_num, by omega, HO7.out, HB7.out, by simp; omega, HW2.out⟩
          case measure => simp [intOf] <;> omega
      · have h92 : c = 92 := by
          by_cases h : c = 92
          · exact h
          · exact absurd (.inl h) hA
        have hi2 : i + 1 < s.size := by
          have : ¬ i + 1 = s.size := fun h => hA (.inr h)
          omega
        have hi2z : (i : Int) + 1 < (s.size : Nat) := by omega
        have q1 : (((s[i]).toNat : Int) != 92) = false := by rw [hc, h92]; rfl
        have q2 : ((i : Int) + 1 == (s.size : Int)) = false := by simp; omega
        have hdr2 := drop_c s (i + 1) hi2
        rw [h92, hdr2] at hdr
        clear hA
        have HDR : Hid (s.data.toList.drop i = 92 :: s[i + 1] :: s.data.toList.drop (i + 1 + 1)) := hdr
        have HNE : Hid (s.data.toList.drop i ≠ []) := hne
        clear hdr hne hdr2 HC hc h92
        by_cases d92 : s[i + 1] = 92
        · have e92 : (((s[i + 1]).toNat : Int) == 92) = true := by rw [d92]; rfl
          have HW2 : Hid (Way s.data.toList (pre ++ [92]) (s.data.toList.drop (i + 1 + 1))) := by
            refine way_step HW.out HNE.out ?_
            rw [HDR.out, d92]; exact tak_bs _
          clear d92
          go_wp2_with (at_builtin; refine wpList_append_own _ rfl _ _ 37 rfl w.heap.size 5 i0 (.int .u8 0) 1 1 Tryd.underlying37 hi hz0 hz1 hzb rfl (by decide) _ _ _ rfl (HO.out.alloc _) ⟨wr.heap.size, 0, none⟩ 1 1 [.int .u8 92] rfl rfl (new_u8 _ _ _) (one_u8 _) (by first | omega | (unfold maxLen; omega) | (simp; omega)) (by first | omega | (unfold maxLen; omega) | (simp; omega)) (by first | omega | (unfold maxLen; omega) | (simp; omega)) ?_)
          intro v' w7 hown7 hgrow _
          have HO7 : Hid (w7.ownsRow w.heap.size 5 1 v' (pre ++ [92]).length (bcl (pre ++ [92]))) := by
            show w7.ownsRow w.heap.size 5 1 v' (pre ++ [92]).length (bcl (pre ++ [92]))
            rw [bcl_app, List.length_append]; exact hown7
          have HB7 : Hid (Below w.heap.size w w7) := apn_below HB.out hz HO.out hgrow
          clear hown7 hgrow
          go_wp2
          go_roundw
          case rel => exact ⟨i + 1 + 1, pre ++ [92], by go_num, by omega, HO7.out, HB7.out, by simp; omega, HW2.out⟩
          case measure => simp [intOf] <;> omega
        · have e92 : (((s[i + 1]).toNat : Int) == 92) = false := by
            have : (s[i + 1]).toNat ≠ 92 := fun e => d92 (UInt8.toNat_inj.1 e)
            simp; omega
          by_cases d120 : s[i + 1] = 120
          · have e120 : (((s[i + 1]).toNat : Int) == 120) = true := by rw [d120]; rfl
            have E120 : Hid (s[i + 1] = 120) := d120
            clear d120 d92
            by_cases h4 : s.size ≤ i + 3
            · have h4z : (s.size : Int) ≤ (i : Int) + 3 := by omega
              have HN : Hid (∀ x, s.data.toList ≠ sh x) := by
                refine way_stop (p := []) (b := []) HW.out HNE.out ?_
                rw [HDR.out, E120.out]
                exact tak_xs _ _ _ _ (by rw [List.length_drop, data_len]; omega)
              go_wp2
              go_ret2
              exact ⟨.inr ⟨rfl, HN.out⟩, HB.out⟩
            · have h4z : (i : Int) + 3 < (s.size : Nat) := by omega
              have z2a : (i : Int) + 2 < (s.size : Nat) := by omega
              have z2b : (0 : Int) ≤ (i : Int) + 2 := by omega
              have z3b : (0 : Int) ≤ (i : Int) + 3 := by omega
              have z1b : (0 : Int) ≤ (i : Int) + 1 := by omega
              have l2 : i + 2 < s.size := by omega
              have l3 : i + 3 < s.size := by omega
              have hdx : s.data.toList.drop (i + 1 + 1) = s[i + 2] :: s[i + 3] :: s.data.toList.drop (i + 4) := by
                exact (drop_c s (i + 2) l2).trans (congrArg (s[i + 2] :: ·) (drop_c s (i + 3) l3))
              obtain ⟨D1, hD1⟩ : ∃ D, dgt (s[i + 2]).toNat = D := ⟨_, rfl⟩
              obtain ⟨D2, hD2⟩ : ∃ D, dgt (s[i + 3]).toNat = D := ⟨_, rfl⟩
              have R1 : Hid (∀ W, Calls Tryd.prog 18 #[.int .u8 ((s[i + 2]).toNat : Int)] W fun e w' => e = .returned (.int .i64 (D1 : Nat)) ∧ w' = W) := fun W => by rw [← hD1]; exact rdig_any _ W
              have R2 : Hid (∀ W, Calls Tryd.prog 18 #[.int .u8 ((s[i + 3]).toNat : Int)] W fun e w' => e = .returned (.int .i64 (D2 : Nat)) ∧ w' = W) := fun W => by rw [← hD2]; exact rdig_any _ W
              have b1 : D1 ≤ 16 := by rw [← hD1]; exact dgt_le _
              have b2 : D2 ≤ 16 := by rw [← hD2]; exact dgt_le _
              by_cases hbad : 15 < D1 ∨ 15 < D2
              · have HN : Hid (∀ x, s.data.toList ≠ sh x) := by
                  refine way_stop (p := []) (b := []) HW.out HNE.out ?_
                  rw [HDR.out, E120.out, hdx]
                  exact tak_rxn _ _ _ _ _ _ (by rw [hD1, hD2]; exact hbad)
                clear hdx hD1 hD2
                by_cases c1 : (15 : Int) < (D1 : Nat)
                · go_wp2_with fail
                  refine (R1.out _).mono ?_
                  rintro e w' ⟨rfl, hw'⟩
                  subst hw'
                  go_wp2
                  go_ret2
                  exact ⟨.inr ⟨rfl, HN.out⟩, HB.out⟩
                · have c2 : (15 : Int) < (D2 : Nat) := by omega
                  go_wp2_with fail
                  refine (R1.out _).mono ?_
                  rintro e w' ⟨rfl, hw'⟩
                  subst hw'
                  go_wp2_with fail
                  refine (R2.out _).mono ?_
                  rintro e w' ⟨rfl, hw'⟩
                  subst hw'
                  go_wp2
                  go_ret2
                  exact ⟨.inr ⟨rfl, HN.out⟩, HB.out⟩
              · have c1 : ¬ (15 : Int) < (D1 : Nat) := by omega
                have c2 : ¬ (15 : Int) < (D2 : Nat) := by omega
                have HW2 : Hid (Way s.data.toList (pre ++ [(16 * D1 + D2).toUInt8]) (s.data.toList.drop (i + 4))) := by
                  refine way_step HW.out HNE.out ?_
                  rw [HDR.out, E120.out, hdx]
                  have := tak_rx (s[i + 2]) (s[i + 3]) (s.data.toList.drop (i + 4))
                  rw [hD1, hD2] at this
                  exact this
                have HD1 : Hid (dgt (s[i + 2]).toNat = D1) := hD1
                have HD2 : Hid (dgt (s[i + 3]).toNat = D2) := hD2
                have HD1b : Hid (dgt (s[((i : Int) + 1 + 1).toNat]'(by omega)).toNat = D1) := hD1
                have HD2b : Hid (dgt (s[((i : Int) + 1 + 2).toNat]'(by omega)).toNat = D2) := hD2
                have hv8 : IntKind.u8.wrap (16 * (D1 : Int) + (D2 : Int)) = 16 * (D1 : Int) + (D2 : Int) := by rw [IntKind.wrap_u8']; omega
                have hu8 : (((16 * D1 + D2).toUInt8).toNat : Int) = 16 * (D1 : Int) + (D2 : Int) := by rw [u8n _ (by omega)]; omega
                have HU8 : Hid ((((16 * D1 + D2).toUInt8).toNat : Int) = 16 * (D1 : Int) + (D2 : Int)) := hu8
                clear hdx hD1 hD2 hu8
                go_wp2_with fail
                refine (R1.out _).mono ?_
                rintro e w' ⟨rfl, hw'⟩
                subst hw'
                go_wp2_with fail
                refine (R2.out _).mono ?_
                rintro e w' ⟨rfl, hw'⟩
                subst hw'
                have o1 : 0 < 1 := by omega
                have o2 : pre.length + 1 ≤ maxLen := by unfold maxLen; omega
                have o3 : (pre.length + 1) * 1 ≤ 140737488355328 := by omega
                have f1 : (0 : Int) ≤ (i : Int) + 1 + 1 := by omega
                have f2 : (i : Int) + 1 + 1 < (s.size : Nat) := by omega
                have f3 : (0 : Int) ≤ (i : Int) + 1 + 2 := by omega
                have f4 : (i : Int) + 1 + 2 < (s.size : Nat) := by omega
                have wf : ∀ z : Int, 0 ≤ z → z ≤ 2000000 → IntKind.i64.wrap z = z := fun z a b => by rw [IntWalk.i64_left, IntWalk.wrap64_in z ⟨by omega, by omega⟩]
                have wq1 : IntKind.i64.wrap ((i : Int) + 1 + 1) = (i : Int) + 1 + 1 := wf _ (by omega) (by omega)
                have wq2 : IntKind.i64.wrap ((i : Int) + 1 + 2) = (i : Int) + 1 + 2 := wf _ (by omega) (by omega)
                have wq3 : IntKind.i64.wrap (16 * (D1 : Int)) = 16 * (D1 : Int) := wf _ (by omega) (by omega)
                have wq4 : IntKind.i64.wrap (16 * (D1 : Int) + (D2 : Int)) = 16 * (D1 : Int) + (D2 : Int) := wf _ (by omega) (by omega)
                clear wf
                have LATER : Hid (Way s.data.toList (pre ++ [(16 * D1 + D2).toUInt8]) (s.data.toList.drop (i + 4)) ∧ (((16 * D1 + D2).toUInt8).toNat : Int) = 16 * (D1 : Int) + (D2 : Int) ∧ pre.length ≤ 4 * i ∧ i + 3 < s.size ∧ Below w.heap.size w w' ∧ w.heap.size ≤ w'.heap.size) := ⟨HW2.out, HU8.out, hpl, l3, HB.out, hz⟩
                have hzs : w.heap.size ≤ w'.heap.size + 1 := by omega
                go_wp2_with fail
                try clear HW2
                try clear HU8
                try clear hpl
                try clear HB
                try clear hz
                try clear HW
                try clear HT
                try clear hTz
                try clear hi1
                try clear hltz
                try clear hi2z
                try clear q1
                try clear q2
                try clear e92
                try clear e120
                try clear z2a
                try clear z2b
                try clear z3b
                try clear z1b
                try clear h4z
                try clear b1
                try clear b2
                try clear hbad
                try clear c1
                try clear c2
                go_region_held3 (fun w' => True) (trivial)
                  (first
                    | (go_at_call 18; refine (rdig_any _ _).mono ?_; rintro e w' ⟨rfl, rfl⟩; first | rw [HD1.out] | rw [HD2.out] | rw [HD1b.out] | rw [HD2b.out] | (simp only [HD1.out, HD2.out, HD1b.out, HD2b.out]))
                    | (refine step_append_lies _ (by rfl) _ _ _ (by rfl) w.heap.size 5 i0 (.int .u8 0) 1 1 Tryd.underlying37 hi hz0 hz1 hzb rfl (by decide) u4 pre.length _ (by rfl) (own_drw HO.out _) ⟨w'.heap.size, 0, none⟩ 1 1 [.int .u8 (16 * (D1 : Int) + (D2 : Int))] (by rfl) rfl (news_u8 w' _ _) (one_u8 _) o1 o2 o3 (Nat.le_trans hzs (Nat.le_of_eq (sz_al w' _).symm)) (w'.heap.size + 1) (sz_al w' _) ?_; intro g cap w7 hown7 hgrow hat hlt1)
                    | fail)
                all_goals clear hv8 wq1 wq2 wq3 wq4
                all_goals have hl3 := LATER.out.2.2.2.1
                all_goals go_wp2
                all_goals go_roundw
                all_goals first
                  | exact ⟨i + 4, pre ++ [(16 * D1 + D2).toUInt8], by go_num, by omega, (by rw [bcl_app, List.length_append, show bcl [(16 * D1 + D2).toUInt8] = [.int .u8 (16 * (D1 : Int) + (D2 : Int))] from by (rw [← LATER.out.2.1]; rfl)]; exact hown7), apd_below LATER.out.2.2.2.2.1 LATER.out.2.2.2.2.2 HO.out hgrow, by (have := LATER.out.2.2.1; simp; omega), LATER.out.1⟩
                  | (simp [intOf]; omega)
          · have e120 : (((s[i + 1]).toNat : Int) == 120) = false := by
              have : (s[i + 1]).toNat ≠ 120 := fun e => d120 (UInt8.toNat_inj.1 e)
              simp; omega
            by_cases d117 : s[i + 1] = 117
            · have e117 : (((s[i + 1]).toNat : Int) == 117) = true := by rw [d117]; rfl
              have EU : Hid (s[i + 1] = 117) := d117
              clear d117 d120 d92
              go_wp2_with fail
              go_loopw [5, 7] (fun v5 v7 wq => ∃ (j n : Nat), v5 = .int .i64 j ∧ v7 = .int .i64 n ∧ i + 2 ≤ j ∧ j ≤ s.size ∧ n ≤ 17825791 ∧ wq = wr ∧ Hid (dgl 0 (s.data.toList.drop (i + 1 + 1)) = ((dgl n (s.data.toList.drop j)).1, (dgl n (s.data.toList.drop j)).2 + (j - (i + 2))))) (fun v5 v7 _ => s.size - (intOf v5).toNat)
              case atStart => exact ⟨i + 2, 0, by go_num, rfl, Nat.le_refl _, by omega, by omega, rfl, by (show _ = _; simp)⟩
              case round =>
              obtain ⟨j, n, rfl, rfl, hj1, hj2, hn, hwq, HD⟩ := hrel
              subst hwq
              by_cases hjl : j < s.size
              · have hjz : (j : Int) < (s.size : Nat) := by omega
                obtain ⟨D, hD⟩ : ∃ D, dgt (s[j]).toNat = D := ⟨_, rfl⟩
                have RJ : Hid (∀ W, Calls Tryd.prog 18 #[.int .u8 ((s[j]).toNat : Int)] W fun e w' => e = .returned (.int .i64 (D : Nat)) ∧ w' = W) := fun W => by rw [← hD]; exact rdig_any _ W
                have bD : D ≤ 16 := by rw [← hD]; exact dgt_le _
                by_cases hgo : D < 16 ∧ n ≤ 1114111
                · have g1 : (D : Int) < 16 := by omega
                  have g2 : (n : Int) ≤ 1114111 := by omega
                  have HD2 : Hid (dgl 0 (s.data.toList.drop (i + 1 + 1)) = ((dgl (16 * n + D) (s.data.toList.drop (j + 1))).1, (dgl (16 * n + D) (s.data.toList.drop (j + 1))).2 + (j + 1 - (i + 2)))) := by
                    show _ = _
                    rw [HD.out, drop_c s j hjl, dgl_yes _ _ _ (by rw [hD]; exact hgo.1) hgo.2, hD]
                    simp only [Prod.mk.injEq, true_and]
                    omega
                  clear HD hD
                  go_wp2_with fail
                  refine (RJ.out _).mono ?_
                  rintro e w' ⟨rfl, hw'⟩
                  subst hw'
                  go_wp2_with fail
                  refine (RJ.out _).mono ?_
                  rintro e w' ⟨rfl, hw'⟩
                  subst hw'
                  go_wp2
                  go_roundw
                  case rel => first | exact ⟨j + 1, 16 * n + D, by go_num, by go_num, by omega, by omega, by omega, rfl, HD2.out⟩ | exact ⟨j + 1, 16 * n + D, by go_num, by go_num, by omega, by omega, by omega, trivial, HD2.out⟩
                  case measure => simp [intOf] <;> omega
                · have HN : Hid (dgl n (s.data.toList.drop j) = (n, 0)) := by
                    show _ = _
                    rw [drop_c s j hjl, dgl_no _ _ _ (by rw [hD]; exact hgo)]
                  clear hD
                  by_cases g1 : (D : Int) < 16
                  · have g2 : ¬ (n : Int) ≤ 1114111 := by omega
                    have HF : Hid (dgl 0 (s.data.toList.drop (i + 1 + 1)) = (n, j - (i + 2))) := by
                      show _ = _
                      rw [HD.out, HN.out]
                      simp
                    have HW3 : Hid (Way s.data.toList (pre ++ encR n) (s.data.toList.drop (j + 1))) := by
                      refine way_step HW.out HNE.out ?_
                      rw [HDR.out, EU.out]
                      have := tak_ru (s.data.toList.drop (i + 1 + 1))
                      rw [HF.out] at this
                      rw [List.drop_drop, show i + 1 + 1 + (j - (i + 2) + 1) = j + 1 from by omega] at this
                      exact this
                    have hel := encR_len n
                    clear HF HN HD
                    have hAR := appRune w.heap.size u4 pre n (by omega) wr HO.out (by omega) hz
                    go_wp2_with fail
                    refine (RJ.out _).mono ?_
                    rintro e w' ⟨rfl, hw'⟩
                    subst hw'
                    go_wp2_with fail
                    refine hAR.mono ?_
                    clear hAR
                    rintro e w7 ⟨v', rfl, hown7, o7, hgrow⟩
                    have HO7 : Hid (w7.ownsRow w.heap.size 5 1 v' (pre ++ encR n).length (bcl (pre ++ encR n))) := hown7
                    have HB7 : Hid (Below w.heap.size w w7) := apn_below HB.out hz HO.out hgrow
                    clear hown7 hgrow
                    go_wp2
                    go_roundw
                    case rel => exact ⟨j + 1, pre ++ encR n, by go_num, by omega, HO7.out, HB7.out, by rw [List.length_append]; omega, HW3.out⟩
                    case measure => simp [intOf] <;> omega
                  · skip
                    have HF : Hid (dgl 0 (s.data.toList.drop (i + 1 + 1)) = (n, j - (i + 2))) := by
                      show _ = _
                      rw [HD.out, HN.out]
                      simp
                    have HW3 : Hid (Way s.data.toList (pre ++ encR n) (s.data.toList.drop (j + 1))) := by
                      refine way_step HW.out HNE.out ?_
                      rw [HDR.out, EU.out]
                      have := tak_ru (s.data.toList.drop (i + 1 + 1))
                      rw [HF.out] at this
                      rw [List.drop_drop, show i + 1 + 1 + (j - (i + 2) + 1) = j + 1 from by omega] at this
                      exact this
                    have hel := encR_len n
                    clear HF HN HD
                    have hAR := appRune w.heap.size u4 pre n (by omega) wr HO.out (by omega) hz
                    go_wp2_with fail
                    refine (RJ.out _).mono ?_
                    rintro e w' ⟨rfl, hw'⟩
                    subst hw'
                    go_wp2_with fail
                    refine hAR.mono ?_
                    clear hAR
                    rintro e w7 ⟨v', rfl, hown7, o7, hgrow⟩
                    have HO7 : Hid (w7.ownsRow w.heap.size 5 1 v' (pre ++ encR n).length (bcl (pre ++ encR n))) := hown7
                    have HB7 : Hid (Below w.heap.size w w7) := apn_below HB.out hz HO.out hgrow
                    clear hown7 hgrow
                    go_wp2
                    go_roundw
                    case rel => exact ⟨j + 1, pre ++ encR n, by go_num, by omega, HO7.out, HB7.out, by rw [List.length_append]; omega, HW3.out⟩
                    case measure => simp [intOf] <;> omega
              · have hjz : ¬ (j : Int) < (s.size : Nat) := by omega
                have HN : Hid (dgl n (s.data.toList.drop j) = (n, 0)) := by
                  show _ = _
                  rw [show s.data.toList.drop j = [] from List.drop_eq_nil_of_le (by rw [data_len]; omega)]; rfl
                have HF : Hid (dgl 0 (s.data.toList.drop (i + 1 + 1)) = (n, j - (i + 2))) := by
                  show _ = _
                  rw [HD.out, HN.out]
                  simp
                have HW3 : Hid (Way s.data.toList (pre ++ encR n) (s.data.toList.drop (j + 1))) := by
                  refine way_step HW.out HNE.out ?_
                  rw [HDR.out, EU.out]
                  have := tak_ru (s.data.toList.drop (i + 1 + 1))
                  rw [HF.out] at this
                  rw [List.drop_drop, show i + 1 + 1 + (j - (i + 2) + 1) = j + 1 from by omega] at this
                  exact this
                have hel := encR_len n
                clear HF HN HD
                have hAR := appRune w.heap.size u4 pre n (by omega) wr HO.out (by omega) hz
                go_wp2_with fail
                refine hAR.mono ?_
                clear hAR
                rintro e w7 ⟨v', rfl, hown7, o7, hgrow⟩
                have HO7 : Hid (w7.ownsRow w.heap.size 5 1 v' (pre ++ encR n).length (bcl (pre ++ encR n))) := hown7
                have HB7 : Hid (Below w.heap.size w w7) := apn_below HB.out hz HO.out hgrow
                clear hown7 hgrow
                go_wp2
                go_roundw
                case rel => exact ⟨j + 1, pre ++ encR n, by go_num, by omega, HO7.out, HB7.out, by rw [List.length_append]; omega, HW3.out⟩
                case measure => simp [intOf] <;> omega
            · have e117 : (((s[i + 1]).toNat : Int) == 117) = false := by
                have : (s[i + 1]).toNat ≠ 117 := fun e => d117 (UInt8.toNat_inj.1 e)
                simp; omega
              have HN : Hid (∀ x, s.data.toList ≠ sh x) := by
                refine way_stop (p := []) (b := []) HW.out HNE.out ?_
                rw [HDR.out]
                exact tak_other _ _ _ _ _ d92 d120 d117
              clear d92 d120 d117
              go_wp2
              go_ret2
              exact ⟨.inr ⟨rfl, HN.out⟩, HB.out⟩
    · have hltz : ¬ (i : Int) < (s.size : Nat) := by omega
      have hdn : s.data.toList.drop i = [] := List.drop_eq_nil_of_le (by rw [data_len]; omega)
      have hW' := HW.out
      rw [hdn] at hW'
      have HW2 : Hid (Way s.data.toList pre []) := hW'
      have hcv := conv_own HO.out
      clear hW' hdn HW
      obtain ⟨U, hU⟩ : ∃ U : ByteArray, (⟨pre.toArray⟩ : ByteArray) = U := ⟨_, rfl⟩
      have hUl : U.data.toList = pre := by rw [← hU]
      have hUs : U.size = pre.length := by rw [← hU]; exact size_ba pre
      rw [hU] at hcv
      have hsh := rShow_any U wr (by omega) (HT.out.1.below HB.out) (HT.out.2.below HB.out hTz)
      rw [hUl] at hsh
      have HUL : Hid (U.data.toList = pre) := hUl
      obtain ⟨V, hV⟩ : ∃ V : ByteArray, (⟨(sh pre).toArray⟩ : ByteArray) = V := ⟨_, rfl⟩
      rw [hV] at hsh
      have HV : Hid (V.data.toList = sh pre) := by rw [← hV]; exact list_ba _
      clear hU hUl hV
      have hcv2 : ∀ W, Below wr.heap.size wr W → (convert 37 9 u4).run Tryd.prog W = .ok (.string U) W := fun W hW => by
        have := conv_own (HO.out.kept (grn_keep hW) (by cases u4.ownBlock <;> simp))
        rw [show (⟨pre.toArray⟩ : ByteArray) = U from ba_ext (by rw [HUL.out])] at this
        exact this
      go_wp2_with fail
      refine hsh.mono ?_
      clear hsh
      rintro e w3 ⟨rfl, hb3⟩
      have hcv3 := hcv2 w3 hb3
      clear hcv2 hcv
      have HB3 : Hid (Below w.heap.size w w3) := HB.out.trans (hb3.mono hz)
      clear hb3
      by_cases hv : V = s
      · have HVS : Hid (V = s) := hv
        have hv2 := tl_eq hv
        clear hv
        go_wp2
        go_ret2
        refine ⟨.inl ⟨U, rfl, ?_, by omega, ?_⟩, HB3.out⟩
        · rw [HUL.out, ← HV.out, HVS.out]
        · intro x hx; rw [HUL.out]; exact way_end HW2.out x hx
      · have HVS : Hid (¬ V = s) := hv
        have hv2 := tl_ne hv
        clear hv
        go_wp2
        go_ret2
        exact ⟨.inr ⟨rfl, way_unlike HW2.out (fun e => HVS.out (ba_ext (HV.out.trans e)))⟩, HB3.out⟩
end Go.Proofs.YtobecfeelamlmaaDoor
