import Derived.Test.YtecpcocnoengiaaY13
/- The walk of ShardsLinear where the second text is no longer than the first. -/
namespace Go.Proofs.Ytecpcocnoengiaa
open Go.RowKit
set_option linter.unusedSimpArgs false
set_option linter.unusedVariables false
set_option maxHeartbeats 8000000 in
set_option maxRecDepth 100000 in
theorem linear_ge (a b : ByteArray) (k m f0 t0 a0 : Int) (y8 : UInt8) (w : World) (hab : b.size ≤ a.size) (ha : a.size ≤ 140737488351232) (hb : b.size ≤ 140737488351232) (k1 : -9223372036854775808 ≤ k) (k2 : k ≤ 9223372036854775807) (m1 : -9223372036854775808 ≤ m) (m2 : m ≤ 9223372036854775807)
    (f1 : -9223372036854775808 ≤ f0) (f2 : f0 ≤ 9223372036854775807) (t1 : -9223372036854775808 ≤ t0) (t2 : t0 ≤ 9223372036854775807) (a1 : -9223372036854775808 ≤ a0) (a2 : a0 ≤ 9223372036854775807)
    (haw : ∀ W, Calls Try.prog 5 #[] W fun e w' => e = .returned (.bool true) ∧ Below W.heap.size W w') :
    Calls Try.prog 4 #[.string a, .string b, .int .i64 k, .int .i64 m, .int .i64 f0, .int .i64 t0, .int .i64 a0, c8 y8] w fun e w' => e = .returned (.bool true) ∧ Below w.heap.size w w' := by
  have HW : Hid (∀ W, Calls Try.prog 5 #[] W fun e w' => e = .returned (.bool true) ∧ Below W.heap.size W w') := haw
  have hy8 := y8.toNat_lt
  clear haw
  have c0 := fun W => size_any k m W k1 k2 m1 m2
  have C0 : Hid _ := c0
  clear c0 k1 k2 m1 m2
  obtain ⟨n, nb, A, B, hcase⟩ : ∃ (n nb : Nat) (A B : ByteArray), a.size = n ∧ b.size + nb = n ∧ a ++ mkT (fl 0 fun _ => 0) = A ∧ b ++ mkT (fl nb fun _ => 0) = B := ⟨a.size, a.size - b.size, _, _, rfl, by omega, rfl, rfl⟩
  obtain ⟨h1, h2, h3, h4⟩ := hcase
  have hn : n ≤ 140737488351232 := by omega
  have hnb : nb ≤ 140737488351232 := by omega
  have hAs : A.size = n := by rw [← h3, ByteArray.size_append, mkT_size, fl_len]; omega
  have hBs : B.size = n := by rw [← h4, ByteArray.size_append, mkT_size, fl_len]; omega
  have hm0 : ∀ u : World, (Instr.makeSlice 28 (.int .i64 0) (.int .i64 0)).run Try.prog u = .ok (.slice (some ⟨u.heap.size, 0, none⟩) 0 0) (u.alloc (.cells (rc (fl 0 fun _ => 0)) 5)) := make_u8 0 (by omega)
  have hmb := make_u8 nb (by omega)
  have hc0 := fun (W : World) => conv_all (fl 0 fun _ => 0) W.heap.size 0 0 5 (W.alloc (.cells (rc (fl 0 fun _ => 0)) 5)) (fl_len _ _) (bk_new _ _ _)
  have hcb := fun (W : World) => conv_all (fl nb fun _ => 0) W.heap.size nb nb 5 (W.alloc (.cells (rc (fl nb fun _ => 0)) 5)) (fl_len _ _) (bk_new _ _ _)
  have hd0 := fun (W : World) (o : Obj) => conv_all (fl 0 fun _ => 0) (W.alloc o).heap.size 0 0 5 ((W.alloc o).alloc (.cells (rc (fl 0 fun _ => 0)) 5)) (fl_len _ _) (bk_new _ _ _)
  have hdb := fun (W : World) (o : Obj) => conv_all (fl nb fun _ => 0) (W.alloc o).heap.size nb nb 5 ((W.alloc o).alloc (.cells (rc (fl nb fun _ => 0)) 5)) (fl_len _ _) (bk_new _ _ _)
  simp only [al_size] at hd0 hdb
  obtain ⟨z0, hz0⟩ : ∃ z, fl 0 (fun _ => 0) = z := ⟨_, rfl⟩
  obtain ⟨zb, hzb⟩ : ∃ z, fl nb (fun _ => 0) = z := ⟨_, rfl⟩
  have hs0 : (mkT z0).size = 0 := by rw [← hz0, mkT_size, fl_len]
  have hsb : (mkT zb).size = nb := by rw [← hzb, mkT_size, fl_len]
  rw [hz0] at h3
  rw [hzb] at h4
  simp only [hz0] at hm0 hc0 hd0
  simp only [hzb] at hmb hcb hdb
  clear hz0 hzb
  go_enter Try.func4, Try.ntmps4
  go_wp2_with fail
  refine Calls.mono (HW.out _) ?_
  rintro e w1 ⟨rfl, hb1⟩
  have B1 : Hid (Below w.heap.size w w1) := hb1
  clear hb1 HW
  go_wp2_with fail
  refine Calls.mono (C0.out _) ?_
  rintro e w2 ⟨K, M, rfl, ⟨hK1, hK32, hKM⟩, hb2⟩
  have B2 : Hid (Below w.heap.size w w2) := B1.out.trans (hb2.mono B1.out.size)
  clear hb2 C0 B1
  obtain ⟨q, hq⟩ : ∃ q, b.size = q := ⟨_, rfl⟩
  have hqn : q ≤ n := by omega
  have hqz : (n : Int) - (q : Int) = (nb : Int) := by omega
  clear h2 ha hb hab
  go_wp2_with fail
  obtain ⟨w3, hw3⟩ : ∃ w3, (w2.alloc (.cells (rc z0) 5)).alloc (.cells (rc zb) 5) = w3 := ⟨_, rfl⟩
  rw [hw3]
  have B3 : Hid (Below w.heap.size w w3) := by show Below _ _ _; rw [← hw3]; exact (B2.out.alloc B2.out.size _).alloc (by rw [al_size]; have := B2.out.size; omega) _
  clear hw3 hm0 hmb hc0 hcb hd0 hdb h1 h3 h4 hq hqz hqn B2 hs0 hsb
  have hz3 : w.heap.size ≤ w3.heap.size := B3.out.size
  obtain ⟨D, hD⟩ : ∃ D, cutL A K = D := ⟨_, rfl⟩
  obtain ⟨E, hE⟩ : ∃ E, cutL B K = E := ⟨_, rfl⟩
  obtain ⟨d, hd⟩ : ∃ d, cw n K = d := ⟨_, rfl⟩
  have hdl : d ≤ n := by rw [← hd]; exact cw_le _ _ hK1
  have ND : Hid (D.length = K) := by show D.length = K; rw [← hD]; exact cutL_len A K
  have NE : Hid (E.length = K) := by show E.length = K; rw [← hE]; exact cutL_len B K
  have SD : Hid (∀ x ∈ D, x.size = d) := by show ∀ x ∈ D, x.size = d; rw [← hD, ← hd, ← hAs]; exact cutL_size A K
  have SE : Hid (∀ x ∈ E, x.size = d) := by show ∀ x ∈ E, x.size = d; rw [← hE, ← hd, ← hBs]; exact cutL_size B K
  have c1 := fun W => cut_any A (K : Int) W (by omega) (by omega) (by omega)
  rw [show cuX A (K : Int) = D from by unfold cuX; rw [if_pos (by omega), Int.toNat_natCast, hD], show cuE (K : Int) = 0 from by unfold cuE; rw [if_pos (by omega)], ND.out] at c1
  have c2 := fun W => cut_any B (K : Int) W (by omega) (by omega) (by omega)
  rw [show cuX B (K : Int) = E from by unfold cuX; rw [if_pos (by omega), Int.toNat_natCast, hE], show cuE (K : Int) = 0 from by unfold cuE; rw [if_pos (by omega)], NE.out] at c2
  have C1 : Hid _ := c1
  have C2 : Hid _ := c2
  obtain ⟨D1, hD1⟩ : ∃ D1 : Nat, (d : Int) + 1 = D1 := ⟨d + 1, by omega⟩
  obtain ⟨t3, ht3⟩ : ∃ t, f0.tmod (D1 : Int) = t := ⟨_, rfl⟩
  have hb3 := tmod_bd f0 D1 (by omega)
  rw [ht3] at hb3
  obtain ⟨fr, hfr, hfr2⟩ := tmod_nat (t3 + (d : Int) + 1) D1 (by omega) (by omega)
  obtain ⟨R, hR⟩ : ∃ R : Nat, (D1 : Int) - (fr : Int) = R := ⟨D1 - fr, by omega⟩
  have hR1 : 1 ≤ R := by omega
  obtain ⟨t4, ht4⟩ : ∃ t, t0.tmod (R : Int) = t := ⟨_, rfl⟩
  have hb4 := tmod_bd t0 R hR1
  rw [ht4] at hb4
  obtain ⟨tq, htq, htq2⟩ := tmod_nat (t4 + (d : Int) + 1 - (fr : Int)) R (by omega) (by omega)
  obtain ⟨to, hto⟩ : ∃ to : Nat, (fr : Int) + (tq : Int) = to := ⟨fr + tq, by omega⟩
  have hft : fr ≤ to := by omega
  have htd : to ≤ d := by omega
  have hD10 : ((D1 : Int) == 0) = false := by rw [beq_eq_false_iff_ne]; omega
  have hR0 : ((R : Int) == 0) = false := by rw [beq_eq_false_iff_ne]; omega
  obtain ⟨x0, hx0⟩ : ∃ x, D[0]? = some x := ⟨_, List.getElem?_eq_getElem (by rw [ND.out]; omega)⟩
  have hx0s : x0.size = d := SD.out x0 (List.mem_of_getElem? hx0)
  have HX0 : Hid (D[0]? = some x0) := hx0
  clear c1 c2 hx0
  refine Calls.mono (C1.out _) ?_
  rintro e w4 ⟨aD, rfl, hM4, hb4'⟩
  have TD4 : Hid (TxL w4 aD D) := hM4.txl
  have B4 : Hid (Below w.heap.size w w4) := B3.out.trans (hb4'.mono hz3)
  clear hM4 hb4' B3 C1
  go_wp2_with fail
  refine Calls.mono (C2.out _) ?_
  rintro e w5 ⟨aE, rfl, hM5, hb5'⟩
  have TE5 : Hid (TxL w5 aE E) := hM5.txl
  have TD5 : Hid (TxL w5 aD D) := TD4.out.below hb5'
  have B5 : Hid (Below w.heap.size w w5) := B4.out.trans (hb5'.mono B4.out.size)
  clear hM5 hb5' B4 C2 TD4
  obtain ⟨gD, oD, rfl, hgD, hcD⟩ := TD5.out 0 x0 HX0.out
  rw [Nat.add_zero] at hcD
  have hKz : ((K : Int) != (K : Int)) = false := by simp
  go_wp2_with fail
  obtain ⟨i0, hi, zi0, zi1, zi2⟩ := info_parts inf_str
  obtain ⟨V, hV⟩ : ∃ V, ovL D E = V := ⟨_, rfl⟩
  obtain ⟨U, hU⟩ : ∃ U, D.map (pcT fr to) = U := ⟨_, rfl⟩
  have NV : Hid (V.length = K) := by show _ = _; rw [← hV, ovL_len D E (by rw [ND.out, NE.out]), ND.out]
  have NU : Hid (U.length = K) := by show _ = _; rw [← hU, List.length_map, ND.out]
  have EV : Hid (ovL D E = V) := hV
  have EU : Hid (D.map (pcT fr to) = U) := hU
  have hdb : d ≤ 140737488351232 := by omega
  clear hV hU
  go_loopw [23, 24, 25, 26] (fun v u z t wr => ∃ i : Nat, i ≤ K ∧ t = .int .i64 i ∧ Hid (wr.ownsRow w5.heap.size 9 1 v i (sv (V.take i))) ∧ Hid (wr.ownsRow w5.heap.size 9 1 u i (sv (U.take i))) ∧ Hid (wr.ownsRow w5.heap.size 9 1 z i (sv (D.take i))) ∧ Hid (Apt v u ∧ Apt u v) ∧ Hid (Apt v z ∧ Apt z v) ∧ Hid (Apt u z ∧ Apt z u) ∧ Hid (Below w5.heap.size w5 wr)) (fun _ _ _ t _ => K - (intOf t).toNat)
  case atStart => exact ⟨0, by omega, rfl, World.ownsRow_nil _ _ _ _, World.ownsRow_nil _ _ _ _, World.ownsRow_nil _ _ _ _, ⟨.inl rfl, .inl rfl⟩, ⟨.inl rfl, .inl rfl⟩, ⟨.inl rfl, .inl rfl⟩, Below.refl _ _⟩
  case round =>
    obtain ⟨i, hiK, rfl, HV, HU, HO, A1, A2, A3, HB⟩ := hrel
    have hzr : w5.heap.size ≤ wr.heap.size := HB.out.size
    by_cases hlt : i < K
    · have hiz : (i : Int) < (K : Nat) := by omega
      obtain ⟨x, hx⟩ : ∃ x, D[i]? = some x := ⟨_, List.getElem?_eq_getElem (by rw [ND.out]; exact hlt)⟩
      obtain ⟨y, hy⟩ : ∃ x, E[i]? = some x := ⟨_, List.getElem?_eq_getElem (by rw [NE.out]; exact hlt)⟩
      have hxs : x.size = d := SD.out x (List.mem_of_getElem? hx)
      have hys : y.size = d := SE.out y (List.mem_of_getElem? hy)
      have hc1 := (TD5.out.below HB.out).cel hx
      obtain ⟨gE, oE, rfl, hgE, hc2⟩ := (TE5.out.below HB.out) i y hy
      obtain ⟨pt, hpt⟩ : ∃ pt, ovT x y = pt := ⟨_, rfl⟩
      obtain ⟨pc, hpc⟩ : ∃ pc, x.extract fr to = pc := ⟨_, rfl⟩
      have TV : Hid (sv (V.take (i + 1)) = sv (V.take i) ++ [.string pt]) := take_next (by rw [← EV.out, ← hpt]; exact ovL_at D E i x y hx hy)
      have TU : Hid (sv (U.take (i + 1)) = sv (U.take i) ++ [.string pc]) := take_next (by rw [← EU.out, ← hpc, ext_pc fr to x hft (by omega), List.getElem?_map, hx]; rfl)
      have TO : Hid (sv (D.take (i + 1)) = sv (D.take i) ++ [.string x]) := take_next hx
      have co := over_any x y d wr.drew hxs hys (by omega)
      rw [hpt] at co
      have CO : Hid _ := co
      have HXI : Hid (D[i]? = some x) := hx
      clear co hpt hx hy
      go_wp2_with fail
      go_region_law (first
        | (obtain ⟨v', w7, hrun, hown1, hgrow, _, hat⟩ := run_append_own_at (P := Try.prog) (w := w6.alloc (.cells #[.string pt] 9)) w5.heap.size 23 23 9 i0 (.string ⟨#[]⟩) 1 16 Try.underlying23 hi zi0 zi1 zi2 rfl (by decide) u23 i (sv (V.take i)) (HV6.out.alloc _) ⟨w6.heap.size, 0, none⟩ 1 1 [.string pt] rfl (news_one _ _ _) (one_str _) (by unfold maxLen; omega) (by omega) (by simp; omega)
           refine step_app_run (by rfl) _ _ _ _ (by rfl) u23 (.slice (some ⟨w6.heap.size, 0, none⟩) 1 1) v' w7 (by rfl) (by rfl) hrun ?_)
        | (go_simp; go_at_call 11; refine Calls.mono CO.out ?_; rintro e w6 ⟨rfl, hb6⟩; dsimp only
           have HV6 : Hid (w6.ownsRow w5.heap.size 9 1 u23 i (sv (V.take i))) := own_kept HV.out.drew hb6
           have HU6 : Hid (w6.ownsRow w5.heap.size 9 1 u24 i (sv (U.take i))) := own_kept HU.out.drew hb6
           have HO6 : Hid (w6.ownsRow w5.heap.size 9 1 u25 i (sv (D.take i))) := own_kept HO.out.drew hb6
           have HB6 : Hid (Below w5.heap.size w5 w6) := HB.out.drew.trans (hb6.mono hzr)
           have hz6 : w5.heap.size ≤ w6.heap.size := HB6.out.size
           clear hb6))
      all_goals
        have HV7 : Hid (w7.ownsRow w5.heap.size 9 1 v' (i + 1) (sv (V.take (i + 1)))) := by
          show World.ownsRow _ _ _ _ _ _ _
          rw [TV.out]; exact hown1
        have HU7 : Hid (w7.ownsRow w5.heap.size 9 1 u24 i (sv (U.take i))) := (HU6.out.alloc _).kept hgrow A1.out.2
        have HO7 : Hid (w7.ownsRow w5.heap.size 9 1 u25 i (sv (D.take i))) := (HO6.out.alloc _).kept hgrow A2.out.2
        have HB7 : Hid (Below w5.heap.size w5 w7) := apn_bel HB6.out hz6 HV6.out hgrow
        have hat' : v'.ownBlock = u23.ownBlock ∨ v'.ownBlock = some (w6.heap.size + 1) := by rw [al_size] at hat; exact hat
        have A17 : Hid (Apt v' u24 ∧ Apt u24 v') := apt_grow HU6.out A1.out hat'
        have A27 : Hid (Apt v' u25 ∧ Apt u25 v') := apt_grow HO6.out A2.out hat'
        have hz7 : w5.heap.size ≤ w7.heap.size := HB7.out.size
        have hc17 := (TD5.out.below HB7.out).cel HXI.out
        have hf7 : (fr : Int) ≤ (to : Nat) := by omega
        have ht7 : (to : Int) ≤ (x.size : Nat) := by omega
        clear hown1 hgrow hrun hat hat' HV6 HU6 HO6 HB6 HV HU HO HB hc1 hc2 CO
        go_wp2_with (at_builtin; refine wpList_append_own_at _ rfl _ _ 23 rfl w5.heap.size 9 i0 (.string ⟨#[]⟩) 1 16 Try.underlying23 hi zi0 zi1 zi2 rfl (by decide) _ _ _ rfl (HU7.out.alloc _) ⟨w7.heap.size, 0, none⟩ 1 1 [.string pc] rfl rfl (news_one _ _ _) (one_str _) (by unfold maxLen; omega) (by omega) (by simp; omega) ?_)
        intro u' w8 hown2 hgrow2 _ hat2
        have HU8 : Hid (w8.ownsRow w5.heap.size 9 1 u' (i + 1) (sv (U.take (i + 1)))) := by
          show World.ownsRow _ _ _ _ _ _ _
          rw [TU.out]; exact hown2
        have HV8 : Hid (w8.ownsRow w5.heap.size 9 1 v' (i + 1) (sv (V.take (i + 1)))) := (HV7.out.alloc _).kept hgrow2 A17.out.1
        have HO8 : Hid (w8.ownsRow w5.heap.size 9 1 u25 i (sv (D.take i))) := (HO7.out.alloc _).kept hgrow2 A3.out.2
        have HB8 : Hid (Below w5.heap.size w5 w8) := apn_bel HB7.out hz7 HU7.out hgrow2
        have hat2' : u'.ownBlock = u24.ownBlock ∨ u'.ownBlock = some (w7.heap.size + 1) := by first | exact hat2 | (rw [al_size] at hat2; exact hat2)
        have A18 : Hid (Apt v' u' ∧ Apt u' v') := (apt_grow HV7.out ⟨A17.out.2, A17.out.1⟩ hat2').symm
        have A38 : Hid (Apt u' u25 ∧ Apt u25 u') := apt_grow HO7.out A3.out hat2'
        have hz8 : w5.heap.size ≤ w8.heap.size := HB8.out.size
        have hc18 := (TD5.out.below HB8.out).cel HXI.out
        clear hown2 hgrow2 hat2 hat2' HV7 HU7 HO7 HB7 A17 hc17 A1 A2 A3
        go_wp2_with (at_builtin; refine wpList_append_own_at _ rfl _ _ 23 rfl w5.heap.size 9 i0 (.string ⟨#[]⟩) 1 16 Try.underlying23 hi zi0 zi1 zi2 rfl (by decide) _ _ _ rfl (HO8.out.alloc _) ⟨w8.heap.size, 0, none⟩ 1 1 [.string x] rfl rfl (news_one _ _ _) (one_str _) (by unfold maxLen; omega) (by omega) (by simp; omega) ?_)
        intro o' w9 hown3 hgrow3 _ hat3
        have HO9 : Hid (w9.ownsRow w5.heap.size 9 1 o' (i + 1) (sv (D.take (i + 1)))) := by
          show World.ownsRow _ _ _ _ _ _ _
          rw [TO.out]; exact hown3
        have HV9 : Hid (w9.ownsRow w5.heap.size 9 1 v' (i + 1) (sv (V.take (i + 1)))) := (HV8.out.alloc _).kept hgrow3 A27.out.1
        have HU9 : Hid (w9.ownsRow w5.heap.size 9 1 u' (i + 1) (sv (U.take (i + 1)))) := (HU8.out.alloc _).kept hgrow3 A38.out.1
        have HB9 : Hid (Below w5.heap.size w5 w9) := apn_bel HB8.out hz8 HO8.out hgrow3
        have hat3' : o'.ownBlock = u25.ownBlock ∨ o'.ownBlock = some (w8.heap.size + 1) := by first | exact hat3 | (rw [al_size] at hat3; exact hat3)
        have A29 : Hid (Apt v' o' ∧ Apt o' v') := (apt_grow HV8.out ⟨A27.out.2, A27.out.1⟩ hat3').symm
        have A39 : Hid (Apt u' o' ∧ Apt o' u') := (apt_grow HU8.out ⟨A38.out.2, A38.out.1⟩ hat3').symm
        clear hown3 hgrow3 hat3 hat3' HV8 HU8 HO8 HB8 A27 A38 hc18
        go_wp2
        go_roundw
        case rel => exact ⟨i + 1, by omega, by go_num, HV9.out, HU9.out, HO9.out, A18.out, A29.out, A39.out, HB9.out⟩
        case measure => simp [intOf]; omega
    · have hiz : ¬ (i : Int) < (K : Nat) := by omega
      have hiK2 : i = K := by omega
      have hv := HV.out
      have hu := HU.out
      have ho := HO.out
      rw [hiK2, List.take_of_length_le (by rw [NV.out]; exact Nat.le_refl _)] at hv
      rw [hiK2, List.take_of_length_le (by rw [NU.out]; exact Nat.le_refl _)] at hu
      rw [hiK2, List.take_of_length_le (by rw [ND.out]; exact Nat.le_refl _)] at ho
      obtain ⟨aV, cV, ev, tv, lv⟩ := own_at (xs := V) (by rw [NV.out]; exact hv)
      obtain ⟨aU, cU, eu, tu, lu⟩ := own_at (xs := U) (by rw [NU.out]; exact hu)
      rw [NV.out] at ev
      rw [NU.out] at eu
      subst ev
      subst eu
      obtain ⟨K', hK'⟩ : ∃ n', K = n' + 1 := ⟨K - 1, by omega⟩
      obtain ⟨gX, cX, cur, hv6, hgX5, hBX, hcX1, hcX2, hcu⟩ := own_block_at (k := K') (xs := D) (by rw [← hK']; exact ho)
      rw [← hK'] at hv6 hcX1
      subst hv6
      have HTo : Hid (Tn wr gX D) := ⟨cur, hBX, hcu⟩
      have TV5 : Hid (TxL wr aV V) := tv
      have TU5 : Hid (TxL wr aU U) := tu
      have TDr : Hid (TxL wr (some ⟨gD, oD, none⟩) D) := TD5.out.below HB.out
      have TEr : Hid (TxL wr aE E) := TE5.out.below HB.out
      have hgX : w.heap.size ≤ gX := by have := B5.out.size; omega
      have Br : Hid (Below w.heap.size w wr) := B5.out.trans (HB.out.mono B5.out.size)
      clear hv hu ho tv tu hBX hcu HV HU HO A1 A2 A3 HB hiK2 hK' TD5 TE5 B5 hcD hgD
      clear hD hE hd hD1 ht3 hb3 hfr hfr2 hR hR1 ht4 hb4 htq htq2 hto hD10 hR0 hx0s HX0 hAs hBs f1 f2 t1 t2
      obtain ⟨wq, rfl⟩ : ∃ wq, wq = wr := ⟨_, rfl⟩
      have hgXq : gX < wq.heap.size := HTo.out.lt
      have SV : Hid (∀ x ∈ V, x.size = d) := by
        intro x hx
        obtain ⟨j, hj⟩ := List.getElem?_of_mem hx
        have hjl := (List.getElem?_eq_some_iff.1 hj).1
        rw [NV.out] at hjl
        obtain ⟨x1, h1⟩ : ∃ x, D[j]? = some x := ⟨_, List.getElem?_eq_getElem (by rw [ND.out]; exact hjl)⟩
        obtain ⟨y1, h2⟩ : ∃ x, E[j]? = some x := ⟨_, List.getElem?_eq_getElem (by rw [NE.out]; exact hjl)⟩
        have h3 := ovL_at D E j x1 y1 h1 h2
        rw [EV.out, hj] at h3
        rw [Option.some.inj h3, ovT_size]
        exact SD.out x1 (List.mem_of_getElem? h1)
      have SU : Hid (∀ x ∈ U, x.size = to - fr) := by
        intro x hx
        rw [← EU.out] at hx
        obtain ⟨x1, _, rfl⟩ := List.mem_map.1 hx
        exact pcT_size _ _ _
      have e1 := fun c W h => enc_ok D K M d (some ⟨gD, oD, none⟩) c W h ND.out hK1 hK32 hKM SD.out (by omega)
      have e2 := fun c W h => enc_ok E K M d aE c W h NE.out hK1 hK32 hKM SE.out (by omega)
      have e3 := fun c W h => enc_ok V K M d aV c W h NV.out hK1 hK32 hKM SV.out (by omega)
      have e4 := fun c W h => enc_ok U K M (to - fr) aU c W h NU.out hK1 hK32 hKM SU.out (by omega)
      have mV := fun r => mix_over r D E d (by rw [ND.out, NE.out]) SD.out
      have mU := fun r => mix_piece r D d fr to hft htd
      rw [EV.out] at mV
      rw [EU.out] at mU
      have E1 : Hid _ := e1
      have E2 : Hid _ := e2
      have E3 : Hid _ := e3
      have E4 : Hid _ := e4
      have MV : Hid _ := mV
      have MU : Hid _ := mU
      clear e1 e2 e3 e4 mV mU
      go_wp2_with fail
      refine Calls.mono (E1.out _ _ TDr.out) ?_
      rintro e u1 ⟨aP, rfl, tP, bP⟩
      have MP1 : Hid (Mad wq aP (mixL (cyX M K) D d) u1) := tP
      have TE1 : Hid (TxL u1 aE E) := TEr.out.below bP
      have TV1 : Hid (TxL u1 aV V) := TV5.out.below bP
      have TU1 : Hid (TxL u1 aU U) := TU5.out.below bP
      have TD1 : Hid (TxL u1 (some ⟨gD, oD, none⟩) D) := TDr.out.below bP
      have TO1 : Hid (Tn u1 gX D) := HTo.out.below bP
      have BU1 : Hid (Below w.heap.size w u1) := Br.out.trans (bP.mono Br.out.size)
      clear tP bP TEr TV5 TU5 TDr HTo Br E1
      go_wp2_with fail
      refine Calls.mono (E2.out _ _ TE1.out) ?_
      rintro e u2 ⟨aQ, rfl, tQ, bQ⟩
      have TQ : Hid (TxL u2 aQ (mixL (cyX M K) E d)) := tQ.txl
      have MP2 : Hid (Mad wq aP (mixL (cyX M K) D d) u2) := MP1.out.below bQ
      have TV2 : Hid (TxL u2 aV V) := TV1.out.below bQ
      have TU2 : Hid (TxL u2 aU U) := TU1.out.below bQ
      have TD2 : Hid (TxL u2 (some ⟨gD, oD, none⟩) D) := TD1.out.below bQ
      have TO2 : Hid (Tn u2 gX D) := TO1.out.below bQ
      have BU2 : Hid (Below w.heap.size w u2) := BU1.out.trans (bQ.mono BU1.out.size)
      clear tQ bQ TE1 TV1 TU1 TD1 TO1 BU1 MP1 E2
      go_wp2_with fail
      refine Calls.mono (E3.out _ _ TV2.out) ?_
      rintro e u3 ⟨aR, rfl, tR, bR⟩
      have TR : Hid (TxL u3 aR (mixL (cyX M K) V d)) := tR.txl
      have TQ3 : Hid (TxL u3 aQ (mixL (cyX M K) E d)) := TQ.out.below bR
      have MP3 : Hid (Mad wq aP (mixL (cyX M K) D d) u3) := MP2.out.below bR
      have TU3 : Hid (TxL u3 aU U) := TU2.out.below bR
      have TD3 : Hid (TxL u3 (some ⟨gD, oD, none⟩) D) := TD2.out.below bR
      have TO3 : Hid (Tn u3 gX D) := TO2.out.below bR
      have BU3 : Hid (Below w.heap.size w u3) := BU2.out.trans (bR.mono BU2.out.size)
      clear tR bR TV2 TU2 TD2 TO2 BU2 MP2 TQ E3
      go_wp2_with fail
      refine Calls.mono (E4.out _ _ TU3.out) ?_
      rintro e u4 ⟨aS, rfl, tS, bS⟩
      have TS4 : Hid (TxL u4 aS (mixL (cyX M K) U (to - fr))) := tS.txl
      have TR4 : Hid (TxL u4 aR (mixL (cyX M K) V d)) := TR.out.below bS
      have TQ4 : Hid (TxL u4 aQ (mixL (cyX M K) E d)) := TQ3.out.below bS
      have MP4 : Hid (Mad wq aP (mixL (cyX M K) D d) u4) := MP3.out.below bS
      have TP4 : Hid (TxL u4 aP (mixL (cyX M K) D d)) := MP4.out.txl
      have TD4 : Hid (TxL u4 (some ⟨gD, oD, none⟩) D) := TD3.out.below bS
      have TO4 : Hid (Tn u4 gX D) := TO3.out.below bS
      have BU4 : Hid (Below w.heap.size w u4) := BU3.out.trans (bS.mono BU3.out.size)
      have hMz : ((M : Int) != (M : Int)) = false := by simp
      clear tS bS TU3 TD3 TO3 BU3 MP3 TQ3 TR E4
      go_wp2_with fail
      go_loopw [35] (fun t wr => ∃ i : Nat, i ≤ M ∧ t = .int .i64 i ∧ Hid (Below u4.heap.size u4 wr)) (fun t _ => M - (intOf t).toNat)
      case atStart => exact ⟨0, by omega, rfl, Below.refl _ _⟩
      case round =>
        obtain ⟨i, hiM, rfl, HB⟩ := hrel
        by_cases hlt : i < M
        · have hiz : (i : Int) < (M : Nat) := by omega
          obtain ⟨r, hr⟩ : ∃ r, (cyX M K)[i]? = some r := ⟨_, List.getElem?_eq_getElem (by rw [cyX_len M K (by omega) hK1 (by omega)]; exact hlt)⟩
          obtain ⟨gP, oP, rfl, hgP, hcP⟩ := TP4.out i _ (mixL_at _ _ d i r hr)
          obtain ⟨gQ, oQ, rfl, hgQ, hcQ⟩ := TQ4.out i _ (mixL_at _ _ d i r hr)
          obtain ⟨gR, oR, rfl, hgR, hcR⟩ := TR4.out i _ (mixL_at _ _ d i r hr)
          obtain ⟨gS, oS, rfl, hgS, hcS⟩ := TS4.out i _ (mixL_at _ _ (to - fr) i r hr)
          rw [MV.out r] at hcR
          rw [MU.out r] at hcS
          have zp : (mixT r D d).size = d := mixT_size _ _ _
          have zq : (mixT r E d).size = d := mixT_size _ _ _
          obtain ⟨p, hp⟩ : ∃ p, mixT r D d = p := ⟨_, rfl⟩
          obtain ⟨qq, hqq⟩ : ∃ p, mixT r E d = p := ⟨_, rfl⟩
          rw [hp] at hcP hcR hcS zp
          rw [hqq] at hcQ hcR zq
          rw [← ext_pc fr to p hft (by omega)] at hcS
          obtain ⟨vv, hvv⟩ : ∃ x, ovT p qq = x := ⟨_, rfl⟩
          obtain ⟨ss, hss⟩ : ∃ x, p.extract fr to = x := ⟨_, rfl⟩
          have co := fun W => over_any p qq d W zp zq (by omega)
          rw [hvv] at hcR co
          rw [hss] at hcS
          have CO : Hid (∀ W, Below u4.heap.size u4 W → Calls Try.prog 11 #[.string p, .string qq] W fun e w' => e = .returned (.string vv) ∧ Below u4.heap.size u4 w') := fun W hW => (co W).mono (fun e w' ⟨h1, h2⟩ => ⟨h1, hW.trans (h2.mono hW.size)⟩)
          have CP : Hid (∀ W, Below u4.heap.size u4 W → W.cell? ⟨gP, oP + i, none⟩ = some (.string p)) := fun W hW => (hW.cell (p := ⟨gP, oP + i, none⟩) hgP).trans hcP
          have CQ : Hid (∀ W, Below u4.heap.size u4 W → W.cell? ⟨gQ, oQ + i, none⟩ = some (.string qq)) := fun W hW => (hW.cell (p := ⟨gQ, oQ + i, none⟩) hgQ).trans hcQ
          have CR : Hid (∀ W, Below u4.heap.size u4 W → W.cell? ⟨gR, oR + i, none⟩ = some (.string vv)) := fun W hW => (hW.cell (p := ⟨gR, oR + i, none⟩) hgR).trans hcR
          have CS : Hid (∀ W, Below u4.heap.size u4 W → W.cell? ⟨gS, oS + i, none⟩ = some (.string ss)) := fun W hW => (hW.cell (p := ⟨gS, oS + i, none⟩) hgS).trans hcS
          have hf7 : (fr : Int) ≤ (to : Nat) := by omega
          have ht7 : (to : Int) ≤ (p.size : Nat) := by omega
          have hdz : ((d : Int) != (d : Int)) = false := by simp
          clear co hcP hcQ hcR hcS hp hqq hvv hr
          go_wp2_with fail
          refine wp_region_cls (Below u4.heap.size u4) (by kernel_rfl) (by kernel_rfl) HB.out.drew ?_
          repeat (first
            | go_big_quiet_skip
            | (go_big_quiet_want
               first
                 | (go_big_quiet_op; go_big_quiet_on)
                 | (refine quiet_tl _ rfl gP (oP + i) p rfl CP.out ?_; go_big_quiet_on; simp only [Act.put, List.setIfInBounds_toArray, List.set_cons_zero, List.set_cons_succ])
                 | (refine quiet_tl _ rfl gQ (oQ + i) qq rfl CQ.out ?_; go_big_quiet_on; simp only [Act.put, List.setIfInBounds_toArray, List.set_cons_zero, List.set_cons_succ])
                 | (refine quiet_tl _ rfl gR (oR + i) vv rfl CR.out ?_; go_big_quiet_on; simp only [Act.put, List.setIfInBounds_toArray, List.set_cons_zero, List.set_cons_succ])
                 | (refine quiet_tl _ rfl gS (oS + i) ss rfl CS.out ?_; go_big_quiet_on; simp only [Act.put, List.setIfInBounds_toArray, List.set_cons_zero, List.set_cons_succ])
                 | (refine quiet_call (.string vv) 11 #[.string p, .string qq] ?_ ?_ ?_; (focus (intro W hW; go_simp; done)); (focus (intro W hW; exact CO.out W hW)); go_big_quiet_on; simp only [Act.put, List.setIfInBounds_toArray, List.set_cons_zero, List.set_cons_succ])
                 | (refine quiet_val (.bool false) ?_ ?_; (focus (intro W hW; go_simp; done)); go_big_quiet_on; simp only [Act.put, List.setIfInBounds_toArray, List.set_cons_zero, List.set_cons_succ])
                 | (refine quiet_val (.int .i64 (d : Int)) ?_ ?_; (focus (intro W hW; go_simp; done)); go_big_quiet_on; simp only [Act.put, List.setIfInBounds_toArray, List.set_cons_zero, List.set_cons_succ])
                 | (refine quiet_val (.string ss) ?_ ?_; (focus (intro W hW; go_simp; done)); go_big_quiet_on; simp only [Act.put, List.setIfInBounds_toArray, List.set_cons_zero, List.set_cons_succ])
                 | (refine quiet_val (.pointer (some ⟨gP, oP + i, none⟩)) ?_ ?_; (focus (intro W hW; go_simp; done)); go_big_quiet_on; simp only [Act.put, List.setIfInBounds_toArray, List.set_cons_zero, List.set_cons_succ])
                 | (refine quiet_val (.pointer (some ⟨gQ, oQ + i, none⟩)) ?_ ?_; (focus (intro W hW; go_simp; done)); go_big_quiet_on; simp only [Act.put, List.setIfInBounds_toArray, List.set_cons_zero, List.set_cons_succ])
                 | (refine quiet_val (.pointer (some ⟨gR, oR + i, none⟩)) ?_ ?_; (focus (intro W hW; go_simp; done)); go_big_quiet_on; simp only [Act.put, List.setIfInBounds_toArray, List.set_cons_zero, List.set_cons_succ])
                 | (refine quiet_val (.pointer (some ⟨gS, oS + i, none⟩)) ?_ ?_; (focus (intro W hW; go_simp; done)); go_big_quiet_on; simp only [Act.put, List.setIfInBounds_toArray, List.set_cons_zero, List.set_cons_succ])))
          refine wpQuiet_nil ?_
          intro u5 hu5
          have HB5 : Hid (Below u4.heap.size u4 u5) := hu5
          clear hu5 HB CO CP CQ CR CS
          go_wp2
          go_roundw
          case rel => exact ⟨i + 1, by omega, by go_num, HB5.out⟩
          case measure => simp [intOf]; omega
        · have hiz : ¬ (i : Int) < (M : Nat) := by omega
          have BUr : Hid (Below w.heap.size w wr) := BU4.out.trans (HB.out.mono BU4.out.size)
          by_cases hd0 : d = 0
          · have hd0z : ((d : Int) == 0) = true := by rw [hd0]; rfl
            clear hd0
            go_wp2
            go_ret
            exact ⟨rfl, BUr.out⟩
          · have hd0z : ((d : Int) == 0) = false := by rw [beq_eq_false_iff_ne]; omega
            by_cases hy0 : y8 = 0
            · have hy0z : ((y8.toNat : Int) == 0) = true := by rw [hy0]; rfl
              clear hy0 hd0
              go_wp2
              go_ret
              exact ⟨rfl, BUr.out⟩
            · have hy0z : ((y8.toNat : Int) == 0) = false := by
                rw [beq_eq_false_iff_ne]
                intro e
                exact hy0 (UInt8.toNat_inj.1 (by simpa using e))
              obtain ⟨KD, hKD⟩ : ∃ KD : Nat, (K : Int) * d = KD := ⟨K * d, by rw [Int.natCast_mul]⟩
              have hKDn : K * d = KD := by rw [← Int.natCast_mul] at hKD; omega
              have hKD2 : KD ≤ 32 * d := by rw [← hKDn]; exact Nat.mul_le_mul_right d hK32
              have hKDb : KD ≤ 4503599627370496 := by omega
              have hKD1 : 1 ≤ KD := by rw [← hKDn]; exact Nat.mul_pos (by omega) (by omega)
              have hKD0 : ((KD : Int) == 0) = false := by rw [beq_eq_false_iff_ne]; omega
              obtain ⟨t5, ht5⟩ : ∃ t, a0.tmod (KD : Int) = t := ⟨_, rfl⟩
              have hb5 := tmod_bd a0 KD hKD1
              rw [ht5] at hb5
              obtain ⟨q5, hq5, hq52⟩ := tmod_nat (t5 + KD) KD hKD1 (by omega)
              obtain ⟨l, hl⟩ : ∃ l, q5 / d = l := ⟨_, rfl⟩
              obtain ⟨r, hr⟩ : ∃ r, q5 % d = r := ⟨_, rfl⟩
              have hlK : l < K := by rw [← hl, Nat.div_lt_iff_lt_mul (by omega)]; omega
              have hrd : r < d := by rw [← hr]; exact Nat.mod_lt _ (by omega)
              have hlz1 : (q5 : Int) / (d : Int) = (l : Int) := by rw [← hl]; exact (Int.natCast_ediv q5 d).symm
              have hrz1 : (q5 : Int) % (d : Int) = (r : Int) := by rw [← hr]; exact (Int.natCast_emod q5 d).symm
              have hlz2 : (q5 : Int).tdiv (d : Int) = (l : Int) := by rw [Int.tdiv_eq_ediv_of_nonneg (by omega)]; exact hlz1
              have hrz2 : (q5 : Int).tmod (d : Int) = (r : Int) := by rw [Int.tmod_eq_emod_of_nonneg (by omega)]; exact hrz1
              obtain ⟨x1, hx1⟩ : ∃ x, D[l]? = some x := ⟨_, List.getElem?_eq_getElem (by rw [ND.out]; exact hlK)⟩
              have hx1s : x1.size = d := SD.out x1 (List.mem_of_getElem? hx1)
              have hc1 := (TD4.out.below HB.out).cel hx1
              have HTr : Hid (Tn wr gX D) := TO4.out.below HB.out
              have hgXr : gX < wr.heap.size := HTr.out.lt
              obtain ⟨cap, W1, hcv, hcap, hbW, hcby⟩ := conv_to x1 wr
              rw [hx1s] at hcv hcap hcby
              have HC1 : Hid (Cby W1 wr.heap.size d (bt x1)) := hcby
              have HT1 : Hid (Tn W1 gX D) := HTr.out.below hbW
              have HB1 : Hid (Below w.heap.size w W1) := BUr.out.trans (hbW.mono BUr.out.size)
              have MPr : Hid (Mad wq aP (mixL (cyX M K) D d) W1) := (MP4.out.below HB.out).below hbW
              have hMr : ∀ b o s, aP = some ⟨b, o, s⟩ → wq.heap.size ≤ b ∧ b < wr.heap.size := (MP4.out.below HB.out).lo
              have HMr : Hid _ := hMr
              have hcb := HC1.out.cell r hrd
              have hfb := HC1.out.frozen r hrd
              have hzr : w.heap.size ≤ wr.heap.size := BUr.out.size
              have HPC : Hid _ := fun c (hc : c < M) p (hp : p < d) => par_change M K d l r c y8 D x1 hK1 (by omega) ND.out hx1 SD.out hy0 hc p hp
              have HX1 : Hid (D[l]? = some x1) := hx1
              clear hcby hMr hbW hKDn hl hr hx1 hKD2 hd0 hy0 TD4 TQ4 TR4 TS4 TO4 TP4 MP4 HB MV MU HTr
              go_wp2
              go_region
              obtain ⟨X8, hX8⟩ : ∃ X : Int, bits .xor .u8 ((bt x1 r).toNat : Int) (y8.toNat : Int) = X := ⟨_, rfl⟩
              rw [hX8]
              have HC2 : Hid (Cby (W1.setCell ⟨wr.heap.size, r, none⟩ (.int .u8 X8)).drew wr.heap.size d (fun j => if j = r then bt x1 r ^^^ y8 else bt x1 j)) := by
                have h := HC1.out.set r hrd (bt x1 r ^^^ y8)
                rw [show c8 (bt x1 r ^^^ y8) = Value.int .u8 X8 from by rw [← hX8]; show Value.int _ _ = _; rw [xor8]] at h
                exact cby_drew h
              have HT2 : Hid (Tn (W1.setCell ⟨wr.heap.size, r, none⟩ (.int .u8 X8)).drew gX D) := tn_drew (HT1.out.grown (Lib.grownBy_setB (World.grownBy.refl _ _) r _) (by simp; omega))
              have HB2 : Hid (Below w.heap.size w (W1.setCell ⟨wr.heap.size, r, none⟩ (.int .u8 X8)).drew) := (HB1.out.setCell hzr _).drew
              have MP2 : Hid (Mad wq aP (mixL (cyX M K) D d) (W1.setCell ⟨wr.heap.size, r, none⟩ (.int .u8 X8)).drew) := MPr.out.grown (Lib.Hx.grownBy_drew (Lib.grownBy_setB (World.grownBy.refl W1 (some wr.heap.size)) r _)) (fun b o s e => by have := (HMr.out b o s e).2; simp; omega)
              generalize (W1.setCell ⟨wr.heap.size, r, none⟩ (.int .u8 X8)).drew = W2 at HC2 HT2 HB2 MP2 ⊢
              obtain ⟨y, hy⟩ : ∃ y, mkT (fl d (fun j => if j = r then bt x1 r ^^^ y8 else bt x1 j)) = y := ⟨_, rfl⟩
              have hcv2 := conv_fro wr.heap.size d cap (fun j => if j = r then bt x1 r ^^^ y8 else bt x1 j) W2.drew (fun j hj => (cby_drew HC2.out).cell j hj)
              rw [hy] at hcv2
              have hych : chT r y8 x1 = y := by
                rw [← hy, chT, hx1s]
                congr 1
                refine fl_congr d _ _ (fun p hp => ?_)
                by_cases e : p = r
                · rw [if_pos e, if_pos e, e]
                · rw [if_neg e, if_neg e]
              have hys : y.size = d := by rw [← hy, mkT_size, fl_len]
              have hpc := HPC.out
              rw [hych] at hpc
              have hcX : W2.cell? ⟨gX, l, none⟩ = some (.string x1) := by
                have := HT2.out.txl.cel HX1.out
                rwa [Nat.zero_add] at this
              have hfX : W2.frozen? ⟨gX, l, none⟩ = false := by
                obtain ⟨cur2, hB2, _⟩ := HT2.out
                exact hB2.frozen l
              have HT3 : Hid (Tn (W2.setCell ⟨gX, l, none⟩ (.string y)).drew gX (D.set l y)) := tn_drew (HT2.out.set l (by rw [ND.out]; exact hlK) y)
              have HB3 : Hid (Below w.heap.size w (W2.setCell ⟨gX, l, none⟩ (.string y)).drew) := (HB2.out.setCell hgX _).drew
              have MP3 : Hid (Mad wq aP (mixL (cyX M K) D d) (W2.setCell ⟨gX, l, none⟩ (.string y)).drew) := MP2.out.grown (Lib.Hx.grownBy_drew (Lib.grownBy_setB (World.grownBy.refl W2 (some gX)) l _)) (fun b o s e => by have := (HMr.out b o s e).1; simp; omega)
              have SO : ∀ x ∈ D.set l y, x.size = d := fun x hx => by
                rcases List.mem_or_eq_of_mem_set hx with h | h
                · exact SD.out x h
                · rw [h]; exact hys
              have e5 := fun c W h => enc_ok (D.set l y) K M d (some ⟨gX, 0, none⟩) c W h (by rw [List.length_set]; exact ND.out) hK1 hK32 hKM SO (by omega)
              obtain ⟨O, hO⟩ : ∃ O, D.set l y = O := ⟨_, rfl⟩
              rw [hO] at HT3 e5 hpc
              have E5 : Hid _ := e5
              have PC : Hid _ := hpc
              clear e5 hpc SO hych hys hy hO HPC HC1 HT1 HB1 hcb hfb
              go_wp2
              go_region
              generalize (W2.setCell ⟨gX, l, none⟩ (.string y)).drew = W3 at HT3 HB3 MP3 ⊢
              clear hcX hfX hcv2 HC2 HT2 HB2 MP2 hKD hKDb hKD1 hKD0 ht5 hb5 hq5 hq52 hlz1 hlz2 hcv hcap hX8 hc1 HMr HX1 BUr BU4 hx1s a1 a2 NV NU EV EU SV SU hgX hgXq hgXr hzr MPr
              go_wp2_with fail
              refine Calls.mono (E5.out _ _ HT3.out.txl) ?_
              rintro e W4 ⟨aW, rfl, tW, bW⟩
              have TW : Hid (TxL W4 aW (mixL (cyX M K) O d)) := tW.txl
              have TP4 : Hid (TxL W4 aP (mixL (cyX M K) D d)) := MP3.out.txl.below bW
              have B4 : Hid (Below w.heap.size w W4) := HB3.out.trans (bW.mono HB3.out.size)
              clear tW bW HT3 HB3 MP3 E5
              go_wp2_with fail
              go_loopw [39] (fun t wr => ∃ c : Nat, c ≤ M ∧ t = .int .i64 c ∧ Hid (Below W4.heap.size W4 wr)) (fun t _ => M - (intOf t).toNat)
              case atStart => exact ⟨0, by omega, rfl, Below.refl _ _⟩
              case round =>
                obtain ⟨c, hcM, rfl, HB⟩ := hrel
                by_cases hclt : c < M
                · have hcz : (c : Int) < (M : Nat) := by omega
                  obtain ⟨rr, hrr⟩ : ∃ r, (cyX M K)[c]? = some r := ⟨_, List.getElem?_eq_getElem (by rw [cyX_len M K (by omega) hK1 (by omega)]; exact hclt)⟩
                  obtain ⟨gP, oP, rfl, hgP, hcP⟩ := TP4.out c _ (mixL_at _ _ d c rr hrr)
                  obtain ⟨gW, oW, rfl, hgW, hcW⟩ := TW.out c _ (mixL_at _ _ d c rr hrr)
                  have zp : (mixT rr D d).size = d := mixT_size _ _ _
                  have zo : (mixT rr O d).size = d := mixT_size _ _ _
                  have pc := PC.out c hclt
                  simp only [dm_at _ c _ _ (mixL_at _ _ d c rr hrr)] at pc
                  obtain ⟨p, hp⟩ : ∃ p, mixT rr D d = p := ⟨_, rfl⟩
                  obtain ⟨o, ho⟩ : ∃ p, mixT rr O d = p := ⟨_, rfl⟩
                  rw [hp] at hcP zp pc
                  rw [ho] at hcW zo pc
                  have HPC : Hid _ := pc
                  have CP : Hid (∀ W, Below W4.heap.size W4 W → W.cell? ⟨gP, oP + c, none⟩ = some (.string p)) := fun W hW => (hW.cell (p := ⟨gP, oP + c, none⟩) hgP).trans hcP
                  have CW : Hid (∀ W, Below W4.heap.size W4 W → W.cell? ⟨gW, oW + c, none⟩ = some (.string o)) := fun W hW => (hW.cell (p := ⟨gW, oW + c, none⟩) hgW).trans hcW
                  clear pc hcP hcW hp ho hrr
                  go_wp2_with fail
                  go_loopw [40] (fun t wr => ∃ j : Nat, j ≤ d ∧ t = .int .i64 j ∧ Hid (Below W4.heap.size W4 wr)) (fun t _ => d - (intOf t).toNat)
                  case atStart => exact ⟨0, by omega, rfl, HB.out⟩
                  case round =>
                    clear HB
                    obtain ⟨j, hjd, rfl, HB⟩ := hrel
                    by_cases hjlt : j < d
                    · have hjz : (j : Int) < (d : Nat) := by omega
                      have hjo : j < o.size := by omega
                      have hjp : j < p.size := by omega
                      have hpj := HPC.out j hjlt
                      rw [← bt_at o j hjo, ← bt_at p j hjp] at hpj
                      obtain ⟨bo, hbo⟩ : ∃ b, o[j]'hjo = b := ⟨_, rfl⟩
                      obtain ⟨bp, hbp⟩ : ∃ b, p[j]'hjp = b := ⟨_, rfl⟩
                      rw [hbo, hbp] at hpj
                      have hdz : ((d : Int) != (d : Int)) = false := by simp
                      have HRW : Hid (IntKind.i64.wrap (r : Int) = r) := by show _ = _; rw [IntKind.wrap_i64]; omega
                      have hbo8 := bo.toNat_lt
                      have hbp8 := bp.toNat_lt
                      by_cases hjr : j = r
                      · have hne : ((bo.toNat : Int) != (bp.toNat : Int)) = true := by
                          rw [bne_iff_ne]
                          intro e
                          exact hpj.2 hjr (UInt8.toNat_inj.1 (by omega))
                        have hjrz : ((j : Int) == (r : Int)) = true := by rw [hjr]; simp
                        clear hpj hjr
                        go_wp2_with fail
                        refine wp_region_cls (Below W4.heap.size W4) (by kernel_rfl) (by kernel_rfl) HB.out.drew ?_
                        repeat (first
                          | go_big_quiet_skip
                          | (go_big_quiet_want
                             first
                               | (go_big_quiet_op; go_big_quiet_on)
                               | (refine quiet_tl _ rfl gP (oP + c) p rfl CP.out ?_; go_big_quiet_on; simp only [Act.put, List.setIfInBounds_toArray, List.set_cons_zero, List.set_cons_succ])
                               | (refine quiet_tl _ rfl gW (oW + c) o rfl CW.out ?_; go_big_quiet_on; simp only [Act.put, List.setIfInBounds_toArray, List.set_cons_zero, List.set_cons_succ])
                               | (refine quiet_val (.bool false) ?_ ?_; (focus (intro W hW; go_simp; done)); go_big_quiet_on; simp only [Act.put, List.setIfInBounds_toArray, List.set_cons_zero, List.set_cons_succ])
                               | (refine quiet_val (.bool true) ?_ ?_; (focus (intro W hW; go_simp; done)); go_big_quiet_on; simp only [Act.put, List.setIfInBounds_toArray, List.set_cons_zero, List.set_cons_succ])
                               | (refine quiet_val (.int .i64 (d : Int)) ?_ ?_; (focus (intro W hW; go_simp; done)); go_big_quiet_on; simp only [Act.put, List.setIfInBounds_toArray, List.set_cons_zero, List.set_cons_succ])
                               | (refine quiet_val (.int .u8 (bo.toNat : Int)) ?_ ?_; (focus (intro W hW; go_simp; done)); go_big_quiet_on; simp only [Act.put, List.setIfInBounds_toArray, List.set_cons_zero, List.set_cons_succ])
                               | (refine quiet_val (.int .u8 (bp.toNat : Int)) ?_ ?_; (focus (intro W hW; go_simp; done)); go_big_quiet_on; simp only [Act.put, List.setIfInBounds_toArray, List.set_cons_zero, List.set_cons_succ])
                               | (refine quiet_val (.int .i64 (r : Int)) ?_ ?_; (focus (intro W hW; go_simp; first | done | exact HRW.out | omega)); go_big_quiet_on; simp only [Act.put, List.setIfInBounds_toArray, List.set_cons_zero, List.set_cons_succ])
                               | (refine quiet_val (.pointer (some ⟨gP, oP + c, none⟩)) ?_ ?_; (focus (intro W hW; go_simp; done)); go_big_quiet_on; simp only [Act.put, List.setIfInBounds_toArray, List.set_cons_zero, List.set_cons_succ])
                               | (refine quiet_val (.pointer (some ⟨gW, oW + c, none⟩)) ?_ ?_; (focus (intro W hW; go_simp; done)); go_big_quiet_on; simp only [Act.put, List.setIfInBounds_toArray, List.set_cons_zero, List.set_cons_succ])))
                        refine wpQuiet_nil ?_
                        intro u5 hu5
                        have HB5 : Hid (Below W4.heap.size W4 u5) := hu5
                        clear hu5 HB
                        go_wp2
                        go_roundw
                        case rel => exact ⟨j + 1, by omega, by go_num, HB5.out⟩
                        case measure => simp [intOf]; omega
                      · have hne : ((bo.toNat : Int) != (bp.toNat : Int)) = false := by
                          rw [bne_eq_false_iff_eq]
                          have e : bo = bp := by
                            rcases Classical.em (bo = bp) with h | h
                            · exact h
                            · exact absurd (hpj.1 h) hjr
                          rw [e]
                        have hjrz : ((j : Int) == (r : Int)) = false := by rw [beq_eq_false_iff_ne]; omega
                        clear hpj hjr
                        go_wp2_with fail
                        refine wp_region_cls (Below W4.heap.size W4) (by kernel_rfl) (by kernel_rfl) HB.out.drew ?_
                        repeat (first
                          | go_big_quiet_skip
                          | (go_big_quiet_want
                             first
                               | (go_big_quiet_op; go_big_quiet_on)
                               | (refine quiet_tl _ rfl gP (oP + c) p rfl CP.out ?_; go_big_quiet_on; simp only [Act.put, List.setIfInBounds_toArray, List.set_cons_zero, List.set_cons_succ])
                               | (refine quiet_tl _ rfl gW (oW + c) o rfl CW.out ?_; go_big_quiet_on; simp only [Act.put, List.setIfInBounds_toArray, List.set_cons_zero, List.set_cons_succ])
                               | (refine quiet_val (.bool false) ?_ ?_; (focus (intro W hW; go_simp; done)); go_big_quiet_on; simp only [Act.put, List.setIfInBounds_toArray, List.set_cons_zero, List.set_cons_succ])
                               | (refine quiet_val (.bool true) ?_ ?_; (focus (intro W hW; go_simp; done)); go_big_quiet_on; simp only [Act.put, List.setIfInBounds_toArray, List.set_cons_zero, List.set_cons_succ])
                               | (refine quiet_val (.int .i64 (d : Int)) ?_ ?_; (focus (intro W hW; go_simp; done)); go_big_quiet_on; simp only [Act.put, List.setIfInBounds_toArray, List.set_cons_zero, List.set_cons_succ])
                               | (refine quiet_val (.int .u8 (bo.toNat : Int)) ?_ ?_; (focus (intro W hW; go_simp; done)); go_big_quiet_on; simp only [Act.put, List.setIfInBounds_toArray, List.set_cons_zero, List.set_cons_succ])
                               | (refine quiet_val (.int .u8 (bp.toNat : Int)) ?_ ?_; (focus (intro W hW; go_simp; done)); go_big_quiet_on; simp only [Act.put, List.setIfInBounds_toArray, List.set_cons_zero, List.set_cons_succ])
                               | (refine quiet_val (.int .i64 (r : Int)) ?_ ?_; (focus (intro W hW; go_simp; first | done | exact HRW.out | omega)); go_big_quiet_on; simp only [Act.put, List.setIfInBounds_toArray, List.set_cons_zero, List.set_cons_succ])
                               | (refine quiet_val (.pointer (some ⟨gP, oP + c, none⟩)) ?_ ?_; (focus (intro W hW; go_simp; done)); go_big_quiet_on; simp only [Act.put, List.setIfInBounds_toArray, List.set_cons_zero, List.set_cons_succ])
                               | (refine quiet_val (.pointer (some ⟨gW, oW + c, none⟩)) ?_ ?_; (focus (intro W hW; go_simp; done)); go_big_quiet_on; simp only [Act.put, List.setIfInBounds_toArray, List.set_cons_zero, List.set_cons_succ])))
                        refine wpQuiet_nil ?_
                        intro u5 hu5
                        have HB5 : Hid (Below W4.heap.size W4 u5) := hu5
                        clear hu5 HB
                        go_wp2
                        go_roundw
                        case rel => exact ⟨j + 1, by omega, by go_num, HB5.out⟩
                        case measure => simp [intOf]; omega
                    · have hjz : ¬ (j : Int) < (d : Nat) := by omega
                      go_wp2
                      go_roundw
                      case rel => exact ⟨c + 1, by omega, by go_num, HB.out⟩
                      case measure => simp [intOf]; omega
                · have hcz : ¬ (c : Int) < (M : Nat) := by omega
                  go_wp2
                  go_ret
                  exact ⟨rfl, B4.out.trans (HB.out.mono B4.out.size)⟩
end Go.Proofs.Ytecpcocnoengiaa
