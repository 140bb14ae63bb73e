import Derived.Test.YteccnnpialaalaaDoorY17
import Derived.Test.YteccnnpialaalaaDoorY8
import Derived.Test.YteccnnpialaalaaDoorY7
/- The document's payload of a table. -/
namespace Go.Proofs.YteccnnpialaalaaDoor
open Go.RowKit
set_option linter.unusedSimpArgs false
set_option linter.unusedVariables false
theorem agg_int17 (w : World) : (isAgg 3).run Tryd.prog w = .ok false w := Tryd.isAgg3 w
theorem agg_str17 (w : World) : (isAgg 9).run Tryd.prog w = .ok false w := Tryd.isAgg9 w
/-- What payload tells. -/
def PyR (P : ByteArray) (w : World) (e : Ending) (w' : World) : Prop := ∃ C ok, e = .returned (.tuple #[.agg C, .bool ok]) ∧ TkB P w.heap.size C ok w' ∧ Below w.heap.size w w'
set_option maxHeartbeats 8000000 in
set_option maxRecDepth 100000 in
theorem rpayload17 (P : ByteArray) (w : World) (hP : P.size ≤ 67108872) :
    Calls Tryd.prog 28 #[.string P] w fun e w' => PyR P w e w' := by
  have H0 : Hid (PyW w P (c417 P 0) _) := PyW.new w P
  have HSZ : Hid (∀ i, (rd17 P i).size ≤ maxLen) := fun i => by have := rd17_size P i; unfold maxLen; omega
  have HI4 : Hid ((Tryd.prog.info? 25).map (·.size) = some 4) := inf_tbR
  go_enter Tryd.func28, Tryd.ntmps28
  go_wp2
  go_loopw [6] (fun v wr => ∃ i : Nat, v = .int .i64 i ∧ i ≤ 4 ∧ (∀ j, j < i → okN17 P j) ∧ Hid (PyW w (rd17 P i) (c417 P i) wr)) (fun v _ => 4 - (intOf v).toNat)
  case atStart => exact ⟨0, rfl, by omega, fun j hj => absurd hj (by omega), H0.out⟩
  case round =>
    clear H0
    obtain ⟨i, rfl, hi4, hoks, HS⟩ := hrel
    have HOK : Hid (∀ j, j < i → okN17 P j) := hoks
    clear hoks
    by_cases hlt : i < 4
    · have hiz : (i : Int) < 4 := by omega
      have hi0 : (0 : Int) ≤ (i : Int) := by omega
      obtain ⟨E, hE⟩ : ∃ E, unE17 (rd17 P i) = E := ⟨_, rfl⟩
      obtain ⟨N, hN⟩ : ∃ N, nm17 P i = N := ⟨_, rfl⟩
      have HCA : Hid (Calls Tryd.prog 44 #[.pointer (some ⟨w.heap.size + 1, 0, none⟩)] wr fun e w' => e = .returned (.tuple #[.int .u64 (N : Int), .int .i64 E]) ∧ Step (w.heap.size + 1) wr w' (rd17 P (i + 1))) := by
        have := ruint17 (w.heap.size + 1) (rd17 P i) wr HS.out.cell HS.out.frz (by have := HS.out.lt; omega) (HSZ.out i)
        rw [hE] at this
        rw [← hN]
        exact this
      have HEN : Hid (unE17 (rd17 P i) = E ∧ nm17 P i = N ∧ N < 18446744073709551616) := ⟨hE, hN, by rw [← hN]; exact unN17_lt _⟩
      clear hE hN
      go_wp2_with fail
      refine HCA.out.mono ?_
      rintro e w1 ⟨rfl, hst⟩
      have H1 : Hid (PyW w (rd17 P (i + 1)) (c417 P i) w1) := HS.out.step hst
      clear hst HCA HS
      by_cases hok : E = 0 ∧ N ≤ 67108864
      · obtain ⟨hE0, hN6⟩ := hok
        subst hE0
        have hN6z : ¬ (67108864 : Int) < (N : Int) := by omega
        have hNw : IntKind.i64.wrap (N : Int) = (N : Int) := by rw [IntKind.wrap_i64]; omega
        have HOK2 : Hid (∀ j, j < i + 1 → okN17 P j) := fun j hj => by
          by_cases hji : j < i
          · exact HOK.out j hji
          · obtain rfl : j = i := by omega
            exact ⟨HEN.out.1, by rw [HEN.out.2.1]; exact hN6⟩
        obtain ⟨x, hx⟩ := c417_get P i hlt
        have hcl : w1.cell? ⟨w.heap.size + 2, i, none⟩ = some (.int .i64 x) := by rw [H1.out.b4.cell]; exact hx
        have hfr := H1.out.b4.frozen i
        have H2 : Hid (PyW w (rd17 P (i + 1)) (c417 P (i + 1)) (w1.setCell ⟨w.heap.size + 2, i, none⟩ (.int .i64 (N : Int)))) := by
          show PyW _ _ _ _
          rw [← c417_next P i hlt, HEN.out.2.1]
          exact H1.out.set i _
        clear hx H1 HOK
        go_wp2
        go_roundw
        case rel => exact ⟨i + 1, by go_num, by omega, HOK2.out, H2.out⟩
        case measure => simp [intOf]; omega
      · have HNO : Hid (¬ Tk17 P) := fun h => by
          obtain ⟨h1, h2⟩ := h.num i hlt
          exact hok ⟨by rw [← HEN.out.1]; exact h1, by rw [← HEN.out.2.1]; exact h2⟩
        have hE2 : E = 0 ∨ E = 4 := by rw [← HEN.out.1]; exact unE17_or _
        rcases hE2 with rfl | rfl
        · have hN6 : (67108864 : Int) < (N : Int) := by omega
          clear hok
          go_wp2_with (first
            | (refine wpList_bdX0 rfl 25 rfl (.agg zT17) (bd_zR _) ?_)
            | (refine wpList_stoX rfl 25 (.tmp 2) (.tmp 31) rfl w.heap.size zT17 zT17 25 rfl rfl H1.out.b2 HI4.out rfl zT17_one ?_; intro w7 HB7 HG7)
            | fail)
          refine bodyPost_ret (res_cell_tmp rfl _ _ w.heap.size 25 zT17 (0, 0) _ rfl HB7.out Tryd.underlying25 rfl HI4.out) rfl ⟨zT17, false, rfl, .inr ⟨HNO.out, rfl, rfl⟩, H1.out.bel.grown HG7.out H1.out.bel.size (fun b hk => by injection hk with hk; omega)⟩
        · clear hok
          go_wp2_with (first
            | (refine wpList_bdX0 rfl 25 rfl (.agg zT17) (bd_zR _) ?_)
            | (refine wpList_stoX rfl 25 (.tmp 2) (.tmp 31) rfl w.heap.size zT17 zT17 25 rfl rfl H1.out.b2 HI4.out rfl zT17_one ?_; intro w7 HB7 HG7)
            | fail)
          refine bodyPost_ret (res_cell_tmp rfl _ _ w.heap.size 25 zT17 (0, 0) _ rfl HB7.out Tryd.underlying25 rfl HI4.out) rfl ⟨zT17, false, rfl, .inr ⟨HNO.out, rfl, rfl⟩, H1.out.bel.grown HG7.out H1.out.bel.size (fun b hk => by injection hk with hk; omega)⟩
    · have hie : i = 4 := by omega
      have hin : ¬ (i : Int) < 4 := by omega
      rw [hie] at HOK
      have HS4 : Hid (PyW w (rd17 P 4) (c417 P 4) wr) := by rw [hie] at HS; exact HS
      obtain ⟨T, hT⟩ : ∃ T, rd17 P 4 = T := ⟨_, rfl⟩
      obtain ⟨a, ha⟩ : ∃ a, nm17 P 0 = a := ⟨_, rfl⟩
      obtain ⟨d, hd⟩ : ∃ a, nm17 P 1 = a := ⟨_, rfl⟩
      obtain ⟨p, hp⟩ : ∃ a, nm17 P 2 = a := ⟨_, rfl⟩
      obtain ⟨z, hz⟩ : ∃ a, nm17 P 3 = a := ⟨_, rfl⟩
      have HNM : Hid (nm17 P 0 = a ∧ nm17 P 1 = d ∧ nm17 P 2 = p ∧ nm17 P 3 = z ∧ rd17 P 4 = T) := ⟨ha, hd, hp, hz, hT⟩
      have hb67 : a ≤ 67108864 ∧ d ≤ 67108864 ∧ p ≤ 67108864 ∧ z ≤ 67108864 := by
        rw [← ha, ← hd, ← hp, ← hz]
        exact ⟨(HOK.out 0 (by omega)).2, (HOK.out 1 (by omega)).2, (HOK.out 2 (by omega)).2, (HOK.out 3 (by omega)).2⟩
      have hTz : T.size ≤ 67108872 := by rw [← hT]; exact Nat.le_trans (rd17_size P 4) hP
      have HC4 : Hid (c417 P 4 = #[.int .i64 (a : Int), .int .i64 (d : Int), .int .i64 (p : Int), .int .i64 (z : Int)]) := by show _ = _; rw [c417_four, ha, hd, hp, hz]
      have HT0 : Hid (PyW w T #[.int .i64 (a : Int), .int .i64 (d : Int), .int .i64 (p : Int), .int .i64 (z : Int)] wr) := by
        show PyW _ _ _ _
        rw [← HC4.out, ← hT]
        exact HS4.out
      clear ha hd hp hz hT HS HS4 HC4 hie hlt
      have y1 : wr.cell? ⟨w.heap.size + 2, 1, none⟩ = some (.int .i64 (d : Int)) := by rw [HT0.out.b4.cell]; rfl
      have y2 : wr.cell? ⟨w.heap.size + 2, 2, none⟩ = some (.int .i64 (p : Int)) := by rw [HT0.out.b4.cell]; rfl
      have y3 : wr.cell? ⟨w.heap.size + 2, 3, none⟩ = some (.int .i64 (z : Int)) := by rw [HT0.out.b4.cell]; rfl
      have HV0 : Hid (PyV w T #[.int .i64 (a : Int), .int .i64 (d : Int), .int .i64 (p : Int), .int .i64 (z : Int)] wr.heap.size d p z (.slice none 0 0) (rows17 T 0) (wr.alloc (.cells #[.int .i64 (d : Int), .int .i64 (p : Int), .int .i64 (z : Int), .slice none 0 0] 25)).drew) :=
        ⟨(HT0.out.next ((Below.refl _ _).alloc (Nat.le_refl _) _)).next ((Below.refl _ _).drew), bk_new _ _ _, ids_nil _ _, by have := HT0.out.lt; omega⟩
      go_wp2_with (first
        | (refine wpList_buildX rfl 25 _ rfl (.agg #[.int .i64 (d : Int), .int .i64 (p : Int), .int .i64 (z : Int), .slice none 0 0]) (bd_tbR _ _ _ _) ?_)
        | (refine wpList_store_new rfl 25 (.tmp 9) (.tmp 42) rfl #[.int .i64 (d : Int), .int .i64 (p : Int), .int .i64 (z : Int), .slice none 0 0] _ 25 wr.heap.size rfl rfl rfl HI4.out rfl (by simp [Value.oneCell']) ?_)
        | fail)
      obtain ⟨g8, hg8⟩ : ∃ g, wr.heap.size = g := ⟨_, rfl⟩
      rw [hg8] at HV0
      try rw [hg8]
      clear y1 y2 y3 hg8 HT0
      have HUN : Hid (∀ W, PyV w T #[.int .i64 (a : Int), .int .i64 (d : Int), .int .i64 (p : Int), .int .i64 (z : Int)] g8 d p z (.slice none 0 0) (rows17 T 0) W → Calls Tryd.prog 25 #[.int .i64 (d : Int), .int .i64 (p : Int)] W fun e w' => e = .returned (.bool (unB d p)) ∧ PyV w T #[.int .i64 (a : Int), .int .i64 (d : Int), .int .i64 (p : Int), .int .i64 (z : Int)] g8 d p z (.slice none 0 0) (rows17 T 0) w') := fun W hW => (units17 d p W).mono fun e w' ⟨h1, h2⟩ => ⟨h1, h2 ▸ hW⟩
      by_cases ha1 : a = 1
      · have haz : (a : Int) = 1 := by omega
        have hazb : ((a : Int) != 1) = false := by rw [bne_eq_false_iff_eq]; omega
        cases hun : unB d p with
        | false =>
          have HNO : Hid (¬ Tk17 P) := fun h => by
            have h2 := h.may
            rw [HNM.out.2.1, HNM.out.2.2.1, HNM.out.2.2.2.1, HNM.out.2.2.2.2, okT_un, hun] at h2
            simp at h2
          rw [hun] at HUN
          clear hun
          refine region_class10 (PyV w T #[.int .i64 (a : Int), .int .i64 (d : Int), .int .i64 (p : Int), .int .i64 (z : Int)] g8 d p z (.slice none 0 0) (rows17 T 0)) (by kernel_rfl) (by kernel_rfl) HV0.out ?_
          try simp only [Act.put, List.setIfInBounds_toArray, List.set_cons_zero, List.set_cons_succ]
          repeat (first
            | go_big_quiet_skip
            | (go_big_quiet_want
               first
                 | (refine quiet_val10 (.pointer (some ⟨w.heap.size + 1 + 1, 0, none⟩)) ?_ ?_; (focus (intro W hW; go_simp; done)); go_big_quiet_on; simp only [Act.put, List.setIfInBounds_toArray, List.set_cons_zero, List.set_cons_succ])
                 | (refine quiet_one 3 _ rfl (w.heap.size + 1 + 1) 0 (.int .i64 (a : Int)) rfl agg_int17 (fun _ h => by rw [h.tw.b4.cell]; rfl) ?_; go_big_quiet_on; simp only [Act.put, List.setIfInBounds_toArray, List.set_cons_zero, List.set_cons_succ])
                 | (refine quiet_one 3 _ rfl g8 0 (.int .i64 (d : Int)) rfl agg_int17 (fun _ h => h.cells.1) ?_; go_big_quiet_on; simp only [Act.put, List.setIfInBounds_toArray, List.set_cons_zero, List.set_cons_succ])
                 | (refine quiet_one 3 _ rfl g8 1 (.int .i64 (p : Int)) rfl agg_int17 (fun _ h => h.cells.2.1) ?_; go_big_quiet_on; simp only [Act.put, List.setIfInBounds_toArray, List.set_cons_zero, List.set_cons_succ])
                 | (refine quiet_one 9 _ rfl (w.heap.size + 1) 0 (.string T) rfl agg_str17 (fun _ h => h.tw.cell) ?_; go_big_quiet_on; simp only [Act.put, List.setIfInBounds_toArray, List.set_cons_zero, List.set_cons_succ])
                 | (refine quiet_call10 (.bool false) 25 #[.int .i64 (d : Int), .int .i64 (p : Int)] ?_ ?_ ?_; (focus (intro W hW; go_simp; done)); (focus (intro W hW; exact HUN.out W hW)); go_big_quiet_on; simp only [Act.put, List.setIfInBounds_toArray, List.set_cons_zero, List.set_cons_succ])
                 | (refine quiet_val10 (.pointer (some ⟨g8, 0, none⟩)) ?_ ?_; (focus (intro W hW; go_simp; done)); go_big_quiet_on; simp only [Act.put, List.setIfInBounds_toArray, List.set_cons_zero, List.set_cons_succ])
                 | (refine quiet_val10 (.pointer (some ⟨g8, 1, none⟩)) ?_ ?_; (focus (intro W hW; go_simp; done)); go_big_quiet_on; simp only [Act.put, List.setIfInBounds_toArray, List.set_cons_zero, List.set_cons_succ])
                 | (refine quiet_val10 (.pointer (some ⟨w.heap.size + 1, 0, none⟩)) ?_ ?_; (focus (intro W hW; go_simp; done)); go_big_quiet_on; simp only [Act.put, List.setIfInBounds_toArray, List.set_cons_zero, List.set_cons_succ])
                 | (go_big_quiet_op; go_big_quiet_on)
                 | (refine quiet_val10 (.bool false) ?_ ?_; (focus (intro W hW; go_simp; done)); go_big_quiet_on; simp only [Act.put, List.setIfInBounds_toArray, List.set_cons_zero, List.set_cons_succ])
                 | (refine quiet_val10 (.bool true) ?_ ?_; (focus (intro W hW; go_simp; done)); go_big_quiet_on; simp only [Act.put, List.setIfInBounds_toArray, List.set_cons_zero, List.set_cons_succ])
                 | (refine quiet_val10 (.int .i64 ((d : Int) + (p : Int))) ?_ ?_; (focus (intro W hW; go_simp; done)); go_big_quiet_on; simp only [Act.put, List.setIfInBounds_toArray, List.set_cons_zero, List.set_cons_succ])
                 | (refine quiet_val10 (.int .i64 (32 * ((d : Int) + (p : Int)))) ?_ ?_; (focus (intro W hW; go_simp; done)); go_big_quiet_on; simp only [Act.put, List.setIfInBounds_toArray, List.set_cons_zero, List.set_cons_succ])
                 | (refine quiet_val10 (.int .i64 (T.size : Int)) ?_ ?_; (focus (intro W hW; go_simp; done)); go_big_quiet_on; simp only [Act.put, List.setIfInBounds_toArray, List.set_cons_zero, List.set_cons_succ])))
          refine wpQuiet_nil ?_
          intro w9 hw9
          have H9 : Hid (PyV w T #[.int .i64 (a : Int), .int .i64 (d : Int), .int .i64 (p : Int), .int .i64 (z : Int)] g8 d p z (.slice none 0 0) (rows17 T 0) w9) := hw9
          clear hw9 HV0 HUN
          go_wp2_with (first
            | (refine wpList_bdX0 rfl 25 rfl (.agg zT17) (bd_zR _) ?_)
            | (refine wpList_stoX rfl 25 (.tmp 2) (.tmp 68) rfl w.heap.size zT17 zT17 25 rfl rfl H9.out.tw.b2 HI4.out rfl zT17_one ?_; intro w7 HB7 HG7)
            | fail)
          refine bodyPost_ret (res_cell_tmp rfl _ _ w.heap.size 25 zT17 (0, 0) _ rfl HB7.out Tryd.underlying25 rfl HI4.out) rfl ⟨zT17, false, rfl, .inr ⟨HNO.out, rfl, rfl⟩, H9.out.tw.bel.grown HG7.out H9.out.tw.bel.size (fun b hk => by injection hk with hk; omega)⟩
        | true =>
          obtain ⟨q1, q2, q3, q4⟩ := unB_yes hun
          have HUB : Hid (unB d p = true) := hun
          have hw1 : IntKind.i64.wrap ((d : Int) + (p : Int)) = (d : Int) + (p : Int) := by rw [IntKind.wrap_i64]; omega
          have hw2 : IntKind.i64.wrap (32 * ((d : Int) + (p : Int))) = 32 * ((d : Int) + (p : Int)) := by rw [IntKind.wrap_i64]; omega
          rw [hun] at HUN
          clear hun
          by_cases hlen : T.size = 32 * (d + p)
          · have hlz : (T.size : Int) = 32 * ((d : Int) + (p : Int)) := by omega
            have hlzb : ((T.size : Int) != 32 * ((d : Int) + (p : Int))) = false := by rw [bne_eq_false_iff_eq]; omega
            have HYES : Hid (Tk17 P ∧ T.size / 32 = d + p) := ⟨⟨fun i hi => HOK.out i hi, by rw [HNM.out.1]; exact ha1, by rw [HNM.out.2.2.2.2]; omega, by
              rw [HNM.out.2.1, HNM.out.2.2.1, HNM.out.2.2.2.1, HNM.out.2.2.2.2, okT_un, HUB.out]
              have : ((T.size / 32 : Nat) : Int) = (d : Int) + (p : Int) := by omega
              rw [this]
              simp; omega⟩, by omega⟩
            refine region_class10 (PyV w T #[.int .i64 (a : Int), .int .i64 (d : Int), .int .i64 (p : Int), .int .i64 (z : Int)] g8 d p z (.slice none 0 0) (rows17 T 0)) (by kernel_rfl) (by kernel_rfl) HV0.out ?_
            try simp only [Act.put, List.setIfInBounds_toArray, List.set_cons_zero, List.set_cons_succ]
            repeat (first
              | go_big_quiet_skip
              | (go_big_quiet_want
                 first
                   | (refine quiet_val10 (.pointer (some ⟨w.heap.size + 1 + 1, 0, none⟩)) ?_ ?_; (focus (intro W hW; go_simp; done)); go_big_quiet_on; simp only [Act.put, List.setIfInBounds_toArray, List.set_cons_zero, List.set_cons_succ])
                   | (refine quiet_one 3 _ rfl (w.heap.size + 1 + 1) 0 (.int .i64 (a : Int)) rfl agg_int17 (fun _ h => by rw [h.tw.b4.cell]; rfl) ?_; go_big_quiet_on; simp only [Act.put, List.setIfInBounds_toArray, List.set_cons_zero, List.set_cons_succ])
                   | (refine quiet_one 3 _ rfl g8 0 (.int .i64 (d : Int)) rfl agg_int17 (fun _ h => h.cells.1) ?_; go_big_quiet_on; simp only [Act.put, List.setIfInBounds_toArray, List.set_cons_zero, List.set_cons_succ])
                   | (refine quiet_one 3 _ rfl g8 1 (.int .i64 (p : Int)) rfl agg_int17 (fun _ h => h.cells.2.1) ?_; go_big_quiet_on; simp only [Act.put, List.setIfInBounds_toArray, List.set_cons_zero, List.set_cons_succ])
                   | (refine quiet_one 9 _ rfl (w.heap.size + 1) 0 (.string T) rfl agg_str17 (fun _ h => h.tw.cell) ?_; go_big_quiet_on; simp only [Act.put, List.setIfInBounds_toArray, List.set_cons_zero, List.set_cons_succ])
                   | (refine quiet_call10 (.bool true) 25 #[.int .i64 (d : Int), .int .i64 (p : Int)] ?_ ?_ ?_; (focus (intro W hW; go_simp; done)); (focus (intro W hW; exact HUN.out W hW)); go_big_quiet_on; simp only [Act.put, List.setIfInBounds_toArray, List.set_cons_zero, List.set_cons_succ])
                   | (refine quiet_val10 (.pointer (some ⟨g8, 0, none⟩)) ?_ ?_; (focus (intro W hW; go_simp; done)); go_big_quiet_on; simp only [Act.put, List.setIfInBounds_toArray, List.set_cons_zero, List.set_cons_succ])
                   | (refine quiet_val10 (.pointer (some ⟨g8, 1, none⟩)) ?_ ?_; (focus (intro W hW; go_simp; done)); go_big_quiet_on; simp only [Act.put, List.setIfInBounds_toArray, List.set_cons_zero, List.set_cons_succ])
                   | (refine quiet_val10 (.pointer (some ⟨w.heap.size + 1, 0, none⟩)) ?_ ?_; (focus (intro W hW; go_simp; done)); go_big_quiet_on; simp only [Act.put, List.setIfInBounds_toArray, List.set_cons_zero, List.set_cons_succ])
                   | (go_big_quiet_op; go_big_quiet_on)
                   | (refine quiet_val10 (.bool false) ?_ ?_; (focus (intro W hW; go_simp; done)); go_big_quiet_on; simp only [Act.put, List.setIfInBounds_toArray, List.set_cons_zero, List.set_cons_succ])
                   | (refine quiet_val10 (.bool true) ?_ ?_; (focus (intro W hW; go_simp; done)); go_big_quiet_on; simp only [Act.put, List.setIfInBounds_toArray, List.set_cons_zero, List.set_cons_succ])
                   | (refine quiet_val10 (.int .i64 ((d : Int) + (p : Int))) ?_ ?_; (focus (intro W hW; go_simp; done)); go_big_quiet_on; simp only [Act.put, List.setIfInBounds_toArray, List.set_cons_zero, List.set_cons_succ])
                   | (refine quiet_val10 (.int .i64 (32 * ((d : Int) + (p : Int)))) ?_ ?_; (focus (intro W hW; go_simp; done)); go_big_quiet_on; simp only [Act.put, List.setIfInBounds_toArray, List.set_cons_zero, List.set_cons_succ])
                   | (refine quiet_val10 (.int .i64 (T.size : Int)) ?_ ?_; (focus (intro W hW; go_simp; done)); go_big_quiet_on; simp only [Act.put, List.setIfInBounds_toArray, List.set_cons_zero, List.set_cons_succ])))
            refine wpQuiet_nil ?_
            intro w9 hw9
            have H9 : Hid (PyV w T #[.int .i64 (a : Int), .int .i64 (d : Int), .int .i64 (p : Int), .int .i64 (z : Int)] g8 d p z (.slice none 0 0) (rows17 T 0) w9) := hw9
            clear hw9 HV0 HUN
            have HLEN : Hid (T.size = 32 * (d + p)) := hlen
            clear haz hazb ha1 hlz hlzb hw2 hlen
            try simp only [Act.put]
            go_wp2
            go_loopw [10] (fun v wr => ∃ (k : Nat) (vv : Value), v = .int .i64 k ∧ k ≤ d + p ∧ Hid (PyV w T #[.int .i64 (a : Int), .int .i64 (d : Int), .int .i64 (p : Int), .int .i64 (z : Int)] g8 d p z vv (rows17 T k) wr)) (fun v _ => (d + p) - (intOf v).toNat)
            case atStart => exact ⟨0, _, rfl, by omega, H9.out⟩
            case round =>
              clear H9
              obtain ⟨k, v, rfl, hk, HV⟩ := hrel
              obtain ⟨y0, y1, y2, y3, y4⟩ := HV.out.cells
              by_cases hlt : k < d + p
              · obtain ⟨wo, rfl⟩ : ∃ W : World, W = wr := ⟨_, rfl⟩
                have hkz : (k : Int) < (d : Int) + (p : Int) := by omega
                have hk0 : (0 : Int) ≤ (k : Int) := by omega
                obtain ⟨x, hx⟩ : ∃ x, row17 T k = x := ⟨_, rfl⟩
                have hxs : x.size = 32 := by rw [← hx]; exact row17_size T k (by have := HLEN.out; omega)
                have HX : Hid (row17 T k = x ∧ x.size = 32) := ⟨hx, hxs⟩
                have HXN : Hid (PyX wo x 0 (wo.alloc (.cells z32c 27))) := PyX.new wo x
                clear hx hxs
                go_wp2
                obtain ⟨gi, hgi⟩ : ∃ g, wo.heap.size = g := ⟨_, rfl⟩
                have HGI : Hid (wo.heap.size = gi) := hgi
                try rw [hgi]
                clear hgi
                go_loopw [12] (fun v W => ∃ j : Nat, v = .int .i64 j ∧ j ≤ 32 ∧ Hid (PyX wo x j W)) (fun v _ => 33 - (intOf v).toNat)
                case atStart => exact ⟨0, rfl, by omega, HXN.out⟩
                case round =>
                  clear HXN
                  obtain ⟨j, rfl, hj32, HJ⟩ := hrel
                  have HVW : Hid (PyV w T #[.int .i64 (a : Int), .int .i64 (d : Int), .int .i64 (p : Int), .int .i64 (z : Int)] g8 d p z v (rows17 T k) wr) := HV.out.next HJ.out.bel
                  by_cases hjl : j < 32
                  · have hjz : (j : Int) < 32 := by omega
                    have hj0 : (0 : Int) ≤ (j : Int) := by omega
                    obtain ⟨c, hc⟩ : ∃ c, 32 * k = c := ⟨_, rfl⟩
                    have hcz : 32 * (k : Int) = (c : Int) := by omega
                    have hcw : IntKind.i64.wrap (c : Int) = (c : Int) := by rw [IntKind.wrap_i64]; omega
                    obtain ⟨m, hm⟩ : ∃ m, c + j = m := ⟨_, rfl⟩
                    have hmz : (c : Int) + (j : Int) = (m : Int) := by omega
                    have hmw : IntKind.i64.wrap (m : Int) = (m : Int) := by rw [IntKind.wrap_i64]; omega
                    have hml : m < T.size := by have := HLEN.out; omega
                    have hmlz : (m : Int) < (T.size : Nat) := by omega
                    have hcS : wr.cell? ⟨w.heap.size + 1, 0, none⟩ = some (.string T) := HVW.out.tw.cell
                    have hci : wr.cell? ⟨gi, j, none⟩ = some (.int .u8 0) := by rw [← HGI.out, HJ.out.out.cell, idK_get x j j (by rw [HX.out.2]; omega) (by omega), if_neg (by omega), if_pos hjl]
                    have hfi : wr.frozen? ⟨gi, j, none⟩ = false := by rw [← HGI.out]; exact HJ.out.out.frozen j
                    have HN : Hid (PyX wo x (j + 1) (wr.setCell ⟨gi, j, none⟩ (.int .u8 (T[m].toNat : Int)))) := by
                      have h := HJ.out.put (by rw [HX.out.2]; omega) hjl
                      have e := row17_byte T k j (by have := HLEN.out; omega) hjl (by omega)
                      rw [HX.out.1] at e
                      rw [e] at h
                      simp only [hc, hm] at h
                      rw [← HGI.out]
                      exact h
                    clear HVW hc
                    go_wp2
                    go_roundw
                    case rel => exact ⟨j + 1, by go_num, by omega, HN.out⟩
                    case measure => simp [intOf]; omega
                  · obtain rfl : j = 32 := by omega
                    obtain ⟨X, hX⟩ : ∃ X, idc x = X := ⟨_, rfl⟩
                    have hXs : X.size = 32 := by rw [← hX, idc_size]; exact HX.out.2
                    have HID : Hid (Bk wr gi X 27) := by
                      show Bk _ _ _ _
                      rw [← HGI.out, ← hX, ← idK_32 HX.out.2]
                      exact HJ.out.out
                    have HIX : Hid ((Tryd.prog.info? 27).map (·.size) = some X.size) := info_32 hXs
                    have hbs := build1_17 X hXs wr
                    have V2 := HVW.out.next (((Below.refl _ _).alloc (Nat.le_refl _) (.cells X 27)))
                    have hk2 := bk_new wr X 27
                    obtain ⟨g9, cp9, W3, hrn, hU⟩ := V2.app (k := wr.heap.size) (o := 0) HX.out.2 (fun j u hu => by rw [Nat.zero_add, hk2.cell, ← hX]; exact hu) (by rw [rows17_len]; omega)
                    have c0 := HVW.out.cells.2.2.2.1
                    have HUP : Hid (PyV w T #[.int .i64 (a : Int), .int .i64 (d : Int), .int .i64 (p : Int), .int .i64 (z : Int)] g8 d p z (.slice (some ⟨g9, 0, none⟩) ((rows17 T k).length + 1) cp9) (rows17 T (k + 1)) (W3.setCell ⟨g8, 3, none⟩ (.slice (some ⟨g9, 0, none⟩) ((rows17 T k).length + 1) cp9))) := by
                      show PyV _ _ _ _ _ _ _ _ _ _
                      rw [rows17_next, HX.out.1]
                      exact hU.put
                    have c3 : W3.cell? ⟨g8, 3, none⟩ = some v := by rw [hU.b8.cell]; rfl
                    have f3 : W3.frozen? ⟨g8, 3, none⟩ = false := hU.b8.frozen 3
                    clear V2 hk2 hU hX hXs y0 y1 y2 y3 y4
                    obtain ⟨W2, hW2⟩ : ∃ wr', wr.alloc (.cells X 27) = wr' := ⟨_, rfl⟩
                    rw [hW2] at hbs hrn
                    obtain ⟨gb, hgb⟩ : ∃ g, wr.heap.size = g := ⟨_, rfl⟩
                    rw [hgb] at hbs hrn
                    obtain ⟨n9, hn9⟩ : ∃ n, (rows17 T k).length + 1 = n := ⟨_, rfl⟩
                    rw [hn9] at hrn HUP
                    clear hW2 hgb hn9
                    go_wp2_with (first
                      | (refine wpList_get rfl 27 (.tmp 11) rfl gi 0 X X 27 _ rfl HID.out (fun j v hv => by rw [Nat.zero_add]; exact hv) Tryd.underlying27 rfl HIX.out ?_)
                      | (refine wpList_bsX rfl 23 (.tmp 95) rfl (.agg X) (.slice (some ⟨gb, 0, none⟩) 1 1) W2 rfl hbs ?_)
                      | (refine wpList_appX rfl (.tmp 94) (.tmp 96) 23 23 rfl v (.slice (some ⟨gb, 0, none⟩) 1 1) (.slice (some ⟨g9, 0, none⟩) n9 cp9) W3 rfl rfl hrn ?_)
                      | fail)
                    go_roundw
                    case rel => exact ⟨k + 1, _, by go_num, by omega, HUP.out⟩
                    case measure => simp [intOf]; omega
              · obtain rfl : k = d + p := by omega
                have hkz : ¬ (((d + p : Nat)) : Int) < (d : Int) + (p : Int) := by omega
                have ho := HV.out.ow
                rw [rows17_len] at ho
                obtain ⟨ad, c, rfl, _, _, _⟩ := own_ids ho (rows17_len T (d + p)) (rows17_size T (d + p) (by have := HLEN.out; omega))
                have HOW : Hid (wr.ownsRow (g8 + 1) 27 32 (.slice ad (d + p) c) (d + p) (ivs (rows17 T (d + p)))) := ho
                obtain ⟨n, hn⟩ : ∃ n, d + p = n := ⟨_, rfl⟩
                have HNN : Hid (d + p = n) := hn
                clear ho
                go_wp2_with (first
                  | (refine wpList_get rfl 25 (.tmp 9) rfl g8 0 #[.int .i64 (d : Int), .int .i64 (p : Int), .int .i64 (z : Int), .slice ad (d + p) c] #[.int .i64 (d : Int), .int .i64 (p : Int), .int .i64 (z : Int), .slice ad (d + p) c] 25 _ rfl HV.out.b8 (fun j v hv => by rw [Nat.zero_add]; exact hv) Tryd.underlying25 rfl HI4.out ?_)
                  | (refine wpList_stoX rfl 25 (.tmp 2) (.tmp 99) rfl w.heap.size #[.int .i64 (d : Int), .int .i64 (p : Int), .int .i64 (z : Int), .slice ad (d + p) c] zT17 25 rfl rfl HV.out.tw.b2 HI4.out rfl (by simp [Value.oneCell']) ?_; intro w7 HB7 HG7)
                  | fail)
                refine bodyPost_ret (res_cell_tmp rfl _ _ w.heap.size 25 #[.int .i64 (d : Int), .int .i64 (p : Int), .int .i64 (z : Int), .slice ad (d + p) c] (0, 0) _ rfl HB7.out Tryd.underlying25 rfl HI4.out) rfl ⟨_, true, rfl, .inl ⟨HYES.out.1, ?_, rfl⟩, HV.out.tw.bel.grown HG7.out HV.out.tw.bel.size (fun b hk => by injection hk with hk; omega)⟩
                have h8 := HV.out.g8
                have ho7 := rows_keep HOW.out (fun g hle hlt => HG7.out.block g hlt (fun e => by injection e with e; omega))
                refine ⟨.slice ad (d + p) c, ?_, ?_⟩
                · rw [HNM.out.2.1, HNM.out.2.2.1, HNM.out.2.2.2.1]
                · rw [HNM.out.2.2.2.2, HYES.out.2]
                  exact rows_low ho7 (by omega)
          · have hlz : ¬ (T.size : Int) = 32 * ((d : Int) + (p : Int)) := by omega
            have hlzb : ((T.size : Int) != 32 * ((d : Int) + (p : Int))) = true := by rw [bne_iff_ne]; omega
            have HNO : Hid (¬ Tk17 P) := fun h => by
              have h2 := h.may
              have h3 := h.len
              rw [HNM.out.2.1, HNM.out.2.2.1, HNM.out.2.2.2.1, HNM.out.2.2.2.2, okT_un] at h2
              rw [HNM.out.2.2.2.2] at h3
              simp only [Bool.and_eq_true, decide_eq_true_eq] at h2
              omega
            refine region_class10 (PyV w T #[.int .i64 (a : Int), .int .i64 (d : Int), .int .i64 (p : Int), .int .i64 (z : Int)] g8 d p z (.slice none 0 0) (rows17 T 0)) (by kernel_rfl) (by kernel_rfl) HV0.out ?_
            try simp only [Act.put, List.setIfInBounds_toArray, List.set_cons_zero, List.set_cons_succ]
            repeat (first
              | go_big_quiet_skip
              | (go_big_quiet_want
                 first
                   | (refine quiet_val10 (.pointer (some ⟨w.heap.size + 1 + 1, 0, none⟩)) ?_ ?_; (focus (intro W hW; go_simp; done)); go_big_quiet_on; simp only [Act.put, List.setIfInBounds_toArray, List.set_cons_zero, List.set_cons_succ])
                   | (refine quiet_one 3 _ rfl (w.heap.size + 1 + 1) 0 (.int .i64 (a : Int)) rfl agg_int17 (fun _ h => by rw [h.tw.b4.cell]; rfl) ?_; go_big_quiet_on; simp only [Act.put, List.setIfInBounds_toArray, List.set_cons_zero, List.set_cons_succ])
                   | (refine quiet_one 3 _ rfl g8 0 (.int .i64 (d : Int)) rfl agg_int17 (fun _ h => h.cells.1) ?_; go_big_quiet_on; simp only [Act.put, List.setIfInBounds_toArray, List.set_cons_zero, List.set_cons_succ])
                   | (refine quiet_one 3 _ rfl g8 1 (.int .i64 (p : Int)) rfl agg_int17 (fun _ h => h.cells.2.1) ?_; go_big_quiet_on; simp only [Act.put, List.setIfInBounds_toArray, List.set_cons_zero, List.set_cons_succ])
                   | (refine quiet_one 9 _ rfl (w.heap.size + 1) 0 (.string T) rfl agg_str17 (fun _ h => h.tw.cell) ?_; go_big_quiet_on; simp only [Act.put, List.setIfInBounds_toArray, List.set_cons_zero, List.set_cons_succ])
                   | (refine quiet_call10 (.bool true) 25 #[.int .i64 (d : Int), .int .i64 (p : Int)] ?_ ?_ ?_; (focus (intro W hW; go_simp; done)); (focus (intro W hW; exact HUN.out W hW)); go_big_quiet_on; simp only [Act.put, List.setIfInBounds_toArray, List.set_cons_zero, List.set_cons_succ])
                   | (refine quiet_val10 (.pointer (some ⟨g8, 0, none⟩)) ?_ ?_; (focus (intro W hW; go_simp; done)); go_big_quiet_on; simp only [Act.put, List.setIfInBounds_toArray, List.set_cons_zero, List.set_cons_succ])
                   | (refine quiet_val10 (.pointer (some ⟨g8, 1, none⟩)) ?_ ?_; (focus (intro W hW; go_simp; done)); go_big_quiet_on; simp only [Act.put, List.setIfInBounds_toArray, List.set_cons_zero, List.set_cons_succ])
                   | (refine quiet_val10 (.pointer (some ⟨w.heap.size + 1, 0, none⟩)) ?_ ?_; (focus (intro W hW; go_simp; done)); go_big_quiet_on; simp only [Act.put, List.setIfInBounds_toArray, List.set_cons_zero, List.set_cons_succ])
                   | (go_big_quiet_op; go_big_quiet_on)
                   | (refine quiet_val10 (.bool false) ?_ ?_; (focus (intro W hW; go_simp; done)); go_big_quiet_on; simp only [Act.put, List.setIfInBounds_toArray, List.set_cons_zero, List.set_cons_succ])
                   | (refine quiet_val10 (.bool true) ?_ ?_; (focus (intro W hW; go_simp; done)); go_big_quiet_on; simp only [Act.put, List.setIfInBounds_toArray, List.set_cons_zero, List.set_cons_succ])
                   | (refine quiet_val10 (.int .i64 ((d : Int) + (p : Int))) ?_ ?_; (focus (intro W hW; go_simp; done)); go_big_quiet_on; simp only [Act.put, List.setIfInBounds_toArray, List.set_cons_zero, List.set_cons_succ])
                   | (refine quiet_val10 (.int .i64 (32 * ((d : Int) + (p : Int)))) ?_ ?_; (focus (intro W hW; go_simp; done)); go_big_quiet_on; simp only [Act.put, List.setIfInBounds_toArray, List.set_cons_zero, List.set_cons_succ])
                   | (refine quiet_val10 (.int .i64 (T.size : Int)) ?_ ?_; (focus (intro W hW; go_simp; done)); go_big_quiet_on; simp only [Act.put, List.setIfInBounds_toArray, List.set_cons_zero, List.set_cons_succ])))
            refine wpQuiet_nil ?_
            intro w9 hw9
            have H9 : Hid (PyV w T #[.int .i64 (a : Int), .int .i64 (d : Int), .int .i64 (p : Int), .int .i64 (z : Int)] g8 d p z (.slice none 0 0) (rows17 T 0) w9) := hw9
            clear hw9 HV0 HUN
            go_wp2_with (first
              | (refine wpList_bdX0 rfl 25 rfl (.agg zT17) (bd_zR _) ?_)
              | (refine wpList_stoX rfl 25 (.tmp 2) (.tmp 68) rfl w.heap.size zT17 zT17 25 rfl rfl H9.out.tw.b2 HI4.out rfl zT17_one ?_; intro w7 HB7 HG7)
              | fail)
            refine bodyPost_ret (res_cell_tmp rfl _ _ w.heap.size 25 zT17 (0, 0) _ rfl HB7.out Tryd.underlying25 rfl HI4.out) rfl ⟨zT17, false, rfl, .inr ⟨HNO.out, rfl, rfl⟩, H9.out.tw.bel.grown HG7.out H9.out.tw.bel.size (fun b hk => by injection hk with hk; omega)⟩
      · have haz : ¬ (a : Int) = 1 := by omega
        have hazb : ((a : Int) != 1) = true := by rw [bne_iff_ne]; omega
        have HNO : Hid (¬ Tk17 P) := fun h => ha1 (by rw [← HNM.out.1]; exact h.one)
        refine region_class10 (PyV w T #[.int .i64 (a : Int), .int .i64 (d : Int), .int .i64 (p : Int), .int .i64 (z : Int)] g8 d p z (.slice none 0 0) (rows17 T 0)) (by kernel_rfl) (by kernel_rfl) HV0.out ?_
        try simp only [Act.put, List.setIfInBounds_toArray, List.set_cons_zero, List.set_cons_succ]
        repeat (first
          | go_big_quiet_skip
          | (go_big_quiet_want
             first
               | (refine quiet_val10 (.pointer (some ⟨w.heap.size + 1 + 1, 0, none⟩)) ?_ ?_; (focus (intro W hW; go_simp; done)); go_big_quiet_on; simp only [Act.put, List.setIfInBounds_toArray, List.set_cons_zero, List.set_cons_succ])
               | (refine quiet_one 3 _ rfl (w.heap.size + 1 + 1) 0 (.int .i64 (a : Int)) rfl agg_int17 (fun _ h => by rw [h.tw.b4.cell]; rfl) ?_; go_big_quiet_on; simp only [Act.put, List.setIfInBounds_toArray, List.set_cons_zero, List.set_cons_succ])
               | (refine quiet_one 3 _ rfl g8 0 (.int .i64 (d : Int)) rfl agg_int17 (fun _ h => h.cells.1) ?_; go_big_quiet_on; simp only [Act.put, List.setIfInBounds_toArray, List.set_cons_zero, List.set_cons_succ])
               | (refine quiet_one 3 _ rfl g8 1 (.int .i64 (p : Int)) rfl agg_int17 (fun _ h => h.cells.2.1) ?_; go_big_quiet_on; simp only [Act.put, List.setIfInBounds_toArray, List.set_cons_zero, List.set_cons_succ])
               | (refine quiet_one 9 _ rfl (w.heap.size + 1) 0 (.string T) rfl agg_str17 (fun _ h => h.tw.cell) ?_; go_big_quiet_on; simp only [Act.put, List.setIfInBounds_toArray, List.set_cons_zero, List.set_cons_succ])
               | (refine quiet_call10 (.bool (unB d p)) 25 #[.int .i64 (d : Int), .int .i64 (p : Int)] ?_ ?_ ?_; (focus (intro W hW; go_simp; done)); (focus (intro W hW; exact HUN.out W hW)); go_big_quiet_on; simp only [Act.put, List.setIfInBounds_toArray, List.set_cons_zero, List.set_cons_succ])
               | (refine quiet_val10 (.pointer (some ⟨g8, 0, none⟩)) ?_ ?_; (focus (intro W hW; go_simp; done)); go_big_quiet_on; simp only [Act.put, List.setIfInBounds_toArray, List.set_cons_zero, List.set_cons_succ])
               | (refine quiet_val10 (.pointer (some ⟨g8, 1, none⟩)) ?_ ?_; (focus (intro W hW; go_simp; done)); go_big_quiet_on; simp only [Act.put, List.setIfInBounds_toArray, List.set_cons_zero, List.set_cons_succ])
               | (refine quiet_val10 (.pointer (some ⟨w.heap.size + 1, 0, none⟩)) ?_ ?_; (focus (intro W hW; go_simp; done)); go_big_quiet_on; simp only [Act.put, List.setIfInBounds_toArray, List.set_cons_zero, List.set_cons_succ])
               | (go_big_quiet_op; go_big_quiet_on)
               | (refine quiet_val10 (.bool false) ?_ ?_; (focus (intro W hW; go_simp; done)); go_big_quiet_on; simp only [Act.put, List.setIfInBounds_toArray, List.set_cons_zero, List.set_cons_succ])
               | (refine quiet_val10 (.bool true) ?_ ?_; (focus (intro W hW; go_simp; done)); go_big_quiet_on; simp only [Act.put, List.setIfInBounds_toArray, List.set_cons_zero, List.set_cons_succ])
               | (refine quiet_val10 (.int .i64 ((d : Int) + (p : Int))) ?_ ?_; (focus (intro W hW; go_simp; done)); go_big_quiet_on; simp only [Act.put, List.setIfInBounds_toArray, List.set_cons_zero, List.set_cons_succ])
               | (refine quiet_val10 (.int .i64 (32 * ((d : Int) + (p : Int)))) ?_ ?_; (focus (intro W hW; go_simp; done)); go_big_quiet_on; simp only [Act.put, List.setIfInBounds_toArray, List.set_cons_zero, List.set_cons_succ])
               | (refine quiet_val10 (.int .i64 (T.size : Int)) ?_ ?_; (focus (intro W hW; go_simp; done)); go_big_quiet_on; simp only [Act.put, List.setIfInBounds_toArray, List.set_cons_zero, List.set_cons_succ])))
        refine wpQuiet_nil ?_
        intro w9 hw9
        have H9 : Hid (PyV w T #[.int .i64 (a : Int), .int .i64 (d : Int), .int .i64 (p : Int), .int .i64 (z : Int)] g8 d p z (.slice none 0 0) (rows17 T 0) w9) := hw9
        clear hw9 HV0 HUN
        go_wp2_with (first
          | (refine wpList_bdX0 rfl 25 rfl (.agg zT17) (bd_zR _) ?_)
          | (refine wpList_stoX rfl 25 (.tmp 2) (.tmp 68) rfl w.heap.size zT17 zT17 25 rfl rfl H9.out.tw.b2 HI4.out rfl zT17_one ?_; intro w7 HB7 HG7)
          | fail)
        refine bodyPost_ret (res_cell_tmp rfl _ _ w.heap.size 25 zT17 (0, 0) _ rfl HB7.out Tryd.underlying25 rfl HI4.out) rfl ⟨zT17, false, rfl, .inr ⟨HNO.out, rfl, rfl⟩, H9.out.tw.bel.grown HG7.out H9.out.tw.bel.size (fun b hk => by injection hk with hk; omega)⟩
end Go.Proofs.YteccnnpialaalaaDoor
/- The walk of the document's own Unframe (munimentref03). -/
namespace Go.Proofs.YteccnnpialaalaaDoor
open Go.RowKit
set_option linter.unusedSimpArgs false
set_option linter.unusedVariables false
set_option maxHeartbeats 400000 in
theorem runframe_4 (s : ByteArray) (w : World) (hs : s.size < 4) :
    Calls Tryd.prog 27 #[.string s] w fun e w' => e = .returned (.tuple #[.string (ufP s), .string (ufR s), .int .i64 (ufE s)]) ∧ Below w.heap.size w w' := by
  go_enter Tryd.func27, Tryd.ntmps27
  go_wp2_with fail
  refine (rfixed_no s w.heap.size _ (by unfold maxLen; omega) (al_ptr _ _ _) (by simp) (by simp) 4 (by omega) (by omega) (by omega)).mono ?_
  rintro e w2 ⟨rfl, h2⟩
  have HB2 : Hid (Below w.heap.size w w2) := ((Below.refl _ _).alloc (Nat.le_refl _) _).trans (h2.below (Nat.le_refl _) (by simp))
  have hz2 : w.heap.size < w2.heap.size := by have := h2.size; simp at this; omega
  have H2 : Hid (Step w.heap.size (w.alloc (.cells #[.string s] 86)) w2 s) := h2
  clear h2
  go_wp2_with fail
  refine (rfixed_no s w.heap.size _ (by unfold maxLen; omega) H2.out.cell H2.out.frozen hz2 4 (by omega) (by omega) (by omega)).mono ?_
  rintro e w3 ⟨rfl, h3⟩
  have HB3 : Hid (Below w.heap.size w w3) := HB2.out.trans (h3.below (Nat.le_refl _) (by omega))
  clear h3
  go_wp2
  go_ret3
  exact ⟨ret_uf (uf_no (uf_short (by omega))), HB3.out⟩
set_option maxHeartbeats 1000000 in
theorem runframe_8 (s : ByteArray) (w : World) (hm : s.size ≤ maxLen) (hs : 4 ≤ s.size) :
    Calls Tryd.prog 27 #[.string s] w fun e w' => e = .returned (.tuple #[.string (ufP s), .string (ufR s), .int .i64 (ufE s)]) ∧ Below w.heap.size w w' := by
  have hm' := hm
  unfold maxLen at hm'
  obtain ⟨n, hn⟩ : ∃ n, n = ufn s := ⟨_, rfl⟩
  have HN : Hid (n = ufn s) := hn
  have hnl : n < 4294967296 := by rw [hn]; exact ufn_lt s
  clear hn
  obtain ⟨r1, hr1⟩ : ∃ r, r = s.extract 4 s.size := ⟨_, rfl⟩
  have HR1 : Hid (r1 = s.extract 4 s.size) := hr1
  have HZ1 : Hid (r1.size = s.size - 4) := by rw [hr1]; exact ext_size s 4 hs
  clear hr1
  go_enter Tryd.func27, Tryd.ntmps27
  go_wp2_with fail
  refine (rfixed_ok s w.heap.size _ hm (al_ptr _ _ _) (by simp) (by simp) 4 (by omega) (by omega) (by omega)).mono ?_
  rintro e w2 ⟨rfl, h2⟩
  rw [show fixV ((bl s).take 4) = n from HN.out.symm]
  rw [← HR1.out] at h2
  have H2 : Hid (Step w.heap.size (w.alloc (.cells #[.string s] 86)) w2 r1) := h2
  have HB2 : Hid (Below w.heap.size w w2) := ((Below.refl _ _).alloc (Nat.le_refl _) _).trans (h2.below (Nat.le_refl _) (by simp))
  have hz2 : w.heap.size < w2.heap.size := by have := h2.size; simp at this; omega
  clear h2
  go_wp2_with fail
  by_cases h8 : s.size < 8
  · refine (rfixed_no r1 w.heap.size _ (by rw [HZ1.out]; unfold maxLen; omega) H2.out.cell H2.out.frozen hz2 4 (by omega) (by omega) (by rw [HZ1.out]; omega)).mono ?_
    rintro e w3 ⟨rfl, h3⟩
    have HB3 : Hid (Below w.heap.size w w3) := HB2.out.trans (h3.below (Nat.le_refl _) (by omega))
    clear h3
    go_wp2
    go_ret3
    exact ⟨ret_uf (uf_no (uf_short (by omega))), HB3.out⟩
  have h8' : 8 ≤ s.size := by omega
  clear h8
  obtain ⟨r2, hr2⟩ : ∃ r, r = s.extract 8 s.size := ⟨_, rfl⟩
  have HR2 : Hid (r2 = s.extract 8 s.size) := hr2
  have HZ2 : Hid (r2.size = s.size - 8) := by rw [hr2]; exact ext_size s 8 h8'
  have hz2' : r2.size + 8 ≤ s.size := by rw [HZ2.out]; omega
  clear hr2
  obtain ⟨cv, hcv⟩ : ∃ cv, cv = fixV (((bl s).drop 4).take 4) := ⟨_, rfl⟩
  have HC : Hid (cv = fixV (((bl s).drop 4).take 4)) := hcv
  have hcl : cv < 4294967296 := by rw [hcv]; exact fixV4_lt _
  clear hcv
  refine (rfixed_ok r1 w.heap.size _ (by rw [HZ1.out]; unfold maxLen; omega) H2.out.cell H2.out.frozen hz2 4 (by omega) (by omega) (by rw [HZ1.out]; omega)).mono ?_
  rintro e w3 ⟨rfl, h3⟩
  rw [show fixV ((bl r1).take 4) = cv from by rw [HC.out, HR1.out, bl_drop]]
  rw [show r1.extract 4 r1.size = r2 from by apply bl_inj; rw [bl_drop, HR1.out, HR2.out, bl_drop, bl_drop, List.drop_drop]] at h3
  have HB3 : Hid (Below w.heap.size w w3) := HB2.out.trans (h3.below (Nat.le_refl _) (by omega))
  have hz3 : w.heap.size < w3.heap.size := by have := h3.size; omega
  have hc3 : w3.cell? ⟨w.heap.size, 0, none⟩ = some (.string r2) := h3.cell
  clear h3
  by_cases hbig : 67108864 < n
  · go_wp2
    go_ret3
    exact ⟨ret_uf (uf_no (uf_long (by rw [← HN.out]; exact hbig))), HB3.out⟩
  have hn26 : (n : Int) ≤ 67108864 := by omega
  clear hbig
  by_cases hcut : r2.size < n
  · have hcut' : (r2.size : Int) < n := by omega
    go_wp2
    go_ret3
    exact ⟨ret_uf (uf_no (uf_cut (by rw [← HN.out]; have := HZ2.out; omega))), HB3.out⟩
  have hcut' : n ≤ r2.size := by omega
  clear hcut
  go_wp2_with fail
  obtain ⟨p, hp⟩ : ∃ p, p = r2.extract 0 n := ⟨_, rfl⟩
  have HPb : Hid (bl p = ((bl s).drop 8).take n) := by rw [hp, bl_extract, List.drop_zero, HR2.out, bl_drop]; rfl
  have hps : 8 + n ≤ s.size := by omega
  have HPz : Hid (p.size = n) := by show p.size = n; rw [← bl_length, HPb.out, List.length_take, List.length_drop, bl_length]; omega
  have hpz : p.size ≤ 67108864 := by rw [HPz.out]; omega
  rw [← hp]
  clear hp
  have hpe : (s.extract 0 4 ++ p).size ≤ 67108868 := by rw [append_size]; simp; omega
  refine (rcrc_any (s.extract 0 4 ++ p) _ (by unfold maxLen; omega)).mono ?_
  rintro e w5 ⟨rfl, hw5⟩
  subst hw5
  obtain ⟨q, hq⟩ : ∃ q : BitVec 32, q = crcC (bl (s.extract 0 4 ++ p)) := ⟨_, rfl⟩
  rw [← hq]
  have HQ : Hid (q.toNat = (crcC ((bl s).take 4 ++ ((bl s).drop 8).take (ufn s))).toNat) := by
    show q.toNat = _
    rw [hq, bl_append, HPb.out, HN.out, extract_take s 4 hs]
  have hlt := q.isLt
  clear hq hpe
  by_cases hne : q.toNat = cv
  · have hb : ((q.toNat : Int) != (cv : Int)) = false := by rw [bne_eq_false_iff_eq]; omega
    have HE : Hid (q.toNat = cv) := hne
    clear hne
    go_wp2
    go_region
    go_wp2
    go_ret3
    have hok : ufB s = true := by
      rw [ufB_iff, ← HN.out]
      refine ⟨h8', by omega, hps, ?_⟩
      rw [HN.out, ← HQ.out, ← HC.out]; exact HE.out
    refine ⟨ret_uf ?_, ?_⟩
    · obtain ⟨a, b, c⟩ := uf_yes hok
      refine ⟨?_, ?_, c⟩
      · rw [a]
        apply bl_inj
        rw [HPb.out, bl_extract, List.drop_take, Nat.add_sub_cancel_left, HN.out]
      · rw [b, ← HN.out]
        apply bl_inj
        rw [bl_drop, bl_drop, HR2.out, bl_drop, List.drop_drop]
    · exact HB3.out.drew
  · have hb : ((q.toNat : Int) != (cv : Int)) = true := by rw [bne_iff_ne]; omega
    have HE : Hid (¬ q.toNat = cv) := hne
    clear hne
    go_wp2
    go_ret3
    exact ⟨ret_uf (uf_no (uf_crc (by rw [← HQ.out, ← HC.out]; exact HE.out))), HB3.out⟩
theorem runframe_any (s : ByteArray) (w : World) (hm : s.size ≤ maxLen) :
    Calls Tryd.prog 27 #[.string s] w fun e w' => e = .returned (.tuple #[.string (ufP s), .string (ufR s), .int .i64 (ufE s)]) ∧ Below w.heap.size w w' := by
  by_cases h : s.size < 4
  · exact runframe_4 s w h
  · exact runframe_8 s w hm (by omega)
end Go.Proofs.YteccnnpialaalaaDoor
