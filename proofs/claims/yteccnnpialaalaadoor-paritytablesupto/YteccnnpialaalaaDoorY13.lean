import Derived.Test.YteccnnpialaalaaDoorY12
import Derived.Test.YteccnnpialaalaaDoorY3
/- parity.take. -/
namespace Go.Proofs.YteccnnpialaalaaDoor
open Go.RowKit
set_option linter.unusedSimpArgs false
set_option linter.unusedVariables false
theorem zT17_one : zT17.all (·.oneCell') = true := by simp [zT17, Value.oneCell']
theorem inf_tb : (Tryd.prog.info? 29).map (·.size) = some 4 := by kernel_rfl
theorem bd_zT (w : World) : (Instr.build 29 #[]).run Tryd.prog w = .ok (.agg zT17) w := by kernel_rfl
theorem bd_tb (d p z : Int) (w : World) : (Instr.build 29 #[(0, .int .i64 d), (1, .int .i64 p), (2, .int .i64 z)]).run Tryd.prog w = .ok (.agg #[.int .i64 d, .int .i64 p, .int .i64 z, .slice none 0 0]) w := by
  refine run_build w _ _ _ ?_
  kernel_rfl
theorem store_sl17 {g i : Nat} {W : World} {v : Value} {a : Option Addr} {n c : Nat} (h : W.cell? ⟨g, i, none⟩ = some v) (hf : W.frozen? ⟨g, i, none⟩ = false) :
    (storeVar 23 ⟨g, i, none⟩ (.slice a n c)).run Tryd.prog W = .ok () (W.setCell ⟨g, i, none⟩ (.slice a n c)) := by
  have h1 := Tryd.isAgg23
  go_simp
/-- How long the reader's text is. -/
def szT (b : Nat) (W : World) : Nat := match W.cell? ⟨b, 0, none⟩ with | some (.string t) => t.size | _ => 0
theorem szT_eq {b : Nat} {W : World} {t : ByteArray} (h : W.cell? ⟨b, 0, none⟩ = some (.string t)) : szT b W = t.size := by unfold szT; rw [h]
set_option maxHeartbeats 8000000 in
set_option maxRecDepth 100000 in
theorem take17 (P : ByteArray) (b : Nat) (w : World) (hc : w.cell? ⟨b, 0, none⟩ = some (.string P)) (hf : w.frozen? ⟨b, 0, none⟩ = false) (hb : b < w.heap.size) (hP : P.size ≤ 67108872) :
    Calls Tryd.prog 46 #[.pointer (some ⟨b, 0, none⟩)] w fun e w' => ∃ C E, e = .returned (.tuple #[.agg C, .int .i64 E]) ∧ TkA P w.heap.size C E w' ∧ ∃ t, Step b w w' t := by
  have H0 : Hid (TkW w b P (c417 P 0) _) := TkW.new w b P hc hf hb
  have HSZ : Hid (∀ i, (rd17 P i).size ≤ maxLen) := fun i => by have := rd17_size P i; unfold maxLen; omega
  have HI4 : Hid ((Tryd.prog.info? 29).map (·.size) = some 4) := inf_tb
  clear hc hf
  go_enter Tryd.func46, Tryd.ntmps46
  go_wp2
  go_loopw [11] (fun v wr => ∃ i : Nat, v = .int .i64 i ∧ i ≤ 4 ∧ (∀ j, j < i → okN17 P j) ∧ Hid (TkW w b (rd17 P i) (c417 P i) wr)) (fun v _ => 4 - (intOf v).toNat)
  case atStart => exact ⟨0, rfl, by omega, fun j hj => absurd hj (by omega), H0.out⟩
  case round =>
    clear H0
    obtain ⟨i, rfl, hi4, hoks, HS⟩ := hrel
    have HOK : Hid (∀ j, j < i → okN17 P j) := hoks
    clear hoks
    by_cases hlt : i < 4
    · have hiz : (i : Int) < 4 := by omega
      have hi0 : (0 : Int) ≤ (i : Int) := by omega
      obtain ⟨E, hE⟩ : ∃ E, unE17 (rd17 P i) = E := ⟨_, rfl⟩
      obtain ⟨N, hN⟩ : ∃ N, nm17 P i = N := ⟨_, rfl⟩
      have HCA : Hid (Calls Tryd.prog 65 #[.pointer (some ⟨b, 0, none⟩)] wr fun e w' => e = .returned (.tuple #[.int .u64 (N : Int), .int .i64 E]) ∧ Step b wr w' (rd17 P (i + 1))) := by
        have := uint17 b (rd17 P i) wr HS.out.rd.cell HS.out.rd.frozen HS.out.lt (HSZ.out i)
        rw [hE] at this
        rw [← hN]
        exact this
      have HEN : Hid (unE17 (rd17 P i) = E ∧ nm17 P i = N ∧ N < 18446744073709551616) := ⟨hE, hN, by rw [← hN]; exact unN17_lt _⟩
      clear hE hN
      go_wp2_with fail
      refine HCA.out.mono ?_
      rintro e w1 ⟨rfl, hst⟩
      have H1 : Hid (TkW w b (rd17 P (i + 1)) (c417 P i) w1) := HS.out.step hst
      clear hst HCA HS
      by_cases hok : E = 0 ∧ N ≤ 67108864
      · obtain ⟨hE0, hN6⟩ := hok
        subst hE0
        have hN6z : ¬ (67108864 : Int) < (N : Int) := by omega
        have hNw : IntKind.i64.wrap (N : Int) = (N : Int) := by rw [IntKind.wrap_i64]; omega
        have HOK2 : Hid (∀ j, j < i + 1 → okN17 P j) := fun j hj => by
          by_cases hji : j < i
          · exact HOK.out j hji
          · obtain rfl : j = i := by omega
            exact ⟨HEN.out.1, by rw [HEN.out.2.1]; exact hN6⟩
        obtain ⟨x, hx⟩ := c417_get P i hlt
        have hcl : w1.cell? ⟨w.heap.size + 1, i, none⟩ = some (.int .i64 x) := by rw [H1.out.b4.cell]; exact hx
        have hfr := H1.out.b4.frozen i
        have H2 : Hid (TkW w b (rd17 P (i + 1)) (c417 P (i + 1)) (w1.setCell ⟨w.heap.size + 1, i, none⟩ (.int .i64 (N : Int)))) := by
          show TkW _ _ _ _ _
          rw [← c417_next P i hlt, HEN.out.2.1]
          exact H1.out.set i _
        clear hx H1 HOK
        go_wp2
        go_roundw
        case rel => exact ⟨i + 1, by go_num, by omega, HOK2.out, H2.out⟩
        case measure => simp [intOf]; omega
      · have HNO : Hid (¬ Tk17 P) := fun h => by
          obtain ⟨h1, h2⟩ := h.num i hlt
          exact hok ⟨by rw [← HEN.out.1]; exact h1, by rw [← HEN.out.2.1]; exact h2⟩
        have hE2 : E = 0 ∨ E = 4 := by rw [← HEN.out.1]; exact unE17_or _
        rcases hE2 with rfl | rfl
        · have hN6 : (67108864 : Int) < (N : Int) := by omega
          clear hok
          go_wp2_with (first
            | (refine wpList_bdX0 rfl 29 rfl (.agg zT17) (bd_zT _) ?_)
            | (refine wpList_stoX rfl 29 (.tmp 2) (.tmp 25) rfl w.heap.size zT17 zT17 29 rfl rfl H1.out.b2 HI4.out rfl zT17_one ?_; intro w7 HB7 HG7)
            | fail)
          refine bodyPost_ret (res_cell_tmp rfl _ _ w.heap.size 29 zT17 (0, 0) _ rfl HB7.out Tryd.underlying29 rfl HI4.out) rfl ⟨zT17, 4, rfl, .inr ⟨HNO.out, rfl, rfl⟩, _, by exact H1.out.rd.turn17 H1.out.bl HG7.out (Nat.le_refl _)⟩
        · clear hok
          go_wp2_with (first
            | (refine wpList_bdX0 rfl 29 rfl (.agg zT17) (bd_zT _) ?_)
            | (refine wpList_stoX rfl 29 (.tmp 2) (.tmp 25) rfl w.heap.size zT17 zT17 29 rfl rfl H1.out.b2 HI4.out rfl zT17_one ?_; intro w7 HB7 HG7)
            | fail)
          refine bodyPost_ret (res_cell_tmp rfl _ _ w.heap.size 29 zT17 (0, 0) _ rfl HB7.out Tryd.underlying29 rfl HI4.out) rfl ⟨zT17, 4, rfl, .inr ⟨HNO.out, rfl, rfl⟩, _, by exact H1.out.rd.turn17 H1.out.bl HG7.out (Nat.le_refl _)⟩
    · obtain rfl : i = 4 := by omega
      obtain ⟨T, hT⟩ : ∃ T, rd17 P 4 = T := ⟨_, rfl⟩
      obtain ⟨a, ha⟩ : ∃ a, nm17 P 0 = a := ⟨_, rfl⟩
      obtain ⟨d, hd⟩ : ∃ a, nm17 P 1 = a := ⟨_, rfl⟩
      obtain ⟨p, hp⟩ : ∃ a, nm17 P 2 = a := ⟨_, rfl⟩
      obtain ⟨z, hz⟩ : ∃ a, nm17 P 3 = a := ⟨_, rfl⟩
      have HNM : Hid (nm17 P 0 = a ∧ nm17 P 1 = d ∧ nm17 P 2 = p ∧ nm17 P 3 = z ∧ rd17 P 4 = T) := ⟨ha, hd, hp, hz, hT⟩
      have hb67 : a ≤ 67108864 ∧ d ≤ 67108864 ∧ p ≤ 67108864 ∧ z ≤ 67108864 := by
        rw [← ha, ← hd, ← hp, ← hz]
        exact ⟨(HOK.out 0 (by omega)).2, (HOK.out 1 (by omega)).2, (HOK.out 2 (by omega)).2, (HOK.out 3 (by omega)).2⟩
      have hTz : T.size ≤ 67108872 := by rw [← hT]; exact Nat.le_trans (rd17_size P 4) hP
      have HC4 : Hid (c417 P 4 = #[.int .i64 (a : Int), .int .i64 (d : Int), .int .i64 (p : Int), .int .i64 (z : Int)]) := by show _ = _; rw [c417_four, ha, hd, hp, hz]
      have HT0 : Hid (TkW w b T #[.int .i64 (a : Int), .int .i64 (d : Int), .int .i64 (p : Int), .int .i64 (z : Int)] wr) := by
        show TkW _ _ _ _ _
        rw [← HC4.out, ← hT]
        exact HS.out
      clear ha hd hp hz hT HS HC4
      have y1 : wr.cell? ⟨w.heap.size + 1, 1, none⟩ = some (.int .i64 (d : Int)) := by rw [HT0.out.b4.cell]; rfl
      have y2 : wr.cell? ⟨w.heap.size + 1, 2, none⟩ = some (.int .i64 (p : Int)) := by rw [HT0.out.b4.cell]; rfl
      have y3 : wr.cell? ⟨w.heap.size + 1, 3, none⟩ = some (.int .i64 (z : Int)) := by rw [HT0.out.b4.cell]; rfl
      have HV0 : Hid (TkV w b T #[.int .i64 (a : Int), .int .i64 (d : Int), .int .i64 (p : Int), .int .i64 (z : Int)] wr.heap.size d p z (.slice none 0 0) (rows17 T 0) (wr.alloc (.cells #[.int .i64 (d : Int), .int .i64 (p : Int), .int .i64 (z : Int), .slice none 0 0] 29))) :=
        ⟨HT0.out.next ((Below.refl _ _).alloc (Nat.le_refl _) _), bk_new _ _ _, ids_nil _ _, by have := HT0.out.b4.lt; omega⟩
      go_wp2_with (first
        | (refine wpList_buildX rfl 29 _ rfl (.agg #[.int .i64 (d : Int), .int .i64 (p : Int), .int .i64 (z : Int), .slice none 0 0]) (bd_tb _ _ _ _) ?_)
        | (refine wpList_store_new rfl 29 (.tmp 8) (.tmp 37) rfl #[.int .i64 (d : Int), .int .i64 (p : Int), .int .i64 (z : Int), .slice none 0 0] _ 29 wr.heap.size rfl rfl rfl HI4.out rfl (by simp [Value.oneCell']) ?_)
        | fail)
      obtain ⟨g8, hg8⟩ : ∃ g, wr.heap.size = g := ⟨_, rfl⟩
      obtain ⟨W8, hW8⟩ : ∃ W, wr.alloc (.cells #[.int .i64 (d : Int), .int .i64 (p : Int), .int .i64 (z : Int), .slice none 0 0] 29) = W := ⟨_, rfl⟩
      rw [hg8, hW8] at HV0
      try rw [hW8]
      try rw [hg8]
      clear y1 y2 y3 hg8 hW8 HT0
      simp only [Act.put]
      go_loopw [] (fun W => ∃ (k : Nat) (v : Value), 32 * k ≤ T.size ∧ Hid (TkV w b (T.extract (32 * k) T.size) #[.int .i64 (a : Int), .int .i64 (d : Int), .int .i64 (p : Int), .int .i64 (z : Int)] g8 d p z v (rows17 T k) W)) (fun W => szT b W)
      case atStart => exact ⟨0, _, by omega, by show TkV _ _ _ _ _ _ _ _ _ _ _; rw [show T.extract (32 * 0) T.size = T from by apply bl_inj; rw [bl_ex]; rfl]; exact HV0.out⟩
      case round =>
        clear HV0
        obtain ⟨k, v, hk, HV⟩ := hrel
        obtain ⟨t, ht⟩ : ∃ t, T.extract (32 * k) T.size = t := ⟨_, rfl⟩
        have htz : t.size = T.size - 32 * k := by rw [← ht, ByteArray.size_extract]; omega
        have HT : Hid (T.extract (32 * k) T.size = t) := ht
        rw [ht] at HV
        have hcell : wr.cell? ⟨b, 0, none⟩ = some (.string t) := HV.out.tw.rd.cell
        have htm : t.size ≤ maxLen := by unfold maxLen; omega
        have HLF : Hid (Calls Tryd.prog 66 #[.pointer (some ⟨b, 0, none⟩)] wr fun e w' => e = .returned (.int .i64 (t.size : Int)) ∧ w' = wr) := left_any t b wr htm hcell
        clear ht
        by_cases h0 : t.size = 0
        · have hz0 : ¬ (0 : Int) < (t.size : Int) := by omega
          have hTk : T.size = 32 * k := by omega
          have hTd : T.size / 32 = k := by omega
          have HS32 : Hid (∀ x ∈ rows17 T k, x.size = 32) := rows17_size T k (by omega)
          have ho := HV.out.ow
          rw [rows17_len] at ho
          obtain ⟨ad, c, rfl, _, _, _⟩ := own_ids ho (rows17_len T k) HS32.out
          have HOW : Hid (TbR P w.heap.size #[.int .i64 (d : Int), .int .i64 (p : Int), .int .i64 (z : Int), .slice ad k c] wr) := by
            refine ⟨.slice ad k c, ?_, ?_⟩
            · rw [HNM.out.2.1, HNM.out.2.2.1, HNM.out.2.2.2.1]
            · rw [HNM.out.2.2.2.2, hTd]
              exact rows_low ho (by have := HV.out.g8; omega)
          obtain ⟨y0, y1, y2, y3, _⟩ := HV.out.cells
          have x0 : wr.cell? ⟨w.heap.size + 1, 0, none⟩ = some (.int .i64 (a : Int)) := by rw [HV.out.tw.b4.cell]; rfl
          clear ho
          by_cases ha1 : a = 1
          · subst ha1
            have HCK : Hid (Calls Tryd.prog 8 #[.agg #[.int .i64 (d : Int), .int .i64 (p : Int), .int .i64 (z : Int), .slice ad k c]] wr fun e w' => e = .returned (.int .i64 (ckE17 d p z k)) ∧ Below wr.heap.size wr w') := check17 d p z ad k c wr
            cases hok : okT d p z k with
            | true =>
              have hce : ckE17 d p z k = 0 := by rw [ckE17, hok]; rfl
              rw [hce] at HCK
              have HYES : Hid (Tk17 P) := ⟨fun i hi => HOK.out i hi, HNM.out.1, by rw [HNM.out.2.2.2.2]; omega, by rw [HNM.out.2.1, HNM.out.2.2.1, HNM.out.2.2.2.1, HNM.out.2.2.2.2, hTd]; exact hok⟩
              clear hok hce
              go_wp2_with fail
              refine HLF.out.mono ?_
              rintro e w1 ⟨rfl, hw⟩
              obtain rfl : wr = w1 := hw.symm
              go_wp2_with fail
              refine HCK.out.mono ?_
              rintro e w2 ⟨rfl, b2⟩
              have H2 : Hid (TkV w b t #[.int .i64 ((1 : Nat) : Int), .int .i64 (d : Int), .int .i64 (p : Int), .int .i64 (z : Int)] g8 d p z (.slice ad k c) (rows17 T k) w2 ∧ TbR P w.heap.size #[.int .i64 (d : Int), .int .i64 (p : Int), .int .i64 (z : Int), .slice ad k c] w2) := ⟨HV.out.next b2, HOW.out.below b2⟩
              clear b2 HCK HLF HV HOW y0 y1 y2 y3 x0
              obtain ⟨y0, y1, y2, y3, _⟩ := H2.out.1.cells
              go_wp2_with (first
                | (refine wpList_stoX rfl 29 (.tmp 2) (.tmp 68) rfl w.heap.size #[.int .i64 (d : Int), .int .i64 (p : Int), .int .i64 (z : Int), .slice ad k c] zT17 29 rfl rfl H2.out.1.tw.b2 HI4.out rfl (by simp [Value.oneCell']) ?_; intro w7 HB7 HG7)
                | fail)
              refine bodyPost_ret (res_cell_tmp rfl _ _ w.heap.size 29 #[.int .i64 (d : Int), .int .i64 (p : Int), .int .i64 (z : Int), .slice ad k c] (0, 0) _ rfl HB7.out Tryd.underlying29 rfl HI4.out) rfl ⟨_, 0, rfl, .inl ⟨HYES.out, ?_, rfl⟩, _, by exact H2.out.1.tw.rd.turn17 H2.out.1.tw.bl HG7.out (Nat.le_refl _)⟩
              have ho7 := rows_keep H2.out.1.ow (fun g hle hlt => HG7.out.block g hlt (fun e => by injection e with e; have := H2.out.1.g8; omega))
              rw [rows17_len] at ho7
              refine ⟨.slice ad k c, ?_, ?_⟩
              · rw [HNM.out.2.1, HNM.out.2.2.1, HNM.out.2.2.2.1]
              · rw [HNM.out.2.2.2.2, hTd]
                exact rows_low ho7 (by have := H2.out.1.g8; omega)
            | false =>
              have hce : ckE17 d p z k = 1 := by rw [ckE17, hok]; rfl
              rw [hce] at HCK
              have HNO : Hid (¬ Tk17 P) := fun h => by
                have := h.may
                rw [HNM.out.2.1, HNM.out.2.2.1, HNM.out.2.2.2.1, HNM.out.2.2.2.2, hTd, hok] at this
                cases this
              clear hok hce
              go_wp2_with fail
              refine HLF.out.mono ?_
              rintro e w1 ⟨rfl, hw⟩
              obtain rfl : wr = w1 := hw.symm
              go_wp2_with fail
              refine HCK.out.mono ?_
              rintro e w2 ⟨rfl, b2⟩
              have H2 : Hid (TkW w b t #[.int .i64 ((1 : Nat) : Int), .int .i64 (d : Int), .int .i64 (p : Int), .int .i64 (z : Int)] w2) := HV.out.tw.next b2
              clear b2 HCK HLF HV HOW y0 y1 y2 y3 x0
              go_wp2_with (first
                | (refine wpList_bdX0 rfl 29 rfl (.agg zT17) (bd_zT _) ?_)
                | (refine wpList_stoX rfl 29 (.tmp 2) (.tmp 67) rfl w.heap.size zT17 zT17 29 rfl rfl H2.out.b2 HI4.out rfl zT17_one ?_; intro w7 HB7 HG7)
                | fail)
              refine bodyPost_ret (res_cell_tmp rfl _ _ w.heap.size 29 zT17 (0, 0) _ rfl HB7.out Tryd.underlying29 rfl HI4.out) rfl ⟨zT17, 4, rfl, .inr ⟨HNO.out, rfl, rfl⟩, _, by exact H2.out.rd.turn17 H2.out.bl HG7.out (Nat.le_refl _)⟩
          · have haz : ¬ (a : Int) = 1 := by omega
            have HNO : Hid (¬ Tk17 P) := fun h => ha1 (by rw [← HNM.out.1]; exact h.one)
            have H2 : Hid (TkW w b t #[.int .i64 (a : Int), .int .i64 (d : Int), .int .i64 (p : Int), .int .i64 (z : Int)] wr) := HV.out.tw
            go_wp2_with fail
            refine HLF.out.mono ?_
            rintro e w1 ⟨rfl, hw⟩
            obtain rfl : wr = w1 := hw.symm
            clear HLF HV HOW y0 y1 y2 y3
            go_wp2_with (first
              | (refine wpList_bdX0 rfl 29 rfl (.agg zT17) (bd_zT _) ?_)
              | (refine wpList_stoX rfl 29 (.tmp 2) (.tmp 67) rfl w.heap.size zT17 zT17 29 rfl rfl H2.out.b2 HI4.out rfl zT17_one ?_; intro w7 HB7 HG7)
              | fail)
            refine bodyPost_ret (res_cell_tmp rfl _ _ w.heap.size 29 zT17 (0, 0) _ rfl HB7.out Tryd.underlying29 rfl HI4.out) rfl ⟨zT17, 4, rfl, .inr ⟨HNO.out, rfl, rfl⟩, _, by exact H2.out.rd.turn17 H2.out.bl HG7.out (Nat.le_refl _)⟩
        · have hpos : (0 : Int) < (t.size : Int) := by omega
          by_cases h32 : 32 ≤ t.size
          · obtain ⟨x, hx⟩ : ∃ x, row17 T k = x := ⟨_, rfl⟩
            have hx0 : t.extract 0 32 = x := by
              rw [← hx, row17, ← HT.out]
              apply bl_inj
              simp only [bl_extract]
              rw [List.take_of_length_le (Nat.le_of_eq (bl_length T)), List.drop_zero, List.take_drop, Nat.add_comm]
            have hxs : x.size = 32 := by rw [← hx]; exact row17_size T k (by omega)
            have HX : Hid (row17 T k = x ∧ x.size = 32) := ⟨hx, hxs⟩
            have HTK : Hid (Calls Tryd.prog 64 #[.pointer (some ⟨b, 0, none⟩), .int .i64 32] wr fun e w' => e = .returned (.tuple #[.string x, .int .i64 0]) ∧ Step b wr w' (T.extract (32 * (k + 1)) T.size)) := by
              have h := take_ok t b wr htm hcell HV.out.tw.rd.frozen HV.out.tw.lt 32 h32
              rw [hx0] at h
              have e : t.extract 32 t.size = T.extract (32 * (k + 1)) T.size := by
                apply bl_inj
                rw [bl_ex, bl_ex, ← HT.out, bl_ex, List.drop_drop]; congr 1
              rw [e] at h
              exact h
            clear hx hx0 hxs
            go_wp2_with fail
            refine HLF.out.mono ?_
            rintro e w1 ⟨rfl, hw⟩
            obtain rfl : wr = w1 := hw.symm
            go_wp2_with fail
            refine HTK.out.mono ?_
            rintro e w2 ⟨rfl, hst⟩
            have H2 : Hid (TkV w b (T.extract (32 * (k + 1)) T.size) #[.int .i64 (a : Int), .int .i64 (d : Int), .int .i64 (p : Int), .int .i64 (z : Int)] g8 d p z v (rows17 T k) w2) := HV.out.step hst
            clear hst HTK HLF HV
            go_wp2_with fail
            obtain ⟨cap, W1, hcv, hb1, hz1, hc1⟩ := conv_new17 x HX.out.2 w2.drew
            have V0 : TkV w b (T.extract (32 * (k + 1)) T.size) #[.int .i64 (a : Int), .int .i64 (d : Int), .int .i64 (p : Int), .int .i64 (z : Int)] g8 d p z v (rows17 T k) w2.drew := H2.out.next ((Below.refl _ _).drew)
            have V1 := V0.next hb1
            obtain ⟨X, hX⟩ : ∃ X, idc x = X := ⟨_, rfl⟩
            have hXs : X.size = 32 := by rw [← hX, idc_size]; exact HX.out.2
            have hbs := build1_17 X hXs W1
            have har := arr17 (some ⟨w2.drew.heap.size, 0, none⟩) cap W1
            have V2 := V1.next (((Below.refl _ _).alloc (Nat.le_refl _) (.cells X 27)))
            have hk2 := bk_new W1 X 27
            obtain ⟨g9, cp9, W3, hrn, hU⟩ := V2.app (k := W1.heap.size) (o := 0) HX.out.2 (fun j u hu => by rw [Nat.zero_add, hk2.cell, ← hX]; exact hu) (by rw [rows17_len]; omega)
            have hld : (loadVar 27 ⟨w2.drew.heap.size, 0, none⟩).run Tryd.prog W1 = .ok (.agg X) W1 := by
              have := run_loadVar_mid (P := Tryd.prog) W1 w2.drew.heap.size 0 27 X.toList _ (fun j u hu => by rw [Nat.zero_add]; rw [Array.getElem?_toList, ← hX] at hu; exact hc1 j u hu) Tryd.underlying27 rfl (by rw [Array.length_toList]; exact info_32 hXs)
              simpa using this
            have c0 := V0.cells.2.2.2.1
            have c1 := V1.cells.2.2.2.1
            have c2 := V2.cells.2.2.2.1
            have HUP : Hid (TkV w b (T.extract (32 * (k + 1)) T.size) #[.int .i64 (a : Int), .int .i64 (d : Int), .int .i64 (p : Int), .int .i64 (z : Int)] g8 d p z (.slice (some ⟨g9, 0, none⟩) ((rows17 T k).length + 1) cp9) (rows17 T (k + 1)) (W3.setCell ⟨g8, 3, none⟩ (.slice (some ⟨g9, 0, none⟩) ((rows17 T k).length + 1) cp9))) := by
              show TkV _ _ _ _ _ _ _ _ _ _ _
              rw [rows17_next, HX.out.1]
              exact hU.put
            have c3 : W3.cell? ⟨g8, 3, none⟩ = some v := by rw [hU.b8.cell]; rfl
            have f3 : W3.frozen? ⟨g8, 3, none⟩ = false := hU.b8.frozen 3
            have hst : (storeVar 23 ⟨g8, 3, none⟩ (.slice (some ⟨g9, 0, none⟩) ((rows17 T k).length + 1) cp9)).run Tryd.prog W3 = .ok () (W3.setCell ⟨g8, 3, none⟩ (.slice (some ⟨g9, 0, none⟩) ((rows17 T k).length + 1) cp9)) := store_sl17 c3 f3
            clear V0 V1 V2 hk2 hc1 hX hXs hU hb1 hz1
            obtain ⟨gc, hgc⟩ : ∃ g, w2.drew.heap.size = g := ⟨_, rfl⟩
            rw [hgc] at hcv har hld
            obtain ⟨W2, hW2⟩ : ∃ W, W1.alloc (.cells X 27) = W := ⟨_, rfl⟩
            rw [hW2] at hbs c2 hrn
            obtain ⟨gb, hgb⟩ : ∃ g, W1.heap.size = g := ⟨_, rfl⟩
            rw [hgb] at hbs hrn
            obtain ⟨v9, hv9⟩ : ∃ u, Value.slice (some ⟨g9, 0, none⟩) ((rows17 T k).length + 1) cp9 = u := ⟨_, rfl⟩
            rw [hv9] at hrn hst HUP
            obtain ⟨W4, hW4⟩ : ∃ W, W3.setCell ⟨g8, 3, none⟩ v9 = W := ⟨_, rfl⟩
            rw [hW4] at hst HUP
            clear hgc hW2 hgb hW4 hv9 f3
            refine wpBut.region (fun W => W.cell? ⟨g8, 3, none⟩ = some v) 9 (by kernel_rfl) ?_
            show wpBut _ _ _ _ _ 10 #[false, false, false, false, false, false, false, false, false, false] _ _
            refine wpBut.take (i := 0) (v := .pointer (some ⟨g8, 3, none⟩)) rfl rfl (by kernel_rfl) rfl (by kernel_rfl) (by kernel_rfl) (by kernel_rfl) (fun _ _ _ h => h) (yld_if rfl (fun W hW => by go_simp)) c0 ?_
            simp only [List.getElem_toArray, List.getElem_cons_zero, List.getElem_cons_succ, Act.put, List.setIfInBounds_toArray, List.set_cons_zero, List.set_cons_succ]
            refine wpBut.take (i := 1) (v := v) rfl rfl (by kernel_rfl) rfl (by kernel_rfl) (by kernel_rfl) (by kernel_rfl) (fun _ _ _ h => h) (yld_if rfl (fun W hW => by go_simp)) c0 ?_
            simp only [List.getElem_toArray, List.getElem_cons_zero, List.getElem_cons_succ, Act.put, List.setIfInBounds_toArray, List.set_cons_zero, List.set_cons_succ]
            refine wpBut.take (i := 2) (v := .string x) rfl rfl (by kernel_rfl) rfl (by kernel_rfl) (by kernel_rfl) (by kernel_rfl) (fun _ _ _ h => h) (yld_if rfl (fun W hW => by go_simp)) c0 ?_
            simp only [List.getElem_toArray, List.getElem_cons_zero, List.getElem_cons_succ, Act.put, List.setIfInBounds_toArray, List.set_cons_zero, List.set_cons_succ]
            refine wpBut.one (i := 3) (by kernel_rfl) rfl (fun K hK => ?_)
            refine at_cv (by rfl) 9 48 (.tmp 52) (by rfl) (.string x) (.slice (some ⟨gc, 0, none⟩) 32 cap) (by rfl) hcv (hK _ _ (.inr c1) ?_)
            clear hK K
            simp only [List.getElem_toArray, List.getElem_cons_zero, List.getElem_cons_succ, Act.put, List.setIfInBounds_toArray, List.set_cons_zero, List.set_cons_succ]
            refine wpBut.one (i := 4) (by kernel_rfl) rfl (fun K hK => ?_)
            refine at_ar (by rfl) 27 (.tmp 53) (by rfl) (.slice (some ⟨gc, 0, none⟩) 32 cap) (.pointer (some ⟨gc, 0, none⟩)) (by rfl) har (hK _ _ (.inr c1) ?_)
            clear hK K
            simp only [List.getElem_toArray, List.getElem_cons_zero, List.getElem_cons_succ, Act.put, List.setIfInBounds_toArray, List.set_cons_zero, List.set_cons_succ]
            refine wpBut.one (i := 5) (by kernel_rfl) rfl (fun K hK => ?_)
            refine at_ld (by rfl) 27 (.tmp 54) (by rfl) ⟨gc, 0, none⟩ (.agg X) (by rfl) hld (hK _ _ (.inr c1) ?_)
            clear hK K
            simp only [List.getElem_toArray, List.getElem_cons_zero, List.getElem_cons_succ, Act.put, List.setIfInBounds_toArray, List.set_cons_zero, List.set_cons_succ]
            refine wpBut.one (i := 6) (by kernel_rfl) rfl (fun K hK => ?_)
            refine at_bs (by rfl) 23 (.tmp 55) (by rfl) (.agg X) (.slice (some ⟨gb, 0, none⟩) 1 1) (by rfl) hbs (hK _ _ (.inr c2) ?_)
            clear hK K
            simp only [List.getElem_toArray, List.getElem_cons_zero, List.getElem_cons_succ, Act.put, List.setIfInBounds_toArray, List.set_cons_zero, List.set_cons_succ]
            refine wpBut.one (i := 7) (by kernel_rfl) rfl (fun K hK => ?_)
            refine at_app (by rfl) (.tmp 51) (.tmp 56) 23 23 (by rfl) v (.slice (some ⟨gb, 0, none⟩) 1 1) v9 (by rfl) (by rfl) hrn (hK _ _ (.inr c3) ?_)
            clear hK K
            simp only [List.getElem_toArray, List.getElem_cons_zero, List.getElem_cons_succ, Act.put, List.setIfInBounds_toArray, List.set_cons_zero, List.set_cons_succ]
            refine wpBut.take (i := 8) (v := .pointer (some ⟨g8, 3, none⟩)) rfl rfl (by kernel_rfl) rfl (by kernel_rfl) (by kernel_rfl) (by kernel_rfl) (fun _ _ _ h => h) (yld_if rfl (fun W hW => by go_simp)) c3 ?_
            simp only [List.getElem_toArray, List.getElem_cons_zero, List.getElem_cons_succ, Act.put, List.setIfInBounds_toArray, List.set_cons_zero, List.set_cons_succ]
            refine wpBut.one (i := 9) (by kernel_rfl) rfl (fun K hK => ?_)
            refine at_st (by rfl) 23 (.tmp 58) (.tmp 57) (by rfl) ⟨g8, 3, none⟩ v9 (by rfl) (by rfl) hst (hK _ _ (.inl rfl) ?_)
            clear hK K
            simp only [List.getElem_toArray, List.getElem_cons_zero, List.getElem_cons_succ, Act.put, List.setIfInBounds_toArray, List.set_cons_zero, List.set_cons_succ]
            refine wpBut.done (by kernel_rfl) ?_ _
            have hcell4 : W4.cell? ⟨b, 0, none⟩ = some (.string (T.extract (32 * (k + 1)) T.size)) := HUP.out.tw.rd.cell
            clear c0 c1 c2 c3 hst hrn hld har hbs hcv
            try go_wp2
            go_roundw
            case rel => exact ⟨_, _, _, _, _, _, _, _, _, _, _, _, _, _, _, _, _, _, _, _, _, _, _, _, ⟨k + 1, v9, by omega, HUP.out⟩, rfl⟩
            case measure => rw [szT_eq hcell, szT_eq hcell4, ByteArray.size_extract]; omega
          · have HTK : Hid (Calls Tryd.prog 64 #[.pointer (some ⟨b, 0, none⟩), .int .i64 32] wr fun e w' => e = .returned (.tuple #[.string ⟨#[]⟩, .int .i64 4]) ∧ Step b wr w' t) :=
              take_no t b wr htm hcell HV.out.tw.rd.frozen HV.out.tw.lt 32 (by omega) (by omega)
            have HNO : Hid (¬ Tk17 P) := fun h => by
              have := h.len
              rw [HNM.out.2.2.2.2] at this
              omega
            go_wp2_with fail
            refine HLF.out.mono ?_
            rintro e w1 ⟨rfl, hw⟩
            obtain rfl : wr = w1 := hw.symm
            go_wp2_with fail
            refine HTK.out.mono ?_
            rintro e w2 ⟨rfl, hst⟩
            have H2 : Hid (TkW w b t #[.int .i64 (a : Int), .int .i64 (d : Int), .int .i64 (p : Int), .int .i64 (z : Int)] w2) := HV.out.tw.step hst
            clear hst HTK HLF HV
            go_wp2_with (first
              | (refine wpList_bdX0 rfl 29 rfl (.agg zT17) (bd_zT _) ?_)
              | (refine wpList_stoX rfl 29 (.tmp 2) (.tmp 48) rfl w.heap.size zT17 zT17 29 rfl rfl H2.out.b2 HI4.out rfl zT17_one ?_; intro w7 HB7 HG7)
              | fail)
            refine bodyPost_ret (res_cell_tmp rfl _ _ w.heap.size 29 zT17 (0, 0) _ rfl HB7.out Tryd.underlying29 rfl HI4.out) rfl ⟨zT17, 4, rfl, .inr ⟨HNO.out, rfl, rfl⟩, _, by exact H2.out.rd.turn17 H2.out.bl HG7.out (Nat.le_refl _)⟩
end Go.Proofs.YteccnnpialaalaaDoor
/- parity.front, parity.Decode. -/
namespace Go.Proofs.YteccnnpialaalaaDoor
open Go.RowKit
set_option linter.unusedSimpArgs false
set_option linter.unusedVariables false
theorem res_ctt17 {P : Program} {fn : Func} {p u x : Tmp} {ty : TypeId} (h : fn.results = #[.cell p ty, .tmp u, .tmp x]) (tmps : Array Value) (w : World) (g : Nat) (t : TypeId) (cs : Array Value) (fr : Nat × Nat) (d : TypeDesc)
    (hp : tmps.getD p undef = .pointer (some ⟨g, 0, none⟩)) (hg : w.heap[g]? = some (.cells cs t fr))
    (hu : P.underlying ty = some d) (hd : (match d with | .struct _ | .array _ _ => true | _ => false) = true) (hi : (P.info? ty).map (·.size) = some cs.size) :
    (results fn tmps).run P w = .ok (.tuple #[.agg cs, tmps.getD u undef, tmps.getD x undef]) w := by
  have hp' : tmps[p]?.getD undef = .pointer (some ⟨g, 0, none⟩) := by simpa using hp
  simp [results, h, hp', asAddr, run_loadVar_row w g t ty cs fr d hg hu hd hi]
theorem TbR.shape {p : ByteArray} {B : Nat} {C : Array Value} {W : World} (h : TbR p B C W) : ∃ a c, C = #[.int .i64 (nm17 p 1 : Int), .int .i64 (nm17 p 2 : Int), .int .i64 (nm17 p 3 : Int), .slice a ((rd17 p 4).size / 32) c] ∧ NmL W a (rows17 (rd17 p 4) ((rd17 p 4).size / 32)) := by
  obtain ⟨v, h1, h2⟩ := h
  obtain ⟨a, c, rfl, h3, _⟩ := own_ids h2 (rows17_len _ _) (rows17_size _ _ (by omega))
  exact ⟨a, c, h1, h3⟩
theorem TkA.cells {p : ByteArray} {B : Nat} {C : Array Value} {E : Int} {W : World} (h : TkA p B C E W) : C.size = 4 ∧ C.all (·.oneCell') = true := by
  rcases h with ⟨_, h, _⟩ | ⟨_, rfl, _⟩
  · obtain ⟨a, c, rfl, _⟩ := h.shape
    exact ⟨rfl, by simp [Value.oneCell']⟩
  · exact ⟨rfl, zT17_one⟩
theorem TbR.other {p : ByteArray} {B B' g : Nat} {C : Array Value} {W W' : World} (h : TbR p B C W) (hg : W.grownBy W' (some g)) (hgB : g < B) (hB : B' ≤ B) : TbR p B' C W' := by
  obtain ⟨v, h1, h2⟩ := h
  exact ⟨v, h1, rows_low (rows_keep h2 (fun k hle hlt => hg.block k hlt (fun e => by injection e with e; omega))) hB⟩
theorem TkA.other {p : ByteArray} {B B' g : Nat} {C : Array Value} {E : Int} {W W' : World} (h : TkA p B C E W) (hg : W.grownBy W' (some g)) (hgB : g < B) (hB : B' ≤ B) : TkA p B' C E W' := by
  rcases h with ⟨a, b, c⟩ | h
  · exact .inl ⟨a, b.other hg hgB hB, c⟩
  · exact .inr h
/-- What front tells. -/
def FrA (s : ByteArray) (B : Nat) (C : Array Value) (R : ByteArray) (E : Int) (W : World) : Prop :=
  (ufB s = true ∧ Tk17 (ufP s) ∧ TbR (ufP s) B C W ∧ R = ufR s ∧ E = 0) ∨ (¬ (ufB s = true ∧ Tk17 (ufP s)) ∧ C = zT17 ∧ R = ⟨#[]⟩ ∧ E = 4)
theorem ufP_size17 (s : ByteArray) : (ufP s).size ≤ 67108872 := by
  unfold ufP
  split
  · rename_i h
    have := (ufB_iff s).1 h
    rw [ByteArray.size_extract]; omega
  · exact Nat.zero_le _
theorem FrA.below {s : ByteArray} {B : Nat} {C : Array Value} {R : ByteArray} {E : Int} {W W' : World} (h : FrA s B C R E W) (hb : Below W.heap.size W W') : FrA s B C R E W' := by
  rcases h with ⟨a, b, c, d⟩ | h
  · exact .inl ⟨a, b, c.below hb, d⟩
  · exact .inr h
theorem FrA.cells {s : ByteArray} {B : Nat} {C : Array Value} {R : ByteArray} {E : Int} {W : World} (h : FrA s B C R E W) : C.size = 4 ∧ C.all (·.oneCell') = true := by
  rcases h with ⟨_, _, h, _⟩ | ⟨_, rfl, _⟩
  · obtain ⟨a, c, rfl, _⟩ := h.shape
    exact ⟨rfl, by simp [Value.oneCell']⟩
  · exact ⟨rfl, zT17_one⟩
theorem FrA.other {s : ByteArray} {B B' g : Nat} {C : Array Value} {R : ByteArray} {E : Int} {W W' : World} (h : FrA s B C R E W) (hg : W.grownBy W' (some g)) (hgB : g < B) (hB : B' ≤ B) : FrA s B' C R E W' := by
  rcases h with ⟨a, b, c, d⟩ | h
  · exact .inl ⟨a, b, c.other hg hgB hB, d⟩
  · exact .inr h
set_option maxHeartbeats 4000000 in
set_option maxRecDepth 100000 in
theorem front17 (s : ByteArray) (w : World) (hs : s.size ≤ maxLen) :
    Calls Tryd.prog 29 #[.string s] w fun e w' => ∃ C R E, e = .returned (.tuple #[.agg C, .string R, .int .i64 E]) ∧ FrA s w.heap.size C R E w' ∧ Below w.heap.size w w' := by
  have H0 : Hid (Bk (w.alloc (.cells zT17 29)) w.heap.size zT17 29 ∧ Below w.heap.size w (w.alloc (.cells zT17 29))) := ⟨bk_new _ _ _, (Below.refl _ _).alloc (Nat.le_refl _) _⟩
  have HI4 : Hid ((Tryd.prog.info? 29).map (·.size) = some 4) := inf_tb
  have HUF : Hid (∀ W, Calls Tryd.prog 45 #[.string s] W fun e w' => e = .returned (.tuple #[.string (ufP s), .string (ufR s), .int .i64 (ufE s)]) ∧ Below W.heap.size W w') := fun W => unframe_any s W hs
  go_enter Tryd.func29, Tryd.ntmps29
  go_wp2_with fail
  refine (HUF.out _).mono ?_
  rintro e w1 ⟨rfl, b1⟩
  have H1 : Hid (Bk w1 w.heap.size zT17 29 ∧ Below w.heap.size w w1) := ⟨H0.out.1.below b1 H0.out.1.lt, H0.out.2.trans (b1.mono H0.out.2.size)⟩
  clear b1 H0 HUF
  cases hok : ufB s with
  | false =>
    have HNO : Hid (¬ (ufB s = true ∧ Tk17 (ufP s))) := fun h => by rw [hok] at h; cases h.1
    have he : ufE s = 4 := by rw [ufE, if_neg (by rw [hok]; simp)]
    rw [he]
    clear hok he
    go_wp2_with (first
      | (refine wpList_bdX0 rfl 29 rfl (.agg zT17) (bd_zT _) ?_)
      | (refine wpList_stoX rfl 29 (.tmp 2) (.tmp 14) rfl w.heap.size zT17 zT17 29 rfl rfl H1.out.1 HI4.out rfl zT17_one ?_; intro w7 HB7 HG7)
      | fail)
    refine bodyPost_ret (res_ctt17 rfl _ _ w.heap.size 29 zT17 (0, 0) _ rfl HB7.out Tryd.underlying29 rfl HI4.out) rfl ⟨zT17, ⟨#[]⟩, 4, rfl, .inr ⟨HNO.out, rfl, rfl, rfl⟩, H1.out.2.grown HG7.out H1.out.2.size (fun b hk => by injection hk with hk; omega)⟩
  | true =>
    have he : ufE s = 0 := by rw [ufE, if_pos hok]
    obtain ⟨P, hP⟩ : ∃ P, ufP s = P := ⟨_, rfl⟩
    obtain ⟨R, hR⟩ : ∃ R, ufR s = R := ⟨_, rfl⟩
    have HPR : Hid (ufB s = true ∧ ufP s = P ∧ ufR s = R ∧ P.size ≤ 67108872) := ⟨hok, hP, hR, by rw [← hP]; exact ufP_size17 s⟩
    rw [he, hP, hR]
    clear hok he hP hR
    obtain ⟨g1, hg1⟩ : ∃ g, w1.heap.size = g := ⟨_, rfl⟩
    have HNW : Hid (Calls Tryd.prog 47 #[.string P] w1 fun e w' => e = .returned (.pointer (some ⟨g1, 0, none⟩)) ∧ w' = w1.alloc (.cells #[.string P] 105)) := by
      have := new_any P w1
      rw [hg1] at this
      exact this
    have HTK : Hid (Calls Tryd.prog 46 #[.pointer (some ⟨g1, 0, none⟩)] (w1.alloc (.cells #[.string P] 105)) fun e w' => ∃ C E, e = .returned (.tuple #[.agg C, .int .i64 E]) ∧ TkA P (g1 + 1) C E w' ∧ Below w.heap.size w w' ∧ Bk w' w.heap.size zT17 29) := by
      have hb := bk_new w1 #[.string P] 105
      rw [hg1] at hb
      have hz : (w1.alloc (.cells #[.string P] 105)).heap.size = g1 + 1 := by rw [al_size, hg1]
      have h := take17 P g1 (w1.alloc (.cells #[.string P] 105)) (by rw [hb.cell]; rfl) (hb.frozen 0) (by omega) HPR.out.2.2.2
      rw [hz] at h
      refine h.mono ?_
      rintro e w' ⟨C, E, h1, h2, t, h3⟩
      have hl := H1.out.1.lt
      have hba := h3.below (B := g1) (Nat.le_refl _) (by omega)
      have hb0 : Below w1.heap.size w1 w' := ((Below.refl _ _).alloc (Nat.le_refl _) _).trans (by rw [hg1]; exact hba)
      exact ⟨C, E, h1, h2, H1.out.2.trans (hb0.mono H1.out.2.size), H1.out.1.below hb0 hl⟩
    have HG1 : Hid (w.heap.size < g1) := by rw [← hg1]; exact H1.out.1.lt
    clear hg1 H1
    go_wp2_with fail
    refine HNW.out.mono ?_
    rintro e w2 ⟨rfl, hw2⟩
    obtain ⟨w2', hw2'⟩ : ∃ W, w1.alloc (.cells #[.string P] 105) = W := ⟨_, rfl⟩
    rw [hw2'] at HTK hw2
    obtain rfl : w2' = w2 := hw2.symm
    clear hw2' HNW hw2
    go_wp2_with fail
    refine HTK.out.mono ?_
    rintro e w3 ⟨C, E, rfl, ha, hb, hk⟩
    have H3 : Hid (TkA P (g1 + 1) C E w3 ∧ Below w.heap.size w w3 ∧ Bk w3 w.heap.size zT17 29) := ⟨ha, hb, hk⟩
    have HCC : Hid (C.size = 4 ∧ C.all (·.oneCell') = true) := ha.cells
    have HIC : Hid ((Tryd.prog.info? 29).map (·.size) = some C.size) := by show _ = _; rw [HCC.out.1]; exact HI4.out
    have hE : E = 0 ∨ E = 4 := by rcases ha with ⟨_, _, h⟩ | ⟨_, _, h⟩ <;> simp [h]
    clear ha hb hk HTK
    rcases hE with rfl | rfl
    · have HYES : Hid (Tk17 P ∧ TbR P (g1 + 1) C w3) := by
        rcases H3.out.1 with ⟨h1, h2, _⟩ | ⟨_, _, h⟩
        · exact ⟨h1, h2⟩
        · exact absurd h (by decide)
      go_wp2_with (first
        | (refine wpList_stoX rfl 29 (.tmp 2) (.tmp 20) rfl w.heap.size C zT17 29 rfl rfl H3.out.2.2 HIC.out HCC.out.1.symm HCC.out.2 ?_; intro w7 HB7 HG7)
        | (refine wpList_get rfl 29 (.tmp 2) rfl w.heap.size 0 C C 29 _ rfl HB7.out (fun j v hv => by rw [Nat.zero_add]; exact hv) Tryd.underlying29 rfl HIC.out ?_)
        | (refine wpList_stoX rfl 29 (.tmp 2) (.tmp 26) rfl w.heap.size C C 29 rfl rfl HB7.out HIC.out rfl HCC.out.2 ?_; intro w8 HB8 HG8)
        | fail)
      have hl := H3.out.2.1.size
      refine bodyPost_ret (res_ctt17 rfl _ _ w.heap.size 29 C (0, 0) _ rfl HB8.out Tryd.underlying29 rfl HIC.out) rfl ⟨C, R, 0, rfl, .inl ⟨HPR.out.1, by rw [HPR.out.2.1]; exact HYES.out.1, ?_, HPR.out.2.2.1.symm, rfl⟩, ?_⟩
      · rw [HPR.out.2.1]
        have hlt := HG1.out
        exact (HYES.out.2.other HG7.out (by omega) (Nat.le_refl _)).other HG8.out (by omega) (by omega)
      · have h7 := H3.out.2.1.grown HG7.out H3.out.2.1.size (fun b hk => by injection hk with hk; omega)
        exact h7.grown HG8.out h7.size (fun b hk => by injection hk with hk; omega)
    · have HNO : Hid (¬ (ufB s = true ∧ Tk17 (ufP s))) := fun h => by
        rw [HPR.out.2.1] at h
        rcases H3.out.1 with ⟨_, _, h2⟩ | ⟨h1, _⟩
        · exact absurd h2 (by decide)
        · exact h1 h.2
      go_wp2_with (first
        | (refine wpList_stoX rfl 29 (.tmp 2) (.tmp 20) rfl w.heap.size C zT17 29 rfl rfl H3.out.2.2 HIC.out HCC.out.1.symm HCC.out.2 ?_; intro w7 HB7 HG7)
        | (refine wpList_bdX0 rfl 29 rfl (.agg zT17) (bd_zT _) ?_)
        | (refine wpList_stoX rfl 29 (.tmp 2) (.tmp 24) rfl w.heap.size zT17 C 29 rfl rfl HB7.out HI4.out HCC.out.1 zT17_one ?_; intro w8 HB8 HG8)
        | fail)
      refine bodyPost_ret (res_ctt17 rfl _ _ w.heap.size 29 zT17 (0, 0) _ rfl HB8.out Tryd.underlying29 rfl HI4.out) rfl ⟨zT17, ⟨#[]⟩, 4, rfl, .inr ⟨HNO.out, rfl, rfl, rfl⟩, ?_⟩
      have h7 := H3.out.2.1.grown HG7.out H3.out.2.1.size (fun b hk => by injection hk with hk; omega)
      exact h7.grown HG8.out h7.size (fun b hk => by injection hk with hk; omega)
/-- Bytes that are a table's. -/
def IsT17 (s : ByteArray) : Prop := ufB s = true ∧ Tk17 (ufP s) ∧ (ufR s).size = 0
/-- What Decode tells. -/
def DcA17 (s : ByteArray) (B : Nat) (C : Array Value) (E : Int) (W : World) : Prop := (IsT17 s ∧ TbR (ufP s) B C W ∧ E = 0) ∨ (¬ IsT17 s ∧ C = zT17 ∧ E = 4)
theorem str_e17 {x : ByteArray} (h : x.size = 0) : x.toList.isEmpty = true := by
  rw [Lib.toList_data]
  obtain ⟨d⟩ := x
  have : d.size = 0 := h
  rw [Array.eq_empty_of_size_eq_zero this]; rfl
theorem str_n17 {x : ByteArray} (h : ¬ x.size = 0) : x.toList.isEmpty = false := by
  rw [Lib.toList_data]
  obtain ⟨d⟩ := x
  have h' : ¬ d.size = 0 := h
  cases hd : d.toList with
  | nil => exact absurd (by rw [← Array.length_toList, hd]; rfl) h'
  | cons a l => rfl
set_option maxHeartbeats 4000000 in
set_option maxRecDepth 100000 in
theorem decode17 (s : ByteArray) (w : World) (hs : s.size ≤ maxLen) :
    Calls Tryd.prog 11 #[.string s] w fun e w' => ∃ C E, e = .returned (.tuple #[.agg C, .int .i64 E]) ∧ DcA17 s w.heap.size C E w' ∧ Below w.heap.size w w' := by
  have H0 : Hid (Bk (w.alloc (.cells zT17 29)) w.heap.size zT17 29 ∧ Below w.heap.size w (w.alloc (.cells zT17 29))) := ⟨bk_new _ _ _, (Below.refl _ _).alloc (Nat.le_refl _) _⟩
  have HI4 : Hid ((Tryd.prog.info? 29).map (·.size) = some 4) := inf_tb
  have HFR : Hid (∀ W, Calls Tryd.prog 29 #[.string s] W fun e w' => ∃ C R E, e = .returned (.tuple #[.agg C, .string R, .int .i64 E]) ∧ FrA s W.heap.size C R E w' ∧ Below W.heap.size W w') := fun W => front17 s W hs
  go_enter Tryd.func11, Tryd.ntmps11
  go_wp2_with fail
  refine (HFR.out _).mono ?_
  rintro e w1 ⟨C, R, E, rfl, ha, b1⟩
  rw [al_size] at ha
  have H1 : Hid (Bk w1 w.heap.size zT17 29 ∧ Below w.heap.size w w1 ∧ FrA s (w.heap.size + 1) C R E w1) := ⟨H0.out.1.below b1 H0.out.1.lt, H0.out.2.trans (b1.mono H0.out.2.size), ha⟩
  have HCC : Hid (C.size = 4 ∧ C.all (·.oneCell') = true) := ha.cells
  have HIC : Hid ((Tryd.prog.info? 29).map (·.size) = some C.size) := by show _ = _; rw [HCC.out.1]; exact HI4.out
  have hE : (E = 0 ∧ R.size = 0) ∨ (E = 0 ∧ ¬ R.size = 0) ∨ E = 4 := by
    rcases ha with ⟨_, _, _, _, h⟩ | ⟨_, _, _, h⟩
    · subst h
      by_cases h0 : R.size = 0
      · exact .inl ⟨rfl, h0⟩
      · exact .inr (.inl ⟨rfl, h0⟩)
    · exact .inr (.inr h)
  clear b1 H0 HFR ha
  have H2 : Hid (Bk (w1.alloc (.cells C 29)) w1.heap.size C 29 ∧ Bk (w1.alloc (.cells C 29)) w.heap.size zT17 29 ∧ Below w.heap.size w (w1.alloc (.cells C 29)) ∧ FrA s (w.heap.size + 1) C R E (w1.alloc (.cells C 29))) := ⟨bk_new _ _ _, H1.out.1.alloc _, H1.out.2.1.alloc H1.out.2.1.size _, H1.out.2.2.below ((Below.refl _ _).alloc (Nat.le_refl _) _)⟩
  obtain ⟨w2, hw2⟩ : ∃ w2, w1.alloc (.cells C 29) = w2 := ⟨_, rfl⟩
  have HW2 : Hid (w1.alloc (.cells C 29) = w2) := hw2
  rw [hw2] at H2
  clear H1 hw2
  rcases hE with ⟨rfl, h0⟩ | ⟨rfl, h0⟩ | rfl
  · have hbq := str_e17 h0
    have HYES : Hid (IsT17 s ∧ TbR (ufP s) (w.heap.size + 1) C w2) := by
      rcases H2.out.2.2.2 with ⟨h1, h2, h3, h4, _⟩ | ⟨_, _, _, h⟩
      · exact ⟨⟨h1, h2, by rw [← h4]; exact h0⟩, h3⟩
      · exact absurd h (by decide)
    clear h0
    go_wp2_with (first
      | (refine wpList_store_new rfl 29 (.tmp 4) (.tmp 10) rfl C _ 29 w1.heap.size rfl rfl rfl HIC.out (by rw [HCC.out.1]; rfl) HCC.out.2 ?_; rw [HW2.out])
      | (refine wpList_get rfl 29 (.tmp 4) rfl w1.heap.size 0 C C 29 _ rfl H2.out.1 (fun j v hv => by rw [Nat.zero_add]; exact hv) Tryd.underlying29 rfl HIC.out ?_)
      | (refine wpList_stoX rfl 29 (.tmp 2) (.tmp 20) rfl w.heap.size C zT17 29 rfl rfl H2.out.2.1 HIC.out HCC.out.1.symm HCC.out.2 ?_; intro w7 HB7 HG7)
      | fail)
    refine bodyPost_ret (res_cell_tmp rfl _ _ w.heap.size 29 C (0, 0) _ rfl HB7.out Tryd.underlying29 rfl HIC.out) rfl ⟨C, 0, rfl, .inl ⟨HYES.out.1, HYES.out.2.other HG7.out (by omega) (by omega), rfl⟩, H2.out.2.2.1.grown HG7.out H2.out.2.2.1.size (fun b hk => by injection hk with hk; omega)⟩
  · have hbq := str_n17 h0
    have HNO : Hid (¬ IsT17 s) := fun h => by
      rcases H2.out.2.2.2 with ⟨_, _, _, h4, _⟩ | ⟨h1, _⟩
      · exact h0 (by rw [h4]; exact h.2.2)
      · exact h1 ⟨h.1, h.2.1⟩
    clear h0
    go_wp2_with (first
      | (refine wpList_store_new rfl 29 (.tmp 4) (.tmp 10) rfl C _ 29 w1.heap.size rfl rfl rfl HIC.out (by rw [HCC.out.1]; rfl) HCC.out.2 ?_; rw [HW2.out])
      | (refine wpList_bdX0 rfl 29 rfl (.agg zT17) (bd_zT _) ?_)
      | (refine wpList_stoX rfl 29 (.tmp 2) (.tmp 19) rfl w.heap.size zT17 zT17 29 rfl rfl H2.out.2.1 HI4.out rfl zT17_one ?_; intro w7 HB7 HG7)
      | fail)
    refine bodyPost_ret (res_cell_tmp rfl _ _ w.heap.size 29 zT17 (0, 0) _ rfl HB7.out Tryd.underlying29 rfl HI4.out) rfl ⟨zT17, 4, rfl, .inr ⟨HNO.out, rfl, rfl⟩, H2.out.2.2.1.grown HG7.out H2.out.2.2.1.size (fun b hk => by injection hk with hk; omega)⟩
  · have HNO : Hid (¬ IsT17 s) := fun h => by
      rcases H2.out.2.2.2 with ⟨_, _, _, _, h4⟩ | ⟨h1, _⟩
      · exact absurd h4 (by decide)
      · exact h1 ⟨h.1, h.2.1⟩
    go_wp2_with (first
      | (refine wpList_store_new rfl 29 (.tmp 4) (.tmp 10) rfl C _ 29 w1.heap.size rfl rfl rfl HIC.out (by rw [HCC.out.1]; rfl) HCC.out.2 ?_; rw [HW2.out])
      | (refine wpList_bdX0 rfl 29 rfl (.agg zT17) (bd_zT _) ?_)
      | (refine wpList_stoX rfl 29 (.tmp 2) (.tmp 19) rfl w.heap.size zT17 zT17 29 rfl rfl H2.out.2.1 HI4.out rfl zT17_one ?_; intro w7 HB7 HG7)
      | fail)
    refine bodyPost_ret (res_cell_tmp rfl _ _ w.heap.size 29 zT17 (0, 0) _ rfl HB7.out Tryd.underlying29 rfl HI4.out) rfl ⟨zT17, 4, rfl, .inr ⟨HNO.out, rfl, rfl⟩, H2.out.2.2.1.grown HG7.out H2.out.2.2.1.size (fun b hk => by injection hk with hk; omega)⟩
end Go.Proofs.YteccnnpialaalaaDoor
