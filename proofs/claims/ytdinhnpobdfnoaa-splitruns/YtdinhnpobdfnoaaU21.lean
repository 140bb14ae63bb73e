/- The walks of the document's splitter. -/
import Derived.Test.YtdinhnpobdfnoaaU13
import Derived.Test.YtdinhnpobdfnoaaU7
import Derived.Test.YtdinhnpobdfnoaaV3A
import Derived.Test.YtdinhnpobdfnoaaU14
import Derived.Deep.Cut
import Derived.Deep.CutRange
import Derived.Deep.DeepCutAuto
namespace Go.Proofs.Ytdinhnpobdfnoaa
open Go.RowKit
set_option linter.unusedSimpArgs false
set_option linter.unusedVariables false
theorem inf_rpc : (Try.prog.info? 94).map (fun i => (i.zero, i.size, i.bytes)) = some (some (.agg #[.string ⟨#[]⟩, .int .i64 0]), 2, 24) := by kernel_rfl
/-- The document's splitter's cells. -/
abbrev rsv (p : Pl) (R : ByteArray) (tk : Nat) (c : Bool) : Array Value := #[.int .i64 (p.B : Int), .int .i64 (p.F : Int), .int .i64 (p.M : Int), .string R, .int .i64 (tk : Int), .bool c]
theorem rwrite_done (g : Nat) (s : ByteArray) (w : World) (c5 : w.cell? ⟨g, 5, none⟩ = some (.bool true)) : Calls Try.prog 17 #[.pointer (some ⟨g, 0, none⟩), .string s] w fun e w' => e = .returned (.tuple #[.slice none 0 0, .int .i64 5]) ∧ w' = w := by
  go_enter Try.func17, Try.ntmps17
  go_wp2
  go_ret2
  exact ⟨rfl, rfl⟩
theorem rclose_done (g : Nat) (w : World) (c5 : w.cell? ⟨g, 5, none⟩ = some (.bool true)) : Calls Try.prog 19 #[.pointer (some ⟨g, 0, none⟩)] w fun e w' => e = .returned (.tuple #[.slice none 0 0, .int .i64 5]) ∧ w' = w := by
  go_enter Try.func19, Try.ntmps19
  go_wp2
  go_ret2
  exact ⟨rfl, rfl⟩
set_option maxHeartbeats 2000000 in
theorem rclose_yes (g tk : Nat) (p : Pl) (R : ByteArray) (w : World) (hb : Bk w g (rsv p R tk false) 45) (hR : R.size ≤ 1048576) : Calls Try.prog 19 #[.pointer (some ⟨g, 0, none⟩)] w fun e w' => ∃ v, e = .returned (.tuple #[v, .int .i64 0]) ∧ w'.ownsRow w.heap.size 94 2 v (lastP (tby R)).length (pcv (lastP (tby R))) ∧ Bk w' g (rsv p R tk true) 45 ∧ w.grownBy w' (some g) := by
  have c5 : w.cell? ⟨g, 5, none⟩ = some (.bool false) := by rw [hb.cell]; rfl
  have f5 := hb.frozen 5
  have hb2 := hb.set 5 (.bool true)
  have c3 : (w.setCell ⟨g, 5, none⟩ (.bool true)).cell? ⟨g, 3, none⟩ = some (.string R) := by rw [hb2.cell]; rfl
  have HB : Hid (Bk w g (rsv p R tk false) 45) := hb
  have hlt := hb.lt
  by_cases h0 : R.size = 0
  · have e0 : ((R.size : Int) == 0) = true := by simp [h0]
    have hl : lastP (tby R) = [] := by unfold lastP; rw [if_pos (List.eq_nil_of_length_eq_zero (by rw [tby_len]; exact h0))]
    have HL : Hid _ := hl
    clear hb hb2 h0 hl
    go_enter Try.func19, Try.ntmps19
    go_wp2
    go_ret2
    refine ⟨_, rfl, ?_, HB.out.set 5 _, Lib.grownBy_setB (World.grownBy.refl _ _) 5 _⟩
    rw [HL.out]
    exact ⟨rfl, .inl ⟨rfl, rfl⟩⟩
  · have e0 : ((R.size : Int) == 0) = false := beq_eq_false_iff_ne.2 (by omega)
    have hl : lastP (tby R) = [(tby R, 0)] := by unfold lastP; rw [if_neg (fun e => h0 (by rw [← tby_len, e]; rfl))]
    have HL : Hid _ := hl
    clear hb hb2 h0 hl
    go_enter Try.func19, Try.ntmps19
    go_wp2
    go_ret2
    refine ⟨_, rfl, ?_, (HB.out.set 5 _).alloc _, (Lib.grownBy_setB (World.grownBy.refl _ _) 5 _).trans (World.grownBy_alloc _ _ _)⟩
    rw [HL.out]
    refine ⟨rfl, .inr ⟨w.heap.size, 1, #[.string R, .int .i64 0], rfl, Nat.le_refl _, ?_, Nat.le_refl _, by unfold maxLen; omega, rfl, ?_⟩⟩
    · have := bk_new (w.setCell ⟨g, 5, none⟩ (.bool true)) #[.string R, .int .i64 0] 94
      rwa [show (w.setCell ⟨g, 5, none⟩ (.bool true)).heap.size = w.heap.size from by simp [World.setCell]] at this
    · show [Value.string R, Value.int .i64 0] = [Value.string ⟨(tby R).toArray⟩, Value.int .i64 0]
      rw [show (⟨(tby R).toArray⟩ : ByteArray) = R from by apply ByteArray.ext; simp [tby]]
theorem fir_yes {p : Pl} {s : List UInt8} {q v : Nat} (h : FiR p s q v true) : pcs (ctA p) [] s = (s.take q, v) :: pcs (ctA p) [] (s.drop q) ∧ lft (ctA p) [] s = lft (ctA p) [] (s.drop q) := by
  obtain ⟨h1, h2, h3, h4⟩ := h.yes rfl
  exact fi_some h1 h2 h3 h4
theorem fir_no {p : Pl} {s : List UInt8} {q v : Nat} (h : FiR p s q v false) : pcs (ctA p) [] s = [] ∧ lft (ctA p) [] s = s := (h.no rfl).2.2.all
/-- The document's splitter under way. -/
structure RW (w : World) (p : Pl) (g tk : Nat) (R : ByteArray) (done : List (List UInt8 × Nat)) (v : Value) (wr : World) : Prop where
  bk : Bk wr g (rsv p R tk false) 45
  ow : wr.ownsRow w.heap.size 94 2 v done.length (pcv done)
  gr : w.grownBy wr (some g)
theorem ref_app (p : Pl) (w wr : World) (g tk : Nat) (R : ByteArray) (done : List (List UInt8 × Nat)) (v : Value) (h : RW w p g tk R done v wr) (T : ByteArray) (lv : Nat) (hd : done.length ≤ 1048576) (hg : g < w.heap.size) :
    ∃ a7 n7 k7 w7, (Builtin.append_ #[49, 49] 49 #[v, .slice (some ⟨wr.heap.size, 0, none⟩) 1 1]).run Try.prog (wr.alloc (.cells #[.string T, .int .i64 (lv : Int)] 94)) = .ok (.slice a7 n7 k7) w7 ∧ RW w p g tk R (done ++ [(tby T, lv)]) (.slice a7 n7 k7) w7 ∧ Kp [94] wr w7 := by
  obtain ⟨i0, hi, hz0, hz1, hz2⟩ := info_parts inf_rpc
  have hz := h.gr.size
  obtain ⟨v', w7, hrun, hown, hgrow, _, hat⟩ := run_append_own_at (P := Try.prog) (w := wr.alloc (.cells #[.string T, .int .i64 (lv : Int)] 94)) w.heap.size 49 49 94 i0 (.agg #[.string ⟨#[]⟩, .int .i64 0]) 2 24 Try.underlying49 hi hz0 hz1 hz2 rfl (by decide) v done.length (pcv done) (h.ow.alloc _) ⟨wr.heap.size, 0, none⟩ 1 1 [.string T, .int .i64 (lv : Int)] rfl (news_two wr _ _ _) (one_pc _ _) (by unfold maxLen; omega) (by omega) (by simp; omega)
  obtain ⟨a7, n7, k7, hv7⟩ : ∃ a n c, v' = .slice a n c := by
    rcases hown.2 with ⟨h1, _⟩ | ⟨_, _, _, h1, _⟩
    · exact ⟨_, _, _, h1⟩
    · exact ⟨_, _, _, h1⟩
  subst hv7
  have hk : Kp [94] wr w7 := (kp_alloc _ _ _).trans (kp_own (h.ow.alloc _) (by decide) hgrow)
  have ga := h.gr.trans (World.grownBy_alloc wr (.cells #[.string T, .int .i64 (lv : Int)] 94) (some g))
  refine ⟨a7, n7, k7, w7, hrun, ⟨hk _ _ _ (by decide) h.bk, ?_, ⟨hgrow.os.trans ga.os, hgrow.tape.trans ga.tape, hgrow.output.trans ga.output, Nat.le_trans ga.size hgrow.size, fun i hi2 hne => (hgrow.block i (Nat.lt_of_lt_of_le hi2 ga.size) (fun e => ?_)).trans (ga.block i hi2 hne)⟩⟩, hk⟩
  · rw [pcv_app, List.length_append]
    have e : (⟨(tby T).toArray⟩ : ByteArray) = T := by apply ByteArray.ext; simp [tby]
    show World.ownsRow _ _ _ _ _ _ (pcv done ++ [Value.string ⟨(tby T).toArray⟩, Value.int .i64 (lv : Int)])
    rw [e]; exact hown
  · have := (own_lt2 h.ow e.symm).2
    omega
theorem RW.drew {w : World} {p : Pl} {g tk : Nat} {R : ByteArray} {done : List (List UInt8 × Nat)} {v : Value} {wr : World} (h : RW w p g tk R done v wr) : RW w p g tk R done v wr.drew := ⟨h.bk, h.ow.drew, h.gr.trans (gr_drewN wr 1 _)⟩
set_option maxHeartbeats 4000000 in
set_option maxRecDepth 100000 in
theorem rwrite_yes (g tk : Nat) (p : Pl) (hp : p.ok) (R s : ByteArray) (w : World) (hb : Bk w g (rsv p R tk false) 45) (ho : Opn (ctA p) (tby R)) (hl : tk + s.size ≤ 500000) :
    Calls Try.prog 17 #[.pointer (some ⟨g, 0, none⟩), .string s] w fun e w' => ∃ v R', e = .returned (.tuple #[v, .int .i64 0]) ∧ w'.ownsRow w.heap.size 94 2 v (pcs (ctA p) (tby R) (tby s)).length (pcv (pcs (ctA p) (tby R) (tby s))) ∧ Bk w' g (rsv p R' (tk + s.size) false) 45 ∧ tby R' = lft (ctA p) (tby R) (tby s) ∧ w.grownBy w' (some g) := by
  have hRs := ho.lt (p := p) (by have := hp.2.2.2.2.1; omega)
  have hM := hp.2.2.2.2.2
  rw [tby_len] at hRs
  have c5 : w.cell? ⟨g, 5, none⟩ = some (.bool false) := by rw [hb.cell]; rfl
  have c4 : w.cell? ⟨g, 4, none⟩ = some (.int .i64 (tk : Int)) := by rw [hb.cell]; rfl
  have f4 := hb.frozen 4
  obtain ⟨Tn, hTn⟩ : ∃ T, tk + s.size = T := ⟨_, rfl⟩
  have hTz : (tk : Int) + s.size = Tn := by omega
  have hb2 := hb.set 4 (.int .i64 (Tn : Int))
  have c3 : (w.setCell ⟨g, 4, none⟩ (.int .i64 (Tn : Int))).cell? ⟨g, 3, none⟩ = some (.string R) := by rw [hb2.cell]; rfl
  have f3 := hb2.frozen 3
  obtain ⟨R0, hR0⟩ : ∃ T, R ++ s = T := ⟨_, rfl⟩
  have hR0b : tby R0 = tby R ++ tby s := by
    rw [← hR0]
    show (R ++ s).data.toList = _
    rw [ByteArray.data_append, Array.toList_append]
  have hR0s : R0.size ≤ 600000 := by rw [← tby_len, hR0b, List.length_append, tby_len, tby_len]; omega
  have hz : ¬ (s.size : Int) > 1048576 - tk := by omega
  have HON : Hid (pcs (ctA p) [] (tby R0) = pcs (ctA p) (tby R) (tby s) ∧ lft (ctA p) [] (tby R0) = lft (ctA p) (tby R) (tby s)) := by rw [hR0b]; exact ho.on (tby s)
  have HTn : Hid (tk + s.size = Tn) := hTn
  have HW : Hid (RW w p g Tn R0 [] (.slice none 0 0) ((w.setCell ⟨g, 4, none⟩ (.int .i64 (Tn : Int))).setCell ⟨g, 3, none⟩ (.string R0))) := ⟨hb2.set 3 _, ⟨rfl, .inl ⟨rfl, rfl⟩⟩, Lib.grownBy_setB (Lib.grownBy_setB (World.grownBy.refl _ _) 4 _) 3 _⟩
  have HP : Hid p.ok := hp
  have hlt := hb.lt
  clear hb hb2 ho hR0b hTn hp
  go_enter Try.func17, Try.ntmps17
  go_wp2
  go_loopw [6] (fun x wr => ∃ (R1 : ByteArray) (dn : List (List UInt8 × Nat)) (k : Nat), R1.size ≤ 600000 ∧ k + R1.size ≤ 600000 ∧ Hid (dn.length = k) ∧ Hid (pcs (ctA p) [] (tby R0) = dn ++ pcs (ctA p) [] (tby R1) ∧ lft (ctA p) [] (tby R0) = lft (ctA p) [] (tby R1)) ∧ Hid (RW w p g Tn R1 dn x wr)) (fun _ wr => match wr.cell? ⟨g, 3, none⟩ with | some (.string t) => t.size | _ => 0)
  case atStart => exact ⟨R0, [], 0, hR0s, by omega, rfl, ⟨rfl, rfl⟩, HW.out⟩
  case round =>
    clear HW c5 c4 f4 c3 f3
    obtain ⟨R1, dn, k, hR1, hkR, HK, HI, HW⟩ := hrel
    have c3 : wr.cell? ⟨g, 3, none⟩ = some (.string R1) := by rw [HW.out.bk.cell]; rfl
    by_cases h0 : 0 < R1.size
    · have h0z : (R1.size : Int) > 0 := by omega
      have k0 : wr.cell? ⟨g, 0, none⟩ = some (.int .i64 (p.B : Int)) := by rw [HW.out.bk.cell]; rfl
      have k1 : wr.cell? ⟨g, 1, none⟩ = some (.int .i64 (p.F : Int)) := by rw [HW.out.bk.cell]; rfl
      have k2 : wr.cell? ⟨g, 2, none⟩ = some (.int .i64 (p.M : Int)) := by rw [HW.out.bk.cell]; rfl
      have HFb : Hid (Calls Try.prog 27 #[plV p.B p.F p.M, .string R1] wr.drew fun e w' => ∃ (q v : Nat) (wh : Bool), e = .returned (.tuple #[.agg #[.int .i64 (q : Int), .int .i64 (v : Int)], .bool wh]) ∧ Hid (∃ (gc : Nat), gc = w'.heap.size ∧ (w'.alloc (.cells #[.int .i64 (q : Int), .int .i64 (v : Int)] 80)).cell? ⟨gc, 0, none⟩ = some (.int .i64 (q : Int)) ∧ (w'.alloc (.cells #[.int .i64 (q : Int), .int .i64 (v : Int)] 80)).cell? ⟨gc, 1, none⟩ = some (.int .i64 (v : Int)) ∧ Hid (FiR p (tby R1) q v wh ∧ RW w p g Tn R1 dn u6 (w'.alloc (.cells #[.int .i64 (q : Int), .int .i64 (v : Int)] 80)) ∧ Bk (w'.alloc (.cells #[.int .i64 (q : Int), .int .i64 (v : Int)] 80)) gc #[.int .i64 (q : Int), .int .i64 (v : Int)] 80))) := by
        refine (rfirst_any p HP.out R1 (by omega) wr.drew).mono ?_
        rintro e w4 ⟨q, v, wh, rfl, hfi, b4⟩
        have hA := (Below.refl wr.heap.size wr).drew.trans b4
        have hA2 := hA.alloc hA.size (.cells #[.int .i64 (q : Int), .int .i64 (v : Int)] 80)
        have hrw : RW w p g Tn R1 dn u6 (w4.alloc (.cells #[.int .i64 (q : Int), .int .i64 (v : Int)] 80)) := ⟨HW.out.bk.below hA2 HW.out.bk.lt, own_kp HW.out.ow (ts := []) (by simp) (kp_below _ hA2), HW.out.gr.trans (gr_of_below hA2 _)⟩
        refine ⟨q, v, wh, rfl, w4.heap.size, rfl, ?_, ?_, hfi, hrw, bk_new _ _ _⟩
        · rw [(bk_new w4 #[.int .i64 (q : Int), .int .i64 (v : Int)] 80).cell]; rfl
        · rw [(bk_new w4 #[.int .i64 (q : Int), .int .i64 (v : Int)] 80).cell]; rfl
      have HFa : Hid (Calls Try.prog 27 #[plV p.B p.F p.M, .string R1] (wr.alloc (.cells #[.int .i64 0, .int .i64 0] 80)).drew fun e w' => ∃ (q v : Nat) (wh : Bool), e = .returned (.tuple #[.agg #[.int .i64 (q : Int), .int .i64 (v : Int)], .bool wh]) ∧ w'.cell? ⟨wr.heap.size, 0, none⟩ = some (.int .i64 0) ∧ w'.cell? ⟨wr.heap.size, 1, none⟩ = some (.int .i64 0) ∧ w'.frozen? ⟨wr.heap.size, 0, none⟩ = false ∧ w'.frozen? ⟨wr.heap.size, 1, none⟩ = false ∧ Hid (∃ (gc : Nat), gc = wr.heap.size ∧ ((w'.setCell ⟨wr.heap.size, 0, none⟩ (.int .i64 (q : Int))).setCell ⟨wr.heap.size, 1, none⟩ (.int .i64 (v : Int))).cell? ⟨gc, 0, none⟩ = some (.int .i64 (q : Int)) ∧ ((w'.setCell ⟨wr.heap.size, 0, none⟩ (.int .i64 (q : Int))).setCell ⟨wr.heap.size, 1, none⟩ (.int .i64 (v : Int))).cell? ⟨gc, 1, none⟩ = some (.int .i64 (v : Int)) ∧ Hid (FiR p (tby R1) q v wh ∧ RW w p g Tn R1 dn u6 ((w'.setCell ⟨wr.heap.size, 0, none⟩ (.int .i64 (q : Int))).setCell ⟨wr.heap.size, 1, none⟩ (.int .i64 (v : Int))) ∧ Bk ((w'.setCell ⟨wr.heap.size, 0, none⟩ (.int .i64 (q : Int))).setCell ⟨wr.heap.size, 1, none⟩ (.int .i64 (v : Int))) gc #[.int .i64 (q : Int), .int .i64 (v : Int)] 80))) := by
        refine (rfirst_any p HP.out R1 (by omega) (wr.alloc (.cells #[.int .i64 0, .int .i64 0] 80)).drew).mono ?_
        rintro e w4 ⟨q, v, wh, rfl, hfi, b4⟩
        have hbn := (bk_new wr #[.int .i64 0, .int .i64 0] 80)
        have hb4 : Bk w4 wr.heap.size #[.int .i64 0, .int .i64 0] 80 := Bk.below (w := (wr.alloc (.cells #[.int .i64 0, .int .i64 0] 80)).drew) hbn b4 hbn.lt
        have hA : Below wr.heap.size wr w4 := ((Below.refl wr.heap.size wr).alloc (Nat.le_refl _) _).drew.trans (b4.mono (by show wr.heap.size ≤ (wr.alloc _).heap.size; rw [al_size]; omega))
        have hg4 : w4.grownBy ((w4.setCell ⟨wr.heap.size, 0, none⟩ (.int .i64 (q : Int))).setCell ⟨wr.heap.size, 1, none⟩ (.int .i64 (v : Int))) (some wr.heap.size) := Lib.grownBy_setB (Lib.grownBy_setB (World.grownBy.refl _ _) 0 _) 1 _
        have hA2 : Below wr.heap.size wr ((w4.setCell ⟨wr.heap.size, 0, none⟩ (.int .i64 (q : Int))).setCell ⟨wr.heap.size, 1, none⟩ (.int .i64 (v : Int))) := below_own hA hA.size hg4 (Nat.le_refl _)
        have hbz := (hb4.set 0 (.int .i64 (q : Int))).set 1 (.int .i64 (v : Int))
        have hrw : RW w p g Tn R1 dn u6 ((w4.setCell ⟨wr.heap.size, 0, none⟩ (.int .i64 (q : Int))).setCell ⟨wr.heap.size, 1, none⟩ (.int .i64 (v : Int))) := ⟨HW.out.bk.below hA2 HW.out.bk.lt, own_kp HW.out.ow (ts := []) (by simp) (kp_below _ hA2), HW.out.gr.trans (gr_of_below hA2 _)⟩
        refine ⟨q, v, wh, rfl, by rw [hb4.cell]; rfl, by rw [hb4.cell]; rfl, hb4.frozen 0, hb4.frozen 1, wr.heap.size, rfl, by rw [hbz.cell]; rfl, by rw [hbz.cell]; rfl, hfi, hrw, hbz⟩
      have HBA := HW.out.bk.alloc (.cells #[.int .i64 0, .int .i64 0] 80)
      have j0 : (wr.alloc (.cells #[.int .i64 0, .int .i64 0] 80)).cell? ⟨g, 0, none⟩ = some (.int .i64 (p.B : Int)) := by rw [HBA.cell]; rfl
      have j1 : (wr.alloc (.cells #[.int .i64 0, .int .i64 0] 80)).cell? ⟨g, 1, none⟩ = some (.int .i64 (p.F : Int)) := by rw [HBA.cell]; rfl
      have j2 : (wr.alloc (.cells #[.int .i64 0, .int .i64 0] 80)).cell? ⟨g, 2, none⟩ = some (.int .i64 (p.M : Int)) := by rw [HBA.cell]; rfl
      have j3 : (wr.alloc (.cells #[.int .i64 0, .int .i64 0] 80)).cell? ⟨g, 3, none⟩ = some (.string R1) := by rw [HBA.cell]; rfl
      clear HBA
      go_upto_region 9 with fail
      go_cut [7, 8] from 40 to 82 (fun x y wx => ∃ (q v gc : Nat) (wh : Bool), x = .pointer (some ⟨gc, 0, none⟩) ∧ y = .bool wh ∧ wx.cell? ⟨gc, 0, none⟩ = some (.int .i64 (q : Int)) ∧ wx.cell? ⟨gc, 1, none⟩ = some (.int .i64 (v : Int)) ∧ Hid (FiR p (tby R1) q v wh ∧ RW w p g Tn R1 dn u6 wx ∧ Bk wx gc #[.int .i64 (q : Int), .int .i64 (v : Int)] 80))
      case first =>
        go_region_with (first
          | (go_at_call 27; refine HFb.out.mono ?_; rintro e w4 ⟨q, v, wh, rfl, HX4⟩)
          | (go_at_call 27; refine HFa.out.mono ?_; rintro e w4 ⟨q, v, wh, rfl, za, zb, zc, zd, HX4⟩))
        all_goals
          go_wp2_with fail
          go_meet
          obtain ⟨gc, hgc, q1, q2, hh⟩ := HX4.out
          subst hgc
          exact ⟨q, v, _, wh, rfl, rfl, q1, q2, hh⟩
      case rest =>
        obtain ⟨q, v, gc, wh, rfl, rfl, q1, q2, HC⟩ := hcut
        have c3c : wc.cell? ⟨g, 3, none⟩ = some (.string R1) := by rw [HC.out.2.1.bk.cell]; rfl
        have f3c := HC.out.2.1.bk.frozen 3
        cases wh with
        | false =>
          have HX : Hid (pcs (ctA p) (tby R) (tby s) = dn ∧ tby R1 = lft (ctA p) (tby R) (tby s)) := by
            have h1 := fir_no HC.out.1
            have h2 := HI.out
            have h3 := HON.out
            rw [h1.1, h1.2, List.append_nil] at h2
            exact ⟨h3.1 ▸ h2.1, by rw [← h3.2, h2.2]⟩
          go_wp2
          go_ret2
          refine ⟨_, R1, rfl, ?_, ?_, HX.out.2, HC.out.2.1.gr⟩
          · rw [HX.out.1]; exact HC.out.2.1.ow
          · rw [HTn.out]; exact HC.out.2.1.bk
        | true =>
          have hq1 : q ≤ R1.size := by
            have := (HC.out.1.yes rfl).2.1
            rwa [tby_len] at this
          have hqz : (0 : Int) ≤ (q : Int) ∧ (q : Int) ≤ R1.size := by omega
          obtain ⟨T, hT⟩ : ∃ T, R1.extract 0 q = T := ⟨_, rfl⟩
          obtain ⟨R2, hR2⟩ : ∃ T, R1.extract q R1.size = T := ⟨_, rfl⟩
          obtain ⟨a7, n7, k7, w7, hrun, HW7, HK7⟩ := ref_app p w wc.drew g Tn R1 dn u6 HC.out.2.1.drew T v (by have := HK.out; omega) hlt
          have hb7 : Bk w7 gc #[.int .i64 (q : Int), .int .i64 (v : Int)] 80 := HK7 _ _ _ (by decide) HC.out.2.2
          have d0 : w7.cell? ⟨gc, 0, none⟩ = some (.int .i64 (q : Int)) := by rw [hb7.cell]; rfl
          have d3 : w7.cell? ⟨g, 3, none⟩ = some (.string R1) := by rw [HW7.bk.cell]; rfl
          have e3 := HW7.bk.frozen 3
          have HW8 : Hid (RW w p g Tn R2 (dn ++ [(tby T, v)]) (.slice a7 n7 k7) (w7.setCell ⟨g, 3, none⟩ (.string R2))) := ⟨HW7.bk.set 3 _, own_kp HW7.ow (ts := [45]) (by decide) (kp_set HW7.bk (by simp) 3 _), Lib.grownBy_setB HW7.gr 3 _⟩
          clear hb7 HW7 HK7
          have HE : Hid (pcs (ctA p) [] (tby R1) = (tby T, v) :: pcs (ctA p) [] (tby R2) ∧ lft (ctA p) [] (tby R1) = lft (ctA p) [] (tby R2)) := by
            have h1 := fir_yes HC.out.1
            have e1 : (tby R1).take q = tby T := by rw [← hT, tby, tby]; simp
            have e2 : (tby R1).drop q = tby R2 := by
              rw [← hR2, tby, tby]; simp
              rw [List.take_of_length_le]
              rw [List.length_drop]; exact Nat.le_refl _
            rw [e1, e2] at h1; exact h1
          have hq0 : 1 ≤ q := (HC.out.1.yes rfl).1
          have hR2s : R2.size = R1.size - q := by rw [← hR2]; simp
          go_upto_region 11 with fail
          go_cut [6] from 58 to 82 (fun x wx => ∃ a7 n7 k7, x = .slice a7 n7 k7 ∧ wx.cell? ⟨gc, 0, none⟩ = some (.int .i64 (q : Int)) ∧ wx.cell? ⟨g, 3, none⟩ = some (.string R1) ∧ wx.frozen? ⟨g, 3, none⟩ = false ∧ Hid (RW w p g Tn R2 (dn ++ [(tby T, v)]) (.slice a7 n7 k7) (wx.setCell ⟨g, 3, none⟩ (.string R2))))
          case first =>
            go_region_law (refine step_app_run (by rfl) _ _ _ _ (by rfl) u6 (.slice (some ⟨wc.heap.size, 0, none⟩) 1 1) (.slice a7 n7 k7) w7 (by rfl) (by rfl) hrun ?_)
            all_goals
              (first | go_wp2_with fail | skip)
              go_meet
              exact ⟨a7, n7, k7, rfl, d0, d3, e3, HW8⟩
          case rest =>
            clear HW8 hrun d0 d3 e3
            obtain ⟨b7, m7, l7, rfl, d0, d3, e3, HW8⟩ := hcut
            go_upto_region 12 with fail
            go_region
            (first | go_wp2 | skip)
            go_roundw
            case rel =>
              refine ⟨R2, dn ++ [(tby T, v)], k + 1, by omega, by omega, ?_, ?_, HW8.out.drew⟩
              · show (dn ++ [(tby T, v)]).length = k + 1
                rw [List.length_append, HK.out]; rfl
              · have h2 := HI.out
                have h3 := HE.out
                rw [h3.1, h3.2] at h2
                exact ⟨by rw [h2.1, List.append_assoc]; rfl, h2.2⟩
            case measure =>
              have e8 : (wc.setCell ⟨g, 3, none⟩ (.string R2)).drew.cell? ⟨g, 3, none⟩ = some (.string R2) := by rw [HW8.out.drew.bk.cell]; rfl
              rw [c3, e8]
              show R2.size < R1.size
              omega
    · have h0z : ¬ (R1.size : Int) > 0 := by omega
      have HX : Hid (pcs (ctA p) (tby R) (tby s) = dn ∧ tby R1 = lft (ctA p) (tby R) (tby s)) := by
        have h2 := HI.out
        have h3 := HON.out
        have e : tby R1 = [] := List.eq_nil_of_length_eq_zero (by rw [tby_len]; omega)
        rw [e] at h2 ⊢
        rw [show pcs (ctA p) [] [] = [] from rfl, List.append_nil] at h2
        exact ⟨h3.1 ▸ h2.1, by rw [← h3.2, h2.2]; rfl⟩
      go_wp2
      go_ret2
      refine ⟨_, rfl, ?_, R1, ?_, HX.out.2, HW.out.gr⟩
      · rw [HX.out.1]; exact HW.out.ow
      · rw [HTn.out]; exact HW.out.bk
end Go.Proofs.Ytdinhnpobdfnoaa
