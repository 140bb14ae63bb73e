import Derived.Test.YtcfniaknbbgheaaDoorY7
import Derived.Test.YtcfniaknbbgheaaDoorY8
import Derived.Maps.AppendAt
import Derived.Deep.Cut
import Derived.Deep.CutRange
import Derived.Deep.DeepCutAuto
/- The law's own. -/
namespace Go.Proofs.YtcfniaknbbgheaaDoor
open Go.RowKit
set_option linter.unusedSimpArgs false
set_option linter.unusedVariables false
/-- What lies there while a list is copied. -/
structure OS (w0 : World) (nd md ui gi : Nat) (mt : Int) (tg : ByteArray) (ad : Option Addr) (n c : Nat) (ys : List (ByteArray × ByteArray)) (v : Value) (w : World) : Prop where
  ab : Bk w w0.heap.size (c7 nd md ui gi mt tg (.slice ad n c)) 25
  rb : Bk w (w0.heap.size + 1) z7 28
  xb : Bk w (w0.heap.size + 1 + 1) (c7 nd md ui gi mt tg v) 28
  ow : w.ownsRow (w0.heap.size + 1 + 1 + 1) 56 2 v ys.length (xav ys)
  bel : Below w0.heap.size w0 w
theorem OS.drew {w0 : World} {nd md ui gi : Nat} {mt : Int} {tg : ByteArray} {ad : Option Addr} {n c : Nat} {ys : List (ByteArray × ByteArray)} {v : Value} {w : World} (h : OS w0 nd md ui gi mt tg ad n c ys v w) : OS w0 nd md ui gi mt tg ad n c ys v w.drew :=
  ⟨h.ab, h.rb, h.xb, h.ow, h.bel.drew⟩
theorem OS.start (w0 : World) (nd md ui gi : Nat) (mt : Int) (tg : ByteArray) (ad : Option Addr) (n c : Nat) : OS w0 nd md ui gi mt tg ad n c [] (.slice none 0 0) (((w0.alloc (.cells (c7 nd md ui gi mt tg (.slice ad n c)) 25)).alloc (.cells z7 28)).alloc (.cells (c7 nd md ui gi mt tg (.slice none 0 0)) 28)) := by
  have s1 : (w0.alloc (.cells (c7 nd md ui gi mt tg (.slice ad n c)) 25)).heap.size = w0.heap.size + 1 := al_size _ _
  have s2 : ((w0.alloc (.cells (c7 nd md ui gi mt tg (.slice ad n c)) 25)).alloc (.cells z7 28)).heap.size = w0.heap.size + 1 + 1 := by rw [al_size, s1]
  have b1 := bk_new (w0.alloc (.cells (c7 nd md ui gi mt tg (.slice ad n c)) 25)) z7 28
  rw [s1] at b1
  have b2 := bk_new ((w0.alloc (.cells (c7 nd md ui gi mt tg (.slice ad n c)) 25)).alloc (.cells z7 28)) (c7 nd md ui gi mt tg (.slice none 0 0)) 28
  rw [s2] at b2
  exact ⟨((bk_new w0 _ _).alloc _).alloc _, b1.alloc _, b2, rows_none, (((Below.refl _ w0).alloc (Nat.le_refl _) _).alloc (by omega) _).alloc (by omega) _⟩
/-- One is appended. -/
theorem OS.app {w0 : World} {nd md ui gi : Nat} {mt : Int} {tg : ByteArray} {ad : Option Addr} {n c : Nat} {ys : List (ByteArray × ByteArray)} {v : Value} {w : World} (h : OS w0 nd md ui gi mt tg ad n c ys v w) (x y : ByteArray) (hn : (ys.length + 1) * 32 ≤ 140737488355328) :
    ∃ g cp w7, (Builtin.append_ #[26, 26] 26 #[v, .slice (some ⟨w.heap.size, 0, none⟩) 1 1]).run Tryd.prog (w.alloc (.cells #[.string x, .string y] 56)) = .ok (.slice (some ⟨g, 0, none⟩) (ys.length + 1) cp) w7 ∧
      OS w0 nd md ui gi mt tg ad n c (ys ++ [(x, y)]) (.slice (some ⟨g, 0, none⟩) (ys.length + 1) cp) (w7.setCell ⟨w0.heap.size + 1 + 1, 6, none⟩ (.slice (some ⟨g, 0, none⟩) (ys.length + 1) cp)) ∧
      Bk w7 (w0.heap.size + 1 + 1) (c7 nd md ui gi mt tg v) 28 ∧ Bk w7 w0.heap.size (c7 nd md ui gi mt tg (.slice ad n c)) 25 ∧ ys.length + 1 ≤ cp ∧ Below w0.heap.size w0 w7 ∧
      w7.ownsRow (w0.heap.size + 1 + 1 + 1) 56 2 (.slice (some ⟨g, 0, none⟩) (ys.length + 1) cp) (ys.length + 1) (xav (ys ++ [(x, y)])) ∧ Bk w7 (w0.heap.size + 1) z7 28 := by
  obtain ⟨i0, hi, hz0, hz1, hz2⟩ := info_parts inf_xattr
  have hz := h.bel.size
  have hx3 := h.xb.lt
  obtain ⟨v', w7, hrun, hown, hgrow, _, hat⟩ := run_append_own_at (P := Tryd.prog) (w := w.alloc (.cells #[.string x, .string y] 56)) (w0.heap.size + 1 + 1 + 1) 26 26 56 i0 (.agg #[.string ⟨#[]⟩, .string ⟨#[]⟩]) 2 32 Tryd.underlying26 hi hz0 hz1 hz2 rfl (by decide) v ys.length (xav ys) (h.ow.alloc _) ⟨w.heap.size, 0, none⟩ 1 1 [.string x, .string y] rfl (new_two _ _ _ _) (one_two_s _ _) (by unfold maxLen; omega) (by omega) (by rw [al_size]; omega)
  have hgr : ∀ b, v.ownBlock = some b → w0.heap.size + 1 + 1 + 1 ≤ b := fun b hb => (rows_blk h.ow hb).1
  have b1 := (h.ab.alloc (.cells #[.string x, .string y] 56)).grown hgrow (fun e => by have := hgr _ e; omega)
  have b2 := (h.rb.alloc (.cells #[.string x, .string y] 56)).grown hgrow (fun e => by have := hgr _ e; omega)
  have b3 := (h.xb.alloc (.cells #[.string x, .string y] 56)).grown hgrow (fun e => by have := hgr _ e; omega)
  have b4 : Below w0.heap.size w0 w7 := rows_bel (h.bel.alloc hz _) (by rw [al_size]; omega) (h.ow.alloc _) (by omega) hgrow
  have ho : w7.ownsRow (w0.heap.size + 1 + 1 + 1) 56 2 v' (ys.length + 1) (xav (ys ++ [(x, y)])) := by rw [xav_app]; exact hown
  obtain ⟨g, cp, hv, hcp⟩ : ∃ g cp, v' = .slice (some ⟨g, 0, none⟩) (ys.length + 1) cp ∧ ys.length + 1 ≤ cp := by
    rcases ho.2 with ⟨_, h0⟩ | ⟨g7, c7, cur, h1, _, _, h2, _⟩
    · omega
    · exact ⟨g7, c7, h1, h2⟩
  subst hv
  have hg : w7.grownBy (w7.setCell ⟨w0.heap.size + 1 + 1, 6, none⟩ (.slice (some ⟨g, 0, none⟩) (ys.length + 1) cp)) (some (w0.heap.size + 1 + 1)) := Lib.grownBy_setB (World.grownBy.refl _ _) 6 _
  refine ⟨g, cp, w7, hrun, ⟨b1.grown hg (fun e => by injection e with e; omega), b2.grown hg (fun e => by injection e with e; omega), b3.set 6 _, ?_, below_own b4 b4.size hg (by omega)⟩, b3, b1, hcp, b4, ho, b2⟩
  rw [List.length_append]
  exact own_set ho (by omega)
set_option maxHeartbeats 8000000 in
set_option maxRecDepth 100000 in
theorem own10 (nd md ui gi : Nat) (mt : Int) (tg : ByteArray) (xs : List (ByteArray × ByteArray)) (ad : Option Addr) (n c : Nat) (w : World) (hX : XaL w ad xs) (hl : xs.length = n) (hn : n ≤ 4398046510976) :
    Calls Tryd.prog 5 #[atV nd md ui gi mt tg (.slice ad n c)] w fun e w' => ∃ g cp, e = .returned (.agg (c7 nd md ui gi mt tg (.slice (some ⟨g, 0, none⟩) n cp))) ∧ w'.ownsRow w.heap.size 56 2 (.slice (some ⟨g, 0, none⟩) (n + 1) cp) (n + 1) (xav (xs ++ [(⟨#[35]⟩, ⟨#[]⟩)])) ∧ Below w.heap.size w w' := by
  have HX : Hid (XaL w ad xs) := hX
  have HL : Hid (xs.length = n) := hl
  have O0 : Hid (OS w nd md ui gi mt tg ad n c [] (.slice none 0 0) (((w.alloc (.cells (c7 nd md ui gi mt tg (.slice ad n c)) 25)).alloc (.cells z7 28)).alloc (.cells (c7 nd md ui gi mt tg (.slice none 0 0)) 28))) := OS.start w nd md ui gi mt tg ad n c
  clear hX hl
  go_enter Tryd.func5, Tryd.ntmps5
  go_wp2
  go_loopw [4] (fun v wr => ∃ (k : Nat) (u : Value), v = .int .i64 k ∧ k ≤ n ∧ Hid (OS w nd md ui gi mt tg ad n c (xs.take k) u wr)) (fun v _ => n - (intOf v).toNat)
  case atStart => exact ⟨0, _, rfl, Nat.zero_le _, O0.out⟩
  case round =>
    obtain ⟨k, u, rfl, hk, OR⟩ := hrel
    have htk : (xs.take k).length = k := by rw [List.length_take, HL.out]; omega
    have a6 : wr.cell? ⟨w.heap.size, 6, none⟩ = some (.slice ad n c) := by rw [OR.out.ab.cell]; rfl
    have x6 : wr.cell? ⟨w.heap.size + 1 + 1, 6, none⟩ = some u := by rw [OR.out.xb.cell]; rfl
    have hxl := OR.out.xb.lt
    by_cases hlt : k < n
    · have hkz : (k : Int) < (n : Nat) := by omega
      obtain ⟨x, hx⟩ : ∃ x, xs[k]? = some x := ⟨xs[k]'(by rw [HL.out]; exact hlt), List.getElem?_eq_getElem _⟩
      obtain ⟨g, o, rfl, hg2, hc1, hc2, _, _⟩ := HX.out.below OR.out.bel k x hx
      obtain ⟨x1, x2⟩ := x
      simp only at hc1 hc2
      obtain ⟨g7, cp7, w7, hrun, O7, b7, _, _, _, _⟩ := OR.out.drew.app x1 x2 (by rw [htk]; omega)
      have O8 : Hid (OS w nd md ui gi mt tg (some ⟨g, o, none⟩) n c (xs.take (k + 1)) (.slice (some ⟨g7, 0, none⟩) (k + 1) cp7) (w7.setCell ⟨w.heap.size + 1 + 1, 6, none⟩ (.slice (some ⟨g7, 0, none⟩) (k + 1) cp7))) := by
        rw [List.take_add_one, hx, Option.toList_some]
        rw [htk] at O7
        exact O7
      rw [htk] at hrun
      have y6 : w7.cell? ⟨w.heap.size + 1 + 1, 6, none⟩ = some u := by rw [b7.cell]; rfl
      have y6f := b7.frozen 6
      clear O7 b7 hx htk
      go_wp2
      go_region_law (refine step_app_run (by rfl) _ _ _ _ (by rfl) u (.slice (some ⟨wr.heap.size, 0, none⟩) 1 1) (.slice (some ⟨g7, 0, none⟩) (k + 1) cp7) w7 (by rfl) (by rfl) hrun ?_)
      all_goals (first | go_wp2 | skip)
      all_goals go_roundw
      all_goals first
        | (case rel => exact ⟨k + 1, _, by go_num, by omega, O8.out⟩)
        | (case measure => simp [intOf]; omega)
        | trace_state
    · have hkz : ¬ (k : Int) < (n : Nat) := by omega
      obtain rfl : k = n := by omega
      have hxs : xs.take k = xs := List.take_of_length_le (by rw [HL.out]; omega)
      rw [hxs] at OR htk
      obtain ⟨g7, cp7, w7, hrun, O7, b7, ba7, hcp, hb7, ho7, br7⟩ := OR.out.drew.app ⟨#[35]⟩ ⟨#[]⟩ (by rw [htk]; omega)
      rw [htk] at hrun O7 hcp ho7
      have y6 : w7.cell? ⟨w.heap.size + 1 + 1, 6, none⟩ = some u := by rw [b7.cell]; rfl
      have y6f := b7.frozen 6
      have a7 : w7.cell? ⟨w.heap.size, 6, none⟩ = some (.slice ad k c) := by rw [ba7.cell]; rfl
      have hcz : (k : Int) ≤ (cp7 : Nat) := by omega
      have hal : w.heap.size < wr.heap.size := by omega
      have a8 : (wr.alloc (.cells #[.string ⟨#[35]⟩, .string ⟨#[]⟩] 56)).cell? ⟨w.heap.size, 6, none⟩ = some (.slice ad k c) := by rw [World.cell?_alloc_past _ _ _ hal]; exact a6
      have hg8 : w7.grownBy (w7.setCell ⟨w.heap.size + 1 + 1, 6, none⟩ (.slice (some ⟨g7, 0, none⟩) k cp7)) (some (w.heap.size + 1 + 1)) := Lib.grownBy_setB (World.grownBy.refl _ _) 6 _
      have bx : Bk (w7.setCell ⟨w.heap.size + 1 + 1, 6, none⟩ (.slice (some ⟨g7, 0, none⟩) k cp7)) (w.heap.size + 1 + 1) (c7 nd md ui gi mt tg (.slice (some ⟨g7, 0, none⟩) k cp7)) 28 := b7.set 6 _
      have br : Bk (w7.setCell ⟨w.heap.size + 1 + 1, 6, none⟩ (.slice (some ⟨g7, 0, none⟩) k cp7)) (w.heap.size + 1) z7 28 := br7.grown hg8 (fun e => by injection e with e; omega)
      have BR : Hid (Bk (w7.setCell ⟨w.heap.size + 1 + 1, 6, none⟩ (.slice (some ⟨g7, 0, none⟩) k cp7)) (w.heap.size + 1) z7 28) := br
      have BE : Hid (Below w.heap.size w (w7.setCell ⟨w.heap.size + 1 + 1, 6, none⟩ (.slice (some ⟨g7, 0, none⟩) k cp7))) := below_own hb7 hb7.size hg8 (by omega)
      have BO : Hid ((w7.setCell ⟨w.heap.size + 1 + 1, 6, none⟩ (.slice (some ⟨g7, 0, none⟩) k cp7)).ownsRow (w.heap.size + 1 + 1 + 1) 56 2 (.slice (some ⟨g7, 0, none⟩) (k + 1) cp7) (k + 1) (xav (xs ++ [(⟨#[35]⟩, ⟨#[]⟩)]))) := own_set ho7 (by omega)
      obtain ⟨W8, hW8⟩ : ∃ W8, w7.setCell ⟨w.heap.size + 1 + 1, 6, none⟩ (.slice (some ⟨g7, 0, none⟩) k cp7) = W8 := ⟨_, rfl⟩
      rw [hW8] at bx br BR BE BO
      have e0 : W8.cell? ⟨w.heap.size + 1 + 1, 0, none⟩ = some (.int .u8 (nd : Int)) := by rw [bx.cell]; rfl
      have e1 : W8.cell? ⟨w.heap.size + 1 + 1, 1, none⟩ = some (.int .u32 (md : Int)) := by rw [bx.cell]; rfl
      have e2 : W8.cell? ⟨w.heap.size + 1 + 1, 2, none⟩ = some (.int .u32 (ui : Int)) := by rw [bx.cell]; rfl
      have e3 : W8.cell? ⟨w.heap.size + 1 + 1, 3, none⟩ = some (.int .u32 (gi : Int)) := by rw [bx.cell]; rfl
      have e4 : W8.cell? ⟨w.heap.size + 1 + 1, 4, none⟩ = some (.int .i64 mt) := by rw [bx.cell]; rfl
      have e5 : W8.cell? ⟨w.heap.size + 1 + 1, 5, none⟩ = some (.string tg) := by rw [bx.cell]; rfl
      have e6 : W8.cell? ⟨w.heap.size + 1 + 1, 6, none⟩ = some (.slice (some ⟨g7, 0, none⟩) k cp7) := by rw [bx.cell]; rfl
      have hfz : ∀ j, W8.frozen? ⟨w.heap.size + 1, j, none⟩ = false := fun j => br.frozen j
      have y0 : W8.cell? ⟨w.heap.size + 1, 0, none⟩ = some (.int .u8 0) := by rw [br.cell]; rfl
      have y1 : W8.cell? ⟨w.heap.size + 1, 1, none⟩ = some (.int .u32 0) := by rw [br.cell]; rfl
      have y2 : W8.cell? ⟨w.heap.size + 1, 2, none⟩ = some (.int .u32 0) := by rw [br.cell]; rfl
      have y3 : W8.cell? ⟨w.heap.size + 1, 3, none⟩ = some (.int .u32 0) := by rw [br.cell]; rfl
      have y4 : W8.cell? ⟨w.heap.size + 1, 4, none⟩ = some (.int .i64 0) := by rw [br.cell]; rfl
      have y5 : W8.cell? ⟨w.heap.size + 1, 5, none⟩ = some (.string ⟨#[]⟩) := by rw [br.cell]; rfl
      have y7 : W8.cell? ⟨w.heap.size + 1, 6, none⟩ = some (.slice none 0 0) := by rw [br.cell]; rfl
      clear O7 b7 ba7 hb7 ho7 br7 hg8 bx br hxs htk
      go_wp2
      go_cut [] from 43 to 52 (fun wx => wx = W8)
      case first =>
        go_region_law (refine step_app_run (by rfl) _ _ _ _ (by rfl) u (.slice (some ⟨wr.heap.size, 0, none⟩) 1 1) (.slice (some ⟨g7, 0, none⟩) (k + 1) cp7) w7 (by rfl) (by rfl) hrun ?_)
        all_goals (first | go_wp2_with fail | skip)
        all_goals go_meet
        all_goals first | rfl | exact hW8
      case rest =>
        have hcut' := hcut.symm
        clear hrun hW8 y6 y6f a7 a8
        subst hcut'
        go_wp2
        have q1 := bk_st7 BR.out (.int .u8 (nd : Int)) (.int .u32 (md : Int)) (.int .u32 (ui : Int)) (.int .u32 (gi : Int)) (.int .i64 mt) (.string tg) (.slice (some ⟨g7, 0, none⟩) k cp7)
        have q2 := gr_st7 W8 (w.heap.size + 1) (.int .u8 (nd : Int)) (.int .u32 (md : Int)) (.int .u32 (ui : Int)) (.int .u32 (gi : Int)) (.int .i64 mt) (.string tg) (.slice (some ⟨g7, 0, none⟩) k cp7)
        exact bodyPost_ret (results_cell_row rfl _ _ (w.heap.size + 1) 28 (c7 nd md ui gi mt tg (.slice (some ⟨g7, 0, none⟩) k cp7)) (0, 0) _ rfl q1 Tryd.underlying28 rfl inf_attr) rfl ⟨g7, cp7, rfl, rows_low (own_gr BO.out q2 (by omega)) (by omega), below_own BE.out BE.out.size q2 (by omega)⟩
end Go.Proofs.YtcfniaknbbgheaaDoor
