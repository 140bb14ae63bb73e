/- The walk of groups.joined. -/
import Derived.Test.YthfggejdeodinaaU14
namespace Go.Proofs.Ythfggejdeodinaa
open Go.RowKit
set_option linter.unusedSimpArgs false
set_option linter.unusedVariables false
set_option maxHeartbeats 4000000 in
set_option maxRecDepth 100000 in
theorem joined_any (B gg n0 m gi off n c : Nat) (nodes : List (List Nat)) (vk ve : Value) (grp : List Itm) (I : Array Value) (w : World) (h : Gr w B gg n0 m nodes [] vk ve) (hI : Bk w gi I 37) (hi : ItL w gi off grp) (hn : grp.length = n) (h1 : 1 ≤ n) (hb : n ≤ 1048576)
    (hk : nodes.flatten.length ≤ 4194304) (hl : nodes.length ≤ 1048576) (h0 : n0 ≤ 1048576) (hB : B ≤ w.heap.size) :
    Calls Try.prog 10 #[.pointer (some ⟨gg, 0, none⟩), .slice (some ⟨gi, off, none⟩) n c] w fun e w' => ∃ vk' ve', e = .returned (.agg #[.int .i64 ((jn n0 nodes grp).1 : Int), .int .i64 ((jn n0 nodes grp).2 : Int)]) ∧ GdU w B gg n0 m (nd nodes grp) [] vk' ve' w' := by
  obtain ⟨q, hq⟩ : ∃ q, q + 1 = n := ⟨n - 1, by omega⟩
  obtain ⟨x, hx⟩ : ∃ x, grp[q]? = some x := ⟨_, List.getElem?_eq_getElem (by omega)⟩
  have hlast : grp.getLastD (0, 0) = x := by
    rw [List.getLastD_eq_getLast?, List.getLast?_eq_getElem?, hn, show n - 1 = q from by omega, hx]; rfl
  obtain ⟨p1, p2⟩ := hi q x hx
  obtain ⟨X, hX⟩ : ∃ X, x.1 = X := ⟨_, rfl⟩
  obtain ⟨Y, hY⟩ : ∃ X, x.2 = X := ⟨_, rfl⟩
  rw [hX] at p1
  rw [hY] at p2
  replace p1 : (w.alloc (.cells #[.int .i64 0, .int .i64 0] 37)).cell? ⟨gi, off + q * 2, none⟩ = some (.int .i64 (X : Int)) := by rw [(hI.alloc _).cell, ← hI.cell]; exact p1
  replace p2 : (w.alloc (.cells #[.int .i64 0, .int .i64 0] 37)).cell? ⟨gi, off + q * 2 + 1, none⟩ = some (.int .i64 (Y : Int)) := by rw [(hI.alloc _).cell, ← hI.cell]; exact p2
  have hqz : (n : Int) - 1 = q := by omega
  have hq0 : (0 : Int) ≤ q := by omega
  have hqn : (q : Int) < (n : Nat) := by omega
  have HI : Hid (Bk w gi I 37 ∧ ItL w gi off grp ∧ grp.length = n) := ⟨hI, hi, hn⟩
  have HG : Hid (Gr w B gg n0 m nodes [] vk ve) := h
  by_cases h2 : n < 2
  · have hj : jn n0 nodes grp = (X, Y) := by unfold jn; rw [if_pos (by omega), hlast, ← hX, ← hY]
    have hnd : nd nodes grp = nodes := by unfold nd; rw [if_pos (by omega)]
    have HJ : Hid (jn n0 nodes grp = (X, Y) ∧ nd nodes grp = nodes) := ⟨hj, hnd⟩
    have h2z : (n : Int) < 2 := by omega
    clear hj hnd hlast hx hX hY hI hi hn h
    go_enter Try.func10, Try.ntmps10
    go_wp2
    have hR : Bk ((w.alloc (Obj.cells #[.int .i64 (X : Int), .int .i64 (Y : Int)] 37)).alloc (Obj.cells #[.int .i64 (X : Int), .int .i64 (Y : Int)] 37)) w.heap.size #[.int .i64 (X : Int), .int .i64 (Y : Int)] 37 := (bk_new w _ _).alloc _
    have hbl : Below w.heap.size w ((w.alloc (Obj.cells #[.int .i64 (X : Int), .int .i64 (Y : Int)] 37)).alloc (Obj.cells #[.int .i64 (X : Int), .int .i64 (Y : Int)] 37)) := ((Below.refl _ _).alloc (Nat.le_refl _) _).alloc (by simp) _
    refine bodyPost_ret (results_cell_row rfl _ _ w.heap.size 37 #[.int .i64 (X : Int), .int .i64 (Y : Int)] (0, 0) _ rfl hR Try.underlying37 rfl inf_item) rfl ⟨vk, ve, by rw [HJ.out.1], ?_⟩
    rw [HJ.out.2]
    exact ⟨HG.out.next hbl, kp_below _ hbl, hbl.mono hB, hB⟩
  · have hj : jn n0 nodes grp = (n0 + nodes.length, Y) := by unfold jn; rw [if_neg (by omega), hlast, ← hY]
    have hnd : nd nodes grp = nodes ++ [grp.map (·.1)] := by unfold nd; rw [if_neg (by omega)]
    have HJ : Hid (jn n0 nodes grp = (n0 + nodes.length, Y) ∧ nd nodes grp = nodes ++ [grp.map (·.1)]) := ⟨hj, hnd⟩
    have h2z : ¬ (n : Int) < 2 := by omega
    have hbl : Below w.heap.size w ((w.alloc (Obj.cells #[.int .i64 0, .int .i64 0] 37)).alloc (Obj.cells #[.int .i64 (X : Int), .int .i64 (Y : Int)] 37)) := ((Below.refl _ _).alloc (Nat.le_refl _) _).alloc (by simp) _
    have HW : Hid (GdU w B gg n0 m nodes [] vk ve ((w.alloc (Obj.cells #[.int .i64 0, .int .i64 0] 37)).alloc (Obj.cells #[.int .i64 (X : Int), .int .i64 (Y : Int)] 37)) ∧ Bk ((w.alloc (Obj.cells #[.int .i64 0, .int .i64 0] 37)).alloc (Obj.cells #[.int .i64 (X : Int), .int .i64 (Y : Int)] 37)) w.heap.size #[.int .i64 0, .int .i64 0] 37 ∧ Bk ((w.alloc (Obj.cells #[.int .i64 0, .int .i64 0] 37)).alloc (Obj.cells #[.int .i64 (X : Int), .int .i64 (Y : Int)] 37)) (w.heap.size + 1) #[.int .i64 (X : Int), .int .i64 (Y : Int)] 37) := by
      refine ⟨⟨h.next hbl, kp_below _ hbl, hbl.mono hB, hB⟩, (bk_new w _ _).alloc _, ?_⟩
      have := bk_new (w.alloc (Obj.cells #[.int .i64 0, .int .i64 0] 37)) #[.int .i64 (X : Int), .int .i64 (Y : Int)] 37
      rwa [al_size] at this
    clear hj hnd hlast hx hX hY hI hi hn h hbl
    go_enter Try.func10, Try.ntmps10
    go_wp2
    go_loopw [20] (fun t wr => ∃ (i : Nat) (vk ve : Value), i ≤ n ∧ t = .int .i64 (i : Int) ∧ Hid (GdU w B gg n0 m nodes ((grp.map (·.1)).take i) vk ve wr ∧ Bk wr w.heap.size #[.int .i64 0, .int .i64 0] 37 ∧ Bk wr (w.heap.size + 1) #[.int .i64 (X : Int), .int .i64 (Y : Int)] 37)) (fun t _ => n - (intOf t).toNat)
    case atStart => exact ⟨0, vk, ve, Nat.zero_le _, rfl, by rw [List.take_zero]; exact HW.out⟩
    case round =>
      clear HW HG p1 p2 vk ve
      obtain ⟨i, vk, ve, hin, rfl, HD⟩ := hrel
      have hsz : B ≤ wr.heap.size := Nat.le_trans hB HD.out.1.bel.size
      by_cases hlt : i < n
      · have hiz : (i : Int) < (n : Nat) := by omega
        have hi0 : (0 : Int) ≤ i := by omega
        obtain ⟨y, hy⟩ : ∃ y, grp[i]? = some y := ⟨_, List.getElem?_eq_getElem (by rw [HI.out.2.2]; exact hlt)⟩
        have hIr := HD.out.1.kp _ _ _ (by decide) HI.out.1
        obtain ⟨p1, p2⟩ := (HI.out.2.1.keep HI.out.1 hIr) i y hy
        obtain ⟨U, hU⟩ : ∃ X, y.1 = X := ⟨_, rfl⟩
        obtain ⟨V, hV⟩ : ∃ X, y.2 = X := ⟨_, rfl⟩
        have hks : (grp.map (·.1)).take (i + 1) = (grp.map (·.1)).take i ++ [U] := by
          rw [List.take_add_one, List.getElem?_map, hy]; simp [hU]
        have HKS : Hid _ := hks
        rw [hU] at p1
        rw [hV] at p2
        obtain ⟨N, hN⟩ : ∃ N, (nodes.flatten ++ (grp.map (·.1)).take i).length = N := ⟨_, rfl⟩
        have hNb : N ≤ 8388608 := by rw [← hN, List.length_append, List.length_take]; omega
        have hbk : Below wr.heap.size wr (wr.alloc (.cells #[.int .i64 (U : Int), .int .i64 (V : Int)] 37)).drew := ((Below.refl _ _).alloc (Nat.le_refl _) _).drew
        have hok := (HD.out.1.gr.next hbk).ok
        rw [hN] at hok
        obtain ⟨a7, c7, w7, hrun, hown, hgrow, hat⟩ := Gr.run _ B N vk _ U hok hNb (Nat.le_trans hsz hbk.size)
        obtain ⟨hb7, hgd⟩ := HD.out.1.kid hbk hN hown hgrow hat
        have hHR : (Builtin.append_ #[22, 22] 22 #[vk, .slice (some ⟨wr.heap.size + 1, 0, none⟩) 1 1]).run Try.prog ((wr.alloc (.cells #[.int .i64 (U : Int), .int .i64 (V : Int)] 37)).alloc (.cells #[.int .i64 (U : Int)] 3)).drew = .ok (.slice a7 (N + 1) c7) w7 := by
          have e : (wr.alloc (.cells #[.int .i64 (U : Int), .int .i64 (V : Int)] 37)).drew.heap.size = wr.heap.size + 1 := al_size _ _
          rw [e] at hrun
          exact hrun
        have HR : Hid _ := hHR
        have ga : (wr.alloc (.cells #[.int .i64 (U : Int), .int .i64 (V : Int)] 37)).cell? ⟨gg, 2, none⟩ = some vk := by rw [(HD.out.1.gr.bk.alloc _).cell]; rfl
        have gb : ((wr.alloc (.cells #[.int .i64 (U : Int), .int .i64 (V : Int)] 37)).alloc (.cells #[.int .i64 (U : Int)] 3)).cell? ⟨gg, 2, none⟩ = some vk := by rw [((HD.out.1.gr.bk.alloc _).alloc _).cell]; rfl
        have g7 : w7.cell? ⟨gg, 2, none⟩ = some vk := by rw [hb7.cell]; rfl
        have f7 := hb7.frozen 2
        have HF : Hid (GdU w B gg n0 m nodes ((grp.map (·.1)).take (i + 1)) (.slice a7 (N + 1) c7) ve (w7.setCell ⟨gg, 2, none⟩ (.slice a7 (N + 1) c7)) ∧ Bk (w7.setCell ⟨gg, 2, none⟩ (.slice a7 (N + 1) c7)) w.heap.size #[.int .i64 0, .int .i64 0] 37 ∧ Bk (w7.setCell ⟨gg, 2, none⟩ (.slice a7 (N + 1) c7)) (w.heap.size + 1) #[.int .i64 (X : Int), .int .i64 (Y : Int)] 37) := by
          have hk7 : Kp [39, 3] wr (w7.setCell ⟨gg, 2, none⟩ (.slice a7 (N + 1) c7)) := ((kp_below _ hbk).trans (kp_own hok (by decide) hgrow)).trans (kp_set hb7 (by decide) 2 _)
          rw [hks]
          exact ⟨hgd, hk7 _ _ _ (by decide) HD.out.2.1, hk7 _ _ _ (by decide) HD.out.2.2⟩
        clear hy hU hV hks hN hbk hok hrun hown hgrow hat hb7 hgd hHR HD hIr HKS
        go_wp2
        go_region_law (first
          | (refine step_app_run (by rfl) _ _ _ _ (by rfl) vk (.slice (some ⟨wr.heap.size + 1, 0, none⟩) 1 1) (.slice a7 (N + 1) c7) w7 (by rfl) (by rfl) HR.out ?_)
          | fail)
        all_goals
          go_wp2
          go_roundw
          case rel => exact ⟨i + 1, _, _, by omega, by go_num, HF.out⟩
          case measure => simp [intOf]; omega
      · have hiz : ¬ (i : Int) < (n : Nat) := by omega
        have hin2 : i = n := by omega
        subst hin2
        have hall : (grp.map (·.1)).take i = grp.map (·.1) := List.take_of_length_le (by rw [List.length_map, HI.out.2.2]; exact Nat.le_refl _)
        have hD := HD.out.1
        rw [hall] at hD
        obtain ⟨N, hN⟩ : ∃ N, (nodes.flatten ++ grp.map (·.1)).length = N := ⟨_, rfl⟩
        have hNb : N ≤ 8388608 := by rw [← hN, List.length_append, List.length_map, HI.out.2.2]; omega
        have hok := hD.gr.ok
        rw [hN] at hok
        obtain ⟨ak, ck, rfl⟩ := sl_of hok
        obtain ⟨L, hL⟩ : ∃ L, nodes.length = L := ⟨_, rfl⟩
        have hbk : Below wr.heap.size wr wr.drew := (Below.refl _ _).drew
        have hoe := (hD.gr.next hbk).oe
        rw [hL] at hoe hl
        obtain ⟨a7, c7, w7, hrun, hown, hgrow, hat⟩ := Gr.run _ B L ve _ N hoe (by omega) (Nat.le_trans hsz hbk.size)
        rw [← hN] at hown
        obtain ⟨hb7, hgd⟩ := hD.shut hbk hL hown hgrow hat
        obtain ⟨M7, hM7⟩ : ∃ M, L + 1 = M := ⟨_, rfl⟩
        rw [hM7] at hrun hgd
        have hHR : (Builtin.append_ #[22, 22] 22 #[ve, .slice (some ⟨wr.heap.size, 0, none⟩) 1 1]).run Try.prog (wr.alloc (.cells #[.int .i64 (N : Int)] 3)).drew = .ok (.slice a7 M7 c7) w7 := hrun
        have HR : Hid _ := hHR
        have ga2 : wr.cell? ⟨gg, 2, none⟩ = some (.slice ak N ck) := by rw [hD.gr.bk.cell]; rfl
        have ga3 : wr.cell? ⟨gg, 3, none⟩ = some ve := by rw [hD.gr.bk.cell]; rfl
        have gb3 : (wr.alloc (.cells #[.int .i64 (N : Int)] 3)).cell? ⟨gg, 3, none⟩ = some ve := by rw [(hD.gr.bk.alloc _).cell]; rfl
        have g7 : w7.cell? ⟨gg, 3, none⟩ = some ve := by rw [hb7.cell]; rfl
        have f7 := hb7.frozen 3
        have hk7 : Kp [39, 3] wr (w7.setCell ⟨gg, 3, none⟩ (.slice a7 M7 c7)) := ((kp_below _ hbk).trans (kp_own hoe (by decide) hgrow)).trans (kp_set hb7 (by decide) 3 _)
        have hr8 := hk7 _ _ _ (by decide) HD.out.2.1
        have hl8 := hk7 _ _ _ (by decide) HD.out.2.2
        have hg8 := hgd.gr.bk
        obtain ⟨W8, hW8⟩ : ∃ W, w7.setCell ⟨gg, 3, none⟩ (.slice a7 M7 c7) = W := ⟨_, rfl⟩
        rw [hW8] at hr8 hl8 hgd hg8
        have e0 : W8.cell? ⟨gg, 0, none⟩ = some (.int .i64 (n0 : Int)) := by rw [hg8.cell]; rfl
        have e3 : W8.cell? ⟨gg, 3, none⟩ = some (.slice a7 M7 c7) := by rw [hg8.cell]; rfl
        have l1 : W8.cell? ⟨w.heap.size + 1, 1, none⟩ = some (.int .i64 (Y : Int)) := by rw [hl8.cell]; rfl
        have r0 : W8.cell? ⟨w.heap.size, 0, none⟩ = some (.int .i64 0) := by rw [hr8.cell]; rfl
        have r1 : W8.cell? ⟨w.heap.size, 1, none⟩ = some (.int .i64 0) := by rw [hr8.cell]; rfl
        have rf := fun j => hr8.frozen j
        obtain ⟨S, hS⟩ : ∃ S, n0 + M7 = S := ⟨_, rfl⟩
        obtain ⟨R, hR⟩ : ∃ R, n0 + L = R := ⟨_, rfl⟩
        have hSz : (n0 : Int) + M7 = S := by omega
        have hSw : IntKind.i64.wrap (S : Int) = S := by rw [IntKind.wrap_i64]; omega
        have hRz : (S : Int) - 1 = R := by omega
        have hRw : IntKind.i64.wrap (R : Int) = R := by rw [IntKind.wrap_i64]; omega
        have HF : Hid (GdU w B gg n0 m (nd nodes grp) [] (.slice ak N ck) (.slice a7 M7 c7) ((W8.setCell ⟨w.heap.size, 0, none⟩ (.int .i64 (R : Int))).setCell ⟨w.heap.size, 1, none⟩ (.int .i64 (Y : Int))).drew ∧ Bk ((W8.setCell ⟨w.heap.size, 0, none⟩ (.int .i64 (R : Int))).setCell ⟨w.heap.size, 1, none⟩ (.int .i64 (Y : Int))).drew w.heap.size #[.int .i64 (R : Int), .int .i64 (Y : Int)] 37 ∧ jn n0 nodes grp = (R, Y)) := by
          have hz := hr8.set 0 (.int .i64 (R : Int))
          have hz2 := hz.set 1 (.int .i64 (Y : Int))
          have hk9 : Kp [37] W8 ((W8.setCell ⟨w.heap.size, 0, none⟩ (.int .i64 (R : Int))).setCell ⟨w.heap.size, 1, none⟩ (.int .i64 (Y : Int))).drew := ((kp_set hr8 (by decide) 0 _).trans (kp_set hz (by decide) 1 _)).trans (kp_drew _ _)
          have hg9 : W8.grownBy ((W8.setCell ⟨w.heap.size, 0, none⟩ (.int .i64 (R : Int))).setCell ⟨w.heap.size, 1, none⟩ (.int .i64 (Y : Int))).drew (some w.heap.size) := Lib.Hx.grownBy_drew (Lib.grownBy_setB (Lib.grownBy_setB (World.grownBy.refl _ _) 0 _) 1 _)
          rw [HJ.out.2, HJ.out.1, hL, hR]
          refine ⟨⟨⟨hk9 _ _ _ (by decide) hgd.gr.bk, own_kp hgd.gr.ok (by decide) hk9, own_kp hgd.gr.oe (by decide) hk9, hgd.gr.ap, hgd.gr.lo⟩, fun b C T hT hb => ?_, below_own hgd.bel (Nat.le_trans hB hgd.bel.size) hg9 hB, hB⟩, hz2, rfl⟩
          exact (hgd.kp b C T hT hb).grown hg9 (by have := hb.lt; simp; omega)
        clear hN hL hok hoe hbk hrun hown hgrow hat hb7 hgd hHR hD hk7 hr8 hl8 hg8 HD hall hM7 hS hR
        go_wp2
        go_region_law (first
          | (refine step_app_run (by rfl) _ _ _ _ (by rfl) ve (.slice (some ⟨wr.heap.size, 0, none⟩) 1 1) (.slice a7 M7 c7) w7 (by rfl) (by rfl) HR.out ?_)
          | fail)
        all_goals
          clear hW8 g7 f7 ga2 ga3 gb3
          go_wp2
          go_region
          go_wp2
          refine bodyPost_ret (results_cell_row rfl _ _ w.heap.size 37 #[.int .i64 (R : Int), .int .i64 (Y : Int)] (0, 0) _ rfl HF.out.2.1 Try.underlying37 rfl inf_item) rfl ⟨_, _, by rw [HF.out.2.2], HF.out.1⟩
end Go.Proofs.Ythfggejdeodinaa
