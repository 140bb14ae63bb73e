/- The walk of the law's awake. -/
import Derived.Test.YtdinhnpobdfnoaaU19
import Derived.Test.YtdinhnpobdfnoaaU8A
import Derived.Test.YtdinhnpobdfnoaaK22
namespace Go.Proofs.Ytdinhnpobdfnoaa
open Go.RowKit
set_option linter.unusedSimpArgs false
set_option linter.unusedVariables false
theorem ok4 : (⟨4, 2, 64⟩ : Pl).ok := by unfold Pl.ok; simp
theorem small_chk : chk (ctA ⟨4, 2, 64⟩) (List.replicate 100 0) = [(64, 0), (36, 0)] := chk_rest ⟨4, 2, 64⟩ ok4 36 (by omega) (by simp)
theorem tnd_five : tnd 2 [0, 0, 0, 0, 0] = [[0, 1], [2, 3], [5, 6], [7, 4]] := by
  rw [← tnd_at (m := 2) (levels := [0, 0, 0, 0, 0]) (k := 3) (by simp) (by decide)]
  decide
theorem lit4 (w W : World) (hW : W = ((((w.alloc (.cells #[.int .i64 0, .int .i64 1] 3)).alloc (.cells #[.int .i64 2, .int .i64 3] 3)).alloc (.cells #[.int .i64 5, .int .i64 6] 3)).alloc (.cells #[.int .i64 7, .int .i64 4] 3)).alloc (.cells #[.slice (some ⟨w.heap.size, 0, none⟩) 2 2, .slice (some ⟨w.heap.size + 1, 0, none⟩) 2 2, .slice (some ⟨w.heap.size + 1 + 1, 0, none⟩) 2 2, .slice (some ⟨w.heap.size + 1 + 1 + 1, 0, none⟩) 2 2] 60)) :
    NuL W (some ⟨w.heap.size + 1 + 1 + 1 + 1, 0, none⟩) [[0, 1], [2, 3], [5, 6], [7, 4]] ∧ Below w.heap.size w W := by
  subst hW
  have b1 := ((((bk_new w #[.int .i64 0, .int .i64 1] 3).alloc (.cells #[.int .i64 2, .int .i64 3] 3)).alloc (.cells #[.int .i64 5, .int .i64 6] 3)).alloc (.cells #[.int .i64 7, .int .i64 4] 3)).alloc (.cells #[.slice (some ⟨w.heap.size, 0, none⟩) 2 2, .slice (some ⟨w.heap.size + 1, 0, none⟩) 2 2, .slice (some ⟨w.heap.size + 1 + 1, 0, none⟩) 2 2, .slice (some ⟨w.heap.size + 1 + 1 + 1, 0, none⟩) 2 2] 60)
  have b2 := (((bk_new (w.alloc (.cells #[.int .i64 0, .int .i64 1] 3)) #[.int .i64 2, .int .i64 3] 3).alloc (.cells #[.int .i64 5, .int .i64 6] 3)).alloc (.cells #[.int .i64 7, .int .i64 4] 3)).alloc (.cells #[.slice (some ⟨w.heap.size, 0, none⟩) 2 2, .slice (some ⟨w.heap.size + 1, 0, none⟩) 2 2, .slice (some ⟨w.heap.size + 1 + 1, 0, none⟩) 2 2, .slice (some ⟨w.heap.size + 1 + 1 + 1, 0, none⟩) 2 2] 60)
  rw [al_size] at b2
  have b3 := ((bk_new ((w.alloc (.cells #[.int .i64 0, .int .i64 1] 3)).alloc (.cells #[.int .i64 2, .int .i64 3] 3)) #[.int .i64 5, .int .i64 6] 3).alloc (.cells #[.int .i64 7, .int .i64 4] 3)).alloc (.cells #[.slice (some ⟨w.heap.size, 0, none⟩) 2 2, .slice (some ⟨w.heap.size + 1, 0, none⟩) 2 2, .slice (some ⟨w.heap.size + 1 + 1, 0, none⟩) 2 2, .slice (some ⟨w.heap.size + 1 + 1 + 1, 0, none⟩) 2 2] 60)
  rw [al_size, al_size] at b3
  have b4 := (bk_new (((w.alloc (.cells #[.int .i64 0, .int .i64 1] 3)).alloc (.cells #[.int .i64 2, .int .i64 3] 3)).alloc (.cells #[.int .i64 5, .int .i64 6] 3)) #[.int .i64 7, .int .i64 4] 3).alloc (.cells #[.slice (some ⟨w.heap.size, 0, none⟩) 2 2, .slice (some ⟨w.heap.size + 1, 0, none⟩) 2 2, .slice (some ⟨w.heap.size + 1 + 1, 0, none⟩) 2 2, .slice (some ⟨w.heap.size + 1 + 1 + 1, 0, none⟩) 2 2] 60)
  rw [al_size, al_size, al_size] at b4
  have b5 := bk_new ((((w.alloc (.cells #[.int .i64 0, .int .i64 1] 3)).alloc (.cells #[.int .i64 2, .int .i64 3] 3)).alloc (.cells #[.int .i64 5, .int .i64 6] 3)).alloc (.cells #[.int .i64 7, .int .i64 4] 3)) #[.slice (some ⟨w.heap.size, 0, none⟩) 2 2, .slice (some ⟨w.heap.size + 1, 0, none⟩) 2 2, .slice (some ⟨w.heap.size + 1 + 1, 0, none⟩) 2 2, .slice (some ⟨w.heap.size + 1 + 1 + 1, 0, none⟩) 2 2] 60
  rw [al_size, al_size, al_size, al_size] at b5
  have two : ∀ (W : World) (g : Nat) (x y : Nat), Bk W g #[.int .i64 (x : Int), .int .i64 (y : Int)] 3 → ∀ (j z : Nat), [x, y][j]? = some z → ∃ g2 o2, (some ⟨g, 0, none⟩ : Option Addr) = some ⟨g2, o2, none⟩ ∧ g2 < W.heap.size ∧ W.cell? ⟨g2, o2 + j, none⟩ = some (.int .i64 (z : Int)) := fun W g x y hb j z hz => by
    refine ⟨g, 0, rfl, hb.lt, ?_⟩
    rw [Nat.zero_add, hb.cell]
    match j, hz with
    | 0, hz => cases hz; rfl
    | 1, hz => cases hz; rfl
  refine ⟨fun i ns hn => ?_, ((((((Below.refl _ _).alloc (Nat.le_refl _) _).alloc (by rw [al_size]; omega) _).alloc (by rw [al_size, al_size]; omega) _).alloc (by rw [al_size, al_size, al_size]; omega) _).alloc (by rw [al_size, al_size, al_size, al_size]; omega) _)⟩
  match i, hn with
  | 0, hn => cases hn; exact ⟨_, 0, _, 2, rfl, b5.lt, by rw [b5.cell]; rfl, two _ _ 0 1 b1⟩
  | 1, hn => cases hn; exact ⟨_, 0, _, 2, rfl, b5.lt, by rw [b5.cell]; rfl, two _ _ 2 3 b2⟩
  | 2, hn => cases hn; exact ⟨_, 0, _, 2, rfl, b5.lt, by rw [b5.cell]; rfl, two _ _ 5 6 b3⟩
  | 3, hn => cases hn; exact ⟨_, 0, _, 2, rfl, b5.lt, by rw [b5.cell]; rfl, two _ _ 7 4 b4⟩
set_option maxHeartbeats 4000000 in
set_option maxRecDepth 100000 in
theorem awake9_any (w : World) : Calls Try.prog 24 #[] w fun e w' => e = .returned (.bool true) ∧ Below w.heap.size w w' := by
  obtain ⟨X, hX⟩ : ∃ Z, zrS 100 = Z := ⟨_, rfl⟩
  obtain ⟨NX, hNX⟩ : ∃ n : Nat, n = 100 := ⟨_, rfl⟩
  have hSX : X.size = 100 := by rw [← hX]; exact zrS_size _
  have hTX : chk (ctA ⟨4, 2, 64⟩) (tby X) = [(64, 0), (36, 0)] := by rw [← hX, zrS_tby]; exact small_chk
  have mX : ∀ u : World, (Instr.makeSlice 71 (.int .i64 100) (.int .i64 100)).run Try.prog u = .ok (.slice (some ⟨u.heap.size, 0, none⟩) NX NX) (u.alloc (.cells (Array.replicate NX (.int .u8 0)) 5)) := fun u => by
    have := make_rb NX (by omega) u
    rwa [show ((NX : Nat) : Int) = 100 from by rw [hNX]; rfl] at this
  have vX : ∀ u : World, (convert 71 9 (.slice (some ⟨u.heap.size, 0, none⟩) NX NX)).run Try.prog (u.alloc (.cells (Array.replicate NX (.int .u8 0)) 5)) = .ok (.string X) (u.alloc (.cells (Array.replicate NX (.int .u8 0)) 5)) := fun u => by rw [← hX, ← hNX]; exact conv_zr NX u
  have CX : Hid (∀ u, Calls Try.prog 10 #[plV 4 2 64, .string X] u fun e w' => ∃ g c, e = .returned (.tuple #[.slice (some ⟨g, 0, none⟩) 2 c, .int .i64 0]) ∧ g < w'.heap.size ∧ w'.cell? ⟨g, 0, none⟩ = some (.int .i64 64) ∧ Below u.heap.size u w') := fun u => by
    refine (cut_yes ⟨4, 2, 64⟩ ok4 X (by rw [hSX]; omega) u).mono ?_
    rintro e w' ⟨v, rfl, ho, hb⟩
    rw [hTX] at ho
    obtain ⟨a, c, rfl, hk⟩ := own_ckl ho rfl
    obtain ⟨g, rfl, hg, k0, k1⟩ := hk 0 (64, 0) rfl
    exact ⟨g, c, rfl, hg, k0, hb⟩
  have mx := mX w
  have vx := vX w
  have HBa : Hid (Below w.heap.size w (w.alloc (.cells (Array.replicate NX (.int .u8 0)) 5))) := (Below.refl _ _).alloc (Nat.le_refl _) _
  clear hX hNX hSX hTX mX vX
  go_enter Try.func24, Try.ntmps24
  go_wp2_with fail
  refine (CX.out _).mono ?_
  rintro e w1 ⟨g, c, rfl, hg, k0, b1⟩
  have HB1 : Hid (Below w.heap.size w w1) := HBa.out.trans (b1.mono HBa.out.size)
  clear b1 HBa mx vx CX
  have HT : Hid (Calls Try.prog 22 #[.slice (some ⟨w1.heap.size, 0, none⟩) 5 5, .int .i64 2] (w1.alloc (.cells #[.int .i64 0, .int .i64 0, .int .i64 0, .int .i64 0, .int .i64 0] 3)) fun e w' => ∃ gn, e = .returned (.tuple #[.slice (some ⟨gn, 0, none⟩) 4 4, .int .i64 0]) ∧ w'.cell? ⟨g, 0, none⟩ = some (.int .i64 64) ∧ Hid (NuL w' (some ⟨gn, 0, none⟩) [[0, 1], [2, 3], [5, 6], [7, 4]] ∧ Below w.heap.size w w')) := by
    have hbn := bk_new w1 #[.int .i64 0, .int .i64 0, .int .i64 0, .int .i64 0, .int .i64 0] 3
    have hBn : Below w.heap.size w (w1.alloc (.cells #[.int .i64 0, .int .i64 0, .int .i64 0, .int .i64 0, .int .i64 0] 3)) := HB1.out.alloc HB1.out.size _
    have hin : InL (w1.alloc (.cells #[.int .i64 0, .int .i64 0, .int .i64 0, .int .i64 0, .int .i64 0] 3)) (some ⟨w1.heap.size, 0, none⟩) (([0, 0, 0, 0, 0] : List Nat).map fun x : Nat => (x : Int)) := fun i x hx => by
      refine ⟨w1.heap.size, 0, rfl, hbn.lt, ?_⟩
      rw [Nat.zero_add, hbn.cell]
      match i, hx with
      | 0, hx => cases hx; rfl
      | 1, hx => cases hx; rfl
      | 2, hx => cases hx; rfl
      | 3, hx => cases hx; rfl
      | 4, hx => cases hx; rfl
    refine (tiers_yes (some ⟨w1.heap.size, 0, none⟩) 5 5 2 [0, 0, 0, 0, 0] _ hin rfl (by omega) (by omega) (by omega) (by decide)).mono ?_
    rintro e w2 ⟨gn, gk, rfl, hr, hb⟩
    rw [tnd_five] at hr ⊢
    refine ⟨gn, rfl, ?_, hr.nul, hBn.trans (hb.mono hBn.size)⟩
    rw [hb.cell (p := ⟨g, 0, none⟩) (by show g < _; rw [al_size]; omega), ((Below.refl w1.heap.size w1).alloc (Nat.le_refl _) _).cell (p := ⟨g, 0, none⟩) hg]
    exact k0
  go_wp2_with fail
  refine HT.out.mono ?_
  rintro e w2 ⟨gn, rfl, k2, H2⟩
  clear HT k0 hg
  obtain ⟨W3, hW3⟩ : ∃ W, W = ((((w2.alloc (.cells #[.int .i64 0, .int .i64 1] 3)).alloc (.cells #[.int .i64 2, .int .i64 3] 3)).alloc (.cells #[.int .i64 5, .int .i64 6] 3)).alloc (.cells #[.int .i64 7, .int .i64 4] 3)).alloc (.cells #[.slice (some ⟨w2.heap.size, 0, none⟩) 2 2, .slice (some ⟨w2.heap.size + 1, 0, none⟩) 2 2, .slice (some ⟨w2.heap.size + 1 + 1, 0, none⟩) 2 2, .slice (some ⟨w2.heap.size + 1 + 1 + 1, 0, none⟩) 2 2] 60) := ⟨_, rfl⟩
  obtain ⟨l1, l2⟩ := lit4 w2 W3 hW3
  have HN : Hid (Calls Try.prog 23 #[.slice (some ⟨gn, 0, none⟩) 4 4, .slice (some ⟨w2.heap.size + 1 + 1 + 1 + 1, 0, none⟩) 4 4] W3 fun e w' => e = .returned (.bool true) ∧ Below w.heap.size w w') := by
    refine (numbers_any _ _ 4 4 4 [[0, 1], [2, 3], [5, 6], [7, 4]] W3 (H2.out.1.below l2) l1 rfl (by decide) (by decide)).mono ?_
    rintro e w4 ⟨rfl, b4⟩
    have h3 : Below w.heap.size w W3 := H2.out.2.trans (l2.mono H2.out.2.size)
    exact ⟨rfl, h3.trans (b4.mono h3.size)⟩
  clear l1 l2 H2
  go_wp2_with fail
  rw [← hW3]
  refine HN.out.mono ?_
  rintro e w4 ⟨rfl, b4⟩
  have HB4 : Hid (Below w.heap.size w w4) := b4
  clear b4 HN hW3
  go_wp2
  go_ret
  exact ⟨rfl, HB4.out⟩
end Go.Proofs.Ytdinhnpobdfnoaa
