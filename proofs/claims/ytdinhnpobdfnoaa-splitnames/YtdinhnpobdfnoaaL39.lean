/- The walk of SplitNames. -/
import Derived.Test.YtdinhnpobdfnoaaU13
import Derived.Test.YtdinhnpobdfnoaaV4
import Derived.Test.YtdinhnpobdfnoaaK22
import Derived.Test.YtdinhnpobdfnoaaU8
import Derived.Deep.Cut
import Derived.Deep.CutRange
import Derived.Deep.DeepCutAuto
namespace Go.Proofs.Ytdinhnpobdfnoaa
open Go.RowKit
set_option linter.unusedSimpArgs false
set_option linter.unusedVariables false
theorem ok16 : (⟨16, 1, 65536⟩ : Pl).ok := by unfold Pl.ok; simp
theorem ok4 : (⟨4, 2, 64⟩ : Pl).ok := by unfold Pl.ok; simp
theorem big_len : (chk (ctA ⟨16, 1, 65536⟩) (List.replicate 1048576 0)).length = 16 := by
  have := chk_zeros ⟨16, 1, 65536⟩ ok16 16
  rw [show 16 * (⟨16, 1, 65536⟩ : Pl).M = 1048576 from rfl] at this
  rw [this, List.length_replicate]
theorem small_chk : chk (ctA ⟨4, 2, 64⟩) (List.replicate 100 0) = [(64, 0), (36, 0)] := chk_rest ⟨4, 2, 64⟩ ok4 36 (by omega) (by simp)
set_option maxHeartbeats 4000000 in
set_option maxRecDepth 100000 in
theorem names9_walk (w : World) : Calls Try.prog 6 #[] w fun e w' => e = .returned (.bool true) ∧ Below w.heap.size w w' := by
  obtain ⟨Z, hZ⟩ : ∃ Z, zrS 1048576 = Z := ⟨_, rfl⟩
  obtain ⟨Y, hY⟩ : ∃ Z, zrS 1048577 = Z := ⟨_, rfl⟩
  obtain ⟨X, hX⟩ : ∃ Z, zrS 100 = Z := ⟨_, rfl⟩
  obtain ⟨NZ, hNZ⟩ : ∃ n : Nat, n = 1048576 := ⟨_, rfl⟩
  obtain ⟨NY, hNY⟩ : ∃ n : Nat, n = 1048577 := ⟨_, rfl⟩
  obtain ⟨NX, hNX⟩ : ∃ n : Nat, n = 100 := ⟨_, rfl⟩
  have HSZ : Hid (Z.size = 1048576) := by rw [← hZ]; exact zrS_size _
  have HSY : Hid (Y.size = 1048577) := by rw [← hY]; exact zrS_size _
  have HSX : Hid (X.size = 100) := by rw [← hX]; exact zrS_size _
  have HTZ : Hid ((chk (ctA ⟨16, 1, 65536⟩) (tby Z)).length = 16) := by rw [← hZ, zrS_tby]; exact big_len
  have HTX : Hid (chk (ctA ⟨4, 2, 64⟩) (tby X) = [(64, 0), (36, 0)]) := by rw [← hX, zrS_tby]; exact small_chk
  have mZ : ∀ u : World, (Instr.makeSlice 71 (.int .i64 1048576) (.int .i64 1048576)).run Try.prog u = .ok (.slice (some ⟨u.heap.size, 0, none⟩) NZ NZ) (u.alloc (.cells (Array.replicate NZ (.int .u8 0)) 5)) := fun u => by
    have := make_rb NZ (by omega) u
    rwa [show ((NZ : Nat) : Int) = 1048576 from by rw [hNZ]; rfl] at this
  have mY : ∀ u : World, (Instr.makeSlice 71 (.int .i64 1048577) (.int .i64 1048577)).run Try.prog u = .ok (.slice (some ⟨u.heap.size, 0, none⟩) NY NY) (u.alloc (.cells (Array.replicate NY (.int .u8 0)) 5)) := fun u => by
    have := make_rb NY (by omega) u
    rwa [show ((NY : Nat) : Int) = 1048577 from by rw [hNY]; rfl] at this
  have mX : ∀ u : World, (Instr.makeSlice 71 (.int .i64 100) (.int .i64 100)).run Try.prog u = .ok (.slice (some ⟨u.heap.size, 0, none⟩) NX NX) (u.alloc (.cells (Array.replicate NX (.int .u8 0)) 5)) := fun u => by
    have := make_rb NX (by omega) u
    rwa [show ((NX : Nat) : Int) = 100 from by rw [hNX]; rfl] at this
  have vZ : ∀ u : World, (convert 71 9 (.slice (some ⟨u.heap.size, 0, none⟩) NZ NZ)).run Try.prog (u.alloc (.cells (Array.replicate NZ (.int .u8 0)) 5)) = .ok (.string Z) (u.alloc (.cells (Array.replicate NZ (.int .u8 0)) 5)) := fun u => by rw [← hZ, ← hNZ]; exact conv_zr NZ u
  have vY : ∀ u : World, (convert 71 9 (.slice (some ⟨u.heap.size, 0, none⟩) NY NY)).run Try.prog (u.alloc (.cells (Array.replicate NY (.int .u8 0)) 5)) = .ok (.string Y) (u.alloc (.cells (Array.replicate NY (.int .u8 0)) 5)) := fun u => by rw [← hY, ← hNY]; exact conv_zr NY u
  have vX : ∀ u : World, (convert 71 9 (.slice (some ⟨u.heap.size, 0, none⟩) NX NX)).run Try.prog (u.alloc (.cells (Array.replicate NX (.int .u8 0)) 5)) = .ok (.string X) (u.alloc (.cells (Array.replicate NX (.int .u8 0)) 5)) := fun u => by rw [← hX, ← hNX]; exact conv_zr NX u
  have CZ : Hid (∀ u, Calls Try.prog 10 #[plV 16 1 65536, .string Z] u fun e w' => ∃ a c, e = .returned (.tuple #[.slice a 16 c, .int .i64 0]) ∧ Below u.heap.size u w') := fun u => by
    refine (cut_yes ⟨16, 1, 65536⟩ ok16 Z (Nat.le_of_eq HSZ.out) u).mono ?_
    rintro e w' ⟨v, rfl, ho, hb⟩
    rw [HTZ.out] at ho
    rcases ho.2 with ⟨_, h0⟩ | ⟨g, c, cur, rfl, _⟩
    · omega
    · exact ⟨_, _, rfl, hb⟩
  have CY : Hid (∀ u, Calls Try.prog 10 #[plV 16 1 65536, .string Y] u fun e w' => e = .returned (.tuple #[.slice none 0 0, .int .i64 1]) ∧ Below u.heap.size u w') := fun u => cut_long ⟨16, 1, 65536⟩ ok16 Y (by rw [HSY.out]; omega) (by rw [HSY.out]; unfold maxLen; omega) u
  have CX : Hid (∀ u, Calls Try.prog 10 #[plV 4 2 64, .string X] u fun e w' => ∃ g c, e = .returned (.tuple #[.slice (some ⟨g, 0, none⟩) 2 c, .int .i64 0]) ∧ w'.cell? ⟨g, 0, none⟩ = some (.int .i64 64) ∧ w'.cell? ⟨g, 1, none⟩ = some (.int .i64 0) ∧ w'.cell? ⟨g, 2, none⟩ = some (.int .i64 36) ∧ w'.cell? ⟨g, 3, none⟩ = some (.int .i64 0) ∧ Below u.heap.size u w') := fun u => by
    refine (cut_yes ⟨4, 2, 64⟩ ok4 X (by rw [HSX.out]; omega) u).mono ?_
    rintro e w' ⟨v, rfl, ho, hb⟩
    rw [HTX.out] at ho
    obtain ⟨a, c, rfl, hk⟩ := own_ckl ho rfl
    obtain ⟨g, rfl, _, k0, k1⟩ := hk 0 (64, 0) rfl
    obtain ⟨g', hg, _, k2, k3⟩ := hk 1 (36, 0) rfl
    cases hg
    exact ⟨g, c, rfl, k0, k1, k2, k3, hb⟩
  have CN : Hid (∀ u, Calls Try.prog 15 #[plV 16 1 65536] u fun e w' => ∃ g fs, e = .returned (.tuple #[.pointer (some ⟨g, 0, none⟩), .int .i64 0]) ∧ Spo w' u.heap.size g ⟨16, 1, 65536⟩ [] 0 fs ∧ Below u.heap.size u w') := fun u => snew_yes ⟨16, 1, 65536⟩ ok16 u
  clear hZ hY hX hNZ hNY hNX HTZ HTX
  go_enter Try.func6, Try.ntmps6
  go_wp2_with fail
  refine (swrite_nil _ _).mono ?_
  rintro e w1 ⟨rfl, b1⟩
  go_wp2_with fail
  refine (sclose_nil _).mono ?_
  rintro e w2 ⟨rfl, hw⟩
  subst hw
  have HB : Hid (Below w.heap.size w (w2.alloc (.cells #[.int .i64 16, .int .i64 1, .int .i64 65536] 31)) ∧ Bk (w2.alloc (.cells #[.int .i64 16, .int .i64 1, .int .i64 65536] 31)) w2.heap.size #[.int .i64 16, .int .i64 1, .int .i64 65536] 31) := ⟨b1.alloc b1.size _, bk_new _ _ _⟩
  have hz2 := b1.size
  clear b1
  go_upto_region 5 with fail
  obtain ⟨gP, hgP⟩ : ∃ g, g = w2.heap.size := ⟨_, rfl⟩
  generalize (w2.alloc (Obj.cells #[.int .i64 16, .int .i64 1, .int .i64 65536] 31)) = W3 at HB ⊢
  rw [← hgP] at HB ⊢
  have hPl : gP < W3.heap.size := HB.out.2.lt
  clear hgP hz2
  go_cut [7, 8] from 30 (fun x y wx => ∃ a c, x = .slice a 16 c ∧ y = .int .i64 0 ∧ Hid (Below w.heap.size w wx ∧ Bk wx gP #[.int .i64 16, .int .i64 1, .int .i64 65536] 31))
  case first =>
    have k : ∀ u : World, Below W3.heap.size W3 u → u.cell? ⟨gP, 0, none⟩ = some (.int .i64 16) ∧ u.cell? ⟨gP, 1, none⟩ = some (.int .i64 1) ∧ u.cell? ⟨gP, 2, none⟩ = some (.int .i64 65536) := fun u hu => by
      have := HB.out.2.below hu hPl
      exact ⟨by rw [this.cell]; rfl, by rw [this.cell]; rfl, by rw [this.cell]; rfl⟩
    obtain ⟨k0, k1, k2⟩ := k W3 (Below.refl _ _)
    obtain ⟨l0, l1, l2⟩ := k (W3.drew.alloc (.cells (Array.replicate NZ (.int .u8 0)) 5)) ((Below.refl _ _).drew.alloc (Nat.le_refl _) _)
    have HA : Hid (Below W3.heap.size W3 (W3.alloc (.cells (Array.replicate NZ (.int .u8 0)) 5)).drew) := ((Below.refl _ _).drew.alloc (Nat.le_refl _) _)
    have mz := mZ W3.drew
    have vz : (convert 71 9 (.slice (some ⟨W3.heap.size, 0, none⟩) NZ NZ)).run Try.prog (W3.alloc (.cells (Array.replicate NZ (.int .u8 0)) 5)).drew = .ok (.string Z) (W3.alloc (.cells (Array.replicate NZ (.int .u8 0)) 5)).drew := vZ W3.drew
    clear k mZ mY mX vZ vY vX
    go_region_law (first | (go_simp; go_at_call 10; refine Calls.mono (CZ.out _) ?_; rintro e w4 ⟨a, c, rfl, b4⟩; dsimp only) | fail)
    all_goals
      go_wp2_with fail
      go_meet
      have hA := HA.out.trans (b4.mono HA.out.size)
      exact ⟨a, c, rfl, rfl, HB.out.1.trans (hA.mono HB.out.1.size), HB.out.2.below hA hPl⟩
  case rest =>
    obtain ⟨a, c, rfl, rfl, HB4⟩ := hcut
    clear HB hPl
    go_upto_region 6 with fail
    have hPl : gP < wc.heap.size := HB4.out.2.lt
    go_cut [9, 10] from 37 (fun x y wx => x = .slice none 0 0 ∧ y = .int .i64 1 ∧ Hid (Below w.heap.size w wx ∧ Bk wx gP #[.int .i64 16, .int .i64 1, .int .i64 65536] 31))
    case first =>
      have k : ∀ u : World, Below wc.heap.size wc u → u.cell? ⟨gP, 0, none⟩ = some (.int .i64 16) ∧ u.cell? ⟨gP, 1, none⟩ = some (.int .i64 1) ∧ u.cell? ⟨gP, 2, none⟩ = some (.int .i64 65536) := fun u hu => by
        have := HB4.out.2.below hu hPl
        exact ⟨by rw [this.cell]; rfl, by rw [this.cell]; rfl, by rw [this.cell]; rfl⟩
      obtain ⟨k0, k1, k2⟩ := k wc (Below.refl _ _)
      obtain ⟨l0, l1, l2⟩ := k (wc.drew.alloc (.cells (Array.replicate NY (.int .u8 0)) 5)) ((Below.refl _ _).drew.alloc (Nat.le_refl _) _)
      have HA : Hid (Below wc.heap.size wc (wc.alloc (.cells (Array.replicate NY (.int .u8 0)) 5)).drew) := ((Below.refl _ _).drew.alloc (Nat.le_refl _) _)
      have mz := mY wc.drew
      have vz : (convert 71 9 (.slice (some ⟨wc.heap.size, 0, none⟩) NY NY)).run Try.prog (wc.alloc (.cells (Array.replicate NY (.int .u8 0)) 5)).drew = .ok (.string Y) (wc.alloc (.cells (Array.replicate NY (.int .u8 0)) 5)).drew := vY wc.drew
      clear k mZ mY mX vZ vY vX
      go_region_law (first | (go_simp; go_at_call 10; refine Calls.mono (CY.out _) ?_; rintro e w4 ⟨rfl, b4⟩; dsimp only) | fail)
      all_goals
        go_wp2_with fail
        go_meet
        have hA := HA.out.trans (b4.mono HA.out.size)
        exact ⟨rfl, rfl, HB4.out.1.trans (hA.mono HB4.out.1.size), HB4.out.2.below hA hPl⟩
    case rest =>
      obtain ⟨rfl, rfl, HB5⟩ := hcut
      clear HB4 hPl
      have k0 : wc.cell? ⟨gP, 0, none⟩ = some (.int .i64 16) := by rw [HB5.out.2.cell]; rfl
      have k1 : wc.cell? ⟨gP, 1, none⟩ = some (.int .i64 1) := by rw [HB5.out.2.cell]; rfl
      have k2 : wc.cell? ⟨gP, 2, none⟩ = some (.int .i64 65536) := by rw [HB5.out.2.cell]; rfl
      go_wp2_with fail
      refine (CN.out _).mono ?_
      rintro e w6 ⟨g, fs, rfl, sp6, b6⟩
      have HB6 : Hid (Below w.heap.size w w6 ∧ Spo w6 wc.heap.size g ⟨16, 1, 65536⟩ [] 0 fs) := ⟨HB5.out.1.trans (b6.mono HB5.out.1.size), sp6⟩
      have hz6 := b6.size
      have hzd := HB5.out.1.size
      clear sp6 b6 HB5 k0 k1 k2
      have mz := mZ w6
      have vz := vZ w6
      have HW : Hid (Calls Try.prog 16 #[.pointer (some ⟨g, 0, none⟩), .string Z] (w6.alloc (.cells (Array.replicate NZ (.int .u8 0)) 5)) fun e w' => ∃ v fs' h, e = .returned (.tuple #[v, .int .i64 0]) ∧ Hid (Below w.heap.size w w' ∧ Spo w' wc.heap.size g ⟨16, 1, 65536⟩ h 1048576 fs')) := by
        have hka : Kb w6 (w6.alloc (.cells (Array.replicate NZ (.int .u8 0)) 5)) [] := kb_below ((Below.refl _ _).alloc (Nat.le_refl _) _) []
        refine (swrite_yes wc.heap.size g ⟨16, 1, 65536⟩ ok16 [] 0 fs Z _ (HB6.out.2.kept hka (by simp)) (by rw [al_size]; omega) (by rw [HSZ.out]; omega)).mono ?_
        rintro e w7 ⟨v, fs', rfl, _, sp, kb, hf⟩
        rw [HSZ.out] at sp
        refine ⟨v, fs', _, rfl, kb.below (HB6.out.1.alloc HB6.out.1.size _) (by rw [al_size]; omega) (fun b hb => ?_), sp⟩
        have := (HB6.out.2.foot b hb).1
        omega
      clear mZ mY vZ vY
      go_wp2_with fail
      refine HW.out.mono ?_
      rintro e w7 ⟨v7, fs7, h7, rfl, HB7⟩
      clear HW HB6 mz vz
      go_wp2_with fail
      refine (swrite_long wc.heap.size g ⟨16, 1, 65536⟩ h7 1048576 fs7 ⟨#[97]⟩ _ HB7.out.2 (by omega) (by decide) (by decide)).mono ?_
      rintro e w8 ⟨rfl, b8⟩
      have HB8 : Hid (Below w.heap.size w w8) := HB7.out.1.trans (b8.mono HB7.out.1.size)
      clear b8 HB7
      have mz := mX w8
      have vz := vX w8
      go_wp2_with fail
      refine (CX.out _).mono ?_
      rintro e w9 ⟨gX, cX, rfl, x0, x1, x2, x3, b9⟩
      have HB9 : Hid (Below w.heap.size w w9) := (HB8.out.alloc HB8.out.size _).trans (b9.mono (by rw [al_size]; have := HB8.out.size; omega))
      clear b9 HB8 mz vz mX vX
      go_wp2
      go_ret
      exact ⟨rfl, HB9.out⟩
end Go.Proofs.Ytdinhnpobdfnoaa
