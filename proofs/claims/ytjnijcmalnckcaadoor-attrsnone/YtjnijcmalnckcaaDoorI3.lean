/- attrs.Check. -/
import Derived.Test.YtjnijcmalnckcaaDoorI2
namespace Go.Proofs.YtjnijcmalnckcaaDoor
open Go.RowKit
set_option linter.unusedSimpArgs false
set_option linter.unusedVariables false
theorem ck_out {a : At} {b1 b2 b3 b4 b5 : Bool} (h1 : ndB a.nd = b1) (h2 : mdB a.md = b2) (h3 : mtB a.mt = b3) (h4 : tgB a.nd a.tg = b4) (h5 : xsB a.xs = b5) : ckE a = if (b1 && (b2 && (b3 && (b4 && b5)))) = true then 0 else 1 := by
  unfold ckE okA; rw [h1, h2, h3, h4, h5]
set_option maxHeartbeats 4000000 in
set_option maxRecDepth 100000 in
theorem acheck_any (nd md ui gi : Nat) (mt : Int) (tg : ByteArray) (xs : List (ByteArray × ByteArray)) (ad : Option Addr) (n c : Nat) (w : World) (hX : XaL w ad xs) (hl : xs.length = n) (hn : n ≤ 4611686018427387904) (ht : tg.size ≤ 140737488351232) (hT : U8 w) :
    Calls Tryd.prog 16 #[atV nd md ui gi mt tg (.slice ad n c)] w fun e w' => e = .returned (.int .i64 (ckE ⟨nd, md, ui, gi, mt, tg, xs⟩)) ∧ Below w.heap.size w w' := by
  obtain ⟨b1, h1⟩ : ∃ q, ndB nd = q := ⟨_, rfl⟩
  obtain ⟨b2, h2⟩ : ∃ q, mdB md = q := ⟨_, rfl⟩
  obtain ⟨b3, h3⟩ : ∃ q, mtB mt = q := ⟨_, rfl⟩
  obtain ⟨b4, h4⟩ : ∃ q, tgB nd tg = q := ⟨_, rfl⟩
  obtain ⟨b5, h5⟩ : ∃ q, xsB xs = q := ⟨_, rfl⟩
  have hck := ck_out (a := ⟨nd, md, ui, gi, mt, tg, xs⟩) h1 h2 h3 h4 h5
  rw [hck]
  have C1 : Hid (∀ u, Calls Tryd.prog 38 #[.int .u8 (nd : Int)] u fun e w' => e = .returned (.bool b1) ∧ w' = u) := fun u => h1 ▸ isNode_any nd u
  have C2 : Hid (∀ u, Calls Tryd.prog 39 #[.int .u32 (md : Int)] u fun e w' => e = .returned (.bool b2) ∧ w' = u) := fun u => h2 ▸ isMode_any md u
  have C3 : Hid (∀ u, Calls Tryd.prog 41 #[.int .i64 mt] u fun e w' => e = .returned (.bool b3) ∧ w' = u) := fun u => h3 ▸ isTick_any mt u
  have C4 : Hid (∀ u, Calls Tryd.prog 42 #[.int .u8 (nd : Int), .string tg] u fun e w' => e = .returned (.bool b4) ∧ w' = u) := fun u => h4 ▸ isTarget_any nd tg u (by omega)
  have C5 : Hid (∀ u, Below w.heap.size w u → Calls Tryd.prog 43 #[.slice ad n c] u fun e w' => e = .returned (.bool b5) ∧ Below u.heap.size u w') := fun u hu => h5 ▸ areX_any ad c n xs u (hX.below hu) hl hn (hT.below hu)
  clear hck h1 h2 h3 h4 h5 hX hT
  cases b1
  · go_enter Tryd.func16, Tryd.ntmps16
    go_wp2_with fail
    refine (C1.out _).mono ?_
    rintro e w1 ⟨rfl, rfl⟩
    go_wp2
    go_ret
    exact ⟨rfl, (Below.refl _ _).alloc (Nat.le_refl _) _⟩
  cases b2
  · go_enter Tryd.func16, Tryd.ntmps16
    go_wp2_with fail
    refine (C1.out _).mono ?_
    rintro e w1 ⟨rfl, rfl⟩
    go_wp2_with fail
    refine (C2.out _).mono ?_
    rintro e w1 ⟨rfl, rfl⟩
    go_wp2
    go_ret
    exact ⟨rfl, (Below.refl _ _).alloc (Nat.le_refl _) _⟩
  cases b3
  · go_enter Tryd.func16, Tryd.ntmps16
    go_wp2_with fail
    refine (C1.out _).mono ?_
    rintro e w1 ⟨rfl, rfl⟩
    go_wp2_with fail
    refine (C2.out _).mono ?_
    rintro e w1 ⟨rfl, rfl⟩
    go_wp2_with fail
    refine (C3.out _).mono ?_
    rintro e w1 ⟨rfl, rfl⟩
    go_wp2
    go_ret
    exact ⟨rfl, (Below.refl _ _).alloc (Nat.le_refl _) _⟩
  cases b4
  · go_enter Tryd.func16, Tryd.ntmps16
    go_wp2_with fail
    refine (C1.out _).mono ?_
    rintro e w1 ⟨rfl, rfl⟩
    go_wp2_with fail
    refine (C2.out _).mono ?_
    rintro e w1 ⟨rfl, rfl⟩
    go_wp2_with fail
    refine (C3.out _).mono ?_
    rintro e w1 ⟨rfl, rfl⟩
    go_wp2_with fail
    refine (C4.out _).mono ?_
    rintro e w1 ⟨rfl, rfl⟩
    go_wp2
    go_ret
    exact ⟨rfl, (Below.refl _ _).alloc (Nat.le_refl _) _⟩
  · go_enter Tryd.func16, Tryd.ntmps16
    go_wp2_with fail
    refine (C1.out _).mono ?_
    rintro e w1 ⟨rfl, rfl⟩
    go_wp2_with fail
    refine (C2.out _).mono ?_
    rintro e w1 ⟨rfl, rfl⟩
    go_wp2_with fail
    refine (C3.out _).mono ?_
    rintro e w1 ⟨rfl, rfl⟩
    go_wp2_with fail
    refine (C4.out _).mono ?_
    rintro e w1 ⟨rfl, rfl⟩
    go_wp2_with fail
    refine (C5.out _ ((Below.refl _ _).alloc (Nat.le_refl _) _)).mono ?_
    rintro e w1 ⟨rfl, hb⟩
    have HB : Hid (Below w.heap.size w w1) := ((Below.refl _ _).alloc (Nat.le_refl _) _).trans (hb.mono (by simp))
    clear hb
    cases b5
    · go_wp2
      go_ret
      exact ⟨rfl, HB.out⟩
    · go_wp2
      go_ret
      exact ⟨rfl, HB.out⟩
end Go.Proofs.YtjnijcmalnckcaaDoor
