import Derived.Test.YtplfjfhpdfbpeaaDoorY9
import Derived.Test.YtplfjfhpdfbpeaaDoorY16
/- The walk of BloomNames. -/
namespace Go.Proofs.YtplfjfhpdfbpeaaDoor
open Go.RowKit
set_option linter.unusedSimpArgs false
set_option linter.unusedVariables false
theorem enc_nil14 (w : World) : Calls Tryd.prog 15 #[.pointer none] w fun e w' => e = .returned (.tuple #[.string ⟨#[]⟩, .int .i64 2]) ∧ w' = w := by
  go_enter Tryd.func15, Tryd.ntmps15
  go_wp2
  go_ret2
  exact ⟨rfl, rfl⟩
theorem size_nil14 (w : World) : Calls Tryd.prog 18 #[.pointer none] w fun e w' => e = .returned (.tuple #[.int .i64 0, .int .i64 0]) ∧ w' = w := by
  go_enter Tryd.func18, Tryd.ntmps18
  go_wp2
  go_ret2
  exact ⟨rfl, rfl⟩
theorem ones_nil14 (w : World) : Calls Tryd.prog 21 #[.pointer none] w fun e w' => e = .returned (.int .i64 0) ∧ w' = w := by
  go_enter Tryd.func21, Tryd.ntmps21
  go_wp2
  go_ret
  exact ⟨rfl, rfl⟩
theorem join_nul14 (p : Option Addr) (w : World) : Calls Tryd.prog 14 #[.pointer none, .pointer p] w fun e w' => e = .returned (.int .i64 2) ∧ w' = w := by
  go_enter Tryd.func14, Tryd.ntmps14
  go_wp2
  go_ret
  exact ⟨rfl, rfl⟩
theorem join_nilx (f : Nat) (w : World) : Calls Tryd.prog 14 #[.pointer (some ⟨f, 0, none⟩), .pointer none] w fun e w' => e = .returned (.int .i64 2) ∧ w' = w := by
  go_enter Tryd.func14, Tryd.ntmps14
  go_wp2
  go_ret
  exact ⟨rfl, rfl⟩
theorem add_nil14 (D : Array Value) (w : World) : Calls Tryd.prog 12 #[.pointer none, .agg D] w fun e w' => e = .returned (.int .i64 2) ∧ Below w.heap.size w w' := by
  go_enter Tryd.func12, Tryd.ntmps12
  go_wp2
  go_ret
  exact ⟨rfl, ((Below.refl _ _).alloc (Nat.le_refl _) _).alloc (by simp) _⟩
theorem has_nil14 (D : Array Value) (w : World) : Calls Tryd.prog 19 #[.pointer none, .agg D] w fun e w' => e = .returned (.bool false) ∧ Below w.heap.size w w' := by
  go_enter Tryd.func19, Tryd.ntmps19
  go_wp2
  go_ret
  exact ⟨rfl, ((Below.refl _ _).alloc (Nat.le_refl _) _).alloc (by simp) _⟩
def nx : ByteArray := ⟨#[0, 0, 0, 5]⟩
def nS : List UInt8 := adK 64 (idF nx) 1 (zrR (64 / 8))
def nT : ByteArray := ⟨#[77, 66, 70, 49, 64, 1, 32, 0, 0, 0, 0, 0, 0, 0]⟩
theorem nT_is : enF 64 1 nS = nT := by decide +kernel
theorem n_ok : okF 64 1 := ⟨⟨0, by omega, rfl⟩, by omega, by omega⟩
theorem nmB_x : nmB ⟨#[120]⟩ = false := by decide +kernel
theorem fit6 : fitN 6 = 64 := by decide
theorem fit7 : fitN 7 = 128 := by decide
theorem fitL : fitN 1048576 = 16777216 := by decide
set_option maxHeartbeats 4000000 in
set_option maxRecDepth 100000 in
theorem names14_walk (w : World) (hA : All w) (hm : MkS w) : Calls Tryd.prog 5 #[] w fun e w' => e = .returned (.bool true) ∧ Below w.heap.size w w' := by
  obtain ⟨D, hD⟩ : ∃ D, idc (idF nx) = D := ⟨_, rfl⟩
  have HA : Hid (All w ∧ MkS w) := ⟨hA, hm⟩
  have I1 : Hid (∀ u, Calls Tryd.prog 10 #[.string ⟨#[0, 0, 0, 5]⟩] u fun e w' => e = .returned (.agg D) ∧ Below u.heap.size u w') := fun u => by rw [← hD]; exact id_any14 nx u
  have NW : Hid (∀ u, Calls Tryd.prog 8 #[.int .i64 64, .int .i64 1] u fun e w' => ∃ f g, NwF u e w' f g 64 1 (zrR (64 / 8))) := fun u => new_yes14 64 1 u n_ok
  have AD : Hid (∀ u f g, FlS u f g 64 1 (zrR (64 / 8)) → Calls Tryd.prog 12 #[.pointer (some ⟨f, 0, none⟩), .agg D] u fun e w' => e = .returned (.int .i64 0) ∧ FlS w' f g 64 1 nS ∧ u.grownBy w' (some g)) := fun u f g h => by rw [← hD]; exact add_any14 (idF nx) f g 64 1 _ u (idF_size _) h
  have F6 : Hid (∀ u, Calls Tryd.prog 25 #[.int .i64 6] u fun e w' => e = .returned (.tuple #[.int .i64 64, .int .i64 7, .int .i64 0]) ∧ w' = u) := fun u => by have := fit_any14 6 (by omega) u; rw [fit6] at this; exact this
  have F7 : Hid (∀ u, Calls Tryd.prog 25 #[.int .i64 7] u fun e w' => e = .returned (.tuple #[.int .i64 128, .int .i64 7, .int .i64 0]) ∧ w' = u) := fun u => by have := fit_any14 7 (by omega) u; rw [fit7] at this; exact this
  have FL : Hid (∀ u, Calls Tryd.prog 25 #[.int .i64 1048576] u fun e w' => e = .returned (.tuple #[.int .i64 16777216, .int .i64 7, .int .i64 0]) ∧ w' = u) := fun u => by have := fit_any14 1048576 (by omega) u; rw [fitL] at this; exact this
  have EN : Hid (∀ u f g, Below w.heap.size w u → FlS u f g 64 1 nS → Calls Tryd.prog 15 #[.pointer (some ⟨f, 0, none⟩)] u fun e w' => e = .returned (.tuple #[.string nT, .int .i64 0]) ∧ Below u.heap.size u w') := fun u f g hb h => by rw [← nT_is]; exact enc_any14 f g 64 1 nS u h (hm.below hb)
  have CK : Hid (∀ u, Below w.heap.size w u → Calls Tryd.prog 28 #[.string ⟨#[120]⟩, .string nT] u fun e w' => e = .returned (.int .i64 10) ∧ Below w.heap.size w w') := fun u hb => by
    refine (check14 ⟨#[120]⟩ nT u (by decide) (by decide) (hA.below hb) (hm.below hb)).mono ?_
    rintro e w' ⟨er, rfl, h1, h2⟩
    rcases h1 with ⟨_, rfl⟩ | ⟨h, _⟩ | ⟨h, _⟩
    · exact ⟨rfl, hb.trans (h2.mono hb.size)⟩
    · rw [nmB_x] at h; cases h
    · rw [nmB_x] at h; cases h
  have hTl : (nT.toList == [77, 66, 70, 49, 64, 1, 32, 0, 0, 0, 0, 0, 0, 0]) = true := by decide +kernel
  obtain ⟨S, hS⟩ : ∃ S, nT = S := ⟨_, rfl⟩
  rw [hS] at EN CK hTl
  clear hD hA hm hS
  go_enter Tryd.func5, Tryd.ntmps5
  go_wp2_with fail
  refine (enc_nil14 _).mono ?_
  rintro e w1 ⟨rfl, hw⟩
  obtain rfl : w = w1 := hw.symm
  go_wp2_with fail
  refine (NW.out _).mono ?_
  rintro e w1 ⟨f, g, h1⟩
  obtain rfl := h1.res
  have H1 : Hid (FlS w1 f g 64 1 (zrR (64 / 8)) ∧ Below w.heap.size w w1 ∧ w.heap.size ≤ g) := ⟨h1.fil, h1.bel, h1.lg⟩
  clear h1 NW
  go_wp2_with fail
  refine (size_nil14 _).mono ?_
  rintro e w2 ⟨rfl, hw⟩
  obtain rfl : w1 = w2 := hw.symm
  go_wp2_with fail
  refine (F6.out _).mono ?_
  rintro e w2 ⟨rfl, hw⟩
  obtain rfl : w1 = w2 := hw.symm
  go_wp2_with fail
  refine (F7.out _).mono ?_
  rintro e w2 ⟨rfl, hw⟩
  obtain rfl : w1 = w2 := hw.symm
  go_wp2_with fail
  refine (FL.out _).mono ?_
  rintro e w2 ⟨rfl, hw⟩
  obtain rfl : w1 = w2 := hw.symm
  go_wp2_with fail
  refine (I1.out _).mono ?_
  rintro e w2 ⟨rfl, b2⟩
  have H2 : Hid (FlS w2 f g 64 1 (zrR (64 / 8)) ∧ Below w.heap.size w w2 ∧ w.heap.size ≤ g) := ⟨H1.out.1.below b2, H1.out.2.1.trans (b2.mono H1.out.2.1.size), H1.out.2.2⟩
  clear b2 H1 F6 F7 FL I1
  go_wp2_with fail
  refine (AD.out _ _ _ H2.out.1).mono ?_
  rintro e w3 ⟨rfl, f3, g3⟩
  have H3 : Hid (FlS w3 f g 64 1 nS ∧ Below w.heap.size w w3) := ⟨f3, below_own H2.out.2.1 H2.out.2.1.size g3 H2.out.2.2⟩
  clear f3 g3 H2 AD
  go_wp2_with fail
  refine (EN.out _ _ _ H3.out.2 H3.out.1).mono ?_
  rintro e w4 ⟨rfl, b4⟩
  have H4 : Hid (Below w.heap.size w w4) := H3.out.2.trans (b4.mono H3.out.2.size)
  clear b4 H3 EN
  go_wp2_with fail
  refine (add_nil14 _ _).mono ?_
  rintro e w5 ⟨rfl, b5⟩
  have H5 : Hid (Below w.heap.size w w5) := H4.out.trans (b5.mono H4.out.size)
  clear b5 H4
  go_wp2_with fail
  refine (join_nul14 _ _).mono ?_
  rintro e w6 ⟨rfl, hw⟩
  obtain rfl : w5 = w6 := hw.symm
  go_wp2_with fail
  refine (join_nilx _ _).mono ?_
  rintro e w6 ⟨rfl, hw⟩
  obtain rfl : w5 = w6 := hw.symm
  go_wp2_with fail
  refine (has_nil14 _ _).mono ?_
  rintro e w6 ⟨rfl, b6⟩
  have H6 : Hid (Below w.heap.size w w6) := H5.out.trans (b6.mono H5.out.size)
  clear b6 H5
  go_wp2_with fail
  refine (ones_nil14 _).mono ?_
  rintro e w7 ⟨rfl, hw⟩
  obtain rfl : w6 = w7 := hw.symm
  go_wp2_with fail
  refine (CK.out _ H6.out).mono ?_
  rintro e w7 ⟨rfl, b7⟩
  go_wp2
  go_ret
  exact ⟨rfl, b7⟩
end Go.Proofs.YtplfjfhpdfbpeaaDoor
