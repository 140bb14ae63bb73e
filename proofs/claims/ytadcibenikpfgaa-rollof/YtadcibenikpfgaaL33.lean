/- The walks of RollOf, RollNames. -/
import Derived.Test.YtadcibenikpfgaaV3
namespace Go.Proofs.Ytadcibenikpfgaa
open Go.RowKit
set_option linter.unusedSimpArgs false
set_option linter.unusedVariables false
set_option maxHeartbeats 1000000 in
set_option maxRecDepth 100000 in
theorem rollOf_walk (s : ByteArray) (N : Nat) (w : World) (hs : s.size ≤ maxLen) (hN : N < 4294967296) :
    Calls Try.prog 3 #[.string s, .int .u32 (N : Int)] w fun e w' => e = .returned (.bool true) ∧ Below w.heap.size w w' := by
  have c1 := fun W => of_any s W hs
  have c2 := fun W => rOf_any s W hs
  have c3 := fun W => ones_any N W hN
  have c4 := fun W => rOnes_any N W hN
  generalize dgR (tby s) = d at *
  generalize onN 32 N = o at *
  have C1 : Hid _ := c1
  have C2 : Hid _ := c2
  have C3 : Hid _ := c3
  have C4 : Hid _ := c4
  clear c1 c2 c3 c4
  go_enter Try.func3, Try.ntmps3
  go_wp2_with fail
  refine Calls.mono (C1.out _) ?_
  rintro e w1 ⟨rfl, b1⟩
  go_wp2_with fail
  refine Calls.mono (C2.out _) ?_
  rintro e w2 ⟨rfl, hw⟩
  subst hw
  go_wp2_with fail
  refine Calls.mono (C3.out _) ?_
  rintro e w3 ⟨rfl, hw⟩
  subst hw
  go_wp2_with fail
  refine Calls.mono (C4.out _) ?_
  rintro e w4 ⟨rfl, hw⟩
  subst hw
  go_wp2
  go_ret
  exact ⟨by simp, b1⟩
theorem on_seven : onN 32 7 = 3 := by decide +kernel
theorem on_all : onN 32 4294967295 = 32 := by decide +kernel
set_option maxHeartbeats 1000000 in
set_option maxRecDepth 100000 in
theorem rollNames_walk (w : World) :
    Calls Try.prog 5 #[] w fun e w' => e = .returned (.bool true) ∧ Below w.heap.size w w' := by
  have c3 := fun W => ones_any 7 W (by omega)
  have c4 := fun W => ones_any 4294967295 W (by omega)
  rw [on_seven] at c3
  rw [on_all] at c4
  have C3 : Hid _ := c3
  have C4 : Hid _ := c4
  clear c3 c4
  go_enter Try.func5, Try.ntmps5
  go_wp2_with fail
  refine (add_nil 1 _).mono ?_
  rintro e w2 ⟨rfl, hw⟩
  subst hw
  go_wp2_with fail
  refine (writeR_nil ⟨#[97]⟩ _ (by decide)).mono ?_
  rintro e w2 ⟨rfl, hw⟩
  subst hw
  go_wp2_with fail
  refine (digestR_nil _).mono ?_
  rintro e w2 ⟨rfl, hw⟩
  subst hw
  go_wp2_with fail
  refine (new_any _).mono ?_
  rintro e w1 ⟨rfl, h1, b1⟩
  have H1 : Hid (Rll w1 w2.heap.size []) := h1
  have B1 : Hid (Below w2.heap.size w2 w1) := b1
  clear h1 b1
  go_wp2_with fail
  refine (digestR_any [] _ _ H1.out).mono ?_
  rintro e w3 ⟨rfl, n, rfl⟩
  rw [dgR_nil]
  go_wp2_with fail
  refine (of_any ⟨#[1]⟩ _ (by decide)).mono ?_
  rintro e w4 ⟨rfl, b4⟩
  rw [show tby ⟨#[1]⟩ = [1] from rfl, dgR_one]
  have B4 : Hid (Below w2.heap.size w2 w4) := (below_drewN B1.out n).trans (b4.mono (below_drewN B1.out n).size)
  clear b4 B1 H1
  go_wp2_with fail
  refine Calls.mono (C3.out _) ?_
  rintro e w5 ⟨rfl, hw⟩
  subst hw
  go_wp2_with fail
  refine Calls.mono (C4.out _) ?_
  rintro e w5 ⟨rfl, hw⟩
  subst hw
  go_wp2
  go_ret
  exact ⟨rfl, B4.out⟩
end Go.Proofs.Ytadcibenikpfgaa
