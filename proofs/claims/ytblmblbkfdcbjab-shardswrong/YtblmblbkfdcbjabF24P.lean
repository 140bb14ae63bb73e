/- field.Product, where it refuses. -/
import Derived.Test.YtblmblbkfdcbjabF11
namespace Go.Proofs.Ytblmblbkfdcbjab
open Go.RowKit
set_option linter.unusedSimpArgs false
set_option linter.unusedVariables false
set_option maxHeartbeats 1000000 in
set_option maxRecDepth 100000 in
theorem product_no (a b : Option Addr) (ca cb : Nat) (xs ys : List ByteArray) (w : World) (hx : TxL w a xs) (hy : TxL w b ys) (nx : xs.length ≤ 4611686018427387904) (sx : ∀ x ∈ xs, x.size ≤ 4611686018427387904) (ny : ys.length ≤ 4611686018427387904) (sy : ∀ x ∈ ys, x.size ≤ 4611686018427387904)
    (h : ¬ (isM xs = true ∧ isM ys = true ∧ wid xs = ys.length)) :
    Calls Try.prog 24 #[.slice a xs.length ca, .slice b ys.length cb] w fun e w' => e = .returned (.tuple #[.slice none 0 0, .int .i64 1]) ∧ Below w.heap.size w w' := by
  have hcx := check_any a ca xs w hx nx sx
  have hcy := fun W hW => check_any b cb ys W hW ny sy
  by_cases mx : isM xs = true
  · obtain ⟨k1, k2, k3⟩ := ck_yes xs mx
    rw [k1, k2, k3] at hcx
    by_cases my : isM ys = true
    · obtain ⟨l1, l2, l3⟩ := ck_yes ys my
      rw [l1, l2, l3] at hcy
      have hne : ((wid xs : Int) == (ys.length : Int)) = false := by
        rw [beq_eq_false_iff_ne]
        intro e
        exact h ⟨mx, my, by omega⟩
      have hnn : ((wid xs : Int) != (ys.length : Int)) = true := by rw [bne, hne]; rfl
      have HY : Hid (TxL w b ys) := hy
      have C1 : Hid _ := hcx
      have C2 : Hid _ := hcy
      clear hcx hcy hx hy h sx sy k1 k2 k3 l1 l2 l3
      generalize wid xs = wx at *
      generalize wid ys = wy at *
      go_enter Try.func24, Try.ntmps24
      go_wp2_with fail
      refine Calls.mono C1.out ?_
      rintro e w1 ⟨rfl, q1, hw1⟩
      subst hw1
      go_wp2_with fail
      refine Calls.mono (C2.out _ (HY.out.drewN q1)) ?_
      rintro e w1 ⟨rfl, q2, hw1⟩
      have HB1 : Hid (Below w.heap.size w w1) := by show Below _ _ _; rw [hw1]; exact below_drewN (below_drewN (Below.refl _ _) _) _
      clear hw1
      go_wp2
      go_ret2
      exact ⟨rfl, HB1.out⟩
    · obtain ⟨l1, l2, l3⟩ := ck_no ys (by simpa using my)
      rw [l1, l2, l3] at hcy
      have HY : Hid (TxL w b ys) := hy
      have C1 : Hid _ := hcx
      have C2 : Hid _ := hcy
      clear hcx hcy hx hy h sx sy k1 k2 k3 l1 l2 l3
      generalize wid xs = wx at *
      go_enter Try.func24, Try.ntmps24
      go_wp2_with fail
      refine Calls.mono C1.out ?_
      rintro e w1 ⟨rfl, q1, hw1⟩
      subst hw1
      go_wp2_with fail
      refine Calls.mono (C2.out _ (HY.out.drewN q1)) ?_
      rintro e w1 ⟨rfl, q2, hw1⟩
      have HB1 : Hid (Below w.heap.size w w1) := by show Below _ _ _; rw [hw1]; exact below_drewN (below_drewN (Below.refl _ _) _) _
      clear hw1
      go_wp2
      go_ret2
      exact ⟨rfl, HB1.out⟩
  · obtain ⟨k1, k2, k3⟩ := ck_no xs (by simpa using mx)
    rw [k1, k2, k3] at hcx
    have C1 : Hid _ := hcx
    clear hcx hcy hx hy h sx sy k1 k2 k3
    go_enter Try.func24, Try.ntmps24
    go_wp2_with fail
    refine Calls.mono C1.out ?_
    rintro e w1 ⟨rfl, q1, hw1⟩
    have HB1 : Hid (Below w.heap.size w w1) := by show Below _ _ _; rw [hw1]; exact below_drewN (Below.refl _ _) _
    clear hw1
    go_wp2
    go_ret2
    exact ⟨rfl, HB1.out⟩
end Go.Proofs.Ytblmblbkfdcbjab
