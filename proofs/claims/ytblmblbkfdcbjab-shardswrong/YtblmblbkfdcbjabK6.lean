/- Sums over the field of 256; a row that takes every column of a Cauchy matrix to 0 is 0. No program is named here. -/
import Derived.Test.YtblmblbkfdcbjabK1
namespace Go.Proofs.Ytblmblbkfdcbjab
set_option linter.unusedSimpArgs false
set_option linter.unusedVariables false
open Go
/-- The sum of the first n. -/
def Sx : Nat → (Nat → UInt8) → UInt8
  | 0, _ => 0
  | n + 1, f => Sx n f ^^^ f n
theorem Sx_congr : ∀ (n : Nat) (f g : Nat → UInt8), (∀ i, i < n → f i = g i) → Sx n f = Sx n g
  | 0, _, _, _ => rfl
  | n + 1, f, g, h => by rw [Sx, Sx, Sx_congr n f g (fun i hi => h i (by omega)), h n (by omega)]
theorem Sx_add : ∀ (n : Nat) (f g : Nat → UInt8), Sx n (fun i => f i ^^^ g i) = Sx n f ^^^ Sx n g
  | 0, _, _ => by simp [Sx]
  | n + 1, f, g => by rw [Sx, Sx, Sx, Sx_add n, xor_swap]
theorem Sx_mul : ∀ (n : Nat) (f : Nat → UInt8) (c : UInt8), Sx n (fun i => mul (f i) c) = mul (Sx n f) c
  | 0, _, _ => by simp [Sx, zero_mul]
  | n + 1, f, c => by rw [Sx, Sx, Sx_mul n, mul_xor_left]
theorem Sx_zero : ∀ n : Nat, Sx n (fun _ => 0) = 0
  | 0 => rfl
  | n + 1 => by rw [Sx, Sx_zero n]; rfl
theorem Sx_nil (n : Nat) (f : Nat → UInt8) (h : ∀ i, i < n → f i = 0) : Sx n f = 0 := by
  rw [Sx_congr n f (fun _ => 0) h, Sx_zero]
theorem Sx_one (n : Nat) (f : Nat → UInt8) (k : Nat) (hk : k < n) (h : ∀ i, i < n → i ≠ k → f i = 0) : Sx n f = f k := by
  induction n with
  | zero => omega
  | succ n ih =>
    rw [Sx]
    by_cases e : k = n
    · subst e
      rw [Sx_nil k f (fun i hi => h i (by omega) (by omega)), UInt8.zero_xor]
    · rw [ih (by omega) (fun i hi => h i (by omega)), h n (by omega) (fun e2 => e e2.symm), UInt8.xor_zero]
theorem Sx_swap (n : Nat) : ∀ (m : Nat) (f : Nat → Nat → UInt8), Sx n (fun i => Sx m (fun j => f i j)) = Sx m (fun j => Sx n (fun i => f i j))
  | 0, f => by
    rw [show Sx 0 (fun j => Sx n (fun i => f i j)) = 0 from rfl]
    exact Sx_nil n _ (fun i _ => rfl)
  | m + 1, f => by
    rw [Sx, ← Sx_swap n m f, ← Sx_add]
    rfl
theorem xor_eq {a b : UInt8} (h : a ^^^ b = 0) : a = b := by
  have : (a ^^^ b) ^^^ b = b := by rw [h, UInt8.zero_xor]
  rwa [UInt8.xor_assoc, UInt8.xor_self, UInt8.xor_zero] at this
theorem xor_ne {a b : UInt8} (h : a ≠ b) : a ^^^ b ≠ 0 := fun e => h (xor_eq e)
theorem inv_sum (d e : UInt8) (hd : d ≠ 0) (he : e ≠ 0) : inv d ^^^ inv e = mul (mul (inv d) (inv e)) (d ^^^ e) := by
  rw [mul_xor_right, mul_assoc (inv d) (inv e) e, mul_inv e he, mul_one, mul_comm (inv d) (inv e), mul_assoc (inv e) (inv d) d, mul_inv d hd, mul_one, UInt8.xor_comm]
theorem cauchy_ker : ∀ (n : Nat) (x y v : Nat → UInt8), (∀ i j, i < n → j < n → x i ≠ y j) → (∀ i j, i < n → j < n → i ≠ j → x i ≠ x j) → (∀ i j, i < n → j < n → i ≠ j → y i ≠ y j) →
    (∀ j, j < n → Sx n (fun i => mul (v i) (inv (x i ^^^ y j))) = 0) → ∀ i, i < n → v i = 0
  | 0, _, _, _, _, _, _, _, i, hi => by omega
  | n + 1, x, y, v, hxy, hx, hy, hS, i, hi => by
    have hd : ∀ i j, i < n + 1 → j < n + 1 → x i ^^^ y j ≠ 0 := fun i j h1 h2 => xor_ne (hxy i j h1 h2)
    -- each equation, times (x n + y j)
    have key : ∀ j, j < n + 1 → Sx n (fun i => mul (mul (v i) (x n ^^^ x i)) (inv (x i ^^^ y j))) = Sx (n + 1) v := by
      intro j hj
      have h1 : mul (Sx (n + 1) (fun i => mul (v i) (inv (x i ^^^ y j)))) (x n ^^^ y j) = 0 := by rw [hS j hj, zero_mul]
      rw [← Sx_mul] at h1
      have h2 : Sx (n + 1) (fun i => mul (mul (v i) (inv (x i ^^^ y j))) (x n ^^^ y j)) = Sx (n + 1) (fun i => mul (mul (v i) (x n ^^^ x i)) (inv (x i ^^^ y j)) ^^^ v i) := by
        apply Sx_congr
        intro i hi
        have e : x n ^^^ y j = (x i ^^^ y j) ^^^ (x n ^^^ x i) := by
          rw [UInt8.xor_comm (x i) (y j), UInt8.xor_comm (x n) (x i), UInt8.xor_assoc, ← UInt8.xor_assoc (x i) (x i), UInt8.xor_self, UInt8.zero_xor, UInt8.xor_comm]
        rw [e, mul_xor_right, mul_assoc (v i) (inv _) (x i ^^^ y j), mul_inv _ (hd i j hi hj), mul_one, UInt8.xor_comm]
        congr 1
        rw [mul_assoc, mul_assoc, mul_comm (inv _)]
      rw [h2, Sx_add] at h1
      have h3 := xor_eq h1
      rw [Sx] at h3
      rw [UInt8.xor_self, mul_zero_right, zero_mul, UInt8.xor_zero] at h3
      exact h3
    have hv' : ∀ i, i < n → mul (mul (v i) (x n ^^^ x i)) (inv (x i ^^^ y n)) = 0 := by
      refine cauchy_ker n x y (fun i => mul (mul (v i) (x n ^^^ x i)) (inv (x i ^^^ y n))) (fun i j h1 h2 => hxy i j (by omega) (by omega)) (fun i j h1 h2 => hx i j (by omega) (by omega)) (fun i j h1 h2 => hy i j (by omega) (by omega)) ?_
      intro j hj
      have h1 := key j (by omega)
      rw [← key n (by omega)] at h1
      have h2 : Sx n (fun i => mul (mul (v i) (x n ^^^ x i)) (inv (x i ^^^ y j)) ^^^ mul (mul (v i) (x n ^^^ x i)) (inv (x i ^^^ y n))) = 0 := by
        rw [Sx_add, h1, UInt8.xor_self]
      have h3 : Sx n (fun i => mul (mul (v i) (x n ^^^ x i)) (inv (x i ^^^ y j)) ^^^ mul (mul (v i) (x n ^^^ x i)) (inv (x i ^^^ y n))) = mul (Sx n (fun i => mul (mul (mul (v i) (x n ^^^ x i)) (inv (x i ^^^ y n))) (inv (x i ^^^ y j)))) (y j ^^^ y n) := by
        rw [← Sx_mul]
        apply Sx_congr
        intro i hi
        rw [← mul_xor_right, inv_sum _ _ (hd i j (by omega) (by omega)) (hd i n (by omega) (by omega))]
        have e : (x i ^^^ y j) ^^^ (x i ^^^ y n) = y j ^^^ y n := by
          rw [UInt8.xor_comm (x i) (y j), UInt8.xor_assoc, ← UInt8.xor_assoc (x i) (x i), UInt8.xor_self, UInt8.zero_xor]
        rw [e, ← mul_assoc, mul_comm (inv (x i ^^^ y j)) (inv (x i ^^^ y n)), ← mul_assoc]
      rw [h3] at h2
      rcases mul_eq_zero h2 with h4 | h4
      · exact h4
      · exact absurd (xor_eq h4) (hy j n (by omega) (by omega) (by omega))
    have hv : ∀ i, i < n → v i = 0 := by
      intro i hi
      rcases mul_eq_zero (hv' i hi) with h1 | h1
      · rcases mul_eq_zero h1 with h2 | h2
        · exact h2
        · exact absurd (xor_eq h2) (hx n i (by omega) (by omega) (by omega))
      · exact absurd h1 (inv_ne _ (hd i n (by omega) (by omega)))
    by_cases e : i = n
    · subst e
      have h1 := hS 0 (by omega)
      rw [Sx, Sx_nil _ _ (fun k hk => by rw [hv k hk, zero_mul]), UInt8.zero_xor] at h1
      rcases mul_eq_zero h1 with h2 | h2
      · exact h2
      · exact absurd h2 (inv_ne _ (hd i 0 (by omega) (by omega)))
    · exact hv i (by omega)
end Go.Proofs.Ytblmblbkfdcbjab
