/- Powers in the field of 256, plainly: the powers 2, 4, .. of a sum; the powers of 2. No program is named here. -/
import Derived.Test.YtefmabfhephdjabK1
namespace Go.Proofs.Ytefmabfhephdjab
set_option linter.unusedSimpArgs false
set_option linter.unusedVariables false
open Go
/-- The power k of a sum is the sum of the powers k. -/
def Adds (k : Nat) : Prop := ∀ a b : UInt8, pw (a ^^^ b) k = pw a k ^^^ pw b k
theorem sq_xor (x y : UInt8) : mul (x ^^^ y) (x ^^^ y) = mul x x ^^^ mul y y := by
  rw [mul_xor_left, mul_xor_right, mul_xor_right, mul_comm y x, UInt8.xor_assoc, ← UInt8.xor_assoc (mul x y) (mul x y), UInt8.xor_self, UInt8.zero_xor]
theorem adds_one : Adds 1 := fun a b => by rw [pw_one, pw_one, pw_one]
theorem adds_two {k : Nat} (h : Adds k) : Adds (2 * k) := fun a b => by
  rw [show 2 * k = k + k from by omega, pw_add, pw_add, pw_add, h a b, sq_xor]
theorem pw_zero (k : Nat) (h : 1 ≤ k) : pw 0 k = 0 := by
  cases k with
  | zero => omega
  | succ k => rw [pw, mul_zero_right]
/-- None of the next n powers of 2 is 1. -/
def chk : Nat → UInt8 → Bool
  | 0, _ => true
  | n + 1, x => (mul x 2 != 1) && chk n (mul x 2)
theorem chk_all : chk 254 1 = true := by decide +kernel
theorem chk_pw : ∀ (n d k : Nat), chk n (pw 2 k) = true → 1 ≤ d → d ≤ n → pw 2 (k + d) ≠ 1
  | 0, d, k, _, h1, h2 => by omega
  | n + 1, d, k, h, h1, h2 => by
    rw [chk, Bool.and_eq_true] at h
    have e : mul (pw 2 k) 2 = pw 2 (k + 1) := rfl
    rw [e] at h
    by_cases hd : d = 1
    · subst hd; simpa using h.1
    · have := chk_pw n (d - 1) (k + 1) h.2 (by omega) (by omega)
      rwa [show k + 1 + (d - 1) = k + d from by omega] at this
theorem two_order (d : Nat) (h1 : 1 ≤ d) (h2 : d < 255) : pw 2 d ≠ 1 := by
  have := chk_pw 254 d 0 chk_all h1 (by omega)
  rwa [Nat.zero_add] at this
theorem two_apart (i d : Nat) (h1 : i < d) (h2 : d < 255) : pw 2 d ≠ pw 2 i := by
  intro e
  have h : pw 2 d = mul (pw 2 (d - i)) (pw 2 i) := by rw [← pw_add, show d - i + i = d from by omega]
  rw [h] at e
  have e2 : mul (pw 2 (d - i)) (pw 2 i) = mul 1 (pw 2 i) := by rw [e, one_mul]
  exact two_order (d - i) (by omega) (by omega) (mul_cancel (pw_ne 2 (by decide) i) e2)
theorem pwZ_small (a : UInt8) (k : Nat) (h : k < 255) : pwZ a k = pw a k := by
  unfold pwZ
  congr 1
  omega
theorem pwZ_round (a : UInt8) (n : Int) : pwZ a (n + 255) = pwZ a n := by
  unfold pwZ
  congr 1
  omega
theorem pwZ_255 (a : UInt8) : pwZ a 255 = 1 := by
  unfold pwZ
  rfl
end Go.Proofs.Ytefmabfhephdjab
