/- The field of 256 over bytes, plainly: doubling, products, powers, inverses, and the laws of a field. No program is named here. -/
import Derived.Laws.BitsAllLaws
namespace Go.Proofs.Ytblmblbkfdcbjab
set_option linter.unusedSimpArgs false
set_option linter.unusedVariables false
open Go
/-- The lowest bit. -/
def low (b : UInt8) : Bool := b.toBitVec.getLsbD 0
/-- A number times x. -/
def dbl (a : UInt8) : UInt8 := (a <<< 1) ^^^ (if a.toBitVec.getLsbD 7 then 29 else 0)
theorem all8 {p : UInt8 → Prop} [DecidablePred p] (h : ∀ k : Fin 256, p (UInt8.ofNat k.val)) (a : UInt8) : p a := by
  have := h ⟨a.toNat, a.toNat_lt⟩
  simpa using this
theorem xor_swap (a b c d : UInt8) : (a ^^^ b) ^^^ (c ^^^ d) = (a ^^^ c) ^^^ (b ^^^ d) := by
  rw [UInt8.xor_assoc, ← UInt8.xor_assoc b c d, UInt8.xor_comm b c, UInt8.xor_assoc c b d, ← UInt8.xor_assoc]
theorem sel_xor (x y : Bool) (a : UInt8) : (if (x ^^ y) then a else 0) = (if x then a else 0) ^^^ (if y then a else 0) := by
  cases x <;> cases y <;> simp
theorem shl_xor (a b : UInt8) : (a ^^^ b) <<< 1 = (a <<< 1) ^^^ (b <<< 1) := by
  apply UInt8.eq_of_toBitVec_eq
  simp [BitVec.shiftLeft_xor_distrib]
theorem shr_xor (a b : UInt8) : (a ^^^ b) >>> 1 = (a >>> 1) ^^^ (b >>> 1) := by
  apply UInt8.eq_of_toBitVec_eq
  simp [BitVec.ushiftRight_xor_distrib]
theorem low_xor (a b : UInt8) : low (a ^^^ b) = (low a ^^ low b) := by simp [low]
theorem dbl_xor (a b : UInt8) : dbl (a ^^^ b) = dbl a ^^^ dbl b := by
  unfold dbl
  rw [shl_xor, UInt8.toBitVec_xor, BitVec.getLsbD_xor, sel_xor, xor_swap]
theorem dbl_zero : dbl 0 = 0 := by decide
/-- The first n bits of b, times a. -/
def mulF : Nat → UInt8 → UInt8 → UInt8
  | 0, _, _ => 0
  | n + 1, a, b => (if low b then a else 0) ^^^ mulF n (dbl a) (b >>> 1)
/-- The product of two numbers. -/
def mul (a b : UInt8) : UInt8 := mulF 8 a b
theorem mulF_xor_left : ∀ (n : Nat) (a c b : UInt8), mulF n (a ^^^ c) b = mulF n a b ^^^ mulF n c b
  | 0, _, _, _ => by simp [mulF]
  | n + 1, a, c, b => by
    rw [mulF, mulF, mulF, dbl_xor, mulF_xor_left n, xor_swap]
    cases low b <;> simp
theorem mulF_xor_right : ∀ (n : Nat) (a b c : UInt8), mulF n a (b ^^^ c) = mulF n a b ^^^ mulF n a c
  | 0, _, _, _ => by simp [mulF]
  | n + 1, a, b, c => by
    rw [mulF, mulF, mulF, shr_xor, mulF_xor_right n, low_xor, sel_xor, xor_swap]
theorem mulF_dbl_left : ∀ (n : Nat) (a b : UInt8), mulF n (dbl a) b = dbl (mulF n a b)
  | 0, _, _ => by simp [mulF, dbl_zero]
  | n + 1, a, b => by
    rw [mulF, mulF, dbl_xor, ← mulF_dbl_left n]
    cases low b <;> simp [dbl_zero]
theorem mulF_zero : ∀ (n : Nat) (a : UInt8), mulF n a 0 = 0
  | 0, _ => rfl
  | n + 1, a => by
    rw [mulF, show (0 : UInt8) >>> 1 = 0 from by decide, mulF_zero n, show low 0 = false from by decide]
    simp
theorem shr_toNat (b : UInt8) : (b >>> 1).toNat = b.toNat / 2 := by
  revert b
  exact all8 (by decide +kernel)
theorem low_toNat (b : UInt8) : low b = decide (b.toNat % 2 = 1) := by
  revert b
  exact all8 (by decide +kernel)
theorem mulF_more : ∀ (n : Nat) (a b : UInt8), b.toNat < 2 ^ n → mulF (n + 1) a b = mulF n a b
  | 0, a, b, h => by
    have : b = 0 := by
      apply UInt8.toNat_inj.1
      simpa using h
    subst this
    rw [mulF_zero, mulF_zero]
  | n + 1, a, b, h => by
    show (if low b then a else 0) ^^^ mulF (n + 1) (dbl a) (b >>> 1) = (if low b then a else 0) ^^^ mulF n (dbl a) (b >>> 1)
    rw [mulF_more n (dbl a) (b >>> 1) (by rw [shr_toNat]; rw [Nat.pow_succ] at h; omega)]
theorem mul_xor_left (a c b : UInt8) : mul (a ^^^ c) b = mul a b ^^^ mul c b := mulF_xor_left 8 a c b
theorem mul_xor_right (a b c : UInt8) : mul a (b ^^^ c) = mul a b ^^^ mul a c := mulF_xor_right 8 a b c
theorem mul_dbl_left (a b : UInt8) : mul (dbl a) b = dbl (mul a b) := mulF_dbl_left 8 a b
theorem mul_zero_right (a : UInt8) : mul a 0 = 0 := mulF_zero 8 a
theorem dbl_small (b : UInt8) : b.toNat < 128 → low (dbl b) = false ∧ dbl b >>> 1 = b := by
  revert b
  exact all8 (by decide +kernel)
theorem mul_low (a b : UInt8) (h : b.toNat < 128) : mul a (dbl b) = dbl (mul a b) := by
  obtain ⟨h1, h2⟩ := dbl_small b h
  rw [mul, mulF, h1, h2, mulF_dbl_left]
  unfold mul
  rw [mulF_more 7 a b h]
  simp
theorem top_out (b : UInt8) : 128 ≤ b.toNat → (b ^^^ 128).toNat < 128 := by
  revert b
  exact all8 (by decide +kernel)
theorem mul_top (a : UInt8) : mul a 29 = dbl (mul a 128) := by
  revert a
  exact all8 (by decide +kernel)
theorem mul_dbl_right (a b : UInt8) : mul a (dbl b) = dbl (mul a b) := by
  by_cases h : b.toNat < 128
  · exact mul_low a b h
  · have e : b = (b ^^^ 128) ^^^ 128 := by rw [UInt8.xor_assoc, UInt8.xor_self, UInt8.xor_zero]
    have t := top_out b (by omega)
    generalize b ^^^ 128 = c at e t
    subst e
    rw [dbl_xor, mul_xor_right, mul_low a c t, mul_xor_right, dbl_xor, show dbl 128 = 29 from by decide, mul_top]
/-- Every byte is made of 0 by doubling and by adding 1. -/
theorem byteInd {p : UInt8 → Prop} (h0 : p 0) (hd : ∀ b, p b → p (dbl b)) (h1 : ∀ b, p b → p (b ^^^ 1)) : ∀ b, p b := by
  have key : ∀ n : Nat, ∀ b : UInt8, b.toNat = n → p b := by
    intro n
    induction n using Nat.strongRecOn with
    | _ n ih =>
      intro b hb
      by_cases hz : b.toNat = 0
      · have : b = 0 := UInt8.toNat_inj.1 (by simpa using hz)
        rw [this]; exact h0
      · have hh := ih (b.toNat / 2) (by omega) (b >>> 1) (shr_toNat b)
        have e : b = if low b then dbl (b >>> 1) ^^^ 1 else dbl (b >>> 1) := by
          revert b
          intro b
          intros
          exact (all8 (p := fun b => b = if low b then dbl (b >>> 1) ^^^ 1 else dbl (b >>> 1)) (by decide +kernel)) b
        rw [e]
        cases low b
        · exact hd _ hh
        · exact h1 _ (hd _ hh)
  exact fun b => key b.toNat b rfl
theorem mul_one (a : UInt8) : mul a 1 = a := by
  revert a
  exact all8 (by decide +kernel)
theorem one_mul (a : UInt8) : mul 1 a = a := by
  revert a
  exact all8 (by decide +kernel)
theorem zero_mul (b : UInt8) : mul 0 b = 0 := by
  revert b
  exact all8 (by decide +kernel)
theorem mul_comm (a b : UInt8) : mul a b = mul b a := by
  revert b
  apply byteInd
  · rw [mul_zero_right, zero_mul]
  · intro b h; rw [mul_dbl_right, mul_dbl_left, h]
  · intro b h; rw [mul_xor_right, mul_xor_left, h, mul_one, one_mul]
theorem mul_assoc (a b c : UInt8) : mul (mul a b) c = mul a (mul b c) := by
  revert c
  apply byteInd
  · rw [mul_zero_right, mul_zero_right, mul_zero_right]
  · intro c h; rw [mul_dbl_right, mul_dbl_right, mul_dbl_right, h]
  · intro c h; rw [mul_xor_right, mul_xor_right, mul_xor_right, h, mul_one, mul_one]
/-- A number times itself, n times. -/
def pw (a : UInt8) : Nat → UInt8
  | 0 => 1
  | n + 1 => mul (pw a n) a
theorem pw_add (a : UInt8) (n : Nat) : ∀ m, pw a (n + m) = mul (pw a n) (pw a m)
  | 0 => by rw [Nat.add_zero, pw, mul_one]
  | m + 1 => by rw [← Nat.add_assoc, pw, pw_add a n m, pw, mul_assoc]
theorem pw_one (a : UInt8) : pw a 1 = a := by rw [pw, pw, one_mul]
theorem pw_sq (a : UInt8) : ∀ n, pw (mul a a) n = pw a (2 * n)
  | 0 => rfl
  | n + 1 => by
    rw [pw, pw_sq a n, show 2 * (n + 1) = 2 * n + 2 from by omega, pw_add a (2 * n) 2]
    rw [show pw a 2 = mul a a from by rw [pw, pw_one]]
theorem pw255 (a : UInt8) : a ≠ 0 → pw a 255 = 1 := by
  have sq : ∀ n, pw a (2 * n) = mul (pw a n) (pw a n) := fun n => by rw [show 2 * n = n + n from by omega, pw_add]
  have step : pw a 255 = (let b := mul (mul a a) a; let c := mul b b; let c := mul c c; let d := mul c b; let e := mul d d; let e := mul e e; let e := mul e e; let e := mul e e; mul e d) := by
    have h3 : pw a 3 = mul (mul a a) a := by rw [pw, pw, pw_one]
    have h15 : pw a 15 = mul (pw a 12) (pw a 3) := by rw [← pw_add]
    have h255 : pw a 255 = mul (pw a 240) (pw a 15) := by rw [← pw_add]
    rw [h255, show 240 = 2 * 120 from rfl, sq, show 120 = 2 * 60 from rfl, sq, show 60 = 2 * 30 from rfl, sq, show 30 = 2 * 15 from rfl, sq, h15, show 12 = 2 * 6 from rfl, sq, show 6 = 2 * 3 from rfl, sq, h3]
  rw [step]
  clear step sq
  revert a
  exact all8 (p := fun a => a ≠ 0 → (let b := mul (mul a a) a; let c := mul b b; let c := mul c c; let d := mul c b; let e := mul d d; let e := mul e e; let e := mul e e; let e := mul e e; mul e d) = 1) (by decide +kernel)
theorem pw_mod (a : UInt8) (h : a ≠ 0) (n : Nat) : pw a n = pw a (n % 255) := by
  have hq : ∀ q, pw a (255 * q) = 1 := by
    intro q
    induction q with
    | zero => rfl
    | succ q ih => rw [Nat.mul_succ, pw_add, ih, pw255 a h, mul_one]
  conv => lhs; rw [← Nat.div_add_mod n 255, pw_add, hq, one_mul]
/-- What times a number is 1. -/
def inv (a : UInt8) : UInt8 := pw a 254
theorem mul_inv (a : UInt8) (h : a ≠ 0) : mul (inv a) a = 1 := by
  have := pw255 a h
  rwa [pw] at this
theorem inv_mul (a : UInt8) (h : a ≠ 0) : mul a (inv a) = 1 := by rw [mul_comm]; exact mul_inv a h
theorem mul_eq_zero {a b : UInt8} (h : mul a b = 0) : a = 0 ∨ b = 0 := by
  by_cases hb : b = 0
  · exact Or.inr hb
  · left
    have : mul (mul a b) (inv b) = a := by rw [mul_assoc, inv_mul b hb, mul_one]
    rw [← this, h, zero_mul]
theorem mul_cancel {a b c : UInt8} (hc : c ≠ 0) (h : mul a c = mul b c) : a = b := by
  have : mul (mul a c) (inv c) = mul (mul b c) (inv c) := by rw [h]
  rwa [mul_assoc, mul_assoc, inv_mul c hc, mul_one, mul_one] at this
theorem inv_ne (a : UInt8) (h : a ≠ 0) : inv a ≠ 0 := by
  intro e
  have := mul_inv a h
  rw [e, zero_mul] at this
  exact absurd this (by decide)
theorem pw_ne (a : UInt8) (h : a ≠ 0) : ∀ n, pw a n ≠ 0
  | 0 => by show (1 : UInt8) ≠ 0; decide
  | n + 1 => by
    intro e
    rw [pw] at e
    rcases mul_eq_zero e with e | e
    · exact pw_ne a h n e
    · exact h e
/-- A power of whatever number. -/
def pwZ (a : UInt8) (n : Int) : UInt8 := pw a (n % 255).toNat
theorem pwZ_add (a : UInt8) (h : a ≠ 0) (n m : Int) : mul (pwZ a n) (pwZ a m) = pwZ a (n + m) := by
  unfold pwZ
  rw [← pw_add, pw_mod a h ((n % 255).toNat + (m % 255).toNat)]
  congr 1
  omega
end Go.Proofs.Ytblmblbkfdcbjab
