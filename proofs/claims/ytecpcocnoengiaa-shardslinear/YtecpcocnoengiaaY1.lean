import Derived.Laws.BitsAllLaws
import Derived.Test.YtecpcocnoengiaaRows
import Derived.WalkKit
import Derived.WalkSpells
import Derived.WalkLawsBesides
import Derived.Handy
import Derived.Deep.QuietTactic
import Derived.BigQuiet
import Derived.Deep.MidRow
import Derived.Deep.WholeRow
import Derived.Laws.ResultCell
import Derived.Lib.SmallJoins
import Derived.Lib.BufferOwn
import Derived.Lib.HexFns2
/- The field of 256 over bytes, plainly: doubling, products, powers, inverses, and the laws of a field. No program is named here. -/
namespace Go.Proofs.Ytecpcocnoengiaa
set_option linter.unusedSimpArgs false
set_option linter.unusedVariables false
open Go
/-- The lowest bit. -/
def low (b : UInt8) : Bool := b.toBitVec.getLsbD 0
/-- A number times x. -/
def dbl (a : UInt8) : UInt8 := (a <<< 1) ^^^ (if a.toBitVec.getLsbD 7 then 29 else 0)
theorem all8 {p : UInt8 → Prop} [DecidablePred p] (h : ∀ k : Fin 256, p (UInt8.ofNat k.val)) (a : UInt8) : p a := by
  have := h ⟨a.toNat, a.toNat_lt⟩
  simpa using this
theorem xor_swap (a b c d : UInt8) : (a ^^^ b) ^^^ (c ^^^ d) = (a ^^^ c) ^^^ (b ^^^ d) := by
  rw [UInt8.xor_assoc, ← UInt8.xor_assoc b c d, UInt8.xor_comm b c, UInt8.xor_assoc c b d, ← UInt8.xor_assoc]
theorem sel_xor (x y : Bool) (a : UInt8) : (if (x ^^ y) then a else 0) = (if x then a else 0) ^^^ (if y then a else 0) := by
  cases x <;> cases y <;> simp
theorem shl_xor (a b : UInt8) : (a ^^^ b) <<< 1 = (a <<< 1) ^^^ (b <<< 1) := by
  apply UInt8.eq_of_toBitVec_eq
  simp [BitVec.shiftLeft_xor_distrib]
theorem shr_xor (a b : UInt8) : (a ^^^ b) >>> 1 = (a >>> 1) ^^^ (b >>> 1) := by
  apply UInt8.eq_of_toBitVec_eq
  simp [BitVec.ushiftRight_xor_distrib]
theorem low_xor (a b : UInt8) : low (a ^^^ b) = (low a ^^ low b) := by simp [low]
theorem dbl_xor (a b : UInt8) : dbl (a ^^^ b) = dbl a ^^^ dbl b := by
  unfold dbl
  rw [shl_xor, UInt8.toBitVec_xor, BitVec.getLsbD_xor, sel_xor, xor_swap]
theorem dbl_zero : dbl 0 = 0 := by decide
/-- The first n bits of b, times a. -/
def mulF : Nat → UInt8 → UInt8 → UInt8
  | 0, _, _ => 0
  | n + 1, a, b => (if low b then a else 0) ^^^ mulF n (dbl a) (b >>> 1)
/-- The product of two numbers. -/
def mul (a b : UInt8) : UInt8 := mulF 8 a b
theorem mulF_xor_left : ∀ (n : Nat) (a c b : UInt8), mulF n (a ^^^ c) b = mulF n a b ^^^ mulF n c b
  | 0, _, _, _ => by simp [mulF]
  | n + 1, a, c, b => by
    rw [mulF, mulF, mulF, dbl_xor, mulF_xor_left n, xor_swap]
    cases low b <;> simp
theorem mulF_xor_right : ∀ (n : Nat) (a b c : UInt8), mulF n a (b ^^^ c) = mulF n a b ^^^ mulF n a c
  | 0, _, _, _ => by simp [mulF]
  | n + 1, a, b, c => by
    rw [mulF, mulF, mulF, shr_xor, mulF_xor_right n, low_xor, sel_xor, xor_swap]
theorem mulF_dbl_left : ∀ (n : Nat) (a b : UInt8), mulF n (dbl a) b = dbl (mulF n a b)
  | 0, _, _ => by simp [mulF, dbl_zero]
  | n + 1, a, b => by
    rw [mulF, mulF, dbl_xor, ← mulF_dbl_left n]
    cases low b <;> simp [dbl_zero]
theorem mulF_zero : ∀ (n : Nat) (a : UInt8), mulF n a 0 = 0
  | 0, _ => rfl
  | n + 1, a => by
    rw [mulF, show (0 : UInt8) >>> 1 = 0 from by decide, mulF_zero n, show low 0 = false from by decide]
    simp
theorem shr_toNat (b : UInt8) : (b >>> 1).toNat = b.toNat / 2 := by
  revert b
  exact all8 (by decide +kernel)
theorem low_toNat (b : UInt8) : low b = decide (b.toNat % 2 = 1) := by
  revert b
  exact all8 (by decide +kernel)
theorem mulF_more : ∀ (n : Nat) (a b : UInt8), b.toNat < 2 ^ n → mulF (n + 1) a b = mulF n a b
  | 0, a, b, h => by
    have : b = 0 := by
      apply UInt8.toNat_inj.1
      simpa using h
    subst this
    rw [mulF_zero, mulF_zero]
  | n + 1, a, b, h => by
    show (if low b then a else 0) ^^^ mulF (n + 1) (dbl a) (b >>> 1) = (if low b then a else 0) ^^^ mulF n (dbl a) (b >>> 1)
    rw [mulF_more n (dbl a) (b >>> 1) (by rw [shr_toNat]; rw [Nat.pow_succ] at h; omega)]
theorem mul_xor_left (a c b : UInt8) : mul (a ^^^ c) b = mul a b ^^^ mul c b := mulF_xor_left 8 a c b
theorem mul_xor_right (a b c : UInt8) : mul a (b ^^^ c) = mul a b ^^^ mul a c := mulF_xor_right 8 a b c
theorem mul_dbl_left (a b : UInt8) : mul (dbl a) b = dbl (mul a b) := mulF_dbl_left 8 a b
theorem mul_zero_right (a : UInt8) : mul a 0 = 0 := mulF_zero 8 a
theorem dbl_small (b : UInt8) : b.toNat < 128 → low (dbl b) = false ∧ dbl b >>> 1 = b := by
  revert b
  exact all8 (by decide +kernel)
theorem mul_low (a b : UInt8) (h : b.toNat < 128) : mul a (dbl b) = dbl (mul a b) := by
  obtain ⟨h1, h2⟩ := dbl_small b h
  rw [mul, mulF, h1, h2, mulF_dbl_left]
  unfold mul
  rw [mulF_more 7 a b h]
  simp
theorem top_out (b : UInt8) : 128 ≤ b.toNat → (b ^^^ 128).toNat < 128 := by
  revert b
  exact all8 (by decide +kernel)
theorem mul_top (a : UInt8) : mul a 29 = dbl (mul a 128) := by
  revert a
  exact all8 (by decide +kernel)
theorem mul_dbl_right (a b : UInt8) : mul a (dbl b) = dbl (mul a b) := by
  by_cases h : b.toNat < 128
  · exact mul_low a b h
  · have e : b = (b ^^^ 128) ^^^ 128 := by rw [UInt8.xor_assoc, UInt8.xor_self, UInt8.xor_zero]
    have t := top_out b (by omega)
    generalize b ^^^ 128 = c at e t
    subst e
    rw [dbl_xor, mul_xor_right, mul_low a c t, mul_xor_right, dbl_xor, show dbl 128 = 29 from by decide, mul_top]
/-- Every byte is made of 0 by doubling and by adding 1. -/
theorem byteInd {p : UInt8 → Prop} (h0 : p 0) (hd : ∀ b, p b → p (dbl b)) (h1 : ∀ b, p b → p (b ^^^ 1)) : ∀ b, p b := by
  have key : ∀ n : Nat, ∀ b : UInt8, b.toNat = n → p b := by
    intro n
    induction n using Nat.strongRecOn with
    | _ n ih =>
      intro b hb
      by_cases hz : b.toNat = 0
      · have : b = 0 := UInt8.toNat_inj.1 (by simpa using hz)
        rw [this]; exact h0
      · have hh := ih (b.toNat / 2) (by omega) (b >>> 1) (shr_toNat b)
        have e : b = if low b then dbl (b >>> 1) ^^^ 1 else dbl (b >>> 1) := by
          revert b
          intro b
          intros
          exact (all8 (p := fun b => b = if low b then dbl (b >>> 1) ^^^ 1 else dbl (b >>> 1)) (by decide +kernel)) b
        rw [e]
        cases low b
        · exact hd _ hh
        · exact h1 _ (hd _ hh)
  exact fun b => key b.toNat b rfl
theorem mul_one (a : UInt8) : mul a 1 = a := by
  revert a
  exact all8 (by decide +kernel)
theorem one_mul (a : UInt8) : mul 1 a = a := by
  revert a
  exact all8 (by decide +kernel)
theorem zero_mul (b : UInt8) : mul 0 b = 0 := by
  revert b
  exact all8 (by decide +kernel)
theorem mul_comm (a b : UInt8) : mul a b = mul b a := by
  revert b
  apply byteInd
  · rw [mul_zero_right, zero_mul]
  · intro b h; rw [mul_dbl_right, mul_dbl_left, h]
  · intro b h; rw [mul_xor_right, mul_xor_left, h, mul_one, one_mul]
theorem mul_assoc (a b c : UInt8) : mul (mul a b) c = mul a (mul b c) := by
  revert c
  apply byteInd
  · rw [mul_zero_right, mul_zero_right, mul_zero_right]
  · intro c h; rw [mul_dbl_right, mul_dbl_right, mul_dbl_right, h]
  · intro c h; rw [mul_xor_right, mul_xor_right, mul_xor_right, h, mul_one, mul_one]
/-- A number times itself, n times. -/
def pw (a : UInt8) : Nat → UInt8
  | 0 => 1
  | n + 1 => mul (pw a n) a
theorem pw_add (a : UInt8) (n : Nat) : ∀ m, pw a (n + m) = mul (pw a n) (pw a m)
  | 0 => by rw [Nat.add_zero, pw, mul_one]
  | m + 1 => by rw [← Nat.add_assoc, pw, pw_add a n m, pw, mul_assoc]
theorem pw_one (a : UInt8) : pw a 1 = a := by rw [pw, pw, one_mul]
theorem pw_sq (a : UInt8) : ∀ n, pw (mul a a) n = pw a (2 * n)
  | 0 => rfl
  | n + 1 => by
    rw [pw, pw_sq a n, show 2 * (n + 1) = 2 * n + 2 from by omega, pw_add a (2 * n) 2]
    rw [show pw a 2 = mul a a from by rw [pw, pw_one]]
theorem pw255 (a : UInt8) : a ≠ 0 → pw a 255 = 1 := by
  have sq : ∀ n, pw a (2 * n) = mul (pw a n) (pw a n) := fun n => by rw [show 2 * n = n + n from by omega, pw_add]
  have step : pw a 255 = (let b := mul (mul a a) a; let c := mul b b; let c := mul c c; let d := mul c b; let e := mul d d; let e := mul e e; let e := mul e e; let e := mul e e; mul e d) := by
    have h3 : pw a 3 = mul (mul a a) a := by rw [pw, pw, pw_one]
    have h15 : pw a 15 = mul (pw a 12) (pw a 3) := by rw [← pw_add]
    have h255 : pw a 255 = mul (pw a 240) (pw a 15) := by rw [← pw_add]
    rw [h255, show 240 = 2 * 120 from rfl, sq, show 120 = 2 * 60 from rfl, sq, show 60 = 2 * 30 from rfl, sq, show 30 = 2 * 15 from rfl, sq, h15, show 12 = 2 * 6 from rfl, sq, show 6 = 2 * 3 from rfl, sq, h3]
  rw [step]
  clear step sq
  revert a
  exact all8 (p := fun a => a ≠ 0 → (let b := mul (mul a a) a; let c := mul b b; let c := mul c c; let d := mul c b; let e := mul d d; let e := mul e e; let e := mul e e; let e := mul e e; mul e d) = 1) (by decide +kernel)
theorem pw_mod (a : UInt8) (h : a ≠ 0) (n : Nat) : pw a n = pw a (n % 255) := by
  have hq : ∀ q, pw a (255 * q) = 1 := by
    intro q
    induction q with
    | zero => rfl
    | succ q ih => rw [Nat.mul_succ, pw_add, ih, pw255 a h, mul_one]
  conv => lhs; rw [← Nat.div_add_mod n 255, pw_add, hq, one_mul]
/-- What times a number is 1. -/
def inv (a : UInt8) : UInt8 := pw a 254
theorem mul_inv (a : UInt8) (h : a ≠ 0) : mul (inv a) a = 1 := by
  have := pw255 a h
  rwa [pw] at this
theorem inv_mul (a : UInt8) (h : a ≠ 0) : mul a (inv a) = 1 := by rw [mul_comm]; exact mul_inv a h
theorem mul_eq_zero {a b : UInt8} (h : mul a b = 0) : a = 0 ∨ b = 0 := by
  by_cases hb : b = 0
  · exact Or.inr hb
  · left
    have : mul (mul a b) (inv b) = a := by rw [mul_assoc, inv_mul b hb, mul_one]
    rw [← this, h, zero_mul]
theorem mul_cancel {a b c : UInt8} (hc : c ≠ 0) (h : mul a c = mul b c) : a = b := by
  have : mul (mul a c) (inv c) = mul (mul b c) (inv c) := by rw [h]
  rwa [mul_assoc, mul_assoc, inv_mul c hc, mul_one, mul_one] at this
theorem inv_ne (a : UInt8) (h : a ≠ 0) : inv a ≠ 0 := by
  intro e
  have := mul_inv a h
  rw [e, zero_mul] at this
  exact absurd this (by decide)
theorem pw_ne (a : UInt8) (h : a ≠ 0) : ∀ n, pw a n ≠ 0
  | 0 => by show (1 : UInt8) ≠ 0; decide
  | n + 1 => by
    intro e
    rw [pw] at e
    rcases mul_eq_zero e with e | e
    · exact pw_ne a h n e
    · exact h e
/-- A power of whatever number. -/
def pwZ (a : UInt8) (n : Int) : UInt8 := pw a (n % 255).toNat
theorem pwZ_add (a : UInt8) (h : a ≠ 0) (n m : Int) : mul (pwZ a n) (pwZ a m) = pwZ a (n + m) := by
  unfold pwZ
  rw [← pw_add, pw_mod a h ((n % 255).toNat + (m % 255).toNat)]
  congr 1
  omega
end Go.Proofs.Ytecpcocnoengiaa
/- The document's own product (as polynomials, then the rest by 11D) is the product. No program is named here. -/
namespace Go.Proofs.Ytecpcocnoengiaa
set_option linter.unusedSimpArgs false
set_option linter.unusedVariables false
open Go
/-- Doubled n times. -/
def dblN : Nat → UInt8 → UInt8
  | 0, a => a
  | n + 1, a => dblN n (dbl a)
theorem dblN_out : ∀ (n : Nat) (a : UInt8), dblN n (dbl a) = dbl (dblN n a)
  | 0, _ => rfl
  | n + 1, a => by rw [dblN, dblN_out n (dbl a), dblN]
/-- Bit number i. -/
def bitU (b : UInt8) (i : Nat) : Bool := b.toBitVec.getLsbD i
theorem bitU_shr (b : UInt8) (i : Nat) : bitU (b >>> 1) i = bitU b (i + 1) := by
  simp [bitU, Nat.add_comm]
/-- The first n bits of b, times a, the lowest first. -/
def mulS : Nat → UInt8 → UInt8 → UInt8
  | 0, _, _ => 0
  | n + 1, a, b => mulS n a b ^^^ (if bitU b n then dblN n a else 0)
theorem mulS_front : ∀ (n : Nat) (a b : UInt8), mulS (n + 1) a b = (if low b then a else 0) ^^^ mulS n (dbl a) (b >>> 1)
  | 0, a, b => by simp [mulS, dblN, bitU, low]
  | n + 1, a, b => by
    rw [mulS, mulS_front n a b, mulS, bitU_shr, UInt8.xor_assoc, dblN]
theorem mulS_eq : ∀ (n : Nat) (a b : UInt8), mulS n a b = mulF n a b
  | 0, _, _ => rfl
  | n + 1, a, b => by rw [mulS_front, mulS_eq n, mulF]
/-- What a polynomial of degree below n comes to. -/
def valS : Nat → BitVec 32 → UInt8
  | 0, _ => 0
  | k + 1, n => valS k n ^^^ (if n.getLsbD k then dblN k 1 else 0)
theorem valS_xor : ∀ (k : Nat) (n m : BitVec 32), valS k (n ^^^ m) = valS k n ^^^ valS k m
  | 0, _, _ => by simp [valS]
  | k + 1, n, m => by rw [valS, valS, valS, valS_xor k, BitVec.getLsbD_xor, sel_xor, xor_swap]
/-- A byte as 32 bits. -/
def w32 (a : UInt8) : BitVec 32 := BitVec.ofNat 32 a.toNat
theorem w32_toNat (a : UInt8) : (w32 a).toNat = a.toNat := by
  have := a.toNat_lt
  rw [w32, BitVec.toNat_ofNat, Nat.mod_eq_of_lt (by omega)]
theorem val_shl (i : Nat) (h : i < 8) (a : UInt8) : valS 15 (w32 a <<< i) = dblN i a := by
  have key : ∀ (i : Fin 8) (k : Fin 256), valS 15 (w32 (UInt8.ofNat k.val) <<< i.val) = dblN i.val (UInt8.ofNat k.val) := by decide +kernel
  have := key ⟨i, h⟩ ⟨a.toNat, a.toNat_lt⟩
  simpa using this
theorem val_small (a : UInt8) : valS 15 (w32 a) = a := by
  have := val_shl 0 (by omega) a
  rwa [show w32 a <<< 0 = w32 a from by simp, dblN] at this
theorem val_poly (k : Nat) (h : k < 7) : valS 15 (285#32 <<< k) = 0 := by
  have key : ∀ k : Fin 7, valS 15 (285#32 <<< k.val) = 0 := by decide +kernel
  exact key ⟨k, h⟩
theorem bit_mod (n : BitVec 32) (i : Nat) : n.getLsbD i = decide (n.toNat / 2 ^ i % 2 = 1) := by
  rw [BitVec.getLsbD, Nat.testBit_eq_decide_div_mod_eq]
theorem bitU_mod (b : UInt8) (i : Nat) : bitU b i = decide (b.toNat / 2 ^ i % 2 = 1) := by
  rw [bitU, BitVec.getLsbD, Nat.testBit_eq_decide_div_mod_eq]; rfl
theorem shl_small (a : UInt8) (i : Nat) (h : i < 8) : (w32 a <<< i).toNat = a.toNat * 2 ^ i := by
  rw [BitVec.toNat_shiftLeft, Nat.shiftLeft_eq, w32_toNat]
  have h1 := a.toNat_lt
  have h2 : 2 ^ i ≤ 2 ^ 7 := Nat.pow_le_pow_right (by omega) (by omega)
  have h3 : a.toNat * 2 ^ i ≤ 255 * 2 ^ 7 := Nat.mul_le_mul (by omega) h2
  exact Nat.mod_eq_of_lt (by omega)
theorem first_step (n : BitVec 32) (a b : UInt8) (i : Nat) (h : i < 8) (hn : n.toNat < 2 ^ 15) (hv : valS 15 n = mulS i a b) (hb : b.toNat / 2 ^ i % 2 = 1) :
    (n ^^^ w32 a <<< i).toNat < 2 ^ 15 ∧ valS 15 (n ^^^ w32 a <<< i) = mulS (i + 1) a b := by
  constructor
  · rw [BitVec.toNat_xor]
    apply Nat.xor_lt_two_pow hn
    rw [shl_small a i h]
    have h1 := a.toNat_lt
    have h2 : 2 ^ i ≤ 2 ^ 7 := Nat.pow_le_pow_right (by omega) (by omega)
    have h3 : a.toNat * 2 ^ i ≤ 255 * 2 ^ 7 := Nat.mul_le_mul (by omega) h2
    omega
  · rw [valS_xor, hv, val_shl i h, mulS, bitU_mod, decide_eq_true hb, if_pos rfl]
theorem first_skip (n : BitVec 32) (a b : UInt8) (i : Nat) (hv : valS 15 n = mulS i a b) (hb : ¬ b.toNat / 2 ^ i % 2 = 1) : valS 15 n = mulS (i + 1) a b := by
  rw [mulS, bitU_mod, decide_eq_false hb, hv]; simp
theorem poly_shl (k : Nat) (h : k < 7) : (285#32 <<< k).toNat = 285 * 2 ^ k := by
  have key : ∀ k : Fin 7, (285#32 <<< k.val).toNat = 285 * 2 ^ k.val := by decide +kernel
  exact key ⟨k, h⟩
theorem second_step (n : BitVec 32) (c : UInt8) (k : Nat) (h : k < 7) (hn : n.toNat < 2 ^ (k + 9)) (hv : valS 15 n = c) (hb : n.toNat / 2 ^ (k + 8) % 2 = 1) :
    (n ^^^ 285#32 <<< k).toNat < 2 ^ (k + 8) ∧ valS 15 (n ^^^ 285#32 <<< k) = c := by
  constructor
  · have tn : n.toNat.testBit (k + 8) = true := by rw [Nat.testBit_eq_decide_div_mod_eq]; simpa using hb
    have hp : (285#32 <<< k).toNat < 2 ^ (k + 9) := by
      rw [poly_shl k h, Nat.pow_add, Nat.mul_comm]
      exact Nat.mul_lt_mul_of_pos_left (by decide) (Nat.pow_pos (by omega))
    have tp : (285#32 <<< k).toNat.testBit (k + 8) = true := by
      have key : ∀ k : Fin 7, (285#32 <<< k.val).toNat.testBit (k.val + 8) = true := by decide +kernel
      exact key ⟨k, h⟩
    rw [BitVec.toNat_xor]
    apply Nat.lt_pow_two_of_testBit
    intro j hj
    rw [Nat.testBit_xor]
    by_cases e : j = k + 8
    · subst e; rw [tn, tp]; rfl
    · have hle : 2 ^ (k + 9) ≤ 2 ^ j := Nat.pow_le_pow_right (by omega) (by omega)
      rw [Nat.testBit_lt_two_pow (Nat.lt_of_lt_of_le hn hle), Nat.testBit_lt_two_pow (Nat.lt_of_lt_of_le hp hle)]; rfl
  · rw [valS_xor, hv, val_poly k h, UInt8.xor_zero]
theorem second_skip (n k : Nat) (hn : n < 2 ^ (k + 9)) (hb : ¬ n / 2 ^ (k + 8) % 2 = 1) : n < 2 ^ (k + 8) := by
  have h2 : n / 2 ^ (k + 8) < 2 := by
    rw [Nat.div_lt_iff_lt_mul (Nat.pow_pos (by omega)), Nat.mul_comm, ← Nat.pow_succ]; exact hn
  have h0 : n / 2 ^ (k + 8) = 0 := by
    clear hn
    generalize n / 2 ^ (k + 8) = q at *
    omega
  rcases Nat.div_eq_zero_iff.1 h0 with h | h
  · exact absurd h (Nat.ne_of_gt (Nat.pow_pos (by omega)))
  · exact h
theorem val_end (n : BitVec 32) (a b : UInt8) (hn : n.toNat < 2 ^ 8) (hv : valS 15 n = mulS 8 a b) : n.toNat = (mul a b).toNat := by
  have e : n = w32 (UInt8.ofNat n.toNat) := by
    apply BitVec.eq_of_toNat_eq
    rw [w32_toNat]
    simp; omega
  rw [mul, ← mulS_eq, ← hv, e, val_small, w32_toNat]
end Go.Proofs.Ytecpcocnoengiaa
/- The walks of package field's numbers: twice, Times, Plus, power, inverse, Over, Power. -/
namespace Go.Proofs.Ytecpcocnoengiaa
open Go.RowKit
set_option linter.unusedSimpArgs false
set_option linter.unusedVariables false
theorem ret_n {k : IntKind} {a b : Int} (h : a = b) : Ending.returned (.int k a) = .returned (.int k b) := by rw [h]
/-- A byte as a value. -/
abbrev c8 (x : UInt8) : Value := .int .u8 (x.toNat : Int)
theorem xor8 (x y : UInt8) : bits .xor .u8 (x.toNat : Int) (y.toNat : Int) = ((x ^^^ y).toNat : Int) := by
  rw [u8_xor_nat _ _ x.toNat_lt y.toNat_lt, UInt8.toNat_xor]
theorem low8 (x : UInt8) : bits .and .u8 (x.toNat : Int) 1 = ((x.toNat % 2 : Nat) : Int) := by
  have h : (1 : Int) = ((1 : Nat) : Int) := rfl
  rw [h, u8_and_nat _ _ x.toNat_lt (by omega), Nat.and_one_is_mod]
theorem top8 (x : UInt8) : bits .and .u8 (x.toNat : Int) 128 = if x.toBitVec.getLsbD 7 then 128 else 0 := by
  revert x
  exact all8 (by decide +kernel)
theorem dbl_out (x : UInt8) (h : x.toBitVec.getLsbD 7 = true) : bits .xor .u8 ((x.toNat : Int) * 2 % 256) 29 = ((dbl x).toNat : Int) := by
  revert x
  exact all8 (by decide +kernel)
theorem dbl_in (x : UInt8) (h : x.toBitVec.getLsbD 7 = false) : (x.toNat : Int) * 2 % 256 = ((dbl x).toNat : Int) := by
  revert x
  exact all8 (by decide +kernel)
set_option maxHeartbeats 400000 in
theorem twice_any (a : UInt8) (w : World) :
    Calls Try.prog 43 #[c8 a] w fun e w' => e = .returned (c8 (dbl a)) ∧ w' = w := by
  have ha := a.toNat_lt
  have h7 := top8 a
  have HO := dbl_out a
  have HI := dbl_in a
  cases hb : a.toBitVec.getLsbD 7
  · have h8 : bits .and .u8 (a.toNat : Int) 128 = 0 := by rw [h7, hb]; rfl
    have HE : Hid ((a.toNat : Int) * 2 % 256 = ((dbl a).toNat : Int)) := HI hb
    clear h7 HO HI hb
    go_enter Try.func43, Try.ntmps43
    go_wp2
    go_ret
    exact ⟨ret_n HE.out, rfl⟩
  · have h8 : bits .and .u8 (a.toNat : Int) 128 = 128 := by rw [h7, hb]; rfl
    have HE : Hid (bits .xor .u8 ((a.toNat : Int) * 2 % 256) 29 = ((dbl a).toNat : Int)) := HO hb
    clear h7 HO HI hb
    go_enter Try.func43, Try.ntmps43
    go_wp2
    go_ret
    exact ⟨ret_n HE.out, rfl⟩
theorem plus_any (a b : UInt8) (w : World) :
    Calls Try.prog 30 #[c8 a, c8 b] w fun e w' => e = .returned (c8 (a ^^^ b)) ∧ w' = w := by
  have ha := a.toNat_lt
  have hb := b.toNat_lt
  go_enter Try.func30, Try.ntmps30
  go_wp2
  go_ret
  exact ⟨ret_n (xor8 a b), rfl⟩
theorem shr8 (y : UInt8) : (y.toNat : Int) / (2 : Int) = ((y >>> 1).toNat : Int) := by rw [shr_toNat]; omega
theorem xor_sel (a b c : UInt8) (q : Bool) (h : low b = q) (n : Nat) (x : UInt8) : c ^^^ mulF (n + 1) x b = (c ^^^ (if q then x else 0)) ^^^ mulF n (dbl x) (b >>> 1) := by
  rw [mulF, h, UInt8.xor_assoc]
set_option maxHeartbeats 400000 in
theorem times_any (a b : UInt8) (w : World) :
    Calls Try.prog 40 #[c8 a, c8 b] w fun e w' => e = .returned (c8 (mul a b)) ∧ w' = w := by
  go_enter Try.func40, Try.ntmps40
  go_wp2
  go_loop [0, 1, 5] (fun t0 t1 t5 => ∃ (n : Nat) (x y p : UInt8), y.toNat < 2 ^ n ∧ t0 = c8 x ∧ t1 = c8 y ∧ t5 = c8 p ∧ Hid (mul a b = p ^^^ mulF n x y)) (fun _ t1 _ => (intOf t1).toNat)
  case atStart => exact ⟨8, a, b, 0, b.toNat_lt, rfl, rfl, rfl, by show mul a b = _; rw [UInt8.zero_xor]; rfl⟩
  case round =>
    obtain ⟨n, x, y, p, hy, rfl, rfl, rfl, HM⟩ := hrel
    have hx8 := x.toNat_lt
    have hy8 := y.toNat_lt
    have hp8 := p.toNat_lt
    have HS := shr8 y
    by_cases h0 : y.toNat = 0
    · have h0' : (((y.toNat : Int)) == 0) = true := by rw [beq_iff_eq]; omega
      have hy0 : y = 0 := UInt8.toNat_inj.1 (by simpa using h0)
      have HE : Hid (mul a b = p) := by
        show mul a b = p
        rw [HM.out, hy0, mulF_zero, UInt8.xor_zero]
      clear HM hy HS hy0 h0
      go_wp2
      go_ret
      exact ⟨ret_n (by rw [HE.out]), rfl⟩
    · have h0' : (((y.toNat : Int)) == 0) = false := by rw [beq_eq_false_iff_ne]; omega
      obtain ⟨m, rfl⟩ : ∃ m, n = m + 1 := by
        cases n with
        | zero => rw [Nat.pow_zero] at hy; omega
        | succ m => exact ⟨m, rfl⟩
      have hs := shr_toNat y
      have hy2 : (y >>> 1).toNat < 2 ^ m := by
        rw [hs, Nat.div_lt_iff_lt_mul (by omega), ← Nat.pow_succ]; exact hy
      have hl := low_toNat y
      have hb := low8 y
      have HS2 : Hid ((y.toNat : Int) / (2 : Int) = ((y >>> 1).toNat : Int)) := HS
      have HS3 : Hid ((y >>> 1).toNat = y.toNat / 2) := hs
      by_cases ho : y.toNat % 2 = 1
      · have hb1 : bits .and .u8 (y.toNat : Int) 1 = 1 := by rw [hb, ho]; rfl
        have HN : Hid (mul a b = (p ^^^ x) ^^^ mulF m (dbl x) (y >>> 1)) := by
          show mul a b = _
          rw [HM.out, xor_sel a y p true (by rw [hl]; simp [ho]) m x, if_pos rfl]
        clear HS hs hl hb ho HM hy
        go_wp2_with (go_at_call 43; refine (twice_any x _).mono ?_; rintro e w' ⟨rfl, rfl⟩)
        go_round
        case rel => exact ⟨m, dbl x, y >>> 1, p ^^^ x, hy2, rfl, by rw [HS2.out], by rw [xor8], HN.out⟩
        case measure => have := HS3.out; simp [intOf]; omega
      · have hb1 : bits .and .u8 (y.toNat : Int) 1 = 0 := by rw [hb, show y.toNat % 2 = 0 from by omega]; rfl
        have HN : Hid (mul a b = p ^^^ mulF m (dbl x) (y >>> 1)) := by
          show mul a b = _
          rw [HM.out, xor_sel a y p false (by rw [hl]; simp [ho]) m x]; simp
        clear HS hs hl hb ho HM hy
        go_wp2_with (go_at_call 43; refine (twice_any x _).mono ?_; rintro e w' ⟨rfl, rfl⟩)
        go_round
        case rel => exact ⟨m, dbl x, y >>> 1, p, hy2, rfl, by rw [HS2.out], rfl, HN.out⟩
        case measure => have := HS3.out; simp [intOf]; omega
end Go.Proofs.Ytecpcocnoengiaa
/- The walks of package field's powers: power, inverse, Over, Power. -/
namespace Go.Proofs.Ytecpcocnoengiaa
open Go.RowKit
set_option linter.unusedSimpArgs false
set_option linter.unusedVariables false
theorem and1_64 (n : Nat) (h : n < 255) : bits .and .i64 (n : Int) 1 = ((n % 2 : Nat) : Int) := by
  have key : ∀ k : Fin 255, bits .and .i64 (k.val : Int) 1 = ((k.val % 2 : Nat) : Int) := by decide +kernel
  exact key ⟨n, h⟩
theorem pow_odd (p x : UInt8) (n : Nat) (h : n % 2 = 1) : mul p (pw x n) = mul (mul p x) (pw (mul x x) (n / 2)) := by
  rw [pw_sq, mul_assoc]
  conv => lhs; rw [show n = 1 + 2 * (n / 2) from by omega, pw_add, pw_one]
theorem pow_even (p x : UInt8) (n : Nat) (h : ¬ n % 2 = 1) : mul p (pw x n) = mul p (pw (mul x x) (n / 2)) := by
  rw [pw_sq, show 2 * (n / 2) = n from by omega]
/-- What the loop of power keeps. -/
def PwR (a : UInt8) (n : Int) (t0 t1 t5 : Value) : Prop := ∃ (x p : UInt8) (k : Nat), k < 255 ∧ t0 = c8 x ∧ t1 = .int .i64 k ∧ t5 = c8 p ∧ Hid (pwZ a n = mul p (pw x k))
set_option maxHeartbeats 1000000 in
theorem power_any (a : UInt8) (n : Int) (w : World) (h1 : -9223372036854775808 ≤ n) (h2 : n ≤ 9223372036854775807) :
    Calls Try.prog 41 #[c8 a, .int .i64 n] w fun e w' => e = .returned (c8 (pwZ a n)) ∧ w' = w := by
  obtain ⟨t, ht⟩ : ∃ t, n.tmod 255 = t := ⟨_, rfl⟩
  obtain ⟨k, hk255, hk⟩ : ∃ k : Nat, k < 255 ∧ (n % 255).toNat = k := ⟨_, by omega, rfl⟩
  have hz : pwZ a n = pw a k := by rw [pwZ, hk]
  have HZ : Hid (pwZ a n = mul 1 (pw a k)) := by show pwZ a n = _; rw [hz, one_mul]
  have hcase : (0 ≤ t ∧ t = (k : Int)) ∨ (t < 0 ∧ t + 255 = (k : Int)) := by
    rcases Int.lt_or_le n 0 with hn | hn
    · have e : n.tmod 255 = -((-n) % 255) := by
        have := Int.neg_tmod (-n) 255
        rw [Int.neg_neg] at this
        rw [this, Int.tmod_eq_emod_of_nonneg (by omega)]
      omega
    · rw [Int.tmod_eq_emod_of_nonneg hn] at ht
      omega
  clear hz hk h1 h2
  rcases hcase with ⟨h0, hk⟩ | ⟨h0, hk⟩
  · subst hk
    go_enter Try.func41, Try.ntmps41
    go_wp2_with fail
    go_loop [0, 1, 5] (fun t0 t1 t5 => PwR a n t0 t1 t5) (fun _ t1 _ => (intOf t1).toNat)
    case atStart => exact ⟨a, 1, k, hk255, rfl, rfl, rfl, HZ.out⟩
    case round =>
      obtain ⟨x, p, m, hm, rfl, rfl, rfl, HP⟩ := hrel
      clear ht h0
      have HB : Hid (bits .and .i64 (m : Int) 1 = ((m % 2 : Nat) : Int)) := and1_64 m hm
      by_cases hm0 : m = 0
      · subst hm0
        have HE : Hid (pwZ a n = p) := by show pwZ a n = p; rw [HP.out, pw, mul_one]
        clear HP HZ
        go_wp2
        go_ret
        exact ⟨ret_n (by rw [HE.out]), rfl⟩
      · have h0' : ((m : Int) == 0) = false := by rw [beq_eq_false_iff_ne]; omega
        by_cases ho : m % 2 = 1
        · have hb1 : bits .and .i64 (m : Int) 1 = 1 := by rw [HB.out, ho]; rfl
          have HN : Hid (pwZ a n = mul (mul p x) (pw (mul x x) (m / 2))) := by show pwZ a n = _; rw [HP.out, pow_odd p x m ho]
          clear HP HZ HB ho
          go_wp2_with fail
          refine (times_any p x _).mono ?_
          rintro e w1 ⟨rfl, hw⟩
          subst hw
          go_wp2_with fail
          refine (times_any x x _).mono ?_
          rintro e w1 ⟨rfl, hw⟩
          subst hw
          go_wp2
          go_round
          case rel => exact ⟨mul x x, mul p x, m / 2, by omega, rfl, by go_num, rfl, HN.out⟩
          case measure => simp [intOf]; omega
        · have hb1 : bits .and .i64 (m : Int) 1 = 0 := by rw [HB.out, show m % 2 = 0 from by omega]; rfl
          have HN : Hid (pwZ a n = mul p (pw (mul x x) (m / 2))) := by show pwZ a n = _; rw [HP.out, pow_even p x m ho]
          clear HP HZ HB ho
          go_wp2_with fail
          refine (times_any x x _).mono ?_
          rintro e w1 ⟨rfl, hw⟩
          subst hw
          go_wp2
          go_round
          case rel => exact ⟨mul x x, p, m / 2, by omega, rfl, by go_num, rfl, HN.out⟩
          case measure => simp [intOf]; omega
  · go_enter Try.func41, Try.ntmps41
    go_wp2_with fail
    go_loop [0, 1, 5] (fun t0 t1 t5 => PwR a n t0 t1 t5) (fun _ t1 _ => (intOf t1).toNat)
    case atStart => exact ⟨a, 1, k, hk255, rfl, rfl, rfl, HZ.out⟩
    case round =>
      obtain ⟨x, p, m, hm, rfl, rfl, rfl, HP⟩ := hrel
      clear ht h0 hk
      have HB : Hid (bits .and .i64 (m : Int) 1 = ((m % 2 : Nat) : Int)) := and1_64 m hm
      by_cases hm0 : m = 0
      · subst hm0
        have HE : Hid (pwZ a n = p) := by show pwZ a n = p; rw [HP.out, pw, mul_one]
        clear HP HZ
        go_wp2
        go_ret
        exact ⟨ret_n (by rw [HE.out]), rfl⟩
      · have h0' : ((m : Int) == 0) = false := by rw [beq_eq_false_iff_ne]; omega
        by_cases ho : m % 2 = 1
        · have hb1 : bits .and .i64 (m : Int) 1 = 1 := by rw [HB.out, ho]; rfl
          have HN : Hid (pwZ a n = mul (mul p x) (pw (mul x x) (m / 2))) := by show pwZ a n = _; rw [HP.out, pow_odd p x m ho]
          clear HP HZ HB ho
          go_wp2_with fail
          refine (times_any p x _).mono ?_
          rintro e w1 ⟨rfl, hw⟩
          subst hw
          go_wp2_with fail
          refine (times_any x x _).mono ?_
          rintro e w1 ⟨rfl, hw⟩
          subst hw
          go_wp2
          go_round
          case rel => exact ⟨mul x x, mul p x, m / 2, by omega, rfl, by go_num, rfl, HN.out⟩
          case measure => simp [intOf]; omega
        · have hb1 : bits .and .i64 (m : Int) 1 = 0 := by rw [HB.out, show m % 2 = 0 from by omega]; rfl
          have HN : Hid (pwZ a n = mul p (pw (mul x x) (m / 2))) := by show pwZ a n = _; rw [HP.out, pow_even p x m ho]
          clear HP HZ HB ho
          go_wp2_with fail
          refine (times_any x x _).mono ?_
          rintro e w1 ⟨rfl, hw⟩
          subst hw
          go_wp2
          go_round
          case rel => exact ⟨mul x x, p, m / 2, by omega, rfl, by go_num, rfl, HN.out⟩
          case measure => simp [intOf]; omega
theorem inverse_any (a : UInt8) (w : World) :
    Calls Try.prog 32 #[c8 a] w fun e w' => e = .returned (c8 (inv a)) ∧ w' = w := by
  go_enter Try.func32, Try.ntmps32
  go_wp2_with (go_at_call 41; refine (power_any a (-1) _ (by omega) (by omega)).mono ?_; rintro e w' ⟨rfl, rfl⟩)
  go_ret
  exact ⟨rfl, rfl⟩
/-- What Over answers. -/
def ovV (a b : UInt8) : UInt8 := if b = 0 then 0 else mul a (inv b)
def ovE (b : UInt8) : Nat := if b = 0 then 1 else 0
/-- What Power answers. -/
def poV (a : UInt8) (n : Int) : UInt8 := if a = 0 then (if n = 0 then 1 else 0) else pwZ a n
def poE (a : UInt8) (n : Int) : Nat := if a = 0 ∧ n < 0 then 1 else 0
end Go.Proofs.Ytecpcocnoengiaa
/- A block of the call's own, by its cells; rows stored into it and read out of it at any place. No program is named here. -/
namespace Go.Proofs.Ytecpcocnoengiaa
open Go.RowKit
set_option linter.unusedSimpArgs false
set_option linter.unusedVariables false
/-- A block's cells. -/
abbrev Bk (w : World) (b : Nat) (C : Array Value) (T : TypeId) : Prop := w.heap[b]? = some (.cells C T (0, 0))
theorem Bk.cell {w : World} {b : Nat} {C : Array Value} {T : TypeId} (h : Bk w b C T) (j : Nat) : w.cell? ⟨b, j, none⟩ = C[j]? := cell_of_row w b j C T (0, 0) h
theorem Bk.frozen {w : World} {b : Nat} {C : Array Value} {T : TypeId} (h : Bk w b C T) (j : Nat) : w.frozen? ⟨b, j, none⟩ = false := frozen_of_row w b j C T h
theorem Bk.set {w : World} {b : Nat} {C : Array Value} {T : TypeId} (h : Bk w b C T) (i : Nat) (v : Value) : Bk (w.setCell ⟨b, i, none⟩ v) b (C.setIfInBounds i v) T := Joins.block_setCell h v
theorem Bk.lt {w : World} {b : Nat} {C : Array Value} {T : TypeId} (h : Bk w b C T) : b < w.heap.size := by
  by_cases e : b < w.heap.size
  · exact e
  · unfold Bk at h; rw [Array.getElem?_eq_none (by omega)] at h; cases h
theorem Bk.grown {w w' : World} {b : Nat} {C : Array Value} {T : TypeId} {r : Option Nat} (h : Bk w b C T) (hg : w.grownBy w' r) (hr : r ≠ some b) : Bk w' b C T := by
  have hlt := h.lt
  unfold Bk
  rw [hg.block b hlt (fun e => hr e.symm)]
  exact h
theorem Bk.below {w w' : World} {b n : Nat} {C : Array Value} {T : TypeId} (h : Bk w b C T) (hb : Below n w w') (hn : b < n) : Bk w' b C T := by
  unfold Bk
  rw [hb.block b hn]
  exact h
theorem Bk.alloc {w : World} {b : Nat} {C : Array Value} {T : TypeId} (h : Bk w b C T) (o : Obj) : Bk (w.alloc o) b C T := h.grown (World.grownBy_alloc w o none) (by simp)
theorem Bk.drewN {w : World} {b : Nat} {C : Array Value} {T : TypeId} (h : Bk w b C T) (n : Nat) : Bk (w.drewN n) b C T := h
theorem bk_new (w : World) (C : Array Value) (T : TypeId) : Bk (w.alloc (.cells C T)) w.heap.size C T := by
  show (w.heap.push _)[w.heap.size]? = some _
  simp
theorem al_size (w : World) (o : Obj) : (w.alloc o).heap.size = w.heap.size + 1 := by
  show (w.heap.push o).size = _
  simp
theorem gr_of_below {w w' : World} (h : Below w.heap.size w w') (r : Option Nat) : w.grownBy w' r := ⟨h.os, h.tape, h.output, h.size, fun i hi _ => h.block i hi⟩
theorem below_of_gr {w w' : World} (h : w.grownBy w' none) : Below w.heap.size w w' := ⟨h.os, h.tape, h.output, h.size, fun i hi => h.block i hi (by simp)⟩
theorem gr_drewN (w : World) (n : Nat) (r : Option Nat) : w.grownBy (w.drewN n) r := by
  induction n with
  | zero => exact World.grownBy.refl w r
  | succ n ih => exact Lib.Hx.grownBy_drew ih
theorem below_own {B b : Nat} {w wr w1 : World} (hb : Below B w wr) (hz : B ≤ wr.heap.size) (hg : wr.grownBy w1 (some b)) (hB : B ≤ b) : Below B w w1 :=
  hb.grown hg hz (fun k hk => by cases hk; exact hB)
theorem below_drewN {B : Nat} {w wr : World} (hb : Below B w wr) (n : Nat) : Below B w (wr.drewN n) := by
  induction n with
  | zero => exact hb
  | succ n ih => exact ih.drew
/-- Cells laid over others from a place on. -/
def putC (C : Array Value) (o : Nat) : List Value → Array Value
  | [] => C
  | v :: r => putC (C.setIfInBounds o v) (o + 1) r
theorem Bk.puts {b : Nat} {T : TypeId} : ∀ (vs : List Value) (o : Nat) (C : Array Value) (w : World), Bk w b C T → Bk (w.setCells b o vs) b (putC C o vs) T
  | [], _, _, _, h => h
  | v :: r, o, C, w, h => by
    rw [World.setCells, putC]
    exact Bk.puts r (o + 1) _ _ (h.set o v)
theorem gr_puts (b : Nat) : ∀ (vs : List Value) (o : Nat) {a w : World}, a.grownBy w (some b) → a.grownBy (w.setCells b o vs) (some b)
  | [], _, _, _, h => h
  | v :: r, o, a, w, h => by rw [World.setCells]; exact gr_puts b r (o + 1) (Lib.grownBy_setB h o v)
theorem putC_size : ∀ (vs : List Value) (o : Nat) (C : Array Value), (putC C o vs).size = C.size
  | [], _, _ => rfl
  | v :: r, o, C => by rw [putC, putC_size r, Array.size_setIfInBounds]
theorem putC_get : ∀ (vs : List Value) (o : Nat) (C : Array Value) (i : Nat), o + vs.length ≤ C.size → (putC C o vs)[i]? = if o ≤ i ∧ i < o + vs.length then vs[i - o]? else C[i]?
  | [], o, C, i, _ => by rw [putC, if_neg (by simp)]
  | v :: r, o, C, i, h => by
    simp only [List.length_cons] at h
    rw [putC, putC_get r (o + 1) _ i (by rw [Array.size_setIfInBounds]; omega), Array.getElem?_setIfInBounds]
    by_cases e : o = i
    · subst e
      rw [if_neg (by omega), if_pos rfl, if_pos (by omega), if_pos (by simp), Nat.sub_self]; rfl
    · by_cases e2 : o + 1 ≤ i ∧ i < o + 1 + r.length
      · rw [if_pos e2, if_pos (by simp; omega)]
        rw [show i - o = (i - (o + 1)) + 1 from by omega, List.getElem?_cons_succ]
      · rw [if_neg e2, if_neg e, if_neg (by simp; omega)]
theorem setCells_size (b : Nat) : ∀ (vs : List Value) (o : Nat) (w : World), (w.setCells b o vs).heap.size = w.heap.size
  | [], _, _ => rfl
  | v :: r, o, w => by
    rw [World.setCells, setCells_size b r]
    simp [World.setCell]
theorem Bk.there {w : World} {b : Nat} {C : Array Value} {T : TypeId} (h : Bk w b C T) (o n : Nat) (hn : o + n ≤ C.size) : w.there b o n := fun j hj =>
  ⟨by rw [h.cell, Array.getElem?_eq_getElem (by omega)]; rfl, h.frozen _⟩
/-- The store of many cells into a block: the world behind it is a letter. -/
theorem wpList_put {P : Program} {ops : Array Oper} {rest : List Oper} {op : Oper} {a : Act} {w : World} {Q : Exit → Act → World → Prop} (hgd : op.guard = none) (ty : TypeId) (x y : Operand) (ho : op.op = .store ty x y)
    (b o : Nat) (C cells : Array Value) (T : TypeId) (hx : a.eval x = .pointer (some ⟨b, o, none⟩)) (hy : a.eval y = .agg cells)
    (hB : Bk w b C T) (hi : (P.info? ty).map (·.size) = some cells.size) (hn : o + cells.size ≤ C.size) (h1 : cells.all (·.oneCell') = true)
    (h : ∀ w', Hid (Bk w' b (putC C o cells.toList) T) → Hid (w.grownBy w' (some b)) → w'.heap.size = w.heap.size → wpList P ops Q rest (a.put op.dst undef) w') : wpList P ops Q (op :: rest) a w :=
  wpList_store_mid hgd ty x y ho b o cells hx hy (hB.there o _ hn) hi h1
    (h _ (Bk.puts _ _ _ _ hB) (gr_puts b _ _ (World.grownBy.refl _ _)) (setCells_size b _ _ _))
/-- The load of many cells out of a block. -/
theorem wpList_get {P : Program} {ops : Array Oper} {rest : List Oper} {op : Oper} {a : Act} {w : World} {Q : Exit → Act → World → Prop} (hgd : op.guard = none) (ty : TypeId) (x : Operand) (ho : op.op = .load ty x)
    (b o : Nat) (C cells : Array Value) (T : TypeId) (d : TypeDesc) (hx : a.eval x = .pointer (some ⟨b, o, none⟩))
    (hB : Bk w b C T) (hc : ∀ j v, cells[j]? = some v → C[o + j]? = some v) (hu : P.underlying ty = some d) (hd : d.isRow = true) (hi : (P.info? ty).map (·.size) = some cells.size)
    (h : wpList P ops Q rest (a.put op.dst (.agg cells)) w) : wpList P ops Q (op :: rest) a w :=
  wpList_load_mid hgd ty x ho b o hx cells.toList d (fun j v hv => by rw [hB.cell]; exact hc j v (by rwa [Array.getElem?_toList] at hv)) hu hd (by rw [hi]; simp) h
end Go.Proofs.Ytecpcocnoengiaa
/- Texts of a slice, as they lie in memory. No program is named here. -/
namespace Go.Proofs.Ytecpcocnoengiaa
open Go.RowKit
set_option linter.unusedSimpArgs false
set_option linter.unusedVariables false
/-- The texts of a slice. -/
def TxL (w : World) (a : Option Addr) (xs : List ByteArray) : Prop :=
  ∀ i x, xs[i]? = some x → ∃ g o, a = some ⟨g, o, none⟩ ∧ g < w.heap.size ∧ w.cell? ⟨g, o + i, none⟩ = some (.string x)
theorem TxL.below {w w' : World} {a : Option Addr} {xs : List ByteArray} (h : TxL w a xs) (hb : Below w.heap.size w w') : TxL w' a xs := by
  intro i x hx
  obtain ⟨g, o, e, hg, hc⟩ := h i x hx
  exact ⟨g, o, e, Nat.lt_of_lt_of_le hg hb.size, by rw [hb.cell (p := ⟨g, o + i, none⟩) hg]; exact hc⟩
theorem TxL.drewN {w : World} {a : Option Addr} {xs : List ByteArray} (h : TxL w a xs) (n : Nat) : TxL (w.drewN n) a xs := h.below (below_drewN (Below.refl _ _) n)
theorem TxL.alloc {w : World} {a : Option Addr} {xs : List ByteArray} (h : TxL w a xs) (o : Obj) : TxL (w.alloc o) a xs := h.below ((Below.refl _ _).alloc (Nat.le_refl _) _)
/-- Texts as cells. -/
def txc (xs : List ByteArray) : Array Value := (xs.map fun x => Value.string x).toArray
theorem txc_size (xs : List ByteArray) : (txc xs).size = xs.length := by simp [txc]
theorem txc_get (xs : List ByteArray) (i : Nat) : (txc xs)[i]? = (xs[i]?).map fun x => Value.string x := by simp [txc]
theorem txc_set (xs : List ByteArray) (i : Nat) (x : ByteArray) : (txc xs).setIfInBounds i (.string x) = txc (xs.set i x) := by
  simp only [txc, List.setIfInBounds_toArray, List.map_set]
theorem Bk.txl {w : World} {b : Nat} {T : TypeId} {xs : List ByteArray} (h : Bk w b (txc xs) T) : TxL w (some ⟨b, 0, none⟩) xs := by
  intro i x hx
  exact ⟨b, 0, rfl, h.lt, by rw [Nat.zero_add, h.cell, txc_get, hx]; rfl⟩
theorem str_ne (x y : ByteArray) : (x.toList != y.toList) = !decide (x = y) := by
  rw [Lib.toList_data, Lib.toList_data]
  by_cases h : x = y
  · subst h; simp
  · have : x.data.toList ≠ y.data.toList := fun e => h (by cases x; cases y; simp at e; simp [e])
    simp [h, this]
end Go.Proofs.Ytecpcocnoengiaa
