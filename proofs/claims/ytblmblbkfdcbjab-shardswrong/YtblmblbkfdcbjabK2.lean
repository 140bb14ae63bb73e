/- The document's own product (as polynomials, then the rest by 11D) is the product. No program is named here. -/
import Derived.Test.YtblmblbkfdcbjabK1
namespace Go.Proofs.Ytblmblbkfdcbjab
set_option linter.unusedSimpArgs false
set_option linter.unusedVariables false
open Go
/-- Doubled n times. -/
def dblN : Nat → UInt8 → UInt8
  | 0, a => a
  | n + 1, a => dblN n (dbl a)
theorem dblN_out : ∀ (n : Nat) (a : UInt8), dblN n (dbl a) = dbl (dblN n a)
  | 0, _ => rfl
  | n + 1, a => by rw [dblN, dblN_out n (dbl a), dblN]
/-- Bit number i. -/
def bitU (b : UInt8) (i : Nat) : Bool := b.toBitVec.getLsbD i
theorem bitU_shr (b : UInt8) (i : Nat) : bitU (b >>> 1) i = bitU b (i + 1) := by
  simp [bitU, Nat.add_comm]
/-- The first n bits of b, times a, the lowest first. -/
def mulS : Nat → UInt8 → UInt8 → UInt8
  | 0, _, _ => 0
  | n + 1, a, b => mulS n a b ^^^ (if bitU b n then dblN n a else 0)
theorem mulS_front : ∀ (n : Nat) (a b : UInt8), mulS (n + 1) a b = (if low b then a else 0) ^^^ mulS n (dbl a) (b >>> 1)
  | 0, a, b => by simp [mulS, dblN, bitU, low]
  | n + 1, a, b => by
    rw [mulS, mulS_front n a b, mulS, bitU_shr, UInt8.xor_assoc, dblN]
theorem mulS_eq : ∀ (n : Nat) (a b : UInt8), mulS n a b = mulF n a b
  | 0, _, _ => rfl
  | n + 1, a, b => by rw [mulS_front, mulS_eq n, mulF]
/-- What a polynomial of degree below n comes to. -/
def valS : Nat → BitVec 32 → UInt8
  | 0, _ => 0
  | k + 1, n => valS k n ^^^ (if n.getLsbD k then dblN k 1 else 0)
theorem valS_xor : ∀ (k : Nat) (n m : BitVec 32), valS k (n ^^^ m) = valS k n ^^^ valS k m
  | 0, _, _ => by simp [valS]
  | k + 1, n, m => by rw [valS, valS, valS, valS_xor k, BitVec.getLsbD_xor, sel_xor, xor_swap]
/-- A byte as 32 bits. -/
def w32 (a : UInt8) : BitVec 32 := BitVec.ofNat 32 a.toNat
theorem w32_toNat (a : UInt8) : (w32 a).toNat = a.toNat := by
  have := a.toNat_lt
  rw [w32, BitVec.toNat_ofNat, Nat.mod_eq_of_lt (by omega)]
theorem val_shl (i : Nat) (h : i < 8) (a : UInt8) : valS 15 (w32 a <<< i) = dblN i a := by
  have key : ∀ (i : Fin 8) (k : Fin 256), valS 15 (w32 (UInt8.ofNat k.val) <<< i.val) = dblN i.val (UInt8.ofNat k.val) := by decide +kernel
  have := key ⟨i, h⟩ ⟨a.toNat, a.toNat_lt⟩
  simpa using this
theorem val_small (a : UInt8) : valS 15 (w32 a) = a := by
  have := val_shl 0 (by omega) a
  rwa [show w32 a <<< 0 = w32 a from by simp, dblN] at this
theorem val_poly (k : Nat) (h : k < 7) : valS 15 (285#32 <<< k) = 0 := by
  have key : ∀ k : Fin 7, valS 15 (285#32 <<< k.val) = 0 := by decide +kernel
  exact key ⟨k, h⟩
theorem bit_mod (n : BitVec 32) (i : Nat) : n.getLsbD i = decide (n.toNat / 2 ^ i % 2 = 1) := by
  rw [BitVec.getLsbD, Nat.testBit_eq_decide_div_mod_eq]
theorem bitU_mod (b : UInt8) (i : Nat) : bitU b i = decide (b.toNat / 2 ^ i % 2 = 1) := by
  rw [bitU, BitVec.getLsbD, Nat.testBit_eq_decide_div_mod_eq]; rfl
theorem shl_small (a : UInt8) (i : Nat) (h : i < 8) : (w32 a <<< i).toNat = a.toNat * 2 ^ i := by
  rw [BitVec.toNat_shiftLeft, Nat.shiftLeft_eq, w32_toNat]
  have h1 := a.toNat_lt
  have h2 : 2 ^ i ≤ 2 ^ 7 := Nat.pow_le_pow_right (by omega) (by omega)
  have h3 : a.toNat * 2 ^ i ≤ 255 * 2 ^ 7 := Nat.mul_le_mul (by omega) h2
  exact Nat.mod_eq_of_lt (by omega)
theorem first_step (n : BitVec 32) (a b : UInt8) (i : Nat) (h : i < 8) (hn : n.toNat < 2 ^ 15) (hv : valS 15 n = mulS i a b) (hb : b.toNat / 2 ^ i % 2 = 1) :
    (n ^^^ w32 a <<< i).toNat < 2 ^ 15 ∧ valS 15 (n ^^^ w32 a <<< i) = mulS (i + 1) a b := by
  constructor
  · rw [BitVec.toNat_xor]
    apply Nat.xor_lt_two_pow hn
    rw [shl_small a i h]
    have h1 := a.toNat_lt
    have h2 : 2 ^ i ≤ 2 ^ 7 := Nat.pow_le_pow_right (by omega) (by omega)
    have h3 : a.toNat * 2 ^ i ≤ 255 * 2 ^ 7 := Nat.mul_le_mul (by omega) h2
    omega
  · rw [valS_xor, hv, val_shl i h, mulS, bitU_mod, decide_eq_true hb, if_pos rfl]
theorem first_skip (n : BitVec 32) (a b : UInt8) (i : Nat) (hv : valS 15 n = mulS i a b) (hb : ¬ b.toNat / 2 ^ i % 2 = 1) : valS 15 n = mulS (i + 1) a b := by
  rw [mulS, bitU_mod, decide_eq_false hb, hv]; simp
theorem poly_shl (k : Nat) (h : k < 7) : (285#32 <<< k).toNat = 285 * 2 ^ k := by
  have key : ∀ k : Fin 7, (285#32 <<< k.val).toNat = 285 * 2 ^ k.val := by decide +kernel
  exact key ⟨k, h⟩
theorem second_step (n : BitVec 32) (c : UInt8) (k : Nat) (h : k < 7) (hn : n.toNat < 2 ^ (k + 9)) (hv : valS 15 n = c) (hb : n.toNat / 2 ^ (k + 8) % 2 = 1) :
    (n ^^^ 285#32 <<< k).toNat < 2 ^ (k + 8) ∧ valS 15 (n ^^^ 285#32 <<< k) = c := by
  constructor
  · have tn : n.toNat.testBit (k + 8) = true := by rw [Nat.testBit_eq_decide_div_mod_eq]; simpa using hb
    have hp : (285#32 <<< k).toNat < 2 ^ (k + 9) := by
      rw [poly_shl k h, Nat.pow_add, Nat.mul_comm]
      exact Nat.mul_lt_mul_of_pos_left (by decide) (Nat.pow_pos (by omega))
    have tp : (285#32 <<< k).toNat.testBit (k + 8) = true := by
      have key : ∀ k : Fin 7, (285#32 <<< k.val).toNat.testBit (k.val + 8) = true := by decide +kernel
      exact key ⟨k, h⟩
    rw [BitVec.toNat_xor]
    apply Nat.lt_pow_two_of_testBit
    intro j hj
    rw [Nat.testBit_xor]
    by_cases e : j = k + 8
    · subst e; rw [tn, tp]; rfl
    · have hle : 2 ^ (k + 9) ≤ 2 ^ j := Nat.pow_le_pow_right (by omega) (by omega)
      rw [Nat.testBit_lt_two_pow (Nat.lt_of_lt_of_le hn hle), Nat.testBit_lt_two_pow (Nat.lt_of_lt_of_le hp hle)]; rfl
  · rw [valS_xor, hv, val_poly k h, UInt8.xor_zero]
theorem second_skip (n k : Nat) (hn : n < 2 ^ (k + 9)) (hb : ¬ n / 2 ^ (k + 8) % 2 = 1) : n < 2 ^ (k + 8) := by
  have h2 : n / 2 ^ (k + 8) < 2 := by
    rw [Nat.div_lt_iff_lt_mul (Nat.pow_pos (by omega)), Nat.mul_comm, ← Nat.pow_succ]; exact hn
  have h0 : n / 2 ^ (k + 8) = 0 := by
    clear hn
    generalize n / 2 ^ (k + 8) = q at *
    omega
  rcases Nat.div_eq_zero_iff.1 h0 with h | h
  · exact absurd h (Nat.ne_of_gt (Nat.pow_pos (by omega)))
  · exact h
theorem val_end (n : BitVec 32) (a b : UInt8) (hn : n.toNat < 2 ^ 8) (hv : valS 15 n = mulS 8 a b) : n.toNat = (mul a b).toNat := by
  have e : n = w32 (UInt8.ofNat n.toNat) := by
    apply BitVec.eq_of_toNat_eq
    rw [w32_toNat]
    simp; omega
  rw [mul, ← mulS_eq, ← hv, e, val_small, w32_toNat]
end Go.Proofs.Ytblmblbkfdcbjab
