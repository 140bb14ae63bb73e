/- Plain facts on reading a short number from the front of bytes. -/
import Derived.Test.YtplfjfhpdfbpeaaDoorP1
namespace Go.Proofs.YtplfjfhpdfbpeaaDoor
set_option linter.unusedSimpArgs false
set_option linter.unusedVariables false
open Go
/-- The short number at the front of bytes, and how many bytes it has; i bytes have been read, they say acc. -/
def dec : Nat → Nat → List UInt8 → Option (Nat × Nat)
  | _, _, [] => none
  | i, acc, b :: r => if 10 ≤ i then none else if 128 ≤ b.toNat then dec (i + 1) (acc + b.toNat % 128 * 128 ^ i) r
      else if (b.toNat = 0 ∧ 0 < i) ∨ (1 < b.toNat ∧ i = 9) then none else some (acc + b.toNat * 128 ^ i, i + 1)
def decS (l : List UInt8) : Option (Nat × Nat) := dec 0 0 l
def bl (s : ByteArray) : List UInt8 := s.data.toList
theorem bl_length (s : ByteArray) : (bl s).length = s.size := Array.length_toList
theorem dec_ten (i acc : Nat) (l : List UInt8) (h : 10 ≤ i) : dec i acc l = none := by
  cases l with
  | nil => rfl
  | cons b r => rw [dec, if_pos h]
theorem drop_at (s : ByteArray) (k : Nat) (h : k < s.size) : (bl s).drop k = s[k] :: (bl s).drop (k + 1) := by
  rw [List.drop_eq_getElem_cons (by rw [bl_length]; exact h)]; rfl
theorem or_add (acc v k : Nat) (h : acc < 2 ^ k) : acc ||| v * 2 ^ k = acc + v * 2 ^ k := by
  rw [Nat.or_comm, Nat.mul_comm, ← Nat.two_pow_add_eq_or_of_lt h, Nat.add_comm]
theorem u8_and_127 (b : Nat) (hb : b < 256) : bits .and .u8 (b : Int) 127 = ((b % 128 : Nat) : Int) := by
  have h : ∀ a : Fin 256, bits .and .u8 (a.val : Int) 127 = ((a.val % 128 : Nat) : Int) := by decide +kernel
  exact h ⟨b, hb⟩
/-- What the program makes of one more byte. -/
theorem accStep (acc b k : Nat) (hb : b < 256) (hacc : acc < 128 ^ k) (hk : k ≤ 8 ∨ (k = 9 ∧ b % 128 ≤ 1)) :
    bits .or .u64 (acc : Int) (IntKind.u64.wrap (IntKind.u64.wrap (bits .and .u8 (b : Int) 127) * 2 ^ (7 * k))) = ((acc + b % 128 * 128 ^ k : Nat) : Int) ∧ acc + b % 128 * 128 ^ k < 2 ^ 64 := by
  have hb2 : b % 128 < 128 := Nat.mod_lt _ (by omega)
  have hp : b % 128 * 2 ^ (7 * k) + 2 ^ (7 * k) ≤ 2 ^ 64 := by
    rcases hk with h | ⟨h, h2⟩
    · have e1 : 2 ^ (7 * k) ≤ 2 ^ 56 := Nat.pow_le_pow_right (by omega) (by omega)
      have e2 : b % 128 * 2 ^ (7 * k) ≤ 127 * 2 ^ (7 * k) := Nat.mul_le_mul_right _ (by omega)
      omega
    · have e0 : 7 * k = 63 := by omega
      rw [e0]
      omega
  rw [pow128] at hacc ⊢
  rw [u8_and_127 b hb, IntKind.wrap_u64, IntKind.wrap_u64]
  have e1 : ((b % 128 : Nat) : Int) % 18446744073709551616 = ((b % 128 : Nat) : Int) := by omega
  rw [e1]
  have e2 : ((b % 128 : Nat) : Int) * 2 ^ (7 * k) = ((b % 128 * 2 ^ (7 * k) : Nat) : Int) := by rw [Int.natCast_mul, Int.natCast_pow]; rfl
  rw [e2]
  have e3 : ((b % 128 * 2 ^ (7 * k) : Nat) : Int) % 18446744073709551616 = ((b % 128 * 2 ^ (7 * k) : Nat) : Int) := by
    have : 0 < 2 ^ (7 * k) := Nat.two_pow_pos _
    omega
  rw [e3, u64_or_nat _ _ (by omega) (by have : 0 < 2 ^ (7 * k) := Nat.two_pow_pos _; omega), or_add _ _ _ hacc]
  exact ⟨rfl, by omega⟩
theorem accNext (acc b k : Nat) (hacc : acc < 128 ^ k) : acc + b % 128 * 128 ^ k < 128 ^ (k + 1) := by
  have : b % 128 * 128 ^ k ≤ 127 * 128 ^ k := Nat.mul_le_mul_right _ (by omega)
  rw [Nat.pow_succ]; omega
theorem bits_or_lt (x y : Int) : ∃ m : Nat, bits .or .u64 x y = (m : Int) ∧ m < 2 ^ 64 := by
  have h : 0 ≤ bits .or .u64 x y ∧ bits .or .u64 x y < 18446744073709551616 := by
    unfold bits
    simp only [IntKind.wrap_u64]
    omega
  exact ⟨(bits .or .u64 x y).toNat, by omega, by omega⟩
theorem dec_more (s : ByteArray) (k acc : Nat) (h : k < s.size) (hk : k < 10) (hb : 128 ≤ s[k].toNat) :
    dec k acc ((bl s).drop k) = dec (k + 1) (acc + s[k].toNat % 128 * 128 ^ k) ((bl s).drop (k + 1)) := by
  rw [drop_at s k h, dec, if_neg (by omega), if_pos hb]
theorem dec_bad (s : ByteArray) (k acc : Nat) (h : k < s.size) (hk : k < 10) (hb : s[k].toNat < 128) (hc : (s[k].toNat = 0 ∧ 0 < k) ∨ (1 < s[k].toNat ∧ k = 9)) :
    dec k acc ((bl s).drop k) = none := by
  rw [drop_at s k h, dec, if_neg (by omega), if_neg (by omega), if_pos hc]
theorem dec_good (s : ByteArray) (k acc : Nat) (h : k < s.size) (hk : k < 10) (hb : s[k].toNat < 128) (hc : ¬ ((s[k].toNat = 0 ∧ 0 < k) ∨ (1 < s[k].toNat ∧ k = 9))) :
    dec k acc ((bl s).drop k) = some (acc + s[k].toNat * 128 ^ k, k + 1) := by
  rw [drop_at s k h, dec, if_neg (by omega), if_neg (by omega), if_neg hc]
def shN (s : ByteArray) : Nat := ((decS (bl s)).getD (0, 0)).1
def shK (s : ByteArray) : Nat := ((decS (bl s)).getD (0, 0)).2
end Go.Proofs.YtplfjfhpdfbpeaaDoor
