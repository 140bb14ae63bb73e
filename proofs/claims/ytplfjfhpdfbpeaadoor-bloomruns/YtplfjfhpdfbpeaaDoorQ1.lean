/- Numbers of 32 bits: the model's own words for their operations, as BitVec's. -/
import Derived.Test.YtplfjfhpdfbpeaaDoorRows
import Derived.WalkKit
import Derived.WalkSpells
import Derived.WalkLawsBesides
import Derived.Handy
import Derived.Test.YtplfjfhpdfbpeaaDoorP8
namespace Go.Proofs.YtplfjfhpdfbpeaaDoor
open Go.RowKit
set_option linter.unusedSimpArgs false
set_option linter.unusedVariables false
theorem of32 (x : BitVec 32) : BitVec.ofInt 32 (x.toNat : Int) = x := by
  apply BitVec.eq_of_toNat_eq
  have := x.isLt
  rw [ofInt_u32 _ (by omega)]
theorem xor32 (x y : BitVec 32) : bits .xor .u32 (x.toNat : Int) (y.toNat : Int) = ((x ^^^ y).toNat : Int) := by
  rw [u32_xor_nat _ _ (by have := x.isLt; omega) (by have := y.isLt; omega), BitVec.toNat_xor]
theorem and32 (x y : BitVec 32) : bits .and .u32 (x.toNat : Int) (y.toNat : Int) = ((x &&& y).toNat : Int) := by
  rw [u32_and_nat _ _ (by have := x.isLt; omega) (by have := y.isLt; omega), BitVec.toNat_and]
theorem or32 (x y : BitVec 32) : bits .or .u32 (x.toNat : Int) (y.toNat : Int) = ((x ||| y).toNat : Int) := by
  rw [u32_or_nat _ _ (by have := x.isLt; omega) (by have := y.isLt; omega), BitVec.toNat_or]
theorem not32 (x : BitVec 32) : bits .xor .u32 4294967295 (x.toNat : Int) = ((~~~x).toNat : Int) := by
  have h : (4294967295 : Int) = ((BitVec.allOnes 32).toNat : Int) := by decide
  rw [h, xor32, BitVec.allOnes_xor]
theorem add32 (x y : BitVec 32) : ((x.toNat : Int) + (y.toNat : Int)) % 4294967296 = ((x + y).toNat : Int) := by
  rw [BitVec.toNat_add]; omega
theorem shl32 {P : Program} (x : BitVec 32) (k : Nat) (yk : IntKind) (w : World) :
    (Op.shift .shl .u32 (x.toNat : Int) yk (k : Int)).run P w = .ok (.int .u32 ((x <<< k).toNat : Int)) w := by
  have hk : ¬ ((k : Int) < 0) := by omega
  simp only [Op.shift, hk, if_false, Sem.run_pure, IntKind.wrap_u32', Int.toNat_natCast]
  congr 2
  rw [BitVec.toNat_shiftLeft, Nat.shiftLeft_eq]
  show _ = ((x.toNat * 2 ^ k % 2 ^ 32 : Nat) : Int)
  by_cases h : k ≤ 32
  · rw [show min k IntKind.u32.bits = k from Nat.min_eq_left h]; simp
  · rw [show min k IntKind.u32.bits = 32 from Nat.min_eq_right (by show 32 ≤ k; omega)]
    show (x.toNat : Int) * 2 ^ 32 % 4294967296 = _
    rw [show k = 32 + (k - 32) from by omega, Nat.pow_add, ← Nat.mul_assoc, Nat.mul_right_comm, Nat.mul_mod_left]
    omega
theorem shr32 {P : Program} (x : BitVec 32) (k : Nat) (yk : IntKind) (w : World) (h : k ≤ 32) :
    (Op.shift .shr .u32 (x.toNat : Int) yk (k : Int)).run P w = .ok (.int .u32 ((x >>> k).toNat : Int)) w := by
  have hk : ¬ ((k : Int) < 0) := by omega
  simp only [Op.shift, hk, if_false, Sem.run_pure, Int.toNat_natCast]
  congr 2
  rw [BitVec.toNat_ushiftRight, Nat.shiftRight_eq_div_pow, show min k IntKind.u32.bits = k from Nat.min_eq_left h, Int.fdiv_eq_ediv_of_nonneg _ (by exact_mod_cast Nat.zero_le _)]
  simp
theorem shr32c (x : BitVec 32) (k : Nat) : (x.toNat : Int) / ((2 ^ k : Nat) : Int) = ((x >>> k).toNat : Int) := by
  rw [BitVec.toNat_ushiftRight, Nat.shiftRight_eq_div_pow]; simp
theorem shl_raw (x : BitVec 32) (k : Nat) : (x.toNat : Int) * 2 ^ k % 4294967296 = ((x <<< k).toNat : Int) := by
  rw [BitVec.toNat_shiftLeft, Nat.shiftLeft_eq]
  show _ = ((x.toNat * 2 ^ k % 2 ^ 32 : Nat) : Int)
  simp
theorem shr_raw (x : BitVec 32) (k : Nat) : (x.toNat : Int) / 2 ^ k = ((x >>> k).toNat : Int) := by
  rw [BitVec.toNat_ushiftRight, Nat.shiftRight_eq_div_pow]; simp
theorem ret_i32 {k : IntKind} {a b : Int} (h : a = b) : Ending.returned (.int k a) = .returned (.int k b) := by rw [h]
end Go.Proofs.YtplfjfhpdfbpeaaDoor
