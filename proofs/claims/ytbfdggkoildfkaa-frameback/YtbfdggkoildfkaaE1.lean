/- The walk of frame's closure: a byte more. -/
import Derived.Test.YtbfdggkoildfkaaE0
import Derived.Test.YtbfdggkoildfkaaW1F
import Derived.Test.YtbfdggkoildfkaaP12
import Derived.RegionTactic
import Derived.Deep.MidRow
import Derived.Lib.SmallJoins
namespace Go.Proofs.Ytbfdggkoildfkaa
open Go.RowKit
set_option linter.unusedSimpArgs false
set_option linter.unusedVariables false
theorem ofByte (b : Nat) (h : b < 256) : (b : Int) = ((BitVec.ofNat 32 (UInt8.ofNat b).toNat).toNat : Int) := by
  rw [toNat_ofNat8 b h, BitVec.toNat_ofNat, Nat.mod_eq_of_lt (by omega)]
theorem one32 : (1 : Int) = ((1#32).toNat : Int) := by decide
theorem poly32 : (3988292384 : Int) = (poly.toNat : Int) := by decide
theorem neg32 (x : BitVec 32) : (-(x.toNat : Int)) % 4294967296 = ((-x).toNat : Int) := by
  rw [BitVec.toNat_neg]
  have := x.isLt
  omega
theorem out_bit (n : BitVec 32) : poly &&& -(n &&& 1#32) = if n.getLsbD 0 then poly else 0#32 := by
  have h : n &&& 1#32 = if n.getLsbD 0 then 1#32 else 0#32 := by
    apply BitVec.eq_of_getLsbD_eq
    intro i hi
    rw [BitVec.getLsbD_and]
    cases i with
    | zero => cases n.getLsbD 0 <;> simp
    | succ i => cases n.getLsbD 0 <;> simp [BitVec.getLsbD_one]
  rw [h]
  cases n.getLsbD 0
  · decide
  · decide
theorem sh1_raw (n : BitVec 32) : bits .xor .u32 ((n.toNat : Int) / 2) (bits .and .u32 3988292384 ((-(bits .and .u32 (n.toNat : Int) 1)) % 4294967296)) = ((sh1 n).toNat : Int) := by
  have e : (n.toNat : Int) / (2 : Int) = ((n >>> 1).toNat : Int) := by rw [BitVec.toNat_ushiftRight, Nat.shiftRight_eq_div_pow]; omega
  rw [e, one32, and32, neg32, poly32, and32, xor32, out_bit, sh1]
set_option maxHeartbeats 400000 in
set_option maxRecDepth 100000 in
theorem onStep_any (n : BitVec 32) (b : Nat) (c : Nat) (T : TypeId) (w : World) (hb : b < 256) (hB : Blk w c #[c32 n] T) :
    Calls Try.prog 24 #[.int .u8 b, .pointer (some ⟨c, 0, none⟩)] w fun e w' => e = .returned (.tuple #[]) ∧ Blk w' c #[c32 (cst n (UInt8.ofNat b))] T ∧ w.grownBy w' (some c) := by
  have h0 := hB.cell 0
  have hf := hB.frozen 0
  go_enter Try.func24, Try.ntmps24
  go_wp2
  go_loopw [7] (fun i wr => ∃ (k : Nat) (m : BitVec 32), k ≤ 8 ∧ i = .int .i64 k ∧ Blk wr c #[c32 m] T ∧ w.grownBy wr (some c) ∧ Hid (m = shN32 k (n ^^^ BitVec.ofNat 32 (UInt8.ofNat b).toNat))) (fun i _ => 8 - (intOf i).toNat)
  case atStart =>
    refine ⟨0, n ^^^ BitVec.ofNat 32 (UInt8.ofNat b).toNat, by omega, rfl, ?_, Lib.grownBy_setB (World.grownBy.refl _ _) 0 _, rfl⟩
    rw [ofByte b hb, xor32]
    exact hB.set 0 _
  case round =>
    obtain ⟨k, m, hk, rfl, hM, hg, HM⟩ := hrel
    have m0 := hM.cell 0
    have mf := hM.frozen 0
    by_cases hlt : k < 8
    · clear h0 hf
      go_wp2
      go_roundw
      case rel =>
        refine ⟨k + 1, sh1 m, by omega, by go_num, ?_, Lib.grownBy_setB hg 0 _, ?_⟩
        · rw [sh1_raw]; exact hM.set 0 _
        · rw [HM.out]; rfl
      case measure => simp [intOf]; omega
    · clear h0 hf
      go_wp2
      go_end0
      have hk8 : k = 8 := by omega
      subst hk8
      rw [HM.out] at hM
      exact ⟨rfl, hM, hg⟩
end Go.Proofs.Ytbfdggkoildfkaa
