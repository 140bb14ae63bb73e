/- The turns of bits: math/bits.RotateLeft32, digest.turned, the document's turn. -/
import Derived.Test.YtbfdggkoildfkaaDoorQ1
import Derived.Deep.QuietTactic
import Derived.BigQuiet
namespace Go.Proofs.YtbfdggkoildfkaaDoor
open Go.RowKit
set_option linter.unusedSimpArgs false
set_option linter.unusedVariables false
theorem rot_s (n : Nat) (h0 : 1 ≤ n) (h1 : n ≤ 31) : bits .and .u64 (IntKind.u64.wrap (-(n : Int))) 31 = ((32 - n : Nat) : Int) := by
  have : ∀ k : Fin 32, 1 ≤ k.val → bits .and .u64 (IntKind.u64.wrap (-(k.val : Int))) 31 = ((32 - k.val : Nat) : Int) := by decide +kernel
  exact this ⟨n, by omega⟩ h0
set_option maxHeartbeats 400000 in
theorem rot_any (x : BitVec 32) (n : Nat) (w : World) (h0 : 1 ≤ n) (h1 : n ≤ 31) :
    Calls Tryd.prog 52 #[.int .u32 x.toNat, .int .i64 (-(n : Int))] w fun e w' => e = .returned (.int .u32 (rr n x).toNat) ∧ w' = w := by
  have hs := rot_s n h0 h1
  have h4 : (32 : Int) - ((32 - n : Nat) : Int) = (n : Int) := by omega
  have hx := x.isLt
  go_enter Tryd.func52, Tryd.ntmps52
  go_wp2
  go_ret
  exact ⟨ret_i32 (by rw [shl_raw, shr_raw, or32, rr, BitVec.or_comm]), rfl⟩
theorem rot_int (x : BitVec 32) (k : Int) (w : World) (h0 : -31 ≤ k) (h1 : k ≤ -1) :
    Calls Tryd.prog 52 #[.int .u32 x.toNat, .int .i64 k] w fun e w' => e = .returned (.int .u32 (rr (-k).toNat x).toNat) ∧ w' = w := by
  have h := rot_any x (-k).toNat w (by omega) (by omega)
  rwa [show (-(((-k).toNat : Nat) : Int)) = k from by omega] at h
/-- Three turns, joined. -/
def rr3 (i j k : Nat) (x : BitVec 32) : BitVec 32 := rr i x ^^^ rr j x ^^^ rr k x
set_option maxHeartbeats 400000 in
theorem turned_any (x : BitVec 32) (i j k : Nat) (w : World) (hi : 1 ≤ i) (hi' : i ≤ 31) (hj : 1 ≤ j) (hj' : j ≤ 31) (hk : 1 ≤ k) (hk' : k ≤ 31) :
    Calls Tryd.prog 49 #[.int .u32 x.toNat, .int .i64 i, .int .i64 j, .int .i64 k] w fun e w' => e = .returned (.int .u32 (rr3 i j k x).toNat) ∧ w' = w := by
  go_enter Tryd.func49, Tryd.ntmps49
  go_wp2_with (go_at_call 52; refine (rot_any _ _ _ (by omega) (by omega)).mono ?_; rintro e w' ⟨rfl, rfl⟩)
  go_ret
  exact ⟨ret_i32 (by rw [xor32, xor32, rr3]), rfl⟩
theorem turnedE (x : BitVec 32) (w : World) :
    Calls Tryd.prog 49 #[.int .u32 x.toNat, .int .i64 6, .int .i64 11, .int .i64 25] w fun e w' => e = .returned (.int .u32 (bsE x).toNat) ∧ w' = w :=
  turned_any x 6 11 25 w (by omega) (by omega) (by omega) (by omega) (by omega) (by omega)
theorem turnedA (x : BitVec 32) (w : World) :
    Calls Tryd.prog 49 #[.int .u32 x.toNat, .int .i64 2, .int .i64 13, .int .i64 22] w fun e w' => e = .returned (.int .u32 (bsA x).toNat) ∧ w' = w :=
  turned_any x 2 13 22 w (by omega) (by omega) (by omega) (by omega) (by omega) (by omega)
set_option maxHeartbeats 400000 in
theorem turn_any (x : BitVec 32) (n : Nat) (w : World) (h0 : 1 ≤ n) (h1 : n ≤ 31) :
    Calls Tryd.prog 42 #[.int .u32 x.toNat, .int .i64 n] w fun e w' => e = .returned (.int .u32 (rr n x).toNat) ∧ ∃ nq, w' = w.drewN nq := by
  have hx := x.isLt
  have h4 : (32 : Int) - (n : Int) = ((32 - n : Nat) : Int) := by omega
  go_enter Tryd.func42, Tryd.ntmps42
  go_wp2
  go_quiet (fail)
  go_wp2
  go_ret
  exact ⟨ret_i32 (by rw [shl_raw, shr_raw, or32, rr]), nq, rfl⟩
end Go.Proofs.YtbfdggkoildfkaaDoor
