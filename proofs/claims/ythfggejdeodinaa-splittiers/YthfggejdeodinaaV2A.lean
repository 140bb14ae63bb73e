/- The walks of roll.New, Ones. -/
import Derived.Test.YthfggejdeodinaaV1A
namespace Go.Proofs.Ythfggejdeodinaa
open Go.RowKit
set_option linter.unusedSimpArgs false
set_option linter.unusedVariables false
theorem rcl_nil : rcl [] = Array.replicate 64 (.int .u8 0) ++ #[.int .i64 0, .int .u16 1984, .int .u16 64480] := by
  unfold rcl
  unfold lo6 hi6
  rw [loS_nil, hiS_nil]
  simp only [rgW_nil]
  rfl
theorem low32 (n : Nat) (h : n < 4294967296) : bits .and .u32 (n : Int) 1 = ((n % 2 : Nat) : Int) := by
  have e : (1 : Int) = ((1 : Nat) : Int) := rfl
  rw [e, u32_and_nat _ _ h (by omega), Nat.and_one_is_mod]
/-- How far the count of ones has come. -/
structure OnW (N k m : Nat) : Prop where
  val : onN 32 N = k + onN (32 - k) m
  lt : m < 2 ^ (32 - k)
  le : k ≤ 32
theorem OnW.stop {N k m : Nat} (h : OnW N k m) (hm : m % 2 = 0) : onN 32 N = k := by
  rw [h.val]
  cases e : 32 - k with
  | zero => rw [onN]; omega
  | succ j => rw [onN, if_neg (by omega)]; omega
theorem OnW.end {N m : Nat} (h : OnW N 32 m) : onN 32 N = 32 := h.val
theorem OnW.room {N k m : Nat} (h : OnW N k m) (hm : m % 2 = 1) : k < 32 := by
  have h1 := h.le
  have h2 := h.lt
  by_cases e : k = 32
  · subst e; simp at h2; omega
  · omega
theorem OnW.next {N k m : Nat} (h : OnW N k m) (hm : m % 2 = 1) : OnW N (k + 1) (m / 2) := by
  have hk := h.room hm
  obtain ⟨j, hj⟩ : ∃ j, 32 - k = j + 1 := ⟨31 - k, by omega⟩
  have h2 := h.lt
  refine ⟨?_, ?_, by omega⟩
  · rw [h.val, hj, onN, if_pos hm, show 32 - (k + 1) = j from by omega]; omega
  · rw [hj, Nat.pow_succ] at h2
    rw [show 32 - (k + 1) = j from by omega]; omega
end Go.Proofs.Ythfggejdeodinaa
