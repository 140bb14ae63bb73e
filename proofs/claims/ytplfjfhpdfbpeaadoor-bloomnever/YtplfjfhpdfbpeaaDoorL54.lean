/- The walk of BloomFiner. -/
import Derived.Test.YtplfjfhpdfbpeaaDoorBQ7
import Derived.Deep.Cut
namespace Go.Proofs.YtplfjfhpdfbpeaaDoor
open Go.RowKit
set_option linter.unusedSimpArgs false
set_option linter.unusedVariables false
theorem txl_take {w : World} {a : Option Addr} {xs : List ByteArray} (h : TxL w a xs) (m : Nat) : TxL w a (xs.take m) := fun i x hx => by
  rw [List.getElem?_take] at hx
  split at hx
  · exact h i x hx
  · cases hx
theorem rem_m {x : Int} (m : Int) (hm : 0 < m) : ∃ y : Int, x.tmod m = y ∧ -m < y ∧ y < m := ⟨_, rfl, by
  have := Int.lt_tmod_of_pos x hm
  omega, Int.tmod_lt_of_pos x hm⟩
theorem shl64 (k : Nat) (n e : Nat) (hn : n = 64 * 2 ^ e) (h : e + k ≤ 18) : IntKind.i64.wrap ((n : Int) * 2 ^ k) = ((64 * 2 ^ (e + k) : Nat) : Int) := by
  have h1 : (n : Int) * 2 ^ k = ((64 * 2 ^ (e + k) : Nat) : Int) := by
    rw [hn, Nat.pow_add, ← Nat.mul_assoc]; simp
  have h2 := Nat.pow_le_pow_right (n := 2) (by omega) h
  rw [h1, IntKind.wrap_i64]
  omega
end Go.Proofs.YtplfjfhpdfbpeaaDoor
