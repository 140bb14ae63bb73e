/- Remainders. -/
import Derived.Test.YtadcibenikpfgaaRows
namespace Go.Proofs.Ytadcibenikpfgaa
set_option linter.unusedSimpArgs false
set_option linter.unusedVariables false
theorem tmod_bd (x : Int) (n : Nat) (hn : 1 ≤ n) : -(n : Int) < x.tmod n ∧ x.tmod n < n := by
  have h1 := Int.natAbs_tmod x n
  have h2 := Nat.mod_lt x.natAbs (show 0 < (n : Int).natAbs by omega)
  omega
theorem tmod_nat (x : Int) (n : Nat) (hn : 1 ≤ n) (hx : 0 ≤ x) : ∃ r : Nat, x.tmod n = r ∧ r < n := by
  refine ⟨(x.tmod n).toNat, ?_, ?_⟩
  · have := Int.tmod_nonneg (n : Int) hx; omega
  · have := (tmod_bd x n hn).2; have := Int.tmod_nonneg (n : Int) hx; omega
end Go.Proofs.Ytadcibenikpfgaa
