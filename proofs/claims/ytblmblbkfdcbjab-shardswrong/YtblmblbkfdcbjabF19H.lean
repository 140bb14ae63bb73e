/- What reduced's pairs are; small matrices. -/
import Derived.Test.YtblmblbkfdcbjabF18
import Derived.Test.YtblmblbkfdcbjabK5
import Derived.Test.YtblmblbkfdcbjabF11
namespace Go.Proofs.Ytblmblbkfdcbjab
open Go.RowKit
set_option linter.unusedSimpArgs false
set_option linter.unusedVariables false
theorem redP_len (A : List (List UInt8)) : (redP A).length = A.length := by rw [redP, redK_len, staP_len]
theorem redP_wide (A : List (List UInt8)) (hA : ∀ r ∈ A, r.length = 64) : ∀ p ∈ redP A, p.length = 128 := redK_wide _ (staP_wide A hA) _
/-- What Rank answers of a matrix. -/
def rkM (xs : List ByteArray) : Nat := if isM xs then rkK (redP (arrL xs)) xs.length else 0
theorem isM_small (xs : List ByteArray) (h : isM xs = true) : xs.length ≤ 64 ∧ ∀ x ∈ xs, x.size ≤ 64 := by
  obtain ⟨h1, h2, h3⟩ := isM_parts xs h
  exact ⟨h1.2, fun x hx => by rw [h3 x hx]; exact h2.2⟩
end Go.Proofs.Ytblmblbkfdcbjab
