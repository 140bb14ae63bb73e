/- The walks of package split: begun, cutter.take. -/
import Derived.Test.YthfggejdeodinaaU1
import Derived.Deep.RegionHeld3
namespace Go.Proofs.Ythfggejdeodinaa
open Go.RowKit
set_option linter.unusedSimpArgs false
set_option linter.unusedVariables false
theorem bk_apart {w : World} {a b : Nat} {C D : Array Value} {T U : TypeId} (h1 : Bk w a C T) (h2 : Bk w b D U) (h : T ≠ U) : a ≠ b := by
  rintro rfl
  unfold Bk at h1 h2
  rw [h1] at h2
  cases h2
  exact h rfl
end Go.Proofs.Ythfggejdeodinaa
