/- The bytes of a slice that came in. -/
import Derived.WalkKit
import Derived.Handy
namespace Go.Proofs.Ytadcibenikpfgaa
open Go.RowKit
set_option linter.unusedSimpArgs false
set_option linter.unusedVariables false
/-- The bytes of a slice that came in. -/
def BySb (w : World) (a : Option Addr) (n : Nat) : Prop := ∀ i, i < n → ∃ (g o : Nat) (x : UInt8), a = some ⟨g, o, none⟩ ∧ g < w.heap.size ∧ w.cell? ⟨g, o + i, none⟩ = some (Value.int .u8 (x.toNat : Int))
theorem BySb.below {w w' : World} {a : Option Addr} {n : Nat} (h : BySb w a n) (hb : Below w.heap.size w w') : BySb w' a n := by
  intro i hi
  obtain ⟨g, o, x, e, hg, hc⟩ := h i hi
  exact ⟨g, o, x, e, Nat.lt_of_lt_of_le hg hb.size, by rw [hb.cell (p := ⟨g, o + i, none⟩) hg]; exact hc⟩
end Go.Proofs.Ytadcibenikpfgaa
