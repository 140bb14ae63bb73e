/- Noughts as bytes: made, and as a text. -/
import Derived.Test.YthfggejdeodinaaV1A
import Derived.Laws.IdiomStrings
namespace Go.Proofs.Ythfggejdeodinaa
open Go.RowKit
set_option linter.unusedSimpArgs false
set_option linter.unusedVariables false
theorem info_rb : (Try.prog.info? 5).map (fun i => (i.zero, i.size, i.bytes)) = some (some (.int .u8 0), 1, 1) := by kernel_rfl
theorem made_rb (n : Nat) : madeCells #[Value.int .u8 0] n = Array.replicate n (.int .u8 0) := by
  apply Array.ext_getElem?
  intro i
  simp only [madeCells]
  by_cases hi : i < n
  · simp [hi, Nat.mod_one]
  · rw [Array.getElem?_eq_none (by simp; omega), Array.getElem?_eq_none (by simp; omega)]
/-- Noughts as a text. -/
def zrS (n : Nat) : ByteArray := ⟨(List.replicate n (0 : UInt8)).toArray⟩
theorem zrS_tby (n : Nat) : tby (zrS n) = List.replicate n 0 := rfl
theorem zrS_size (n : Nat) : (zrS n).size = n := by rw [← tby_len, zrS_tby, List.length_replicate]
end Go.Proofs.Ythfggejdeodinaa
