/- Noughts as bytes: made, and as a text. -/
import Derived.Test.YtdinhnpobdfnoaaV1A
import Derived.Laws.IdiomStrings
namespace Go.Proofs.Ytdinhnpobdfnoaa
open Go.RowKit
set_option linter.unusedSimpArgs false
set_option linter.unusedVariables false
theorem info_rb : (Try.prog.info? 5).map (fun i => (i.zero, i.size, i.bytes)) = some (some (.int .u8 0), 1, 1) := by kernel_rfl
theorem made_rb (n : Nat) : madeCells #[Value.int .u8 0] n = Array.replicate n (.int .u8 0) := by
  apply Array.ext_getElem?
  intro i
  simp only [madeCells]
  by_cases hi : i < n
  · simp [hi, Nat.mod_one]
  · rw [Array.getElem?_eq_none (by simp; omega), Array.getElem?_eq_none (by simp; omega)]
theorem make_rb (n : Nat) (hn : n ≤ 281474976710656) (u : World) : (Instr.makeSlice 71 (.int .i64 n) (.int .i64 n)).run Try.prog u =
    .ok (.slice (some ⟨u.heap.size, 0, none⟩) n n) (u.alloc (.cells (Array.replicate n (.int .u8 0)) 5)) := by
  obtain ⟨i0, hi, hz0, hz1, hz2⟩ := info_parts info_rb
  have h := run_make (P := Try.prog) u 71 5 i0 (.int .u8 0) Try.underlying71 hi hz0 .i64 .i64 (n : Int) (n : Int) (by omega) (Int.le_refl _) (by rw [hz2]; omega) (by omega)
  rw [Int.toNat_natCast] at h
  rw [← made_rb]
  simpa [hz1, Value.cells] using h
/-- Noughts as a text. -/
def zrS (n : Nat) : ByteArray := ⟨(List.replicate n (0 : UInt8)).toArray⟩
theorem zrS_tby (n : Nat) : tby (zrS n) = List.replicate n 0 := rfl
theorem zrS_size (n : Nat) : (zrS n).size = n := by rw [← tby_len, zrS_tby, List.length_replicate]
theorem conv_zr (n : Nat) (u : World) : (convert 71 9 (.slice (some ⟨u.heap.size, 0, none⟩) n n)).run Try.prog (u.alloc (.cells (Array.replicate n (.int .u8 0)) 5)) = .ok (.string (zrS n)) (u.alloc (.cells (Array.replicate n (.int .u8 0)) 5)) := by
  have h := run_convert_bytes_back (P := Try.prog) (u.alloc (.cells (Array.replicate n (.int .u8 0)) 5)) 71 9 5 ⟨u.heap.size, 0, none⟩ n (List.replicate n (0 : UInt8)) Try.underlying71 Try.underlying5 Try.underlying9 (fun j hj => by
    rw [List.length_replicate] at hj
    rw [WideShapes.add_plain, Nat.zero_add, (bk_new u _ _).cell, Array.getElem?_replicate, if_pos hj]
    simp)
  rw [List.length_replicate] at h
  exact h
end Go.Proofs.Ytdinhnpobdfnoaa
