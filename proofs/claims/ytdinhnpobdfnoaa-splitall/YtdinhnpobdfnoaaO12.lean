/- A list of numbers of 16 bits that came in. -/
import Derived.Test.YtdinhnpobdfnoaaL41
import Derived.Test.YtdinhnpobdfnoaaL19F
import Derived.Test.YtdinhnpobdfnoaaO1
namespace Go.Proofs.Ytdinhnpobdfnoaa
open Go.ChangeShapes Go.WideShapes Go.ChangeAt Go.RowKit Go.Joins
set_option linter.unusedSimpArgs false
set_option linter.unusedVariables false
theorem open_u16 {H : Type} {enc : TypeId × Value → H} {w : World} {d : DataW H} {ps : List MemPlace} {a0 : Option Addr} {len cap : Nat}
    (h : DataW.Trod enc Try.prog w 0 (fun _ => true) true 73 (.slice a0 len cap) d ps) (hsz : ∀ q ∈ d.weights Try.prog 73, q ≤ reachBytes) :
    ∃ C, Lu16 w a0 len C ∧ len ≤ 140737488351232 := by
  have c9 : Try.prog.cellsOf 75 = 1 := by kernel_rfl
  have c8 : Try.prog.bytesOf 75 = 2 := by kernel_rfl
  obtain ⟨fuel, hf⟩ := h
  have hcs : (Value.slice a0 len cap).cells.toList = [.slice a0 len cap] := by simp [Value.cells]
  rw [hcs] at hf
  rcases Go.Deep.open_slice1 Try.underlying73 c9 hf with ⟨h1, _⟩ | ⟨a, l, c, m, n, V, D, Pl, h1, _, hl, hm, hmm, hx, hi⟩
  · simp only [List.cons.injEq, Value.slice.injEq, and_true] at h1
    obtain ⟨rfl, rfl, rfl⟩ := h1
    exact ⟨fun _ => 0, fun i hi => by omega, by omega⟩
  · simp only [List.cons.injEq, Value.slice.injEq, and_true] at h1
    obtain ⟨rfl, rfl, rfl⟩ := h1
    simp only [Prod.mk.injEq] at hx
    have hlm : len ≤ m := by rw [hmm]; split <;> omega
    have hq := hsz ((((List.range len).map D).length + ((List.range (m - len)).map fun j => D (len + j)).length) * Try.prog.bytesOf 75) (by
      rw [hx.1]
      simp only [DataW.weights, Try.underlying73, List.mem_cons, List.mem_append]
      exact Or.inl trivial)
    rw [c8] at hq
    simp only [List.length_map, List.length_range] at hq
    unfold reachBytes at hq
    have each : ∀ i, i < len → ∃ x : Nat, ∃ b off, (some a : Option Addr) = some ⟨b, off, none⟩ ∧ b < w.heap.size ∧ w.cell? ⟨b, off + i, none⟩ = some (.int .u16 (x : Int)) ∧ x < 65536 := fun i hil => by
      obtain ⟨h2, h3⟩ := hi i (by omega)
      obtain ⟨tv, e3, hy3, wt⟩ := DataW.trod_int Try.underlying75 h3
      simp only [List.cons.injEq, and_true] at e3
      rw [e3] at h2
      have hb : 0 ≤ tv ∧ tv ≤ 65535 := by simpa [Lit.wf, IntKind.min, IntKind.max, IntKind.signed, IntKind.bits] using wt
      obtain ⟨x, rfl⟩ := Int.eq_ofNat_of_zero_le hb.1
      obtain ⟨b, off, sp⟩ := a
      have hsp : sp = none := by
        have k2 := (hi 0 (by omega)).1
        rw [show (⟨b, off, sp⟩ : Addr).add 0 = ⟨b, off, sp⟩ from rfl] at k2
        exact World.cell?_spot k2
      subst hsp
      rw [add_plain] at h2
      exact ⟨x, b, off, rfl, block_lt_of_cell h2, h2, by omega⟩
    obtain ⟨C, hC⟩ := Go.Deep.choose_lt (fun i hi => each i hi)
    exact ⟨C, hC, by omega⟩
end Go.Proofs.Ytdinhnpobdfnoaa
