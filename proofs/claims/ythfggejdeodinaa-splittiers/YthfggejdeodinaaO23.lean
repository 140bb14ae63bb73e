/- A list of numbers that came in. -/
import Derived.Test.YthfggejdeodinaaL69B
import Derived.Test.YthfggejdeodinaaL19F
import Derived.Test.YthfggejdeodinaaO1
namespace Go.Proofs.Ythfggejdeodinaa
open Go.ChangeShapes Go.WideShapes Go.ChangeAt Go.RowKit Go.Joins
set_option linter.unusedSimpArgs false
set_option linter.unusedVariables false
theorem open_int9 {H : Type} {enc : TypeId × Value → H} {w : World} {d : DataW H} {ps : List MemPlace} {a0 : Option Addr} {len cap : Nat}
    (h : DataW.Trod enc Try.prog w 0 (fun _ => true) true 22 (.slice a0 len cap) d ps) (hsz : ∀ q ∈ d.weights Try.prog 22, q ≤ reachBytes) :
    ∃ X : List Int, InL w a0 X ∧ X.length = len ∧ (len = 0 ∨ ∃ g o, a0 = some ⟨g, o, none⟩) ∧ (len + 1) * 8 ≤ 140737488355328 := by
  have c9 : Try.prog.cellsOf 3 = 1 := by kernel_rfl
  have c8 : Try.prog.bytesOf 3 = 8 := by kernel_rfl
  obtain ⟨fuel, hf⟩ := h
  have hcs : (Value.slice a0 len cap).cells.toList = [.slice a0 len cap] := by simp [Value.cells]
  rw [hcs] at hf
  rcases Go.Deep.open_slice1 Try.underlying22 c9 hf with ⟨h1, _⟩ | ⟨a, l, c, m, n, V, D, Pl, h1, _, hl, hm, hmm, hx, hi⟩
  · simp only [List.cons.injEq, Value.slice.injEq, and_true] at h1
    obtain ⟨rfl, rfl, rfl⟩ := h1
    exact ⟨[], fun i x hi => by simp at hi, rfl, .inl rfl, by omega⟩
  · simp only [List.cons.injEq, Value.slice.injEq, and_true] at h1
    obtain ⟨rfl, rfl, rfl⟩ := h1
    simp only [Prod.mk.injEq] at hx
    have hlm : len ≤ m := by rw [hmm]; split <;> omega
    have hq := hsz ((((List.range len).map D).length + ((List.range (m - len)).map fun j => D (len + j)).length) * Try.prog.bytesOf 3) (by
      rw [hx.1]
      simp only [DataW.weights, Try.underlying22, List.mem_cons, List.mem_append]
      exact Or.inl trivial)
    rw [c8] at hq
    simp only [List.length_map, List.length_range] at hq
    unfold reachBytes at hq
    by_cases hz : len = 0
    · subst hz
      exact ⟨[], fun i x hi => by simp at hi, rfl, .inl rfl, by omega⟩
    obtain ⟨b, off, sp⟩ := a
    have hsp : sp = none := by
      have k2 := (hi 0 (by omega)).1
      rw [show (⟨b, off, sp⟩ : Addr).add 0 = ⟨b, off, sp⟩ from rfl] at k2
      exact World.cell?_spot k2
    subst hsp
    have each : ∀ i, i < len → ∃ x : Int, b < w.heap.size ∧ w.cell? ⟨b, off + i, none⟩ = some (.int .i64 x) := fun i hil => by
      obtain ⟨h2, h3⟩ := hi i (by omega)
      obtain ⟨tv, e3, hy3, wt⟩ := DataW.trod_int Try.underlying3 h3
      simp only [List.cons.injEq, and_true] at e3
      rw [e3] at h2
      rw [add_plain] at h2
      exact ⟨tv, block_lt_of_cell h2, h2⟩
    obtain ⟨C, hC⟩ := Go.Deep.choose_lt (fun i hi => each i hi)
    refine ⟨(List.range len).map C, fun i x hx => ?_, by simp, .inr ⟨_, _, rfl⟩, by omega⟩
    rw [List.getElem?_map] at hx
    by_cases hil : i < len
    · rw [List.getElem?_range hil] at hx
      simp only [Option.map_some, Option.some.injEq] at hx
      subst hx
      exact ⟨b, off, rfl, (hC i hil).1, (hC i hil).2⟩
    · rw [List.getElem?_eq_none (by rw [List.length_range]; omega)] at hx
      simp at hx
end Go.Proofs.Ythfggejdeodinaa
