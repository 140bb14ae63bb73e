/- A list of bytes that came in. -/
import Derived.Test.YtadcibenikpfgaaM10
import Derived.Test.YtadcibenikpfgaaL19F
import Derived.Test.YtadcibenikpfgaaO1
namespace Go.Proofs.Ytadcibenikpfgaa
open Go.ChangeShapes Go.WideShapes Go.ChangeAt Go.RowKit Go.Joins
set_option linter.unusedSimpArgs false
set_option linter.unusedVariables false
theorem open_bysb {H : Type} {enc : TypeId × Value → H} {w : World} {d : DataW H} {ps : List MemPlace} {a0 : Option Addr} {len cap : Nat}
    (h : DataW.Trod enc Try.prog w 0 (fun _ => true) true 35 (.slice a0 len cap) d ps) (hsz : ∀ q ∈ d.weights Try.prog 35, q ≤ reachBytes) :
    BySb w a0 len ∧ len ≤ 140737488351232 := by
  have c9 : Try.prog.cellsOf 5 = 1 := by kernel_rfl
  have c8 : Try.prog.bytesOf 5 = 1 := by kernel_rfl
  obtain ⟨fuel, hf⟩ := h
  have hcs : (Value.slice a0 len cap).cells.toList = [.slice a0 len cap] := by simp [Value.cells]
  rw [hcs] at hf
  rcases Go.Deep.open_slice1 Try.underlying35 c9 hf with ⟨h1, _⟩ | ⟨a, l, c, m, n, V, D, Pl, h1, _, hl, hm, hmm, hx, hi⟩
  · simp only [List.cons.injEq, Value.slice.injEq, and_true] at h1
    obtain ⟨rfl, rfl, rfl⟩ := h1
    exact ⟨fun i hi => by omega, by omega⟩
  · simp only [List.cons.injEq, Value.slice.injEq, and_true] at h1
    obtain ⟨rfl, rfl, rfl⟩ := h1
    simp only [Prod.mk.injEq] at hx
    have hlm : len ≤ m := by rw [hmm]; split <;> omega
    have hq := hsz ((((List.range len).map D).length + ((List.range (m - len)).map fun j => D (len + j)).length) * Try.prog.bytesOf 5) (by
      rw [hx.1]
      simp only [DataW.weights, Try.underlying35, List.mem_cons, List.mem_append]
      exact Or.inl trivial)
    rw [c8] at hq
    simp only [List.length_map, List.length_range] at hq
    unfold reachBytes at hq
    refine ⟨fun i hil => ?_, by omega⟩
    obtain ⟨h2, h3⟩ := hi i (by omega)
    obtain ⟨tv, e3, hy3, wt⟩ := DataW.trod_int Try.underlying5 h3
    simp only [List.cons.injEq, and_true] at e3
    rw [e3] at h2
    obtain ⟨x, rfl⟩ := u8_val tv wt
    obtain ⟨b, off, sp⟩ := a
    have hsp : sp = none := by
      have k2 := (hi 0 (by omega)).1
      rw [show (⟨b, off, sp⟩ : Addr).add 0 = ⟨b, off, sp⟩ from rfl] at k2
      exact World.cell?_spot k2
    subst hsp
    rw [add_plain] at h2
    exact ⟨b, off, x, rfl, block_lt_of_cell h2, h2⟩
end Go.Proofs.Ytadcibenikpfgaa
