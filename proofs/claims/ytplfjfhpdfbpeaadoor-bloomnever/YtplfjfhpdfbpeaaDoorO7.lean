/- A list of texts that came in, as a list. -/
import Derived.Test.YtplfjfhpdfbpeaaDoorO4
import Derived.Test.YtplfjfhpdfbpeaaDoorM1
import Derived.SizedLaws
import Derived.OpenShut
namespace Go.Proofs.YtplfjfhpdfbpeaaDoor
open Go.ChangeShapes Go.WideShapes Go.ChangeAt Go.RowKit Go.Joins
set_option linter.unusedSimpArgs false
set_option linter.unusedVariables false
theorem strs_wgt {H : Type} {enc : TypeId × Value → H} {w : World} {d : DataW H} {ps : List MemPlace} {a0 : Option Addr} {len cap : Nat}
    (h : DataW.Trod enc Tryd.prog w 0 (fun _ => true) true 61 (.slice a0 len cap) d ps) (hsz : ∀ q ∈ d.weights Tryd.prog 61, q ≤ reachBytes) : len * 16 ≤ 140737488351232 := by
  have c9 : Tryd.prog.bytesOf 9 = 16 := by kernel_rfl
  obtain ⟨fuel, hf⟩ := h
  have hcs : (Value.slice a0 len cap).cells.toList = [.slice a0 len cap] := by simp [Value.cells]
  rw [hcs] at hf
  rcases Go.Deep.open_slice Tryd.underlying61 hf with ⟨h1, _⟩ | ⟨a, l, c, m, n, D, Pl, h1, _, hl, hm, hmm, hx, hi⟩
  · simp only [List.cons.injEq, Value.slice.injEq, and_true] at h1
    obtain ⟨rfl, rfl, rfl⟩ := h1
    omega
  · simp only [List.cons.injEq, Value.slice.injEq, and_true] at h1
    obtain ⟨rfl, rfl, rfl⟩ := h1
    simp only [Prod.mk.injEq] at hx
    have hq := hsz ((((List.range len).map D).length + ((List.range (m - len)).map fun j => D (len + j)).length) * Tryd.prog.bytesOf 9) (by
      rw [hx.1]
      simp only [DataW.weights, Tryd.underlying61, List.mem_cons, List.mem_append]
      exact Or.inl trivial)
    rw [c9] at hq
    simp only [List.length_map, List.length_range] at hq
    unfold reachBytes at hq
    have hmc : m = cap := by simpa using hmm
    omega
/-- What came in: a list of texts. -/
theorem open_txl {H : Type} {enc : TypeId × Value → H} {w : World} {d : DataW H} {ps : List MemPlace} {a0 : Option Addr} {len cap : Nat}
    (h : DataW.Trod enc Tryd.prog w 0 (fun _ => true) true 61 (.slice a0 len cap) d ps) (hsz : ∀ q ∈ d.weights Tryd.prog 61, q ≤ reachBytes) :
    ∃ xs : List ByteArray, xs.length = len ∧ TxL w a0 xs ∧ (∀ x ∈ xs, x.size ≤ 140737488351232) ∧ len * 16 ≤ 140737488351232 := by
  obtain ⟨T, hl, hL, hT⟩ := open_strs h hsz
  refine ⟨(List.range len).map T, by simp, fun i x hx => ?_, fun x hx => ?_, strs_wgt h hsz⟩
  · rw [List.getElem?_map] at hx
    obtain ⟨j, hj, rfl⟩ := Option.map_eq_some_iff.1 hx
    obtain ⟨h1, h2⟩ := List.getElem?_eq_some_iff.1 hj
    simp at h1 h2
    subst h2
    exact hL i h1
  · obtain ⟨i, hi, rfl⟩ := List.mem_map.1 hx
    exact hT i (by simpa using hi)
end Go.Proofs.YtplfjfhpdfbpeaaDoor
