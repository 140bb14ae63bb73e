/- A list of texts that came in, opened. -/
import Derived.Test.YtplfjfhpdfbpeaaDoorO1
namespace Go.Proofs.YtplfjfhpdfbpeaaDoor
open Go.ChangeShapes Go.WideShapes Go.ChangeAt Go.RowKit Go.Joins
set_option linter.unusedSimpArgs false
set_option linter.unusedVariables false
/-- What lies where: the texts of a slice. -/
def LieS (w : World) (a0 : Option Addr) (len : Nat) (T : Nat → ByteArray) : Prop :=
  ∀ i, i < len → ∃ b off, a0 = some ⟨b, off, none⟩ ∧ b < w.heap.size ∧ w.cell? ⟨b, off + i, none⟩ = some (.string (T i))
theorem open_strs {H : Type} {enc : TypeId × Value → H} {w : World} {d : DataW H} {ps : List MemPlace} {a0 : Option Addr} {len cap : Nat}
    (h : DataW.Trod enc Tryd.prog w 0 (fun _ => true) true 61 (.slice a0 len cap) d ps) (hsz : ∀ q ∈ d.weights Tryd.prog 61, q ≤ reachBytes) :
    ∃ T : Nat → ByteArray, len ≤ maxLen ∧ LieS w a0 len T ∧ ∀ i, i < len → (T i).size ≤ 140737488351232 := by
  have c9 : Tryd.prog.cellsOf 9 = 1 := by kernel_rfl
  obtain ⟨hl, hall⟩ := open_elem Tryd.underlying61 (by rw [c9]; omega) h
  have one : ∀ i, i < len → ∃ t : ByteArray, (∃ b off, a0 = some ⟨b, off, none⟩ ∧ b < w.heap.size ∧ w.cell? ⟨b, off + i, none⟩ = some (.string t)) ∧ t.size ≤ 140737488351232 := by
    intro i hi
    obtain ⟨b, off, cs, D, Pl, n, ha, hb, hlen, hcell, htrod, hw⟩ := hall i hi
    rw [c9] at hlen hcell
    obtain ⟨v0, rfl⟩ : ∃ v0, cs = [v0] := by
      match cs, hlen with
      | [v0], _ => exact ⟨v0, rfl⟩
    obtain ⟨tv, e3, hy3, wt⟩ := DataW.trod_string Tryd.underlying9 htrod
    simp at e3
    subst e3
    refine ⟨tv, ⟨b, off, ha, hb, ?_⟩, ?_⟩
    · have := hcell 0 (by omega)
      simpa using this
    · have hm := hsz tv.data.toList.length (hw _ (by
        simp only [Prod.mk.injEq] at hy3
        rw [hy3.1]
        simp [DataW.weights, Tryd.underlying9]))
      have : tv.data.toList.length = tv.size := Array.length_toList
      unfold reachBytes at hm
      omega
  obtain ⟨q, hq⟩ := Go.Deep.choose_lt one
  exact ⟨q, hl, fun i hi => (hq i hi).1, fun i hi => (hq i hi).2⟩
end Go.Proofs.YtplfjfhpdfbpeaaDoor
