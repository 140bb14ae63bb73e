/- A list of the law's takes that came in, opened: two cells each. -/
import Derived.Test.YtehbgkbnbaogoaaO1
namespace Go.Proofs.Ytehbgkbnbaogoaa
open Go.ChangeShapes Go.WideShapes Go.ChangeAt Go.RowKit Go.Joins
set_option linter.unusedSimpArgs false
set_option linter.unusedVariables false
/-- What lies where: the takes of a slice, two cells each. -/
def Lie2 (w : World) (a0 : Option Addr) (len : Nat) (K N : Nat → Int) : Prop :=
  ∀ i, i < len → ∃ b off, a0 = some ⟨b, off, none⟩ ∧ b < w.heap.size ∧ w.cell? ⟨b, off + i * 2, none⟩ = some (.int .i64 (K i)) ∧ w.cell? ⟨b, off + i * 2 + 1, none⟩ = some (.int .i64 (N i))
theorem i64_bounds2 {n : Int} (h : (Lit.int .i64 n).wf = true) : -9223372036854775808 ≤ n ∧ n ≤ 9223372036854775807 := by
  simpa [Lit.wf, IntKind.min, IntKind.max, IntKind.signed, IntKind.bits] using h
theorem open_take {H : Type} {enc : TypeId × Value → H} {w : World} {d : DataW H} {ps : List MemPlace} {a0 : Option Addr} {len cap : Nat}
    (h : DataW.Trod enc Try.prog w 0 (fun _ => true) true 22 (.slice a0 len cap) d ps) (i : Nat) (hi : i < len) :
    ∃ q : Int × Int, (∃ b off, a0 = some ⟨b, off, none⟩ ∧ b < w.heap.size ∧ w.cell? ⟨b, off + i * 2, none⟩ = some (.int .i64 q.1) ∧ w.cell? ⟨b, off + i * 2 + 1, none⟩ = some (.int .i64 q.2)) ∧
      (-9223372036854775808 ≤ q.2 ∧ q.2 ≤ 9223372036854775807) := by
  have ce : Try.prog.cellsOf 30 = 2 := by kernel_rfl
  have c3 : Try.prog.cellsOf 3 = 1 := by kernel_rfl
  obtain ⟨_, hall⟩ := open_elem Try.underlying22 (by rw [ce]; omega) h
  obtain ⟨b, off, cs, D, Pl, n, ha, hb, hlen, hcell, htrod, hw⟩ := hall i hi
  rw [ce] at hlen hcell
  obtain ⟨y0, y1, m, hx, _, t0, t1⟩ := trod_struct2 Try.underlying30 htrod
  obtain ⟨v0, v1, rfl⟩ : ∃ v0 v1, cs = [v0, v1] := by
    match cs, hlen with
    | [v0, v1], _ => exact ⟨v0, v1, rfl⟩
  simp only [c3] at t0 t1
  obtain ⟨k, e0, _, wk⟩ := DataW.trod_int Try.underlying3 t0
  obtain ⟨wv, e1, _, ww⟩ := DataW.trod_int Try.underlying3 t1
  simp at e0 e1
  subst e0 e1
  refine ⟨(k, wv), ⟨b, off, ha, hb, ?_, ?_⟩, i64_bounds2 ww⟩
  · simpa using hcell 0 (by omega)
  · simpa using hcell 1 (by omega)
theorem open_takes {H : Type} {enc : TypeId × Value → H} {w : World} {d : DataW H} {ps : List MemPlace} {a0 : Option Addr} {len cap : Nat}
    (h : DataW.Trod enc Try.prog w 0 (fun _ => true) true 22 (.slice a0 len cap) d ps) :
    ∃ K N, len ≤ maxLen ∧ Lie2 w a0 len K N ∧ (∀ i, i < len → -9223372036854775808 ≤ N i ∧ N i ≤ 9223372036854775807) := by
  have ce : Try.prog.cellsOf 30 = 2 := by kernel_rfl
  obtain ⟨hl, _⟩ := open_elem Try.underlying22 (by rw [ce]; omega) h
  obtain ⟨q, hq⟩ := Go.Deep.choose_lt (fun i hi => open_take h i hi)
  exact ⟨fun i => (q i).1, fun i => (q i).2, hl, fun i hi => (hq i hi).1, fun i hi => (hq i hi).2⟩
end Go.Proofs.Ytehbgkbnbaogoaa
