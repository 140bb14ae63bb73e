/- A list of the splitters' steps that came in, opened: three cells each. -/
import Derived.Test.YtdinhnpobdfnoaaO1
import Derived.Test.YtdinhnpobdfnoaaL19F
import Derived.Test.YtdinhnpobdfnoaaL43
import Derived.Deep.Strs
namespace Go.Proofs.Ytdinhnpobdfnoaa
open Go.ChangeShapes Go.WideShapes Go.ChangeAt Go.RowKit Go.Joins
set_option linter.unusedSimpArgs false
set_option linter.unusedVariables false
theorem len3 {α : Type} : ∀ {l : List α}, l.length = 3 → ∃ a b c, l = [a, b, c]
  | [a, b, c], _ => ⟨a, b, c, rfl⟩
  | [], h => by simp at h
  | [_], h => by simp at h
  | [_, _], h => by simp at h
  | _ :: _ :: _ :: _ :: _, h => by simp at h
theorem open_step3 {H : Type} {enc : TypeId × Value → H} {w : World} {d : DataW H} {ps : List MemPlace} {a0 : Option Addr} {len cap : Nat}
    (h : DataW.Trod enc Try.prog w 0 (fun _ => true) true 39 (.slice a0 len cap) d ps) (hsz : ∀ q ∈ d.weights Try.prog 39, q ≤ reachBytes) (i : Nat) (hi : i < len) :
    ∃ q : (Int × Int) × ByteArray, (∃ b off, a0 = some ⟨b, off, none⟩ ∧ b < w.heap.size ∧ w.cell? ⟨b, off + i * 3, none⟩ = some (.int .i64 q.1.1) ∧ w.cell? ⟨b, off + i * 3 + 1, none⟩ = some (.int .i64 q.1.2) ∧
      w.cell? ⟨b, off + i * 3 + 2, none⟩ = some (.string q.2)) ∧ q.2.size ≤ 140737488351232 := by
  have ce : Try.prog.cellsOf 47 = 3 := by kernel_rfl
  have c3 : Try.prog.cellsOf 3 = 1 := by kernel_rfl
  have c9 : Try.prog.cellsOf 9 = 1 := by kernel_rfl
  obtain ⟨_, hall⟩ := open_elem Try.underlying39 (by rw [ce]; omega) h
  obtain ⟨b, off, cs, D, Pl, n, ha, hb, hlen, hcell, htrod, hw⟩ := hall i hi
  rw [ce] at hlen hcell
  obtain ⟨y0, y1, y2, m, hx, _, t0, t1, t3⟩ := Go.Deep.trod_struct3 Try.underlying47 htrod
  obtain ⟨v0, v1, v2, rfl⟩ := len3 hlen
  simp only [c3, c9] at t0 t1 t3
  obtain ⟨k, e0, _, wk⟩ := DataW.trod_int Try.underlying3 t0
  obtain ⟨wv, e1, _, ww⟩ := DataW.trod_int Try.underlying3 t1
  obtain ⟨tv, e3, hy3, wt⟩ := DataW.trod_string Try.underlying9 t3
  simp at e0 e1 e3
  subst e0 e1 e3
  simp only [Prod.mk.injEq] at hx
  refine ⟨((k, wv), tv), ⟨b, off, ha, hb, ?_, ?_, ?_⟩, ?_⟩
  · simpa using hcell 0 (by omega)
  · simpa using hcell 1 (by omega)
  · simpa using hcell 2 (by omega)
  · have hm := hsz tv.data.toList.length (hw _ (by
      rw [hx.1, hy3]
      simp [DataW.weights, Try.underlying47, DataW.weightsEach]))
    have : tv.data.toList.length = tv.size := Array.length_toList
    unfold reachBytes at hm
    simp only
    omega
theorem open_steps3 {H : Type} {enc : TypeId × Value → H} {w : World} {d : DataW H} {ps : List MemPlace} {a0 : Option Addr} {len cap : Nat}
    (h : DataW.Trod enc Try.prog w 0 (fun _ => true) true 39 (.slice a0 len cap) d ps) (hsz : ∀ q ∈ d.weights Try.prog 39, q ≤ reachBytes) :
    ∃ K Wh T, len ≤ maxLen ∧ LieT w a0 len K Wh T ∧ ∀ i, i < len → (T i).size ≤ 140737488351232 := by
  have ce : Try.prog.cellsOf 47 = 3 := by kernel_rfl
  obtain ⟨hl, _⟩ := open_elem Try.underlying39 (by rw [ce]; omega) h
  obtain ⟨q, hq⟩ := Go.Deep.choose_lt (fun i hi => open_step3 h hsz i hi)
  exact ⟨fun i => (q i).1.1, fun i => (q i).1.2, fun i => (q i).2, hl, fun i hi => (hq i hi).1, fun i hi => (hq i hi).2⟩
end Go.Proofs.Ytdinhnpobdfnoaa
