/- A list of the law's steps that came in, opened: four cells each. -/
import Derived.Test.YtadcibenikpfgaaO1
import Derived.Test.YtadcibenikpfgaaL19F
namespace Go.Proofs.Ytadcibenikpfgaa
open Go.ChangeShapes Go.WideShapes Go.ChangeAt Go.RowKit Go.Joins
set_option linter.unusedSimpArgs false
set_option linter.unusedVariables false
/-- What lies where: the steps of a slice, four cells each. -/
def LieS (w : World) (a0 : Option Addr) (len : Nat) (K Wh : Nat → Int) (X : Nat → UInt8) (T : Nat → ByteArray) : Prop :=
  ∀ i, i < len → ∃ b off, a0 = some ⟨b, off, none⟩ ∧ b < w.heap.size ∧ w.cell? ⟨b, off + i * 4, none⟩ = some (.int .i64 (K i)) ∧ w.cell? ⟨b, off + i * 4 + 1, none⟩ = some (.int .i64 (Wh i)) ∧
    w.cell? ⟨b, off + i * 4 + 2, none⟩ = some (.int .u8 ((X i).toNat : Int)) ∧ w.cell? ⟨b, off + i * 4 + 3, none⟩ = some (.string (T i))
theorem open_step {H : Type} {enc : TypeId × Value → H} {w : World} {d : DataW H} {ps : List MemPlace} {a0 : Option Addr} {len cap : Nat}
    (h : DataW.Trod enc Try.prog w 0 (fun _ => true) true 26 (.slice a0 len cap) d ps) (hsz : ∀ q ∈ d.weights Try.prog 26, q ≤ reachBytes) (i : Nat) (hi : i < len) :
    ∃ q : (Int × Int) × (UInt8 × ByteArray), (∃ b off, a0 = some ⟨b, off, none⟩ ∧ b < w.heap.size ∧ w.cell? ⟨b, off + i * 4, none⟩ = some (.int .i64 q.1.1) ∧ w.cell? ⟨b, off + i * 4 + 1, none⟩ = some (.int .i64 q.1.2) ∧
      w.cell? ⟨b, off + i * 4 + 2, none⟩ = some (.int .u8 (q.2.1.toNat : Int)) ∧ w.cell? ⟨b, off + i * 4 + 3, none⟩ = some (.string q.2.2)) ∧ q.2.2.size ≤ 140737488351232 := by
  have ce : Try.prog.cellsOf 32 = 4 := by kernel_rfl
  have c3 : Try.prog.cellsOf 3 = 1 := by kernel_rfl
  have c5 : Try.prog.cellsOf 5 = 1 := by kernel_rfl
  have c9 : Try.prog.cellsOf 9 = 1 := by kernel_rfl
  obtain ⟨_, hall⟩ := open_elem Try.underlying26 (by rw [ce]; omega) h
  obtain ⟨b, off, cs, D, Pl, n, ha, hb, hlen, hcell, htrod, hw⟩ := hall i hi
  rw [ce] at hlen hcell
  obtain ⟨y0, y1, y2, y3, m, hx, _, t0, t1, t2, t3⟩ := trod_struct4 Try.underlying32 htrod
  obtain ⟨v0, v1, v2, v3, rfl⟩ : ∃ v0 v1 v2 v3, cs = [v0, v1, v2, v3] := by
    match cs, hlen with
    | [v0, v1, v2, v3], _ => exact ⟨v0, v1, v2, v3, rfl⟩
  simp only [c3, c5, c9] at t0 t1 t2 t3
  obtain ⟨k, e0, _, wk⟩ := DataW.trod_int Try.underlying3 t0
  obtain ⟨wv, e1, _, ww⟩ := DataW.trod_int Try.underlying3 t1
  obtain ⟨nv, e2, _, wn⟩ := DataW.trod_int Try.underlying5 t2
  obtain ⟨tv, e3, hy3, wt⟩ := DataW.trod_string Try.underlying9 t3
  simp at e0 e1 e2 e3
  subst e0 e1 e2 e3
  obtain ⟨x, rfl⟩ := u8_val nv wn
  simp only [Prod.mk.injEq] at hx
  refine ⟨((k, wv), (x, tv)), ⟨b, off, ha, hb, ?_, ?_, ?_, ?_⟩, ?_⟩
  · simpa using hcell 0 (by omega)
  · simpa using hcell 1 (by omega)
  · simpa using hcell 2 (by omega)
  · simpa using hcell 3 (by omega)
  · have hm := hsz tv.data.toList.length (hw _ (by
      rw [hx.1, hy3]
      simp [DataW.weights, Try.underlying32, DataW.weightsEach]))
    have : tv.data.toList.length = tv.size := Array.length_toList
    unfold reachBytes at hm
    simp only
    omega
theorem open_steps {H : Type} {enc : TypeId × Value → H} {w : World} {d : DataW H} {ps : List MemPlace} {a0 : Option Addr} {len cap : Nat}
    (h : DataW.Trod enc Try.prog w 0 (fun _ => true) true 26 (.slice a0 len cap) d ps) (hsz : ∀ q ∈ d.weights Try.prog 26, q ≤ reachBytes) :
    ∃ K Wh X T, len ≤ maxLen ∧ LieS w a0 len K Wh X T ∧ ∀ i, i < len → (T i).size ≤ 140737488351232 := by
  have ce : Try.prog.cellsOf 32 = 4 := by kernel_rfl
  obtain ⟨hl, _⟩ := open_elem Try.underlying26 (by rw [ce]; omega) h
  obtain ⟨q, hq⟩ := Go.Deep.choose_lt (fun i hi => open_step h hsz i hi)
  exact ⟨fun i => (q i).1.1, fun i => (q i).1.2, fun i => (q i).2.1, fun i => (q i).2.2, hl, fun i hi => (hq i hi).1, fun i hi => (hq i hi).2⟩
end Go.Proofs.Ytadcibenikpfgaa
