/- A list of the law's things that came in, opened: four cells each. -/
import Derived.Test.YtehbgkbnbaogoaaDoorO1
namespace Go.Proofs.YtehbgkbnbaogoaaDoor
open Go.ChangeShapes Go.WideShapes Go.ChangeAt Go.RowKit Go.Joins
set_option linter.unusedSimpArgs false
set_option linter.unusedVariables false
/-- What lies where: the things of a slice, four cells each. -/
def Lie (w : World) (a0 : Option Addr) (len : Nat) (K Wd : Nat → Int) (Nn : Nat → Nat) (T : Nat → ByteArray) : Prop :=
  ∀ i, i < len → ∃ b off, a0 = some ⟨b, off, none⟩ ∧ b < w.heap.size ∧ w.cell? ⟨b, off + i * 4, none⟩ = some (.int .i64 (K i)) ∧ w.cell? ⟨b, off + i * 4 + 1, none⟩ = some (.int .i64 (Wd i)) ∧
    w.cell? ⟨b, off + i * 4 + 2, none⟩ = some (.int .u64 (Nn i)) ∧ w.cell? ⟨b, off + i * 4 + 3, none⟩ = some (.string (T i))
theorem i64_bounds {n : Int} (h : (Lit.int .i64 n).wf = true) : -9223372036854775808 ≤ n ∧ n ≤ 9223372036854775807 := by
  simpa [Lit.wf, IntKind.min, IntKind.max, IntKind.signed, IntKind.bits] using h
theorem u64_bounds {n : Int} (h : (Lit.int .u64 n).wf = true) : 0 ≤ n ∧ n ≤ 18446744073709551615 := by
  simpa [Lit.wf, IntKind.min, IntKind.max, IntKind.signed, IntKind.bits] using h
theorem open_thing {H : Type} {enc : TypeId × Value → H} {w : World} {d : DataW H} {ps : List MemPlace} {a0 : Option Addr} {len cap : Nat}
    (h : DataW.Trod enc Tryd.prog w 0 (fun _ => true) true 35 (.slice a0 len cap) d ps) (hsz : ∀ q ∈ d.weights Tryd.prog 35, q ≤ reachBytes) (i : Nat) (hi : i < len) :
    ∃ q : (Int × Int) × (Nat × ByteArray), (∃ b off, a0 = some ⟨b, off, none⟩ ∧ b < w.heap.size ∧ w.cell? ⟨b, off + i * 4, none⟩ = some (.int .i64 q.1.1) ∧ w.cell? ⟨b, off + i * 4 + 1, none⟩ = some (.int .i64 q.1.2) ∧
      w.cell? ⟨b, off + i * 4 + 2, none⟩ = some (.int .u64 q.2.1) ∧ w.cell? ⟨b, off + i * 4 + 3, none⟩ = some (.string q.2.2)) ∧
      (-9223372036854775808 ≤ q.1.1 ∧ q.1.1 ≤ 9223372036854775807) ∧ (-9223372036854775808 ≤ q.1.2 ∧ q.1.2 ≤ 9223372036854775807) ∧ q.2.1 < 18446744073709551616 ∧ q.2.2.size ≤ 140737488351232 := by
  have ce : Tryd.prog.cellsOf 39 = 4 := by kernel_rfl
  have c3 : Tryd.prog.cellsOf 3 = 1 := by kernel_rfl
  have c35 : Tryd.prog.cellsOf 22 = 1 := by kernel_rfl
  have c9 : Tryd.prog.cellsOf 9 = 1 := by kernel_rfl
  obtain ⟨_, hall⟩ := open_elem Tryd.underlying35 (by rw [ce]; omega) h
  obtain ⟨b, off, cs, D, Pl, n, ha, hb, hlen, hcell, htrod, hw⟩ := hall i hi
  rw [ce] at hlen hcell
  obtain ⟨y0, y1, y2, y3, m, hx, _, t0, t1, t2, t3⟩ := trod_struct4 Tryd.underlying39 htrod
  obtain ⟨v0, v1, v2, v3, rfl⟩ : ∃ v0 v1 v2 v3, cs = [v0, v1, v2, v3] := by
    match cs, hlen with
    | [v0, v1, v2, v3], _ => exact ⟨v0, v1, v2, v3, rfl⟩
  simp only [c3, c35, c9] at t0 t1 t2 t3
  obtain ⟨k, e0, _, wk⟩ := DataW.trod_int Tryd.underlying3 t0
  obtain ⟨wv, e1, _, ww⟩ := DataW.trod_int Tryd.underlying3 t1
  obtain ⟨nv, e2, _, wn⟩ := DataW.trod_int Tryd.underlying22 t2
  obtain ⟨tv, e3, hy3, wt⟩ := DataW.trod_string Tryd.underlying9 t3
  simp at e0 e1 e2 e3
  subst e0 e1 e2 e3
  have hn := u64_bounds wn
  simp only [Prod.mk.injEq] at hx
  refine ⟨((k, wv), (nv.toNat, tv)), ⟨b, off, ha, hb, ?_, ?_, ?_, ?_⟩, i64_bounds wk, i64_bounds ww, by simp only; omega, ?_⟩
  · simpa using hcell 0 (by omega)
  · simpa using hcell 1 (by omega)
  · have := hcell 2 (by omega)
    rw [show ((nv.toNat : Nat) : Int) = nv from by omega]
    simpa using this
  · simpa using hcell 3 (by omega)
  · have hm := hsz tv.data.toList.length (hw _ (by
      rw [hx.1, hy3]
      simp [DataW.weights, Tryd.underlying39, DataW.weightsEach]))
    have : tv.data.toList.length = tv.size := Array.length_toList
    unfold reachBytes at hm
    simp only
    omega
theorem open_things {H : Type} {enc : TypeId × Value → H} {w : World} {d : DataW H} {ps : List MemPlace} {a0 : Option Addr} {len cap : Nat}
    (h : DataW.Trod enc Tryd.prog w 0 (fun _ => true) true 35 (.slice a0 len cap) d ps) (hsz : ∀ q ∈ d.weights Tryd.prog 35, q ≤ reachBytes) :
    ∃ K Wd Nn T, len ≤ maxLen ∧ Lie w a0 len K Wd Nn T ∧ (∀ i, i < len → -9223372036854775808 ≤ K i ∧ K i ≤ 9223372036854775807) ∧ (∀ i, i < len → -9223372036854775808 ≤ Wd i ∧ Wd i ≤ 9223372036854775807) ∧ (∀ i, i < len → Nn i < 18446744073709551616) ∧ ∀ i, i < len → (T i).size ≤ 140737488351232 := by
  have ce : Tryd.prog.cellsOf 39 = 4 := by kernel_rfl
  obtain ⟨hl, _⟩ := open_elem Tryd.underlying35 (by rw [ce]; omega) h
  obtain ⟨q, hq⟩ := Go.Deep.choose_lt (fun i hi => open_thing h hsz i hi)
  exact ⟨fun i => (q i).1.1, fun i => (q i).1.2, fun i => (q i).2.1, fun i => (q i).2.2, hl, fun i hi => (hq i hi).1, fun i hi => (hq i hi).2.1, fun i hi => (hq i hi).2.2.1, fun i hi => (hq i hi).2.2.2.1, fun i hi => (hq i hi).2.2.2.2⟩
end Go.Proofs.YtehbgkbnbaogoaaDoor
