import Derived.Test.YtbdkacfpeokggaaGreatDoorY22
import Derived.Test.YtbdkacfpeokggaaGreatDoorY18
import Derived.Deep.Strs
/- Lists of the document's objects that came in, opened. -/
namespace Go.Proofs.YtbdkacfpeokggaaGreatDoor
open Go.ChangeShapes Go.WideShapes Go.ChangeAt Go.RowKit Go.Joins
set_option linter.unusedSimpArgs false
set_option linter.unusedVariables false
section
variable {H : Type} {enc : TypeId × Value → H} {P : Program} {w : World} {base : Nat} {spare : Nat → Bool} {held : Bool}
theorem trod2p {t : TypeId} {f0 f1 : Field} {fuel : Nat} {cs : List Value} {x : DataW H × List MemPlace} (ht : P.underlying t = some (.struct #[f0, f1])) (h : DataW.trod enc P w base spare held fuel t cs = some x) :
    ∃ y0 y1 n, x.1 = .agg [y0.1, y1.1] ∧ cs.length = P.cellsOf t ∧ DataW.trod enc P w base spare held n f0.type ((cs.drop f0.offset).take (P.cellsOf f0.type)) = some y0 ∧
      DataW.trod enc P w base spare held n f1.type ((cs.drop f1.offset).take (P.cellsOf f1.type)) = some y1 := by
  obtain ⟨xs, n, _, rfl, hl, hlen, hf⟩ := DataW.trod_struct ht h
  match xs, hlen with
  | [y0, y1], _ => exact ⟨y0, y1, n, by simp, hl, by simpa using hf 0 f0 rfl, by simpa using hf 1 f1 rfl⟩
theorem open_lenp {t e : TypeId} {d : DataW H} {ps : List MemPlace} {a0 : Option Addr} {len cap : Nat} (ht : P.underlying t = some (.slice e)) (h : DataW.Trod enc P w 0 (fun _ => true) true t (.slice a0 len cap) d ps)
    (hsz : ∀ q ∈ d.weights P t, q ≤ reachBytes) : len * P.bytesOf e ≤ reachBytes := by
  obtain ⟨fuel, hf⟩ := h
  have hcs : (Value.slice a0 len cap).cells.toList = [.slice a0 len cap] := by simp [Value.cells]
  rw [hcs] at hf
  rcases Go.Deep.open_slice ht hf with ⟨h1, _⟩ | ⟨a, l, c, m, n, D, Pl, h1, _, hl, hm, hmm, hx, hi⟩
  · simp only [List.cons.injEq, Value.slice.injEq, and_true] at h1
    obtain ⟨rfl, rfl, rfl⟩ := h1
    simp
  · simp only [List.cons.injEq, Value.slice.injEq, and_true] at h1
    obtain ⟨rfl, rfl, rfl⟩ := h1
    simp only [Prod.mk.injEq] at hx
    have := hsz _ (by rw [hx.1]; simp only [DataW.weights, ht]; exact List.mem_cons_self ..)
    refine Nat.le_trans ?_ this
    simp only [List.length_map, List.length_range]
    exact Nat.mul_le_mul_right _ (by omega)
end
theorem len2p {α : Type} : ∀ {l : List α}, l.length = 2 → ∃ a b, l = [a, b]
  | [a, b], _ => ⟨a, b, rfl⟩
  | [], h => by simp at h
  | [_], h => by simp at h
  | _ :: _ :: _ :: _, h => by simp at h
theorem u8_valp (a : Int) (h : (Lit.int .u8 a).wf = true) : ∃ x : UInt8, a = (x.toNat : Int) := by
  have h' : 0 ≤ a ∧ a ≤ 255 := by simpa [Lit.wf, IntKind.min, IntKind.max, IntKind.signed, IntKind.bits] using h
  refine ⟨UInt8.ofNat a.toNat, ?_⟩
  simp
  omega
theorem open_obs {H : Type} {enc : TypeId × Value → H} {w : World} {d : DataW H} {ps : List MemPlace} {a0 : Option Addr} {len cap : Nat}
    (h : DataW.Trod enc Tryz.prog w 0 (fun _ => true) true 55 (.slice a0 len cap) d ps) (hsz : ∀ q ∈ d.weights Tryz.prog 55, q ≤ reachBytes) :
    ∃ l, l.length = len ∧ ObL w a0 l ∧ (len + 1) * 24 ≤ 140737488355328 := by
  have ce : Tryz.prog.cellsOf 58 = 2 := by kernel_rfl
  have be : Tryz.prog.bytesOf 58 = 24 := by kernel_rfl
  have c9 : Tryz.prog.cellsOf 9 = 1 := by kernel_rfl
  have c5 : Tryz.prog.cellsOf 5 = 1 := by kernel_rfl
  have hl := open_lenp Tryz.underlying55 h hsz
  rw [be] at hl
  unfold reachBytes at hl
  obtain ⟨_, hall⟩ := open_elem Tryz.underlying55 (by rw [ce]; omega) h
  have one : ∀ i, i < len → ∃ x : Ob, ∃ g o, a0 = some ⟨g, o, none⟩ ∧ g < w.heap.size ∧ w.cell? ⟨g, o + i * 2, none⟩ = some (.int .u8 (x.k.toNat : Int)) ∧ w.cell? ⟨g, o + i * 2 + 1, none⟩ = some (.string x.p) ∧ x.p.size ≤ 140737488351232 := by
    intro i hi
    obtain ⟨b, off, cs, D, Pl, n, ha, hb, hlen, hcell, htrod, hw⟩ := hall i hi
    rw [ce] at hlen hcell
    obtain ⟨y0, y1, m, hx, _, t0, t1⟩ := trod2p Tryz.underlying58 htrod
    obtain ⟨v0, v1, rfl⟩ := len2p hlen
    simp only [c9, c5] at t0 t1
    obtain ⟨n0, e0, _, w0⟩ := DataW.trod_int Tryz.underlying5 t0
    obtain ⟨s1, e1, hy1, w1⟩ := DataW.trod_string Tryz.underlying9 t1
    simp at e0 e1
    subst e0 e1
    obtain ⟨kk, rfl⟩ := u8_valp n0 w0
    simp only at hx
    have hm1 := hsz s1.data.toList.length (hw _ (by rw [hx, hy1]; simp [DataW.weights, Tryz.underlying58, DataW.weightsEach]))
    have e : s1.data.toList.length = s1.size := Array.length_toList
    rw [e] at hm1
    unfold reachBytes at hm1
    exact ⟨⟨kk, s1⟩, b, off, ha, hb, hcell 0 (by omega), hcell 1 (by omega), by simp only; omega⟩
  haveI : Inhabited Ob := ⟨⟨0, ⟨#[]⟩⟩⟩
  obtain ⟨q, hq⟩ := Go.Deep.choose_lt one
  refine ⟨(List.range len).map q, by simp, fun i x hx => ?_, by omega⟩
  rw [List.getElem?_map] at hx
  obtain ⟨j, hj, rfl⟩ := Option.map_eq_some_iff.1 hx
  have hi : i < len := by have := (List.getElem?_eq_some_iff.1 hj).1; simpa using this
  have : j = i := by rw [List.getElem?_range hi] at hj; cases hj; rfl
  subst this
  exact hq j hi
end Go.Proofs.YtbdkacfpeokggaaGreatDoor
