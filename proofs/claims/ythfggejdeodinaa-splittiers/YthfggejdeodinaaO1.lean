/- A slice of structs that came in, opened at an index: plain laws on readings, over any program. -/
import Derived.Test.YthfggejdeodinaaRows
import Derived.ProofKit
import Derived.Deep.Slices
import Derived.Lib.SmallJoins
import Derived.SizedLaws
namespace Go.Proofs.Ythfggejdeodinaa
open Go.ChangeShapes Go.WideShapes Go.ChangeAt Go.RowKit
set_option linter.unusedSimpArgs false
set_option linter.unusedVariables false
theorem weightsAll_mem {H : Type} {P : Program} {e : TypeId} : ∀ {l : List (DataW H)} {d : DataW H}, d ∈ l → ∀ n ∈ d.weights P e, n ∈ DataW.weightsAll P e l
  | [], _, h, _, _ => by simp at h
  | x :: l, d, hd, n, hn => by
    simp only [DataW.weightsAll, List.mem_append]
    rcases List.mem_cons.1 hd with rfl | h
    · exact Or.inl hn
    · exact Or.inr (weightsAll_mem h n hn)
theorem open_elem {H : Type} {enc : TypeId × Value → H} {P : Program} {w : World} {t e : TypeId} {d : DataW H} {ps : List MemPlace} {a0 : Option Addr} {len cap : Nat}
    (ht : P.underlying t = some (.slice e)) (hce : 0 < P.cellsOf e) (h : DataW.Trod enc P w 0 (fun _ => true) true t (.slice a0 len cap) d ps) :
    len ≤ maxLen ∧ ∀ i, i < len → ∃ (b off : Nat) (cs : List Value) (D : DataW H) (Pl : List MemPlace) (n : Nat), a0 = some ⟨b, off, none⟩ ∧ b < w.heap.size ∧ cs.length = P.cellsOf e ∧
      (∀ j, j < P.cellsOf e → w.cell? ⟨b, off + i * P.cellsOf e + j, none⟩ = cs[j]?) ∧ DataW.trod enc P w 0 (fun _ => true) true n e cs = some (D, Pl) ∧ ∀ q ∈ D.weights P e, q ∈ d.weights P t := by
  obtain ⟨fuel, hf⟩ := h
  have hcs : (Value.slice a0 len cap).cells.toList = [.slice a0 len cap] := by simp [Value.cells]
  rw [hcs] at hf
  rcases Go.Deep.open_slice ht hf with ⟨h1, _⟩ | ⟨a, l, c, m, n, D, Pl, h1, _, hl, hm, hmm, hx, hi⟩
  · simp only [List.cons.injEq, Value.slice.injEq, and_true] at h1
    obtain ⟨rfl, rfl, rfl⟩ := h1
    exact ⟨by unfold maxLen; omega, fun i hi => by omega⟩
  · simp only [List.cons.injEq, Value.slice.injEq, and_true] at h1
    obtain ⟨rfl, rfl, rfl⟩ := h1
    have hmc : m = cap := by simpa using hmm
    refine ⟨by omega, fun i hil => ?_⟩
    obtain ⟨cs, h2, h3⟩ := hi i (by omega)
    obtain ⟨_, hlen, hcell⟩ := World.cells?_some h2
    obtain ⟨b, off, spot⟩ := a
    have hsp : spot = none := by
      obtain ⟨cs0, k2, _⟩ := hi 0 (by omega)
      obtain ⟨_, klen, kcell⟩ := World.cells?_some k2
      have kc := kcell 0 hce
      rw [Go.Deep.add_add, Nat.zero_mul, Nat.zero_add, show (⟨b, off, spot⟩ : Addr).add 0 = ⟨b, off, spot⟩ from rfl, List.getElem?_eq_getElem (by omega)] at kc
      exact World.cell?_spot kc
    subst hsp
    have hc0 := hcell 0 hce
    rw [Go.Deep.add_add, add_plain, List.getElem?_eq_getElem (by omega)] at hc0
    refine ⟨b, off, cs, D i, Pl i, n, rfl, block_lt_of_cell hc0, hlen, fun j hj => ?_, h3, fun q hq => ?_⟩
    · have := hcell j hj
      rw [Go.Deep.add_add, add_plain, ← Nat.add_assoc] at this
      exact this
    · simp only [Prod.mk.injEq] at hx
      rw [hx.1]
      simp only [DataW.weights, ht, List.mem_cons, List.mem_append]
      exact Or.inr (Or.inl (weightsAll_mem (List.mem_map.2 ⟨i, by simpa using hil, rfl⟩) q hq))
theorem open_cap {H : Type} {enc : TypeId × Value → H} {P : Program} {w : World} {t e : TypeId} {d : DataW H} {ps : List MemPlace} {a0 : Option Addr} {len cap : Nat}
    (ht : P.underlying t = some (.slice e)) (h : DataW.Trod enc P w 0 (fun _ => true) true t (.slice a0 len cap) d ps) : len ≤ cap ∧ cap ≤ maxLen := by
  obtain ⟨fuel, hf⟩ := h
  have hcs : (Value.slice a0 len cap).cells.toList = [.slice a0 len cap] := by simp [Value.cells]
  rw [hcs] at hf
  rcases Go.Deep.open_slice ht hf with ⟨h1, _⟩ | ⟨a, l, c, m, n, D, Pl, h1, _, hl, hm, hmm, hx, hi⟩
  · simp only [List.cons.injEq, Value.slice.injEq, and_true] at h1
    obtain ⟨rfl, rfl, rfl⟩ := h1
    exact ⟨Nat.le_refl _, by unfold maxLen; omega⟩
  · simp only [List.cons.injEq, Value.slice.injEq, and_true] at h1
    obtain ⟨rfl, rfl, rfl⟩ := h1
    have hmc : m = cap := by simpa using hmm
    omega
end Go.Proofs.Ythfggejdeodinaa
