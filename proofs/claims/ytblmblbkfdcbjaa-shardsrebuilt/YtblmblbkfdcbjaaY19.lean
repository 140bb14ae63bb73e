import Derived.Test.YtblmblbkfdcbjaaRows
import Derived.ProofKit
import Derived.Deep.Slices
import Derived.Lib.SmallJoins
import Derived.SizedLaws
import Derived.Test.YtblmblbkfdcbjaaY12
import Derived.Test.YtblmblbkfdcbjaaY1
import Derived.OpenShut
/- A slice of structs that came in, opened at an index: plain laws on readings, over any program. -/
namespace Go.Proofs.Ytblmblbkfdcbjaa
open Go.ChangeShapes Go.WideShapes Go.ChangeAt Go.RowKit
set_option linter.unusedSimpArgs false
set_option linter.unusedVariables false
theorem weightsAll_mem {H : Type} {P : Program} {e : TypeId} : ∀ {l : List (DataW H)} {d : DataW H}, d ∈ l → ∀ n ∈ d.weights P e, n ∈ DataW.weightsAll P e l
  | [], _, h, _, _ => by simp at h
  | x :: l, d, hd, n, hn => by
    simp only [DataW.weightsAll, List.mem_append]
    rcases List.mem_cons.1 hd with rfl | h
    · exact Or.inl hn
    · exact Or.inr (weightsAll_mem h n hn)
theorem open_elem {H : Type} {enc : TypeId × Value → H} {P : Program} {w : World} {t e : TypeId} {d : DataW H} {ps : List MemPlace} {a0 : Option Addr} {len cap : Nat}
    (ht : P.underlying t = some (.slice e)) (hce : 0 < P.cellsOf e) (h : DataW.Trod enc P w 0 (fun _ => true) true t (.slice a0 len cap) d ps) :
    len ≤ maxLen ∧ ∀ i, i < len → ∃ (b off : Nat) (cs : List Value) (D : DataW H) (Pl : List MemPlace) (n : Nat), a0 = some ⟨b, off, none⟩ ∧ b < w.heap.size ∧ cs.length = P.cellsOf e ∧
      (∀ j, j < P.cellsOf e → w.cell? ⟨b, off + i * P.cellsOf e + j, none⟩ = cs[j]?) ∧ DataW.trod enc P w 0 (fun _ => true) true n e cs = some (D, Pl) ∧ ∀ q ∈ D.weights P e, q ∈ d.weights P t := by
  obtain ⟨fuel, hf⟩ := h
  have hcs : (Value.slice a0 len cap).cells.toList = [.slice a0 len cap] := by simp [Value.cells]
  rw [hcs] at hf
  rcases Go.Deep.open_slice ht hf with ⟨h1, _⟩ | ⟨a, l, c, m, n, D, Pl, h1, _, hl, hm, hmm, hx, hi⟩
  · simp only [List.cons.injEq, Value.slice.injEq, and_true] at h1
    obtain ⟨rfl, rfl, rfl⟩ := h1
    exact ⟨by unfold maxLen; omega, fun i hi => by omega⟩
  · simp only [List.cons.injEq, Value.slice.injEq, and_true] at h1
    obtain ⟨rfl, rfl, rfl⟩ := h1
    have hmc : m = cap := by simpa using hmm
    refine ⟨by omega, fun i hil => ?_⟩
    obtain ⟨cs, h2, h3⟩ := hi i (by omega)
    obtain ⟨_, hlen, hcell⟩ := World.cells?_some h2
    obtain ⟨b, off, spot⟩ := a
    have hsp : spot = none := by
      obtain ⟨cs0, k2, _⟩ := hi 0 (by omega)
      obtain ⟨_, klen, kcell⟩ := World.cells?_some k2
      have kc := kcell 0 hce
      rw [Go.Deep.add_add, Nat.zero_mul, Nat.zero_add, show (⟨b, off, spot⟩ : Addr).add 0 = ⟨b, off, spot⟩ from rfl, List.getElem?_eq_getElem (by omega)] at kc
      exact World.cell?_spot kc
    subst hsp
    have hc0 := hcell 0 hce
    rw [Go.Deep.add_add, add_plain, List.getElem?_eq_getElem (by omega)] at hc0
    refine ⟨b, off, cs, D i, Pl i, n, rfl, block_lt_of_cell hc0, hlen, fun j hj => ?_, h3, fun q hq => ?_⟩
    · have := hcell j hj
      rw [Go.Deep.add_add, add_plain, ← Nat.add_assoc] at this
      exact this
    · simp only [Prod.mk.injEq] at hx
      rw [hx.1]
      simp only [DataW.weights, ht, List.mem_cons, List.mem_append]
      exact Or.inr (Or.inl (weightsAll_mem (List.mem_map.2 ⟨i, by simpa using hil, rfl⟩) q hq))
theorem open_cap {H : Type} {enc : TypeId × Value → H} {P : Program} {w : World} {t e : TypeId} {d : DataW H} {ps : List MemPlace} {a0 : Option Addr} {len cap : Nat}
    (ht : P.underlying t = some (.slice e)) (h : DataW.Trod enc P w 0 (fun _ => true) true t (.slice a0 len cap) d ps) : len ≤ cap ∧ cap ≤ maxLen := by
  obtain ⟨fuel, hf⟩ := h
  have hcs : (Value.slice a0 len cap).cells.toList = [.slice a0 len cap] := by simp [Value.cells]
  rw [hcs] at hf
  rcases Go.Deep.open_slice ht hf with ⟨h1, _⟩ | ⟨a, l, c, m, n, D, Pl, h1, _, hl, hm, hmm, hx, hi⟩
  · simp only [List.cons.injEq, Value.slice.injEq, and_true] at h1
    obtain ⟨rfl, rfl, rfl⟩ := h1
    exact ⟨Nat.le_refl _, by unfold maxLen; omega⟩
  · simp only [List.cons.injEq, Value.slice.injEq, and_true] at h1
    obtain ⟨rfl, rfl, rfl⟩ := h1
    have hmc : m = cap := by simpa using hmm
    omega
end Go.Proofs.Ytblmblbkfdcbjaa
/- A list of truths that came in. -/
namespace Go.Proofs.Ytblmblbkfdcbjaa
open Go.ChangeShapes Go.WideShapes Go.ChangeAt Go.RowKit Go.Joins
set_option linter.unusedSimpArgs false
set_option linter.unusedVariables false
theorem open_bol {H : Type} {enc : TypeId × Value → H} {w : World} {d : DataW H} {ps : List MemPlace} {a0 : Option Addr} {len cap : Nat}
    (h : DataW.Trod enc Try.prog w 0 (fun _ => true) true 38 (.slice a0 len cap) d ps) (hsz : ∀ q ∈ d.weights Try.prog 38, q ≤ reachBytes) :
    ∃ ts : List Bool, ts.length = len ∧ BoL w a0 ts ∧ len ≤ 140737488351232 := by
  have c9 : Try.prog.cellsOf 4 = 1 := by kernel_rfl
  have c8 : Try.prog.bytesOf 4 = 1 := by kernel_rfl
  obtain ⟨fuel, hf⟩ := h
  have hcs : (Value.slice a0 len cap).cells.toList = [.slice a0 len cap] := by simp [Value.cells]
  rw [hcs] at hf
  rcases Go.Deep.open_slice1 Try.underlying38 c9 hf with ⟨h1, _⟩ | ⟨a, l, c, m, n, V, D, Pl, h1, _, hl, hm, hmm, hx, hi⟩
  · simp only [List.cons.injEq, Value.slice.injEq, and_true] at h1
    obtain ⟨rfl, rfl, rfl⟩ := h1
    exact ⟨[], rfl, fun i x hx => by simp at hx, by omega⟩
  · simp only [List.cons.injEq, Value.slice.injEq, and_true] at h1
    obtain ⟨rfl, rfl, rfl⟩ := h1
    simp only [Prod.mk.injEq] at hx
    have hlm : len ≤ m := by rw [hmm]; split <;> omega
    have hq := hsz ((((List.range len).map D).length + ((List.range (m - len)).map fun j => D (len + j)).length) * Try.prog.bytesOf 4) (by
      rw [hx.1]
      simp only [DataW.weights, Try.underlying38, List.mem_cons, List.mem_append]
      exact Or.inl trivial)
    rw [c8] at hq
    simp only [List.length_map, List.length_range] at hq
    unfold reachBytes at hq
    have one : ∀ i, i < len → ∃ t : Bool, (∃ b off, a = ⟨b, off, none⟩ ∧ b < w.heap.size ∧ w.cell? ⟨b, off + i, none⟩ = some (.bool t)) := by
      intro i hil
      obtain ⟨h2, h3⟩ := hi i (by omega)
      obtain ⟨tv, e3, hy3⟩ := DataW.trod_bool Try.underlying4 h3
      simp only [List.cons.injEq, and_true] at e3
      rw [e3] at h2
      obtain ⟨b, off, sp⟩ := a
      have hsp : sp = none := by
        have k2 := (hi 0 (by omega)).1
        rw [show (⟨b, off, sp⟩ : Addr).add 0 = ⟨b, off, sp⟩ from rfl] at k2
        exact World.cell?_spot k2
      subst hsp
      rw [add_plain] at h2
      exact ⟨tv, b, off, rfl, block_lt_of_cell h2, h2⟩
    obtain ⟨T, hT⟩ := Go.Deep.choose_lt one
    refine ⟨(List.range len).map T, by simp, fun i x hx => ?_, by omega⟩
    rw [List.getElem?_map] at hx
    obtain ⟨j, hj, rfl⟩ := Option.map_eq_some_iff.1 hx
    obtain ⟨h1, h2⟩ := List.getElem?_eq_some_iff.1 hj
    simp at h1 h2
    subst h2
    obtain ⟨b, off, rfl, hb, hc⟩ := hT i h1
    exact ⟨b, off, rfl, hb, hc⟩
end Go.Proofs.Ytblmblbkfdcbjaa
/- A list of texts that came in, opened. -/
namespace Go.Proofs.Ytblmblbkfdcbjaa
open Go.ChangeShapes Go.WideShapes Go.ChangeAt Go.RowKit Go.Joins
set_option linter.unusedSimpArgs false
set_option linter.unusedVariables false
/-- What lies where: the texts of a slice. -/
def LieS (w : World) (a0 : Option Addr) (len : Nat) (T : Nat → ByteArray) : Prop :=
  ∀ i, i < len → ∃ b off, a0 = some ⟨b, off, none⟩ ∧ b < w.heap.size ∧ w.cell? ⟨b, off + i, none⟩ = some (.string (T i))
theorem open_strs {H : Type} {enc : TypeId × Value → H} {w : World} {d : DataW H} {ps : List MemPlace} {a0 : Option Addr} {len cap : Nat}
    (h : DataW.Trod enc Try.prog w 0 (fun _ => true) true 22 (.slice a0 len cap) d ps) (hsz : ∀ q ∈ d.weights Try.prog 22, q ≤ reachBytes) :
    ∃ T : Nat → ByteArray, len ≤ maxLen ∧ LieS w a0 len T ∧ ∀ i, i < len → (T i).size ≤ 140737488351232 := by
  have c9 : Try.prog.cellsOf 9 = 1 := by kernel_rfl
  obtain ⟨hl, hall⟩ := open_elem Try.underlying22 (by rw [c9]; omega) h
  have one : ∀ i, i < len → ∃ t : ByteArray, (∃ b off, a0 = some ⟨b, off, none⟩ ∧ b < w.heap.size ∧ w.cell? ⟨b, off + i, none⟩ = some (.string t)) ∧ t.size ≤ 140737488351232 := by
    intro i hi
    obtain ⟨b, off, cs, D, Pl, n, ha, hb, hlen, hcell, htrod, hw⟩ := hall i hi
    rw [c9] at hlen hcell
    obtain ⟨v0, rfl⟩ : ∃ v0, cs = [v0] := by
      match cs, hlen with
      | [v0], _ => exact ⟨v0, rfl⟩
    obtain ⟨tv, e3, hy3, wt⟩ := DataW.trod_string Try.underlying9 htrod
    simp at e3
    subst e3
    refine ⟨tv, ⟨b, off, ha, hb, ?_⟩, ?_⟩
    · have := hcell 0 (by omega)
      simpa using this
    · have hm := hsz tv.data.toList.length (hw _ (by
        simp only [Prod.mk.injEq] at hy3
        rw [hy3.1]
        simp [DataW.weights, Try.underlying9]))
      have : tv.data.toList.length = tv.size := Array.length_toList
      unfold reachBytes at hm
      omega
  obtain ⟨q, hq⟩ := Go.Deep.choose_lt one
  exact ⟨q, hl, fun i hi => (hq i hi).1, fun i hi => (hq i hi).2⟩
end Go.Proofs.Ytblmblbkfdcbjaa
/- A list of texts that came in, as a list. -/
namespace Go.Proofs.Ytblmblbkfdcbjaa
open Go.ChangeShapes Go.WideShapes Go.ChangeAt Go.RowKit Go.Joins
set_option linter.unusedSimpArgs false
set_option linter.unusedVariables false
theorem strs_wgt {H : Type} {enc : TypeId × Value → H} {w : World} {d : DataW H} {ps : List MemPlace} {a0 : Option Addr} {len cap : Nat}
    (h : DataW.Trod enc Try.prog w 0 (fun _ => true) true 22 (.slice a0 len cap) d ps) (hsz : ∀ q ∈ d.weights Try.prog 22, q ≤ reachBytes) : len * 16 ≤ 140737488351232 := by
  have c9 : Try.prog.bytesOf 9 = 16 := by kernel_rfl
  obtain ⟨fuel, hf⟩ := h
  have hcs : (Value.slice a0 len cap).cells.toList = [.slice a0 len cap] := by simp [Value.cells]
  rw [hcs] at hf
  rcases Go.Deep.open_slice Try.underlying22 hf with ⟨h1, _⟩ | ⟨a, l, c, m, n, D, Pl, h1, _, hl, hm, hmm, hx, hi⟩
  · simp only [List.cons.injEq, Value.slice.injEq, and_true] at h1
    obtain ⟨rfl, rfl, rfl⟩ := h1
    omega
  · simp only [List.cons.injEq, Value.slice.injEq, and_true] at h1
    obtain ⟨rfl, rfl, rfl⟩ := h1
    simp only [Prod.mk.injEq] at hx
    have hq := hsz ((((List.range len).map D).length + ((List.range (m - len)).map fun j => D (len + j)).length) * Try.prog.bytesOf 9) (by
      rw [hx.1]
      simp only [DataW.weights, Try.underlying22, List.mem_cons, List.mem_append]
      exact Or.inl trivial)
    rw [c9] at hq
    simp only [List.length_map, List.length_range] at hq
    unfold reachBytes at hq
    have hmc : m = cap := by simpa using hmm
    omega
/-- What came in: a list of texts. -/
theorem open_txl {H : Type} {enc : TypeId × Value → H} {w : World} {d : DataW H} {ps : List MemPlace} {a0 : Option Addr} {len cap : Nat}
    (h : DataW.Trod enc Try.prog w 0 (fun _ => true) true 22 (.slice a0 len cap) d ps) (hsz : ∀ q ∈ d.weights Try.prog 22, q ≤ reachBytes) :
    ∃ xs : List ByteArray, xs.length = len ∧ TxL w a0 xs ∧ (∀ x ∈ xs, x.size ≤ 140737488351232) ∧ len * 16 ≤ 140737488351232 := by
  obtain ⟨T, hl, hL, hT⟩ := open_strs h hsz
  refine ⟨(List.range len).map T, by simp, fun i x hx => ?_, fun x hx => ?_, strs_wgt h hsz⟩
  · rw [List.getElem?_map] at hx
    obtain ⟨j, hj, rfl⟩ := Option.map_eq_some_iff.1 hx
    obtain ⟨h1, h2⟩ := List.getElem?_eq_some_iff.1 hj
    simp at h1 h2
    subst h2
    exact hL i h1
  · obtain ⟨i, hi, rfl⟩ := List.mem_map.1 hx
    exact hT i (by simpa using hi)
end Go.Proofs.Ytblmblbkfdcbjaa
