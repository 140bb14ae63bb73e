import Derived.Test.YteccnnpialaalaaDoorY3
import Derived.Test.YteccnnpialaalaaDoorY14
import Derived.SizedLaws
import Derived.OpenShut
/- A list of texts that came in, opened. -/
namespace Go.Proofs.YteccnnpialaalaaDoor
open Go.ChangeShapes Go.WideShapes Go.ChangeAt Go.RowKit Go.Joins
set_option linter.unusedSimpArgs false
set_option linter.unusedVariables false
/-- What lies where: the texts of a slice. -/
def LieS (w : World) (a0 : Option Addr) (len : Nat) (T : Nat → ByteArray) : Prop :=
  ∀ i, i < len → ∃ b off, a0 = some ⟨b, off, none⟩ ∧ b < w.heap.size ∧ w.cell? ⟨b, off + i, none⟩ = some (.string (T i))
theorem open_strs {H : Type} {enc : TypeId × Value → H} {w : World} {d : DataW H} {ps : List MemPlace} {a0 : Option Addr} {len cap : Nat}
    (h : DataW.Trod enc Tryd.prog w 0 (fun _ => true) true 22 (.slice a0 len cap) d ps) (hsz : ∀ q ∈ d.weights Tryd.prog 22, q ≤ reachBytes) :
    ∃ T : Nat → ByteArray, len ≤ maxLen ∧ LieS w a0 len T ∧ ∀ i, i < len → (T i).size ≤ 140737488351232 := by
  have c9 : Tryd.prog.cellsOf 9 = 1 := by kernel_rfl
  obtain ⟨hl, hall⟩ := open_elem Tryd.underlying22 (by rw [c9]; omega) h
  have one : ∀ i, i < len → ∃ t : ByteArray, (∃ b off, a0 = some ⟨b, off, none⟩ ∧ b < w.heap.size ∧ w.cell? ⟨b, off + i, none⟩ = some (.string t)) ∧ t.size ≤ 140737488351232 := by
    intro i hi
    obtain ⟨b, off, cs, D, Pl, n, ha, hb, hlen, hcell, htrod, hw⟩ := hall i hi
    rw [c9] at hlen hcell
    obtain ⟨v0, rfl⟩ : ∃ v0, cs = [v0] := by
      match cs, hlen with
      | [v0], _ => exact ⟨v0, rfl⟩
    obtain ⟨tv, e3, hy3, wt⟩ := DataW.trod_string Tryd.underlying9 htrod
    simp at e3
    subst e3
    refine ⟨tv, ⟨b, off, ha, hb, ?_⟩, ?_⟩
    · have := hcell 0 (by omega)
      simpa using this
    · have hm := hsz tv.data.toList.length (hw _ (by
        simp only [Prod.mk.injEq] at hy3
        rw [hy3.1]
        simp [DataW.weights, Tryd.underlying9]))
      have : tv.data.toList.length = tv.size := Array.length_toList
      unfold reachBytes at hm
      omega
  obtain ⟨q, hq⟩ := Go.Deep.choose_lt one
  exact ⟨q, hl, fun i hi => (hq i hi).1, fun i hi => (hq i hi).2⟩
end Go.Proofs.YteccnnpialaalaaDoor
/- A list of texts that came in, of a bulk that is told. -/
namespace Go.Proofs.YteccnnpialaalaaDoor
open Go.ChangeShapes Go.WideShapes Go.ChangeAt Go.RowKit Go.Joins
set_option linter.unusedSimpArgs false
set_option linter.unusedVariables false
theorem blk_mem {H : Type} {d : DataW H} : ∀ {l : List (DataW H)}, d ∈ l → Rows.uptoBulk d ≤ Rows.uptoBulkAll l
  | [], h => by cases h
  | x :: l, h => by
    rw [Rows.uptoBulkAll]
    rcases List.mem_cons.1 h with rfl | h
    · omega
    · have := blk_mem h; omega
theorem blk_len {H : Type} (hpos : ∀ d : DataW H, 1 ≤ Rows.uptoBulk d) : ∀ (l : List (DataW H)), l.length ≤ Rows.uptoBulkAll l
  | [] => by simp
  | x :: l => by
    rw [Rows.uptoBulkAll, List.length_cons]
    have := blk_len hpos l
    have := hpos x
    omega
theorem blk_pos {H : Type} (d : DataW H) : 1 ≤ Rows.uptoBulk d := by
  cases d with
  | lit l => cases l <;> simp [Rows.uptoBulk]
  | nil => simp [Rows.uptoBulk]
  | ptr d => simp [Rows.uptoBulk]
  | slice e s => simp [Rows.uptoBulk]
  | agg p => simp [Rows.uptoBulk]
  | iface t d => simp [Rows.uptoBulk]
  | map e => simp [Rows.uptoBulk]
  | held h => simp [Rows.uptoBulk]
theorem open_txl_upto {H : Type} {enc : TypeId × Value → H} {w : World} {d : DataW H} {ps : List MemPlace} {a0 : Option Addr} {len cap N : Nat}
    (h : DataW.Trod enc Tryd.prog w 0 (fun _ => true) true 22 (.slice a0 len cap) d ps) (hN : Rows.uptoBulk d ≤ N) :
    ∃ xs : List ByteArray, xs.length = len ∧ TxL w a0 xs ∧ (∀ x ∈ xs, x.size ≤ N) ∧ len ≤ N := by
  have c9 : Tryd.prog.cellsOf 9 = 1 := by kernel_rfl
  obtain ⟨fuel, hf⟩ := h
  have hcs : (Value.slice a0 len cap).cells.toList = [.slice a0 len cap] := by simp [Value.cells]
  rw [hcs] at hf
  rcases Go.Deep.open_slice1 Tryd.underlying22 c9 hf with ⟨h1, _⟩ | ⟨a, l, c, m, n, V, D, Pl, h1, _, hl, hm, hmm, hx, hi⟩
  · simp only [List.cons.injEq, Value.slice.injEq, and_true] at h1
    obtain ⟨rfl, rfl, rfl⟩ := h1
    exact ⟨[], rfl, fun i x hx => by simp at hx, fun x hx => (by cases hx), by omega⟩
  · simp only [List.cons.injEq, Value.slice.injEq, and_true] at h1
    obtain ⟨rfl, rfl, rfl⟩ := h1
    simp only [Prod.mk.injEq] at hx
    have hlm : len ≤ m := by rw [hmm]; split <;> omega
    rw [hx.1, Rows.uptoBulk] at hN
    have hlen := blk_len blk_pos ((List.range len).map D)
    rw [List.length_map, List.length_range] at hlen
    have one : ∀ i, i < len → ∃ t : ByteArray, (∃ b off, a = ⟨b, off, none⟩ ∧ b < w.heap.size ∧ w.cell? ⟨b, off + i, none⟩ = some (.string t)) ∧ t.size ≤ N := by
      intro i hil
      obtain ⟨h2, h3⟩ := hi i (by omega)
      obtain ⟨tv, e3, hy3, _⟩ := DataW.trod_string Tryd.underlying9 h3
      simp only [List.cons.injEq, and_true] at e3
      rw [e3] at h2
      obtain ⟨b, off, sp⟩ := a
      have hsp : sp = none := by
        have k2 := (hi 0 (by omega)).1
        obtain ⟨t0, e0, _⟩ := DataW.trod_string Tryd.underlying9 (hi 0 (by omega)).2
        rw [show (⟨b, off, sp⟩ : Addr).add 0 = ⟨b, off, sp⟩ from rfl] at k2
        exact World.cell?_spot k2
      subst hsp
      rw [add_plain] at h2
      refine ⟨tv, ⟨b, off, rfl, block_lt_of_cell h2, h2⟩, ?_⟩
      have hmem := blk_mem (d := D i) (l := (List.range len).map D) (List.mem_map.2 ⟨i, by simpa using hil, rfl⟩)
      simp only [Prod.mk.injEq] at hy3
      rw [hy3.1, Rows.uptoBulk] at hmem
      have : tv.data.toList.length = tv.size := Array.length_toList
      omega
    obtain ⟨T, hT⟩ := Go.Deep.choose_lt one
    refine ⟨(List.range len).map T, by simp, fun i x hx => ?_, fun x hx => ?_, by omega⟩
    · rw [List.getElem?_map] at hx
      obtain ⟨j, hj, rfl⟩ := Option.map_eq_some_iff.1 hx
      obtain ⟨h1, h2⟩ := List.getElem?_eq_some_iff.1 hj
      simp at h1 h2
      subst h2
      obtain ⟨b, off, rfl, hb, hc⟩ := (hT i h1).1
      exact ⟨b, off, rfl, hb, hc⟩
    · obtain ⟨i, hi, rfl⟩ := List.mem_map.1 hx
      exact (hT i (by simpa using hi)).2
end Go.Proofs.YteccnnpialaalaaDoor
/- A list of texts that came in, as a list. -/
namespace Go.Proofs.YteccnnpialaalaaDoor
open Go.ChangeShapes Go.WideShapes Go.ChangeAt Go.RowKit Go.Joins
set_option linter.unusedSimpArgs false
set_option linter.unusedVariables false
theorem strs_wgt {H : Type} {enc : TypeId × Value → H} {w : World} {d : DataW H} {ps : List MemPlace} {a0 : Option Addr} {len cap : Nat}
    (h : DataW.Trod enc Tryd.prog w 0 (fun _ => true) true 22 (.slice a0 len cap) d ps) (hsz : ∀ q ∈ d.weights Tryd.prog 22, q ≤ reachBytes) : len * 16 ≤ 140737488351232 := by
  have c9 : Tryd.prog.bytesOf 9 = 16 := by kernel_rfl
  obtain ⟨fuel, hf⟩ := h
  have hcs : (Value.slice a0 len cap).cells.toList = [.slice a0 len cap] := by simp [Value.cells]
  rw [hcs] at hf
  rcases Go.Deep.open_slice Tryd.underlying22 hf with ⟨h1, _⟩ | ⟨a, l, c, m, n, D, Pl, h1, _, hl, hm, hmm, hx, hi⟩
  · simp only [List.cons.injEq, Value.slice.injEq, and_true] at h1
    obtain ⟨rfl, rfl, rfl⟩ := h1
    omega
  · simp only [List.cons.injEq, Value.slice.injEq, and_true] at h1
    obtain ⟨rfl, rfl, rfl⟩ := h1
    simp only [Prod.mk.injEq] at hx
    have hq := hsz ((((List.range len).map D).length + ((List.range (m - len)).map fun j => D (len + j)).length) * Tryd.prog.bytesOf 9) (by
      rw [hx.1]
      simp only [DataW.weights, Tryd.underlying22, List.mem_cons, List.mem_append]
      exact Or.inl trivial)
    rw [c9] at hq
    simp only [List.length_map, List.length_range] at hq
    unfold reachBytes at hq
    have hmc : m = cap := by simpa using hmm
    omega
/-- What came in: a list of texts. -/
theorem open_txl {H : Type} {enc : TypeId × Value → H} {w : World} {d : DataW H} {ps : List MemPlace} {a0 : Option Addr} {len cap : Nat}
    (h : DataW.Trod enc Tryd.prog w 0 (fun _ => true) true 22 (.slice a0 len cap) d ps) (hsz : ∀ q ∈ d.weights Tryd.prog 22, q ≤ reachBytes) :
    ∃ xs : List ByteArray, xs.length = len ∧ TxL w a0 xs ∧ (∀ x ∈ xs, x.size ≤ 140737488351232) ∧ len * 16 ≤ 140737488351232 := by
  obtain ⟨T, hl, hL, hT⟩ := open_strs h hsz
  refine ⟨(List.range len).map T, by simp, fun i x hx => ?_, fun x hx => ?_, strs_wgt h hsz⟩
  · rw [List.getElem?_map] at hx
    obtain ⟨j, hj, rfl⟩ := Option.map_eq_some_iff.1 hx
    obtain ⟨h1, h2⟩ := List.getElem?_eq_some_iff.1 hj
    simp at h1 h2
    subst h2
    exact hL i h1
  · obtain ⟨i, hi, rfl⟩ := List.mem_map.1 hx
    exact hT i (by simpa using hi)
end Go.Proofs.YteccnnpialaalaaDoor
/- What a slice of texts that came in is. -/
namespace Go.Proofs.YteccnnpialaalaaDoor
open Go.ChangeShapes Go.WideShapes Go.ChangeAt Go.RowKit Go.Joins
set_option linter.unusedSimpArgs false
set_option linter.unusedVariables false
set_option maxRecDepth 100000 in
theorem okWide_strs14 {W : World} {base : Nat} {a0 : Option Addr} {len cap : Nat} (h : Value.okWide Tryd.prog W .any base 22 (.slice a0 len cap)) :
    (a0 = none → len = 0 ∧ cap = 0) ∧ (∀ p, a0 = some p → ∃ b o, p = ⟨b, o, none⟩) ∧ len ≤ cap := by
  simp only [Value.okWide, Tryd.underlying22, Cell.okWide, Cell.ok] at h
  cases a0 with
  | none =>
    have h' : len = 0 ∧ cap = 0 := by
      cases len <;> cases cap <;> simp_all
    exact ⟨fun _ => h', fun p hp => by (cases hp), by omega⟩
  | some q =>
    obtain ⟨h1, _, _, h3, _⟩ := h
    refine ⟨fun hp => by (cases hp), fun p hp => ?_, h1⟩
    cases hp
    obtain ⟨b, o, sp⟩ := q
    simp at h3
    subst h3
    exact ⟨b, o, rfl⟩
end Go.Proofs.YteccnnpialaalaaDoor
