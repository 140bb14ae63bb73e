/- A list of texts that came in, of a bulk that is told. -/
import Derived.Test.YtblmblbkfdcbjaaO4
import Derived.Test.YtblmblbkfdcbjaaM1
namespace Go.Proofs.Ytblmblbkfdcbjaa
open Go.ChangeShapes Go.WideShapes Go.ChangeAt Go.RowKit Go.Joins
set_option linter.unusedSimpArgs false
set_option linter.unusedVariables false
theorem blk_mem {H : Type} {d : DataW H} : ∀ {l : List (DataW H)}, d ∈ l → Rows.uptoBulk d ≤ Rows.uptoBulkAll l
  | [], h => by cases h
  | x :: l, h => by
    rw [Rows.uptoBulkAll]
    rcases List.mem_cons.1 h with rfl | h
    · omega
    · have := blk_mem h; omega
theorem blk_len {H : Type} (hpos : ∀ d : DataW H, 1 ≤ Rows.uptoBulk d) : ∀ (l : List (DataW H)), l.length ≤ Rows.uptoBulkAll l
  | [] => by simp
  | x :: l => by
    rw [Rows.uptoBulkAll, List.length_cons]
    have := blk_len hpos l
    have := hpos x
    omega
theorem blk_pos {H : Type} (d : DataW H) : 1 ≤ Rows.uptoBulk d := by
  cases d with
  | lit l => cases l <;> simp [Rows.uptoBulk]
  | nil => simp [Rows.uptoBulk]
  | ptr d => simp [Rows.uptoBulk]
  | slice e s => simp [Rows.uptoBulk]
  | agg p => simp [Rows.uptoBulk]
  | iface t d => simp [Rows.uptoBulk]
  | map e => simp [Rows.uptoBulk]
  | held h => simp [Rows.uptoBulk]
theorem open_txl_upto {H : Type} {enc : TypeId × Value → H} {w : World} {d : DataW H} {ps : List MemPlace} {a0 : Option Addr} {len cap N : Nat}
    (h : DataW.Trod enc Try.prog w 0 (fun _ => true) true 22 (.slice a0 len cap) d ps) (hN : Rows.uptoBulk d ≤ N) :
    ∃ xs : List ByteArray, xs.length = len ∧ TxL w a0 xs ∧ (∀ x ∈ xs, x.size ≤ N) ∧ len ≤ N := by
  have c9 : Try.prog.cellsOf 9 = 1 := by kernel_rfl
  obtain ⟨fuel, hf⟩ := h
  have hcs : (Value.slice a0 len cap).cells.toList = [.slice a0 len cap] := by simp [Value.cells]
  rw [hcs] at hf
  rcases Go.Deep.open_slice1 Try.underlying22 c9 hf with ⟨h1, _⟩ | ⟨a, l, c, m, n, V, D, Pl, h1, _, hl, hm, hmm, hx, hi⟩
  · simp only [List.cons.injEq, Value.slice.injEq, and_true] at h1
    obtain ⟨rfl, rfl, rfl⟩ := h1
    exact ⟨[], rfl, fun i x hx => by simp at hx, fun x hx => (by cases hx), by omega⟩
  · simp only [List.cons.injEq, Value.slice.injEq, and_true] at h1
    obtain ⟨rfl, rfl, rfl⟩ := h1
    simp only [Prod.mk.injEq] at hx
    have hlm : len ≤ m := by rw [hmm]; split <;> omega
    rw [hx.1, Rows.uptoBulk] at hN
    have hlen := blk_len blk_pos ((List.range len).map D)
    rw [List.length_map, List.length_range] at hlen
    have one : ∀ i, i < len → ∃ t : ByteArray, (∃ b off, a = ⟨b, off, none⟩ ∧ b < w.heap.size ∧ w.cell? ⟨b, off + i, none⟩ = some (.string t)) ∧ t.size ≤ N := by
      intro i hil
      obtain ⟨h2, h3⟩ := hi i (by omega)
      obtain ⟨tv, e3, hy3, _⟩ := DataW.trod_string Try.underlying9 h3
      simp only [List.cons.injEq, and_true] at e3
      rw [e3] at h2
      obtain ⟨b, off, sp⟩ := a
      have hsp : sp = none := by
        have k2 := (hi 0 (by omega)).1
        obtain ⟨t0, e0, _⟩ := DataW.trod_string Try.underlying9 (hi 0 (by omega)).2
        rw [show (⟨b, off, sp⟩ : Addr).add 0 = ⟨b, off, sp⟩ from rfl] at k2
        exact World.cell?_spot k2
      subst hsp
      rw [add_plain] at h2
      refine ⟨tv, ⟨b, off, rfl, block_lt_of_cell h2, h2⟩, ?_⟩
      have hmem := blk_mem (d := D i) (l := (List.range len).map D) (List.mem_map.2 ⟨i, by simpa using hil, rfl⟩)
      simp only [Prod.mk.injEq] at hy3
      rw [hy3.1, Rows.uptoBulk] at hmem
      have : tv.data.toList.length = tv.size := Array.length_toList
      omega
    obtain ⟨T, hT⟩ := Go.Deep.choose_lt one
    refine ⟨(List.range len).map T, by simp, fun i x hx => ?_, fun x hx => ?_, by omega⟩
    · rw [List.getElem?_map] at hx
      obtain ⟨j, hj, rfl⟩ := Option.map_eq_some_iff.1 hx
      obtain ⟨h1, h2⟩ := List.getElem?_eq_some_iff.1 hj
      simp at h1 h2
      subst h2
      obtain ⟨b, off, rfl, hb, hc⟩ := (hT i h1).1
      exact ⟨b, off, rfl, hb, hc⟩
    · obtain ⟨i, hi, rfl⟩ := List.mem_map.1 hx
      exact (hT i (by simpa using hi)).2
end Go.Proofs.Ytblmblbkfdcbjaa
