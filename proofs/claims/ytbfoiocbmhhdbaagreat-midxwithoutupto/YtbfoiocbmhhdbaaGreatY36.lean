import Derived.Test.YtbfoiocbmhhdbaaGreatY26
import Derived.Test.YtbfoiocbmhhdbaaGreatY35
import Derived.Test.YtbfoiocbmhhdbaaGreatY19
import Derived.SizedLaws
import Derived.OpenShut
/- Lists of packs of law 15 that came in, opened; their items are no more than their bulk. -/
namespace Go.Proofs.YtbfoiocbmhhdbaaGreat
open Go.ChangeShapes Go.WideShapes Go.ChangeAt Go.RowKit Go.Joins
set_option linter.unusedSimpArgs false
set_option linter.unusedVariables false
theorem open_elemB {H : Type} {enc : TypeId × Value → H} {P : Program} {w : World} {t e : TypeId} {d : DataW H} {ps : List MemPlace} {a0 : Option Addr} {len cap : Nat}
    (ht : P.underlying t = some (.slice e)) (hce : 0 < P.cellsOf e) (h : DataW.Trod enc P w 0 (fun _ => true) true t (.slice a0 len cap) d ps) :
    ∃ D : Nat → DataW H, (∀ i, i < len → ∃ (b off : Nat) (cs : List Value) (Pl : List MemPlace) (n : Nat), a0 = some ⟨b, off, none⟩ ∧ b < w.heap.size ∧ cs.length = P.cellsOf e ∧
      (∀ j, j < P.cellsOf e → w.cell? ⟨b, off + i * P.cellsOf e + j, none⟩ = cs[j]?) ∧ DataW.trod enc P w 0 (fun _ => true) true n e cs = some (D i, Pl)) ∧ Rows.uptoBulkAll ((List.range len).map D) ≤ Rows.uptoBulk d := by
  obtain ⟨fuel, hf⟩ := h
  have hcs : (Value.slice a0 len cap).cells.toList = [.slice a0 len cap] := by simp [Value.cells]
  rw [hcs] at hf
  rcases Go.Deep.open_slice ht hf with ⟨h1, _⟩ | ⟨a, l, c, m, n, D, Pl, h1, _, hl, hm, hmm, hx, hi⟩
  · simp only [List.cons.injEq, Value.slice.injEq, and_true] at h1
    obtain ⟨rfl, rfl, rfl⟩ := h1
    exact ⟨fun _ => .nil, fun i hi => by omega, by simp [Rows.uptoBulkAll]⟩
  · simp only [List.cons.injEq, Value.slice.injEq, and_true] at h1
    obtain ⟨rfl, rfl, rfl⟩ := h1
    have hmc : m = cap := by simpa using hmm
    refine ⟨D, fun i hil => ?_, ?_⟩
    · obtain ⟨cs, h2, h3⟩ := hi i (by omega)
      obtain ⟨_, hlen, hcell⟩ := World.cells?_some h2
      obtain ⟨b, off, spot⟩ := a
      have hsp : spot = none := by
        obtain ⟨cs0, k2, _⟩ := hi 0 (by omega)
        obtain ⟨_, klen, kcell⟩ := World.cells?_some k2
        have kc := kcell 0 hce
        rw [Go.Deep.add_add, Nat.zero_mul, Nat.zero_add, show (⟨b, off, spot⟩ : Addr).add 0 = ⟨b, off, spot⟩ from rfl, List.getElem?_eq_getElem (by omega)] at kc
        exact World.cell?_spot kc
      subst hsp
      have hc0 := hcell 0 hce
      rw [Go.Deep.add_add, add_plain, List.getElem?_eq_getElem (by omega)] at hc0
      refine ⟨b, off, cs, Pl i, n, rfl, block_lt_of_cell hc0, hlen, fun j hj => ?_, h3⟩
      have := hcell j hj
      rw [Go.Deep.add_add, add_plain, ← Nat.add_assoc] at this
      exact this
    · simp only [Prod.mk.injEq] at hx
      rw [hx.1, Rows.uptoBulk]
      omega
theorem open_items0 {H : Type} {enc : TypeId × Value → H} {w : World} {d : DataW H} {ps : List MemPlace} {a0 : Option Addr} {len cap : Nat}
    (h : DataW.Trod enc Tryz.prog w 0 (fun _ => true) true 39 (.slice a0 len cap) d ps) :
    ∃ L : List Xe, L.length = len ∧ ItL w a0 L := by
  have ce : Tryz.prog.cellsOf 45 = 4 := by kernel_rfl
  have k1 : Tryz.prog.cellsOf 5 = 1 := by kernel_rfl
  have k4 : Tryz.prog.cellsOf 9 = 1 := by kernel_rfl
  have k5 : Tryz.prog.cellsOf 3 = 1 := by kernel_rfl
  obtain ⟨_, hall⟩ := open_elem Tryz.underlying39 (by rw [ce]; omega) h
  have one : ∀ i, i < len → ∃ e : Xe, ∃ g o, a0 = some ⟨g, o, none⟩ ∧ g < w.heap.size ∧ w.cell? ⟨g, o + i * 4, none⟩ = some (.string e.id) ∧ w.cell? ⟨g, o + i * 4 + 1, none⟩ = some (.int .u8 (e.k.toNat : Int)) ∧ w.cell? ⟨g, o + i * 4 + 2, none⟩ = some (.int .i64 e.off) ∧ w.cell? ⟨g, o + i * 4 + 3, none⟩ = some (.int .i64 e.sz) := by
    intro i hi
    obtain ⟨b, off, cs, D, Pl, n, ha, hb, hlen, hcell, htrod, _⟩ := hall i hi
    rw [ce] at hlen hcell
    obtain ⟨y0, y1, y2, y3, m, hx, _, t0, t1, t2, t3⟩ := trod4x Tryz.underlying45 htrod
    obtain ⟨v0, v1, v2, v3, rfl⟩ := len4Y hlen
    simp only [k1, k4, k5] at t0 t1 t2 t3
    obtain ⟨s0, e0, _, _⟩ := DataW.trod_string Tryz.underlying9 t0
    obtain ⟨n1, e1, _, w1⟩ := DataW.trod_int Tryz.underlying5 t1
    obtain ⟨n2, e2, _, _⟩ := DataW.trod_int Tryz.underlying3 t2
    obtain ⟨n3, e3, _, _⟩ := DataW.trod_int Tryz.underlying3 t3
    simp at e0 e1 e2 e3
    subst e0 e1 e2 e3
    obtain ⟨kk, rfl⟩ := u8_valx n1 w1
    refine ⟨⟨s0, kk, n2, n3⟩, b, off, ha, hb, ?_, ?_, ?_, ?_⟩
    · exact hcell 0 (by omega)
    · exact hcell 1 (by omega)
    · exact hcell 2 (by omega)
    · exact hcell 3 (by omega)
  haveI : Inhabited Xe := ⟨⟨⟨#[]⟩, 0, 0, 0⟩⟩
  obtain ⟨T, hT⟩ := Go.Deep.choose_lt one
  refine ⟨(List.range len).map T, by simp, fun i x hx => ?_⟩
  rw [List.getElem?_map] at hx
  obtain ⟨j, hj, rfl⟩ := Option.map_eq_some_iff.1 hx
  have hi : i < len := by have := (List.getElem?_eq_some_iff.1 hj).1; simpa using this
  have : j = i := by rw [List.getElem?_range hi] at hj; cases hj; rfl
  subst this
  exact hT j hi
theorem bulk_lenX {H : Type} {enc : TypeId × Value → H} {P : Program} {w : World} {t e : TypeId} {d : DataW H} {ps : List MemPlace} {a0 : Option Addr} {len cap : Nat} (ht : P.underlying t = some (.slice e)) (hce : 0 < P.cellsOf e) (h : DataW.Trod enc P w 0 (fun _ => true) true t (.slice a0 len cap) d ps) : len ≤ Rows.uptoBulk d := by
  obtain ⟨D, _, h2⟩ := open_elemB ht hce h
  have := blk_len blk_pos ((List.range len).map D)
  rw [List.length_map, List.length_range] at this
  omega
theorem open_packB {H : Type} {enc : TypeId × Value → H} {w : World} {fuel : Nat} {cs : List Value} {x : DataW H × List MemPlace} (h : DataW.trod enc Tryz.prog w 0 (fun _ => true) true fuel 41 cs = some x) :
    ∃ p : Pk, cs = pkC p ∧ p.L.length = p.n ∧ ItL w p.a p.L ∧ p.n ≤ Rows.uptoBulk x.1 := by
  have ce : Tryz.prog.cellsOf 41 = 3 := by kernel_rfl
  have ci : Tryz.prog.cellsOf 45 = 4 := by kernel_rfl
  have k4 : Tryz.prog.cellsOf 9 = 1 := by kernel_rfl
  have k5 : Tryz.prog.cellsOf 39 = 1 := by kernel_rfl
  obtain ⟨y0, y1, y2, m, hx, hlen, t0, t1, t2⟩ := Go.Deep.trod_struct3 Tryz.underlying41 h
  rw [ce] at hlen
  obtain ⟨v0, v1, v2, rfl⟩ := len3Y hlen
  simp only [k4, k5] at t0 t1 t2
  obtain ⟨s0, e0, _, _⟩ := DataW.trod_string Tryz.underlying9 t0
  obtain ⟨s2, e2, _, _⟩ := DataW.trod_string Tryz.underlying9 t2
  simp at e0 e2
  subst e0 e2
  simp only [List.drop_succ_cons, List.drop_zero, List.take_succ_cons, List.take_zero] at t1
  obtain ⟨a, n, c, rfl, ht1⟩ := slice_cellY Tryz.underlying39 t1
  obtain ⟨L, q1, q2⟩ := open_items0 ht1
  have hb := bulk_lenX Tryz.underlying39 (by rw [ci]; omega) ht1
  refine ⟨⟨s0, a, n, c, s2, L⟩, rfl, q1, q2, Nat.le_trans hb ?_⟩
  have e1 : x.1 = .agg [y0.1, y1.1, y2.1] := by rw [hx]
  rw [e1]
  simp only [Rows.uptoBulk, Rows.uptoBulkAll]
  omega
theorem sum_bulk {H : Type} (f : Nat → Nat) (D : Nat → DataW H) : ∀ (is : List Nat), (∀ i ∈ is, f i ≤ Rows.uptoBulk (D i)) → (is.map f).sum ≤ Rows.uptoBulkAll (is.map D)
  | [], _ => by simp
  | i :: is, h => by
    have h1 := h i (List.mem_cons_self ..)
    have h2 := sum_bulk f D is (fun j hj => h j (List.mem_cons_of_mem _ hj))
    rw [List.map_cons, List.map_cons, List.sum_cons, Rows.uptoBulkAll]
    omega
theorem open_packs15 {H : Type} {enc : TypeId × Value → H} {w : World} {d : DataW H} {ps : List MemPlace} {a0 : Option Addr} {len cap N : Nat}
    (h : DataW.Trod enc Tryz.prog w 0 (fun _ => true) true 22 (.slice a0 len cap) d ps) (hN : Rows.uptoBulk d ≤ N) (hN2 : N ≤ 4611686018427387904) :
    ∃ L : List Pk, L.length = len ∧ PkL w a0 L ∧ PkI w L ∧ (L.map (fun p => p.L.length)).sum ≤ N ∧ len ≤ N := by
  have ce : Tryz.prog.cellsOf 41 = 3 := by kernel_rfl
  obtain ⟨D, hall, hbk⟩ := open_elemB Tryz.underlying22 (by rw [ce]; omega) h
  have hlb := bulk_lenX Tryz.underlying22 (by rw [ce]; omega) h
  have one : ∀ i, i < len → ∃ p : Pk, (∃ g o, a0 = some ⟨g, o, none⟩ ∧ g < w.heap.size ∧ ∀ j v, (pkC p)[j]? = some v → w.cell? ⟨g, o + i * 3 + j, none⟩ = some v) ∧ p.L.length = p.n ∧ ItL w p.a p.L ∧ p.n ≤ Rows.uptoBulk (D i) := by
    intro i hi
    obtain ⟨b, off, cs, Pl, n, ha, hb, hlen, hcell, htrod⟩ := hall i hi
    rw [ce] at hlen hcell
    obtain ⟨p, rfl, q1, q2, q3⟩ := open_packB htrod
    refine ⟨p, ⟨b, off, ha, hb, fun j v hv => ?_⟩, q1, q2, q3⟩
    have hj : j < 3 := by rw [← hlen]; exact (List.getElem?_eq_some_iff.1 hv).1
    rw [hcell j hj, hv]
  haveI : Inhabited Pk := ⟨⟨⟨#[]⟩, none, 0, 0, ⟨#[]⟩, []⟩⟩
  obtain ⟨T, hT⟩ := Go.Deep.choose_lt one
  have hget : ∀ {i : Nat} {p : Pk}, ((List.range len).map T)[i]? = some p → i < len ∧ p = T i := fun {i p} hx => by
    rw [List.getElem?_map] at hx
    obtain ⟨j, hj, rfl⟩ := Option.map_eq_some_iff.1 hx
    have hi : i < len := by have := (List.getElem?_eq_some_iff.1 hj).1; simpa using this
    have : j = i := by rw [List.getElem?_range hi] at hj; cases hj; rfl
    subst this
    exact ⟨hi, rfl⟩
  have hsum := sum_bulk (fun i => (T i).L.length) D (List.range len) (fun i hi => by
    obtain ⟨_, h1, _, h2⟩ := hT i (List.mem_range.1 hi)
    show (T i).L.length ≤ _
    omega)
  refine ⟨(List.range len).map T, by simp, fun i p hp => ?_, fun p hp => ?_, ?_, by omega⟩
  · obtain ⟨hi, rfl⟩ := hget hp
    exact (hT i hi).1
  · obtain ⟨i, hi⟩ := List.getElem?_of_mem hp
    obtain ⟨hl, rfl⟩ := hget hi
    obtain ⟨_, h1, h2, h3⟩ := hT i hl
    refine ⟨h2, h1, ?_⟩
    have h4 := blk_mem (d := D i) (l := (List.range len).map D) (List.mem_map.2 ⟨i, List.mem_range.2 hl, rfl⟩)
    omega
  · rw [List.map_map]
    have : ((List.range len).map ((fun p : Pk => p.L.length) ∘ T)).sum ≤ Rows.uptoBulkAll ((List.range len).map D) := hsum
    omega
end Go.Proofs.YtbfoiocbmhhdbaaGreat
/- A list of texts that came in, as a list. -/
namespace Go.Proofs.YtbfoiocbmhhdbaaGreat
open Go.ChangeShapes Go.WideShapes Go.ChangeAt Go.RowKit Go.Joins
set_option linter.unusedSimpArgs false
set_option linter.unusedVariables false
theorem strs_wgt {H : Type} {enc : TypeId × Value → H} {w : World} {d : DataW H} {ps : List MemPlace} {a0 : Option Addr} {len cap : Nat}
    (h : DataW.Trod enc Tryz.prog w 0 (fun _ => true) true 23 (.slice a0 len cap) d ps) (hsz : ∀ q ∈ d.weights Tryz.prog 23, q ≤ reachBytes) : len * 16 ≤ 140737488351232 := by
  have c9 : Tryz.prog.bytesOf 9 = 16 := by kernel_rfl
  obtain ⟨fuel, hf⟩ := h
  have hcs : (Value.slice a0 len cap).cells.toList = [.slice a0 len cap] := by simp [Value.cells]
  rw [hcs] at hf
  rcases Go.Deep.open_slice Tryz.underlying23 hf with ⟨h1, _⟩ | ⟨a, l, c, m, n, D, Pl, h1, _, hl, hm, hmm, hx, hi⟩
  · simp only [List.cons.injEq, Value.slice.injEq, and_true] at h1
    obtain ⟨rfl, rfl, rfl⟩ := h1
    omega
  · simp only [List.cons.injEq, Value.slice.injEq, and_true] at h1
    obtain ⟨rfl, rfl, rfl⟩ := h1
    simp only [Prod.mk.injEq] at hx
    have hq := hsz ((((List.range len).map D).length + ((List.range (m - len)).map fun j => D (len + j)).length) * Tryz.prog.bytesOf 9) (by
      rw [hx.1]
      simp only [DataW.weights, Tryz.underlying23, List.mem_cons, List.mem_append]
      exact Or.inl trivial)
    rw [c9] at hq
    simp only [List.length_map, List.length_range] at hq
    unfold reachBytes at hq
    have hmc : m = cap := by simpa using hmm
    omega
/-- What came in: a list of texts. -/
theorem open_txl {H : Type} {enc : TypeId × Value → H} {w : World} {d : DataW H} {ps : List MemPlace} {a0 : Option Addr} {len cap : Nat}
    (h : DataW.Trod enc Tryz.prog w 0 (fun _ => true) true 23 (.slice a0 len cap) d ps) (hsz : ∀ q ∈ d.weights Tryz.prog 23, q ≤ reachBytes) :
    ∃ xs : List ByteArray, xs.length = len ∧ TxL w a0 xs ∧ (∀ x ∈ xs, x.size ≤ 140737488351232) ∧ len * 16 ≤ 140737488351232 := by
  obtain ⟨T, hl, hL, hT⟩ := open_strs h hsz
  refine ⟨(List.range len).map T, by simp, fun i x hx => ?_, fun x hx => ?_, strs_wgt h hsz⟩
  · rw [List.getElem?_map] at hx
    obtain ⟨j, hj, rfl⟩ := Option.map_eq_some_iff.1 hx
    obtain ⟨h1, h2⟩ := List.getElem?_eq_some_iff.1 hj
    simp at h1 h2
    subst h2
    exact hL i h1
  · obtain ⟨i, hi, rfl⟩ := List.mem_map.1 hx
    exact hT i (by simpa using hi)
end Go.Proofs.YtbfoiocbmhhdbaaGreat
/- What a slice of texts that came in is. -/
namespace Go.Proofs.YtbfoiocbmhhdbaaGreat
open Go.ChangeShapes Go.WideShapes Go.ChangeAt Go.RowKit Go.Joins
set_option linter.unusedSimpArgs false
set_option linter.unusedVariables false
set_option maxRecDepth 100000 in
theorem okWide_strs14 {W : World} {base : Nat} {a0 : Option Addr} {len cap : Nat} (h : Value.okWide Tryz.prog W .any base 23 (.slice a0 len cap)) :
    (a0 = none → len = 0 ∧ cap = 0) ∧ (∀ p, a0 = some p → ∃ b o, p = ⟨b, o, none⟩) ∧ len ≤ cap := by
  simp only [Value.okWide, Tryz.underlying23, Cell.okWide, Cell.ok] at h
  cases a0 with
  | none =>
    have h' : len = 0 ∧ cap = 0 := by
      cases len <;> cases cap <;> simp_all
    exact ⟨fun _ => h', fun p hp => by (cases hp), by omega⟩
  | some q =>
    obtain ⟨h1, _, _, h3, _⟩ := h
    refine ⟨fun hp => by (cases hp), fun p hp => ?_, h1⟩
    cases hp
    obtain ⟨b, o, sp⟩ := q
    simp at h3
    subst h3
    exact ⟨b, o, rfl⟩
end Go.Proofs.YtbfoiocbmhhdbaaGreat
