import Derived.Test.YtpfknjnigcefgaaGreatDoorY40
import Derived.Test.YtpfknjnigcefgaaGreatDoorY8
import Derived.OpenShut
import Derived.ProofKit
import Derived.Deep.Slices
import Derived.Deep.Strs
import Derived.Test.YtpfknjnigcefgaaGreatDoorY7
/- Lists of the document's entries, and of names, that came in, opened. -/
namespace Go.Proofs.YtpfknjnigcefgaaGreatDoor
open Go.ChangeShapes Go.WideShapes Go.ChangeAt Go.RowKit Go.Joins
set_option linter.unusedSimpArgs false
set_option linter.unusedVariables false
section
variable {H : Type} {enc : TypeId × Value → H} {P : Program} {w : World} {base : Nat} {spare : Nat → Bool} {held : Bool}
theorem trod4x {t : TypeId} {f0 f1 f2 f3 : Field} {fuel : Nat} {cs : List Value} {x : DataW H × List MemPlace} (ht : P.underlying t = some (.struct #[f0, f1, f2, f3])) (h : DataW.trod enc P w base spare held fuel t cs = some x) :
    ∃ y0 y1 y2 y3 n, x.1 = .agg [y0.1, y1.1, y2.1, y3.1] ∧ cs.length = P.cellsOf t ∧ DataW.trod enc P w base spare held n f0.type ((cs.drop f0.offset).take (P.cellsOf f0.type)) = some y0 ∧
      DataW.trod enc P w base spare held n f1.type ((cs.drop f1.offset).take (P.cellsOf f1.type)) = some y1 ∧ DataW.trod enc P w base spare held n f2.type ((cs.drop f2.offset).take (P.cellsOf f2.type)) = some y2 ∧
      DataW.trod enc P w base spare held n f3.type ((cs.drop f3.offset).take (P.cellsOf f3.type)) = some y3 := by
  obtain ⟨xs, n, _, rfl, hl, hlen, hf⟩ := DataW.trod_struct ht h
  match xs, hlen with
  | [y0, y1, y2, y3], _ => exact ⟨y0, y1, y2, y3, n, by simp, hl, by simpa using hf 0 f0 rfl, by simpa using hf 1 f1 rfl, by simpa using hf 2 f2 rfl, by simpa using hf 3 f3 rfl⟩
theorem open_lenx {t e : TypeId} {d : DataW H} {ps : List MemPlace} {a0 : Option Addr} {len cap : Nat} (ht : P.underlying t = some (.slice e)) (h : DataW.Trod enc P w 0 (fun _ => true) true t (.slice a0 len cap) d ps)
    (hsz : ∀ q ∈ d.weights P t, q ≤ reachBytes) : len * P.bytesOf e ≤ reachBytes := by
  obtain ⟨fuel, hf⟩ := h
  have hcs : (Value.slice a0 len cap).cells.toList = [.slice a0 len cap] := by simp [Value.cells]
  rw [hcs] at hf
  rcases Go.Deep.open_slice ht hf with ⟨h1, _⟩ | ⟨a, l, c, m, n, D, Pl, h1, _, hl, hm, hmm, hx, hi⟩
  · simp only [List.cons.injEq, Value.slice.injEq, and_true] at h1
    obtain ⟨rfl, rfl, rfl⟩ := h1
    simp
  · simp only [List.cons.injEq, Value.slice.injEq, and_true] at h1
    obtain ⟨rfl, rfl, rfl⟩ := h1
    simp only [Prod.mk.injEq] at hx
    have := hsz _ (by rw [hx.1]; simp only [DataW.weights, ht]; exact List.mem_cons_self ..)
    refine Nat.le_trans ?_ this
    simp only [List.length_map, List.length_range]
    exact Nat.mul_le_mul_right _ (by omega)
end
theorem u8_valx (a : Int) (h : (Lit.int .u8 a).wf = true) : ∃ x : UInt8, a = (x.toNat : Int) := by
  have h' : 0 ≤ a ∧ a ≤ 255 := by simpa [Lit.wf, IntKind.min, IntKind.max, IntKind.signed, IntKind.bits] using h
  refine ⟨UInt8.ofNat a.toNat, ?_⟩
  simp
  omega
theorem cells_idx (cs : List Value) (hsz : cs.length = 32) (h : ∀ i, i < 32 → ∃ n : Nat, cs[i]? = some (.int .u8 (n : Int)) ∧ n < 256) : ∃ s : ByteArray, s.size = 32 ∧ cs = (idc s).toList := by
  obtain ⟨f, hf⟩ := Go.Deep.choose_lt h
  have hl : ∀ x ∈ (List.range 32).map f, x < 256 := by
    intro x hx
    simp only [List.mem_map, List.mem_range] at hx
    obtain ⟨i, hi, rfl⟩ := hx
    exact (hf i hi).2
  refine ⟨sb ((List.range 32).map f), by rw [sb_size]; simp, ?_⟩
  unfold idc
  rw [byl_sb _ hl]
  apply List.ext_getElem?
  intro i
  by_cases hi : i < 32
  · rw [(hf i hi).1]
    simp [bvc, hi]
  · rw [List.getElem?_eq_none (by omega), List.getElem?_eq_none (by simp [bvc]; omega)]
/-- The cells of a name. -/
theorem trod_idx {H : Type} {enc : TypeId × Value → H} {w : World} {base : Nat} {spare : Nat → Bool} {held : Bool} {fuel : Nat} {cs : List Value} {x : DataW H × List MemPlace}
    (h : DataW.trod enc Tryz.prog w base spare held fuel 23 cs = some x) : ∃ s : ByteArray, s.size = 32 ∧ cs = (idc s).toList := by
  have hu : Tryz.prog.underlying 23 = some (.array 32 5) := Tryz.underlying23
  have hc : Tryz.prog.cellsOf 5 = 1 := by kernel_rfl
  have hct : Tryz.prog.cellsOf 23 = 32 := by kernel_rfl
  obtain ⟨xs, m, _, _, hl, hn, hi⟩ := DataW.trod_array hu h
  rw [hct] at hl
  refine cells_idx cs hl (fun i hlt => ?_)
  have := hi i hlt
  rw [hc, Nat.mul_one, List.getElem?_eq_getElem (by omega)] at this
  have e1 : (cs.drop i).take 1 = [cs[i]'(by omega)] := by
    rw [List.drop_eq_getElem_cons (by omega), List.take_succ_cons, List.take_zero]
  rw [e1] at this
  obtain ⟨n, e, _, wn⟩ := DataW.trod_int Tryz.underlying5 this
  have hb : 0 ≤ n ∧ n ≤ 255 := by simpa [Lit.wf, IntKind.min, IntKind.max, IntKind.signed, IntKind.bits] using wn
  simp at e
  refine ⟨n.toNat, ?_, by omega⟩
  rw [List.getElem?_eq_getElem (by omega), e, show ((n.toNat : Nat) : Int) = n from by omega]
set_option maxRecDepth 100000 in
theorem open_xes {H : Type} {enc : TypeId × Value → H} {w : World} {d : DataW H} {ps : List MemPlace} {a0 : Option Addr} {len cap : Nat}
    (h : DataW.Trod enc Tryz.prog w 0 (fun _ => true) true 24 (.slice a0 len cap) d ps) (hsz : ∀ q ∈ d.weights Tryz.prog 24, q ≤ reachBytes) :
    ∃ l, l.length = len ∧ XeL w a0 l ∧ (len + 1) * 56 ≤ 140737488355328 ∧ ∀ e ∈ l, -9223372036854775808 ≤ e.off ∧ e.off ≤ 9223372036854775807 ∧ -9223372036854775808 ≤ e.sz ∧ e.sz ≤ 9223372036854775807 := by
  have ce : Tryz.prog.cellsOf 56 = 35 := by kernel_rfl
  have be : Tryz.prog.bytesOf 56 = 56 := by kernel_rfl
  have c9 : Tryz.prog.cellsOf 3 = 1 := by kernel_rfl
  have c5 : Tryz.prog.cellsOf 5 = 1 := by kernel_rfl
  have c32 : Tryz.prog.cellsOf 23 = 32 := by kernel_rfl
  have hl := open_lenx Tryz.underlying24 h hsz
  rw [be] at hl
  unfold reachBytes at hl
  obtain ⟨_, hall⟩ := open_elem Tryz.underlying24 (by rw [ce]; omega) h
  have one : ∀ i, i < len → ∃ x : Xe, (x.id.size = 32 ∧ ∃ g o, a0 = some ⟨g, o, none⟩ ∧ g < w.heap.size ∧ ∀ j v, (xeC x)[j]? = some v → w.cell? ⟨g, o + i * 35 + j, none⟩ = some v) ∧ -9223372036854775808 ≤ x.off ∧ x.off ≤ 9223372036854775807 ∧ -9223372036854775808 ≤ x.sz ∧ x.sz ≤ 9223372036854775807 := by
    intro i hi
    obtain ⟨b, off, cs, D, Pl, n, ha, hb, hlen, hcell, htrod, hw⟩ := hall i hi
    rw [ce] at hlen hcell
    obtain ⟨y0, y1, y2, y3, m, hx, _, t0, t1, t2, t3⟩ := trod4x Tryz.underlying56 htrod
    simp only [c9, c5, c32] at t0 t1 t2 t3
    obtain ⟨s, hs, e0⟩ := trod_idx t0
    obtain ⟨k1, e1, _, w1⟩ := DataW.trod_int Tryz.underlying5 t1
    obtain ⟨k2, e2, _, w2⟩ := DataW.trod_int Tryz.underlying3 t2
    obtain ⟨k3, e3, _, w3⟩ := DataW.trod_int Tryz.underlying3 t3
    obtain ⟨kk, rfl⟩ := u8_valx k1 w1
    have b2 : -9223372036854775808 ≤ k2 ∧ k2 ≤ 9223372036854775807 := by simpa [Lit.wf, IntKind.min, IntKind.max, IntKind.signed, IntKind.bits] using w2
    have b3 : -9223372036854775808 ≤ k3 ∧ k3 ≤ 9223372036854775807 := by simpa [Lit.wf, IntKind.min, IntKind.max, IntKind.signed, IntKind.bits] using w3
    have hcs : cs = (xeC ⟨s, kk, k2, k3⟩).toList := by
      have q : cs = (cs.take 32) ++ ((cs.drop 32).take 1 ++ ((cs.drop 33).take 1 ++ (cs.drop 34).take 1)) := by
        have r1 : (cs.drop 34).take 1 = cs.drop 34 := List.take_of_length_le (by rw [List.length_drop]; omega)
        rw [r1]
        conv => lhs; rw [← List.take_append_drop 32 cs]
        congr 1
        conv => lhs; rw [← List.take_append_drop 1 (cs.drop 32), List.drop_drop]
        congr 1
        conv => lhs; rw [← List.take_append_drop 1 (cs.drop 33), List.drop_drop]
      refine q.trans ?_
      rw [e1, e2, e3]
      have e0' : cs.take 32 = (idc s).toList := by simpa using e0
      rw [e0']
      simp [xeC]
    exact ⟨⟨s, kk, k2, k3⟩, ⟨hs, b, off, ha, hb, fun j v hv => by
      have hj : j < 35 := by
        have := (Array.getElem?_eq_some_iff.1 hv).1
        rw [xeC_size _ hs] at this
        exact this
      rw [hcell j hj, hcs, Array.getElem?_toList, hv]⟩, b2.1, b2.2, b3.1, b3.2⟩
  haveI : Inhabited Xe := ⟨⟨⟨#[]⟩, 0, 0, 0⟩⟩
  obtain ⟨q, hq⟩ := Go.Deep.choose_lt one
  refine ⟨(List.range len).map q, by simp, fun i x hx => ?_, by omega, fun e he => ?_⟩
  · rw [List.getElem?_map] at hx
    obtain ⟨j, hj, rfl⟩ := Option.map_eq_some_iff.1 hx
    have hi : i < len := by have := (List.getElem?_eq_some_iff.1 hj).1; simpa using this
    have : j = i := by rw [List.getElem?_range hi] at hj; cases hj; rfl
    subst this
    exact (hq j hi).1
  · obtain ⟨j, hj, rfl⟩ := List.mem_map.1 he
    exact (hq j (List.mem_range.1 hj)).2
/-- Names of a slice. -/
def NmL (w : World) (a : Option Addr) (l : List ByteArray) : Prop := ∀ i s, l[i]? = some s → s.size = 32 ∧ ∃ g o, a = some ⟨g, o, none⟩ ∧ g < w.heap.size ∧ ∀ j v, (idc s)[j]? = some v → w.cell? ⟨g, o + i * 32 + j, none⟩ = some v
theorem NmL.below {w w' : World} {a : Option Addr} {l : List ByteArray} (h : NmL w a l) (hb : Below w.heap.size w w') : NmL w' a l := fun i s hs => by
  obtain ⟨h1, g, o, h2, h3, h4⟩ := h i s hs
  exact ⟨h1, g, o, h2, Nat.lt_of_lt_of_le h3 hb.size, fun j v hv => by rw [hb.cell h3]; exact h4 j v hv⟩
theorem open_nms {H : Type} {enc : TypeId × Value → H} {w : World} {d : DataW H} {ps : List MemPlace} {a0 : Option Addr} {len cap : Nat}
    (h : DataW.Trod enc Tryz.prog w 0 (fun _ => true) true 37 (.slice a0 len cap) d ps) :
    ∃ l, l.length = len ∧ NmL w a0 l ∧ len ≤ maxLen := by
  have ce : Tryz.prog.cellsOf 23 = 32 := by kernel_rfl
  obtain ⟨hl, hall⟩ := open_elem Tryz.underlying37 (by rw [ce]; omega) h
  have one : ∀ i, i < len → ∃ x : ByteArray, x.size = 32 ∧ ∃ g o, a0 = some ⟨g, o, none⟩ ∧ g < w.heap.size ∧ ∀ j v, (idc x)[j]? = some v → w.cell? ⟨g, o + i * 32 + j, none⟩ = some v := by
    intro i hi
    obtain ⟨b, off, cs, D, Pl, n, ha, hb, hlen, hcell, htrod, hw⟩ := hall i hi
    rw [ce] at hlen hcell
    obtain ⟨s, hs, rfl⟩ := trod_idx htrod
    exact ⟨s, hs, b, off, ha, hb, fun j v hv => by
      have hj : j < 32 := by
        have := (Array.getElem?_eq_some_iff.1 hv).1
        rw [idc_size, hs] at this
        exact this
      rw [hcell j hj, Array.getElem?_toList, hv]⟩
  haveI : Inhabited ByteArray := ⟨⟨#[]⟩⟩
  obtain ⟨q, hq⟩ := Go.Deep.choose_lt one
  refine ⟨(List.range len).map q, by simp, fun i x hx => ?_, hl⟩
  rw [List.getElem?_map] at hx
  obtain ⟨j, hj, rfl⟩ := Option.map_eq_some_iff.1 hx
  have hi : i < len := by have := (List.getElem?_eq_some_iff.1 hj).1; simpa using this
  have : j = i := by rw [List.getElem?_range hi] at hj; cases hj; rfl
  subst this
  exact hq j hi
end Go.Proofs.YtpfknjnigcefgaaGreatDoor
/- A name that came in, opened: 32 bytes. -/
namespace Go.Proofs.YtpfknjnigcefgaaGreatDoor
open Go.ChangeShapes Go.WideShapes Go.ChangeAt Go.RowKit
set_option linter.unusedSimpArgs false
set_option linter.unusedVariables false
theorem u8_bds {n : Int} (h : (Lit.int .u8 n).wf = true) : 0 ≤ n ∧ n ≤ 255 := by
  simpa [Lit.wf, IntKind.min, IntKind.max, IntKind.signed, IntKind.bits] using h
theorem cells_id (cs : Array Value) (hsz : cs.size = 32) (h : ∀ i, i < 32 → ∃ n : Nat, cs[i]? = some (.int .u8 (n : Int)) ∧ n < 256) : ∃ s : ByteArray, s.size = 32 ∧ cs = idc s := by
  obtain ⟨f, hf⟩ := Go.Deep.choose_lt h
  have hl : ∀ x ∈ (List.range 32).map f, x < 256 := by
    intro x hx
    simp only [List.mem_map, List.mem_range] at hx
    obtain ⟨i, hi, rfl⟩ := hx
    exact (hf i hi).2
  refine ⟨sb ((List.range 32).map f), by rw [sb_size]; simp, ?_⟩
  unfold idc
  rw [byl_sb _ hl]
  apply Array.ext_getElem?
  intro i
  by_cases hi : i < 32
  · rw [(hf i hi).1, List.getElem?_toArray]
    simp [bvc, hi]
  · rw [Array.getElem?_eq_none (by omega), Array.getElem?_eq_none (by simp [bvc]; omega)]
set_option maxRecDepth 100000 in
theorem open_id {H : Type} {enc : TypeId × Value → H} {w : World} {r : Reach} {b0 base : Nat} {spare : Nat → Bool} {held : Bool} {v : Value} {d : DataW H} {ps : List MemPlace}
    (hv : Value.okWide Tryz.prog w r b0 23 v) (h : DataW.Trod enc Tryz.prog w base spare held 23 v d ps) : ∃ s : ByteArray, s.size = 32 ∧ v = .agg (idc s) := by
  have hu : Tryz.prog.underlying 23 = some (.array 32 5) := Tryz.underlying23
  have hc : Tryz.prog.cellsOf 5 = 1 := by kernel_rfl
  have hct : Tryz.prog.cellsOf 23 = 32 := by kernel_rfl
  unfold Value.okWide at hv
  rw [hu] at hv
  obtain ⟨cs, rfl, hsz, _⟩ := hv
  rw [hct] at hsz
  obtain ⟨fuel, hf⟩ := h
  have hcs : (Value.agg cs).cells.toList = cs.toList := by simp [Value.cells]
  rw [hcs] at hf
  obtain ⟨xs, m, _, _, hl, hn, hi⟩ := DataW.trod_array hu hf
  obtain ⟨s, hs, rfl⟩ := cells_id cs hsz (fun i hlt => by
    have := hi i hlt
    rw [hc, Nat.mul_one, List.getElem?_eq_getElem (by omega)] at this
    have e1 : (cs.toList.drop i).take 1 = [cs[i]'(by omega)] := by
      rw [List.drop_eq_getElem_cons (by rw [Array.length_toList]; omega)]
      simp
    rw [e1] at this
    obtain ⟨n, e, _, wn⟩ := DataW.trod_int Tryz.underlying5 this
    have hb := u8_bds wn
    simp at e
    refine ⟨n.toNat, ?_, by omega⟩
    rw [Array.getElem?_eq_getElem (by omega), e, show ((n.toNat : Nat) : Int) = n from by omega])
  exact ⟨s, hs, rfl⟩
end Go.Proofs.YtpfknjnigcefgaaGreatDoor
/- A slice of entries that came in: where it may lie. -/
namespace Go.Proofs.YtpfknjnigcefgaaGreatDoor
open Go.ChangeShapes Go.WideShapes Go.ChangeAt Go.RowKit
set_option linter.unusedSimpArgs false
set_option linter.unusedVariables false
set_option maxRecDepth 100000 in
theorem okWide_xes {W : World} {base : Nat} {a0 : Option Addr} {len cap : Nat} (h : Value.okWide Tryz.prog W .any base 24 (.slice a0 len cap)) :
    (a0 = none → len = 0 ∧ cap = 0) ∧ (∀ p, a0 = some p → ∃ b o, p = ⟨b, o, none⟩) ∧ len ≤ cap := by
  simp only [Value.okWide, Tryz.underlying24, Cell.okWide, Cell.ok] at h
  cases a0 with
  | none =>
    have h' : len = 0 ∧ cap = 0 := by
      cases len <;> cases cap <;> simp_all
    exact ⟨fun _ => h', fun p hp => by (cases hp), by omega⟩
  | some q =>
    obtain ⟨h1, _, _, h3, _⟩ := h
    refine ⟨fun hp => by (cases hp), fun p hp => ?_, h1⟩
    cases hp
    obtain ⟨b, o, sp⟩ := q
    simp at h3
    subst h3
    exact ⟨b, o, rfl⟩
theorem adr_xe {a0 : Option Addr} {len cap : Nat} (h1 : a0 = none → len = 0 ∧ cap = 0) (h2 : ∀ p, a0 = some p → ∃ b o, p = ⟨b, o, none⟩) : (a0 = none ∧ cap = 0) ∨ ∃ g o, a0 = some ⟨g, o, none⟩ := by
  cases a0 with
  | none => exact .inl ⟨rfl, (h1 rfl).2⟩
  | some q =>
    obtain ⟨b, o, e⟩ := h2 q rfl
    exact .inr ⟨b, o, by rw [e]⟩
end Go.Proofs.YtpfknjnigcefgaaGreatDoor
