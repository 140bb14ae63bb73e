import Derived.Test.YtcfniaknbbgheaaDoorRows
import Derived.ProofKit
import Derived.Deep.Slices
import Derived.Lib.SmallJoins
import Derived.SizedLaws
import Derived.Test.YtcfniaknbbgheaaDoorY6
import Derived.Deep.Strs
/- A slice of structs that came in, opened at an index: plain laws on readings, over any program. -/
namespace Go.Proofs.YtcfniaknbbgheaaDoor
open Go.ChangeShapes Go.WideShapes Go.ChangeAt Go.RowKit
set_option linter.unusedSimpArgs false
set_option linter.unusedVariables false
theorem weightsAll_mem {H : Type} {P : Program} {e : TypeId} : ∀ {l : List (DataW H)} {d : DataW H}, d ∈ l → ∀ n ∈ d.weights P e, n ∈ DataW.weightsAll P e l
  | [], _, h, _, _ => by simp at h
  | x :: l, d, hd, n, hn => by
    simp only [DataW.weightsAll, List.mem_append]
    rcases List.mem_cons.1 hd with rfl | h
    · exact Or.inl hn
    · exact Or.inr (weightsAll_mem h n hn)
theorem open_elem {H : Type} {enc : TypeId × Value → H} {P : Program} {w : World} {t e : TypeId} {d : DataW H} {ps : List MemPlace} {a0 : Option Addr} {len cap : Nat}
    (ht : P.underlying t = some (.slice e)) (hce : 0 < P.cellsOf e) (h : DataW.Trod enc P w 0 (fun _ => true) true t (.slice a0 len cap) d ps) :
    len ≤ maxLen ∧ ∀ i, i < len → ∃ (b off : Nat) (cs : List Value) (D : DataW H) (Pl : List MemPlace) (n : Nat), a0 = some ⟨b, off, none⟩ ∧ b < w.heap.size ∧ cs.length = P.cellsOf e ∧
      (∀ j, j < P.cellsOf e → w.cell? ⟨b, off + i * P.cellsOf e + j, none⟩ = cs[j]?) ∧ DataW.trod enc P w 0 (fun _ => true) true n e cs = some (D, Pl) ∧ ∀ q ∈ D.weights P e, q ∈ d.weights P t := by
  obtain ⟨fuel, hf⟩ := h
  have hcs : (Value.slice a0 len cap).cells.toList = [.slice a0 len cap] := by simp [Value.cells]
  rw [hcs] at hf
  rcases Go.Deep.open_slice ht hf with ⟨h1, _⟩ | ⟨a, l, c, m, n, D, Pl, h1, _, hl, hm, hmm, hx, hi⟩
  · simp only [List.cons.injEq, Value.slice.injEq, and_true] at h1
    obtain ⟨rfl, rfl, rfl⟩ := h1
    exact ⟨by unfold maxLen; omega, fun i hi => by omega⟩
  · simp only [List.cons.injEq, Value.slice.injEq, and_true] at h1
    obtain ⟨rfl, rfl, rfl⟩ := h1
    have hmc : m = cap := by simpa using hmm
    refine ⟨by omega, fun i hil => ?_⟩
    obtain ⟨cs, h2, h3⟩ := hi i (by omega)
    obtain ⟨_, hlen, hcell⟩ := World.cells?_some h2
    obtain ⟨b, off, spot⟩ := a
    have hsp : spot = none := by
      obtain ⟨cs0, k2, _⟩ := hi 0 (by omega)
      obtain ⟨_, klen, kcell⟩ := World.cells?_some k2
      have kc := kcell 0 hce
      rw [Go.Deep.add_add, Nat.zero_mul, Nat.zero_add, show (⟨b, off, spot⟩ : Addr).add 0 = ⟨b, off, spot⟩ from rfl, List.getElem?_eq_getElem (by omega)] at kc
      exact World.cell?_spot kc
    subst hsp
    have hc0 := hcell 0 hce
    rw [Go.Deep.add_add, add_plain, List.getElem?_eq_getElem (by omega)] at hc0
    refine ⟨b, off, cs, D i, Pl i, n, rfl, block_lt_of_cell hc0, hlen, fun j hj => ?_, h3, fun q hq => ?_⟩
    · have := hcell j hj
      rw [Go.Deep.add_add, add_plain, ← Nat.add_assoc] at this
      exact this
    · simp only [Prod.mk.injEq] at hx
      rw [hx.1]
      simp only [DataW.weights, ht, List.mem_cons, List.mem_append]
      exact Or.inr (Or.inl (weightsAll_mem (List.mem_map.2 ⟨i, by simpa using hil, rfl⟩) q hq))
theorem open_cap {H : Type} {enc : TypeId × Value → H} {P : Program} {w : World} {t e : TypeId} {d : DataW H} {ps : List MemPlace} {a0 : Option Addr} {len cap : Nat}
    (ht : P.underlying t = some (.slice e)) (h : DataW.Trod enc P w 0 (fun _ => true) true t (.slice a0 len cap) d ps) : len ≤ cap ∧ cap ≤ maxLen := by
  obtain ⟨fuel, hf⟩ := h
  have hcs : (Value.slice a0 len cap).cells.toList = [.slice a0 len cap] := by simp [Value.cells]
  rw [hcs] at hf
  rcases Go.Deep.open_slice ht hf with ⟨h1, _⟩ | ⟨a, l, c, m, n, D, Pl, h1, _, hl, hm, hmm, hx, hi⟩
  · simp only [List.cons.injEq, Value.slice.injEq, and_true] at h1
    obtain ⟨rfl, rfl, rfl⟩ := h1
    exact ⟨Nat.le_refl _, by unfold maxLen; omega⟩
  · simp only [List.cons.injEq, Value.slice.injEq, and_true] at h1
    obtain ⟨rfl, rfl, rfl⟩ := h1
    have hmc : m = cap := by simpa using hmm
    omega
end Go.Proofs.YtcfniaknbbgheaaDoor
/- Lists of the document's attributes that came in, opened. -/
namespace Go.Proofs.YtcfniaknbbgheaaDoor
open Go.ChangeShapes Go.WideShapes Go.ChangeAt Go.RowKit Go.Joins
set_option linter.unusedSimpArgs false
set_option linter.unusedVariables false
section
variable {H : Type} {enc : TypeId × Value → H} {P : Program} {w : World} {base : Nat} {spare : Nat → Bool} {held : Bool}
theorem trod2 {t : TypeId} {f0 f1 : Field} {fuel : Nat} {cs : List Value} {x : DataW H × List MemPlace} (ht : P.underlying t = some (.struct #[f0, f1])) (h : DataW.trod enc P w base spare held fuel t cs = some x) :
    ∃ y0 y1 n, x.1 = .agg [y0.1, y1.1] ∧ cs.length = P.cellsOf t ∧ DataW.trod enc P w base spare held n f0.type ((cs.drop f0.offset).take (P.cellsOf f0.type)) = some y0 ∧
      DataW.trod enc P w base spare held n f1.type ((cs.drop f1.offset).take (P.cellsOf f1.type)) = some y1 := by
  obtain ⟨xs, n, _, rfl, hl, hlen, hf⟩ := DataW.trod_struct ht h
  match xs, hlen with
  | [y0, y1], _ => exact ⟨y0, y1, n, by simp, hl, by simpa using hf 0 f0 rfl, by simpa using hf 1 f1 rfl⟩
theorem trod7 {t : TypeId} {f0 f1 f2 f3 f4 f5 f6 : Field} {fuel : Nat} {cs : List Value} {x : DataW H × List MemPlace} (ht : P.underlying t = some (.struct #[f0, f1, f2, f3, f4, f5, f6])) (h : DataW.trod enc P w base spare held fuel t cs = some x) :
    ∃ y0 y1 y2 y3 y4 y5 y6 n, x.1 = .agg [y0.1, y1.1, y2.1, y3.1, y4.1, y5.1, y6.1] ∧ cs.length = P.cellsOf t ∧ DataW.trod enc P w base spare held n f0.type ((cs.drop f0.offset).take (P.cellsOf f0.type)) = some y0 ∧
      DataW.trod enc P w base spare held n f1.type ((cs.drop f1.offset).take (P.cellsOf f1.type)) = some y1 ∧ DataW.trod enc P w base spare held n f2.type ((cs.drop f2.offset).take (P.cellsOf f2.type)) = some y2 ∧ DataW.trod enc P w base spare held n f3.type ((cs.drop f3.offset).take (P.cellsOf f3.type)) = some y3 ∧
      DataW.trod enc P w base spare held n f4.type ((cs.drop f4.offset).take (P.cellsOf f4.type)) = some y4 ∧ DataW.trod enc P w base spare held n f5.type ((cs.drop f5.offset).take (P.cellsOf f5.type)) = some y5 ∧ DataW.trod enc P w base spare held n f6.type ((cs.drop f6.offset).take (P.cellsOf f6.type)) = some y6 := by
  obtain ⟨xs, n, _, rfl, hl, hlen, hf⟩ := DataW.trod_struct ht h
  match xs, hlen with
  | [y0, y1, y2, y3, y4, y5, y6], _ => exact ⟨y0, y1, y2, y3, y4, y5, y6, n, by simp, hl, by simpa using hf 0 f0 rfl, by simpa using hf 1 f1 rfl, by simpa using hf 2 f2 rfl, by simpa using hf 3 f3 rfl, by simpa using hf 4 f4 rfl, by simpa using hf 5 f5 rfl, by simpa using hf 6 f6 rfl⟩
theorem open_len {t e : TypeId} {d : DataW H} {ps : List MemPlace} {a0 : Option Addr} {len cap : Nat} (ht : P.underlying t = some (.slice e)) (h : DataW.Trod enc P w 0 (fun _ => true) true t (.slice a0 len cap) d ps)
    (hsz : ∀ q ∈ d.weights P t, q ≤ reachBytes) : len * P.bytesOf e ≤ reachBytes := by
  obtain ⟨fuel, hf⟩ := h
  have hcs : (Value.slice a0 len cap).cells.toList = [.slice a0 len cap] := by simp [Value.cells]
  rw [hcs] at hf
  rcases Go.Deep.open_slice ht hf with ⟨h1, _⟩ | ⟨a, l, c, m, n, D, Pl, h1, _, hl, hm, hmm, hx, hi⟩
  · simp only [List.cons.injEq, Value.slice.injEq, and_true] at h1
    obtain ⟨rfl, rfl, rfl⟩ := h1
    simp
  · simp only [List.cons.injEq, Value.slice.injEq, and_true] at h1
    obtain ⟨rfl, rfl, rfl⟩ := h1
    simp only [Prod.mk.injEq] at hx
    have := hsz _ (by rw [hx.1]; simp only [DataW.weights, ht]; exact List.mem_cons_self ..)
    refine Nat.le_trans ?_ this
    simp only [List.length_map, List.length_range]
    exact Nat.mul_le_mul_right _ (by omega)
/-- A slice's cell is a slice. -/
theorem slice_cell {t e : TypeId} {fuel : Nat} {v : Value} {x : DataW H × List MemPlace} (ht : P.underlying t = some (.slice e)) (h : DataW.trod enc P w 0 (fun _ => true) true fuel t [v] = some x) : ∃ a l c, v = .slice a l c ∧ DataW.Trod enc P w 0 (fun _ => true) true t (.slice a l c) x.1 x.2 := by
  rcases Go.Deep.open_slice ht h with ⟨h1, _⟩ | ⟨a, l, c, m, n, D, Pl, h1, _⟩
  · simp only [List.cons.injEq, and_true] at h1
    subst h1
    exact ⟨none, 0, 0, rfl, fuel, h⟩
  · simp only [List.cons.injEq, and_true] at h1
    subst h1
    exact ⟨some a, l, c, rfl, fuel, h⟩
end
theorem len7 {α : Type} : ∀ {l : List α}, l.length = 7 → ∃ a b c d e f g, l = [a, b, c, d, e, f, g]
  | [a, b, c, d, e, f, g], _ => ⟨a, b, c, d, e, f, g, rfl⟩
  | [], h => by simp at h
  | [_], h => by simp at h
  | [_, _], h => by simp at h
  | [_, _, _], h => by simp at h
  | [_, _, _, _], h => by simp at h
  | [_, _, _, _, _], h => by simp at h
  | [_, _, _, _, _, _], h => by simp at h
  | _ :: _ :: _ :: _ :: _ :: _ :: _ :: _ :: _, h => by simp at h
theorem len2 {α : Type} : ∀ {l : List α}, l.length = 2 → ∃ a b, l = [a, b]
  | [a, b], _ => ⟨a, b, rfl⟩
  | [], h => by simp at h
  | [_], h => by simp at h
  | _ :: _ :: _ :: _, h => by simp at h
theorem wf_u8 {n : Int} (h : (Lit.int .u8 n).wf = true) : 0 ≤ n ∧ n ≤ 255 := by
  simpa [Lit.wf, IntKind.min, IntKind.max, IntKind.signed, IntKind.bits] using h
theorem wf_u32 {n : Int} (h : (Lit.int .u32 n).wf = true) : 0 ≤ n ∧ n ≤ 4294967295 := by
  simpa [Lit.wf, IntKind.min, IntKind.max, IntKind.signed, IntKind.bits] using h
theorem wf_i64 {n : Int} (h : (Lit.int .i64 n).wf = true) : -9223372036854775808 ≤ n ∧ n ≤ 9223372036854775807 := by
  simpa [Lit.wf, IntKind.min, IntKind.max, IntKind.signed, IntKind.bits] using h
theorem open_xs {H : Type} {enc : TypeId × Value → H} {w : World} {d : DataW H} {ps : List MemPlace} {a0 : Option Addr} {len cap : Nat}
    (h : DataW.Trod enc Tryd.prog w 0 (fun _ => true) true 23 (.slice a0 len cap) d ps) (hsz : ∀ q ∈ d.weights Tryd.prog 23, q ≤ reachBytes) :
    ∃ xs, xs.length = len ∧ XaL w a0 xs ∧ len ≤ 4398046510976 := by
  have ce : Tryd.prog.cellsOf 55 = 2 := by kernel_rfl
  have be : Tryd.prog.bytesOf 55 = 32 := by kernel_rfl
  have c9 : Tryd.prog.cellsOf 9 = 1 := by kernel_rfl
  have hl := open_len Tryd.underlying23 h hsz
  rw [be] at hl
  unfold reachBytes at hl
  obtain ⟨_, hall⟩ := open_elem Tryd.underlying23 (by rw [ce]; omega) h
  have one : ∀ i, i < len → ∃ x : ByteArray × ByteArray, ∃ g o, a0 = some ⟨g, o, none⟩ ∧ g < w.heap.size ∧ w.cell? ⟨g, o + i * 2, none⟩ = some (.string x.1) ∧ w.cell? ⟨g, o + i * 2 + 1, none⟩ = some (.string x.2) ∧ x.1.size ≤ 140737488351232 ∧ x.2.size ≤ 140737488351232 := by
    intro i hi
    obtain ⟨b, off, cs, D, Pl, n, ha, hb, hlen, hcell, htrod, hw⟩ := hall i hi
    rw [ce] at hlen hcell
    obtain ⟨y0, y1, m, hx, _, t0, t1⟩ := trod2 Tryd.underlying55 htrod
    obtain ⟨v0, v1, rfl⟩ := len2 hlen
    simp only [c9] at t0 t1
    obtain ⟨s0, e0, hy0, w0⟩ := DataW.trod_string Tryd.underlying9 t0
    obtain ⟨s1, e1, hy1, w1⟩ := DataW.trod_string Tryd.underlying9 t1
    simp at e0 e1
    subst e0 e1
    simp only at hx
    have hm0 := hsz s0.data.toList.length (hw _ (by rw [hx, hy0]; simp [DataW.weights, Tryd.underlying55, DataW.weightsEach]))
    have hm1 := hsz s1.data.toList.length (hw _ (by rw [hx, hy0, hy1]; simp [DataW.weights, Tryd.underlying55, DataW.weightsEach]))
    rw [data_len] at hm0 hm1
    unfold reachBytes at hm0 hm1
    exact ⟨(s0, s1), b, off, ha, hb, by simpa using hcell 0 (by omega), by simpa using hcell 1 (by omega), by omega, by omega⟩
  obtain ⟨q, hq⟩ := Go.Deep.choose_lt one
  refine ⟨(List.range len).map q, by simp, fun i x hx => ?_, by omega⟩
  rw [List.getElem?_map] at hx
  obtain ⟨j, hj, rfl⟩ := Option.map_eq_some_iff.1 hx
  have hi : i < len := by have := (List.getElem?_eq_some_iff.1 hj).1; simpa using this
  have : j = i := by rw [List.getElem?_range hi] at hj; cases hj; rfl
  subst this
  exact hq j hi
/-- What the cells of an attribute that came in tell. -/
theorem open_cs {H : Type} {enc : TypeId × Value → H} {w : World} {fuel : Nat} {cs : List Value} {x : DataW H × List MemPlace} (h : DataW.trod enc Tryd.prog w 0 (fun _ => true) true fuel 25 cs = some x)
    (hsz : ∀ q ∈ x.1.weights Tryd.prog 25, q ≤ reachBytes) :
    ∃ (a : At) (sl : Option Addr) (cp : Nat), cs = [.int .u8 (a.nd : Int), .int .u32 (a.md : Int), .int .u32 (a.ui : Int), .int .u32 (a.gi : Int), .int .i64 a.mt, .string a.tg, .slice sl a.xs.length cp] ∧ AtOk a ∧ XaL w sl a.xs ∧ a.xs.length ≤ 4398046510976 := by
  have ce : Tryd.prog.cellsOf 25 = 7 := by kernel_rfl
  have k1 : Tryd.prog.cellsOf 5 = 1 := by kernel_rfl
  have k2 : Tryd.prog.cellsOf 22 = 1 := by kernel_rfl
  have k3 : Tryd.prog.cellsOf 2 = 1 := by kernel_rfl
  have k4 : Tryd.prog.cellsOf 9 = 1 := by kernel_rfl
  have k5 : Tryd.prog.cellsOf 23 = 1 := by kernel_rfl
  obtain ⟨y0, y1, y2, y3, y4, y5, y6, m, hx, hlen, t0, t1, t2, t3, t4, t5, t6⟩ := trod7 Tryd.underlying25 h
  rw [ce] at hlen
  obtain ⟨v0, v1, v2, v3, v4, v5, v6, rfl⟩ := len7 hlen
  simp only [k1, k2, k3, k4, k5] at t0 t1 t2 t3 t4 t5 t6
  obtain ⟨n0, e0, _, w0⟩ := DataW.trod_int Tryd.underlying5 t0
  obtain ⟨n1, e1, _, w1⟩ := DataW.trod_int Tryd.underlying22 t1
  obtain ⟨n2, e2, _, w2⟩ := DataW.trod_int Tryd.underlying22 t2
  obtain ⟨n3, e3, _, w3⟩ := DataW.trod_int Tryd.underlying22 t3
  obtain ⟨n4, e4, _, w4⟩ := DataW.trod_int Tryd.underlying2 t4
  obtain ⟨s5, e5, hy5, w5⟩ := DataW.trod_string Tryd.underlying9 t5
  simp at e0 e1 e2 e3 e4 e5
  subst e0 e1 e2 e3 e4 e5
  simp only [List.drop_succ_cons, List.drop_zero, List.take_succ_cons, List.take_zero] at t6
  obtain ⟨sl, len, cp, rfl, ht6⟩ := slice_cell Tryd.underlying23 t6
  have hw5 := hsz s5.data.toList.length (by rw [hx, hy5]; simp [DataW.weights, Tryd.underlying25, DataW.weightsEach])
  rw [data_len] at hw5
  unfold reachBytes at hw5
  obtain ⟨xs, hxl, hX, hb⟩ := open_xs ht6 (fun q hq => hsz q (by
    rw [hx]
    simp only [DataW.weights, Tryd.underlying25, DataW.weightsEach, List.map_cons, List.mem_append]
    simp [DataW.weightsEach, hq]))
  have q0 := wf_u8 w0
  have q1 := wf_u32 w1
  have q2 := wf_u32 w2
  have q3 := wf_u32 w3
  have q4 := wf_i64 w4
  refine ⟨⟨n0.toNat, n1.toNat, n2.toNat, n3.toNat, n4, s5, xs⟩, sl, cp, ?_, ⟨by show n0.toNat < 256; omega, by show n1.toNat < 4294967296; omega, by show n2.toNat < 4294967296; omega, by show n3.toNat < 4294967296; omega, q4, by show s5.size ≤ _; omega, by show xs.length ≤ _; omega⟩, hX, by show xs.length ≤ _; omega⟩
  simp only
  rw [hxl, show ((n0.toNat : Nat) : Int) = n0 from by omega, show ((n1.toNat : Nat) : Int) = n1 from by omega, show ((n2.toNat : Nat) : Int) = n2 from by omega, show ((n3.toNat : Nat) : Int) = n3 from by omega]
instance : Inhabited At := ⟨⟨0, 0, 0, 0, 0, ⟨#[]⟩, []⟩⟩
theorem open_ats {H : Type} {enc : TypeId × Value → H} {w : World} {d : DataW H} {ps : List MemPlace} {a0 : Option Addr} {len cap : Nat}
    (h : DataW.Trod enc Tryd.prog w 0 (fun _ => true) true 47 (.slice a0 len cap) d ps) (hsz : ∀ q ∈ d.weights Tryd.prog 47, q ≤ reachBytes) :
    ∃ l, l.length = len ∧ AtL w a0 l ∧ len ≤ 2199023255488 ∧ ∀ a ∈ l, a.xs.length ≤ 4398046510976 := by
  have ce : Tryd.prog.cellsOf 25 = 7 := by kernel_rfl
  have be : Tryd.prog.bytesOf 25 = 64 := by kernel_rfl
  have hl := open_len Tryd.underlying47 h hsz
  rw [be] at hl
  unfold reachBytes at hl
  obtain ⟨_, hall⟩ := open_elem Tryd.underlying47 (by rw [ce]; omega) h
  have one : ∀ i, i < len → ∃ a : At, (AtOk a ∧ ∃ g o sl cp, a0 = some ⟨g, o, none⟩ ∧ g < w.heap.size ∧ w.cell? ⟨g, o + i * 7, none⟩ = some (.int .u8 (a.nd : Int)) ∧ w.cell? ⟨g, o + i * 7 + 1, none⟩ = some (.int .u32 (a.md : Int)) ∧ w.cell? ⟨g, o + i * 7 + 2, none⟩ = some (.int .u32 (a.ui : Int)) ∧ w.cell? ⟨g, o + i * 7 + 3, none⟩ = some (.int .u32 (a.gi : Int)) ∧
    w.cell? ⟨g, o + i * 7 + 4, none⟩ = some (.int .i64 a.mt) ∧ w.cell? ⟨g, o + i * 7 + 5, none⟩ = some (.string a.tg) ∧ w.cell? ⟨g, o + i * 7 + 6, none⟩ = some (.slice sl a.xs.length cp) ∧ XaL w sl a.xs) ∧ a.xs.length ≤ 4398046510976 := by
    intro i hi
    obtain ⟨b, off, cs, D, Pl, n, ha, hb, hlen, hcell, htrod, hw⟩ := hall i hi
    rw [ce] at hcell
    obtain ⟨a, sl, cp, rfl, hao, hX, hxl⟩ := open_cs htrod (fun q hq => hsz q (hw q hq))
    exact ⟨a, ⟨hao, b, off, sl, cp, ha, hb, by simpa using hcell 0 (by omega), by simpa using hcell 1 (by omega), by simpa using hcell 2 (by omega), by simpa using hcell 3 (by omega), by simpa using hcell 4 (by omega), by simpa using hcell 5 (by omega), by simpa using hcell 6 (by omega), hX⟩, hxl⟩
  obtain ⟨q, hq⟩ := Go.Deep.choose_lt one
  have key : ∀ (i : Nat) (a : At), ((List.range len).map q)[i]? = some a → i < len ∧ q i = a := fun i a ha => by
    rw [List.getElem?_map] at ha
    obtain ⟨j, hj, rfl⟩ := Option.map_eq_some_iff.1 ha
    have hi : i < len := by have := (List.getElem?_eq_some_iff.1 hj).1; simpa using this
    have : j = i := by rw [List.getElem?_range hi] at hj; cases hj; rfl
    subst this
    exact ⟨hi, rfl⟩
  refine ⟨(List.range len).map q, by simp, fun i a ha => ?_, by omega, fun a ha => ?_⟩
  · obtain ⟨hi, rfl⟩ := key i a ha
    exact (hq i hi).1
  · obtain ⟨i, hi⟩ := List.getElem?_of_mem ha
    obtain ⟨hi2, rfl⟩ := key i a hi
    exact (hq i hi2).2
end Go.Proofs.YtcfniaknbbgheaaDoor
