import Derived.Test.YtbfoiocbmhhdbaaGreatY25
import Derived.Test.YtbfoiocbmhhdbaaGreatY4
import Derived.Test.YtbfoiocbmhhdbaaGreatY21
import Derived.Test.YtbfoiocbmhhdbaaGreatY10
import Derived.Shelf.SlSortCmp.NoneTotal
import Derived.Test.YtbfoiocbmhhdbaaGreatY15
import Derived.Test.YtbfoiocbmhhdbaaGreatY14
import Derived.Test.YtbfoiocbmhhdbaaGreatY20
/- A pack of law 15 and a list of truths, as they came in, opened. -/
namespace Go.Proofs.YtbfoiocbmhhdbaaGreat
open Go.ChangeShapes Go.WideShapes Go.ChangeAt Go.RowKit Go.Joins
set_option linter.unusedSimpArgs false
set_option linter.unusedVariables false
/-- Bools of a slice. -/
def BoL (w : World) (a : Option Addr) (l : List Bool) : Prop := ∀ i b, l[i]? = some b → ∃ g o, a = some ⟨g, o, none⟩ ∧ g < w.heap.size ∧ w.cell? ⟨g, o + i, none⟩ = some (.bool b)
theorem BoL.below {w w' : World} {a : Option Addr} {l : List Bool} (h : BoL w a l) (hb : Below w.heap.size w w') : BoL w' a l := fun i b hi => by
  obtain ⟨g, o, h1, h2, h3⟩ := h i b hi
  exact ⟨g, o, h1, Nat.lt_of_lt_of_le h2 hb.size, by rw [hb.cell (p := ⟨g, o + i, none⟩) h2]; exact h3⟩
theorem open_bols15 {H : Type} {enc : TypeId × Value → H} {w : World} {d : DataW H} {ps : List MemPlace} {a0 : Option Addr} {len cap : Nat}
    (h : DataW.Trod enc Tryz.prog w 0 (fun _ => true) true 62 (.slice a0 len cap) d ps) :
    ∃ ts : List Bool, ts.length = len ∧ BoL w a0 ts := by
  have ce : Tryz.prog.cellsOf 4 = 1 := by kernel_rfl
  obtain ⟨_, hall⟩ := open_elem Tryz.underlying62 (by rw [ce]; omega) h
  have one : ∀ i, i < len → ∃ t : Bool, ∃ b off, a0 = some ⟨b, off, none⟩ ∧ b < w.heap.size ∧ w.cell? ⟨b, off + i, none⟩ = some (.bool t) := by
    intro i hi
    obtain ⟨b, off, cs, D, Pl, n, ha, hb, hlen, hcell, htrod, _⟩ := hall i hi
    rw [ce] at hlen hcell
    obtain ⟨t, e, _⟩ := DataW.trod_bool Tryz.underlying4 htrod
    subst e
    refine ⟨t, b, off, ha, hb, ?_⟩
    have := hcell 0 (by omega)
    simpa using this
  obtain ⟨T, hT⟩ := Go.Deep.choose_lt one
  refine ⟨(List.range len).map T, by simp, fun i x hx => ?_⟩
  rw [List.getElem?_map] at hx
  obtain ⟨j, hj, rfl⟩ := Option.map_eq_some_iff.1 hx
  have hi : i < len := by have := (List.getElem?_eq_some_iff.1 hj).1; simpa using this
  have : j = i := by rw [List.getElem?_range hi] at hj; cases hj; rfl
  subst this
  exact hT j hi
theorem len4Y {α : Type} : ∀ {l : List α}, l.length = 4 → ∃ a b c d, l = [a, b, c, d]
  | [a, b, c, d], _ => ⟨a, b, c, d, rfl⟩
  | [], h => by simp at h
  | [_], h => by simp at h
  | [_, _], h => by simp at h
  | [_, _, _], h => by simp at h
  | _ :: _ :: _ :: _ :: _ :: _, h => by simp at h
theorem len3Y {α : Type} : ∀ {l : List α}, l.length = 3 → ∃ a b c, l = [a, b, c]
  | [a, b, c], _ => ⟨a, b, c, rfl⟩
  | [], h => by simp at h
  | [_], h => by simp at h
  | [_, _], h => by simp at h
  | _ :: _ :: _ :: _ :: _, h => by simp at h
theorem slice_cellY {H : Type} {enc : TypeId × Value → H} {P : Program} {w : World} {t e : TypeId} {fuel : Nat} {v : Value} {x : DataW H × List MemPlace} (ht : P.underlying t = some (.slice e)) (h : DataW.trod enc P w 0 (fun _ => true) true fuel t [v] = some x) : ∃ a l c, v = .slice a l c ∧ DataW.Trod enc P w 0 (fun _ => true) true t (.slice a l c) x.1 x.2 := by
  rcases Go.Deep.open_slice ht h with ⟨h1, _⟩ | ⟨a, l, c, m, n, D, Pl, h1, _⟩
  · simp only [List.cons.injEq, and_true] at h1
    subst h1
    exact ⟨none, 0, 0, rfl, fuel, h⟩
  · simp only [List.cons.injEq, and_true] at h1
    subst h1
    exact ⟨some a, l, c, rfl, fuel, h⟩
theorem open_items15 {H : Type} {enc : TypeId × Value → H} {w : World} {d : DataW H} {ps : List MemPlace} {a0 : Option Addr} {len cap : Nat}
    (h : DataW.Trod enc Tryz.prog w 0 (fun _ => true) true 39 (.slice a0 len cap) d ps) (hsz : ∀ q ∈ d.weights Tryz.prog 39, q ≤ reachBytes) :
    ∃ L : List Xe, L.length = len ∧ ItL w a0 L ∧ len ≤ 4611686018427387904 := by
  have be : Tryz.prog.bytesOf 45 = 40 := by kernel_rfl
  have hlx := open_lenx Tryz.underlying39 h hsz
  rw [be] at hlx
  unfold reachBytes at hlx
  have ce : Tryz.prog.cellsOf 45 = 4 := by kernel_rfl
  have k1 : Tryz.prog.cellsOf 5 = 1 := by kernel_rfl
  have k4 : Tryz.prog.cellsOf 9 = 1 := by kernel_rfl
  have k5 : Tryz.prog.cellsOf 3 = 1 := by kernel_rfl
  obtain ⟨_, hall⟩ := open_elem Tryz.underlying39 (by rw [ce]; omega) h
  have one : ∀ i, i < len → ∃ e : Xe, ∃ g o, a0 = some ⟨g, o, none⟩ ∧ g < w.heap.size ∧ w.cell? ⟨g, o + i * 4, none⟩ = some (.string e.id) ∧ w.cell? ⟨g, o + i * 4 + 1, none⟩ = some (.int .u8 (e.k.toNat : Int)) ∧ w.cell? ⟨g, o + i * 4 + 2, none⟩ = some (.int .i64 e.off) ∧ w.cell? ⟨g, o + i * 4 + 3, none⟩ = some (.int .i64 e.sz) := by
    intro i hi
    obtain ⟨b, off, cs, D, Pl, n, ha, hb, hlen, hcell, htrod, _⟩ := hall i hi
    rw [ce] at hlen hcell
    obtain ⟨y0, y1, y2, y3, m, hx, _, t0, t1, t2, t3⟩ := trod4x Tryz.underlying45 htrod
    obtain ⟨v0, v1, v2, v3, rfl⟩ := len4Y hlen
    simp only [k1, k4, k5] at t0 t1 t2 t3
    obtain ⟨s0, e0, _, _⟩ := DataW.trod_string Tryz.underlying9 t0
    obtain ⟨n1, e1, _, w1⟩ := DataW.trod_int Tryz.underlying5 t1
    obtain ⟨n2, e2, _, _⟩ := DataW.trod_int Tryz.underlying3 t2
    obtain ⟨n3, e3, _, _⟩ := DataW.trod_int Tryz.underlying3 t3
    simp at e0 e1 e2 e3
    subst e0 e1 e2 e3
    obtain ⟨kk, rfl⟩ := u8_valx n1 w1
    refine ⟨⟨s0, kk, n2, n3⟩, b, off, ha, hb, ?_, ?_, ?_, ?_⟩
    · exact hcell 0 (by omega)
    · exact hcell 1 (by omega)
    · exact hcell 2 (by omega)
    · exact hcell 3 (by omega)
  haveI : Inhabited Xe := ⟨⟨⟨#[]⟩, 0, 0, 0⟩⟩
  obtain ⟨T, hT⟩ := Go.Deep.choose_lt one
  refine ⟨(List.range len).map T, by simp, fun i x hx => ?_, by omega⟩
  rw [List.getElem?_map] at hx
  obtain ⟨j, hj, rfl⟩ := Option.map_eq_some_iff.1 hx
  have hi : i < len := by have := (List.getElem?_eq_some_iff.1 hj).1; simpa using this
  have : j = i := by rw [List.getElem?_range hi] at hj; cases hj; rfl
  subst this
  exact hT j hi
theorem open_pack15 {H : Type} {enc : TypeId × Value → H} {w : World} {fuel : Nat} {cs : List Value} {x : DataW H × List MemPlace} (h : DataW.trod enc Tryz.prog w 0 (fun _ => true) true fuel 41 cs = some x) (hsz : ∀ q ∈ x.1.weights Tryz.prog 41, q ≤ reachBytes) :
    ∃ (s : ByteArray) (a : Option Addr) (n c : Nat) (t : ByteArray) (L : List Xe), cs = [.string s, .slice a n c, .string t] ∧ L.length = n ∧ ItL w a L ∧ n ≤ 4611686018427387904 := by
  have ce : Tryz.prog.cellsOf 41 = 3 := by kernel_rfl
  have k4 : Tryz.prog.cellsOf 9 = 1 := by kernel_rfl
  have k5 : Tryz.prog.cellsOf 39 = 1 := by kernel_rfl
  obtain ⟨y0, y1, y2, m, hx, hlen, t0, t1, t2⟩ := Go.Deep.trod_struct3 Tryz.underlying41 h
  rw [ce] at hlen
  obtain ⟨v0, v1, v2, rfl⟩ := len3Y hlen
  simp only [k4, k5] at t0 t1 t2
  obtain ⟨s0, e0, _, _⟩ := DataW.trod_string Tryz.underlying9 t0
  obtain ⟨s2, e2, _, _⟩ := DataW.trod_string Tryz.underlying9 t2
  simp at e0 e2
  subst e0 e2
  simp only [List.drop_succ_cons, List.drop_zero, List.take_succ_cons, List.take_zero] at t1
  obtain ⟨a, n, c, rfl, ht1⟩ := slice_cellY Tryz.underlying39 t1
  obtain ⟨L, q1, q2, q3⟩ := open_items15 ht1 (fun q hq => hsz q (by rw [hx]; simp [DataW.weights, Tryz.underlying41, DataW.weightsEach, hq]))
  exact ⟨s0, a, n, c, s2, L, rfl, q1, q2, q3⟩
end Go.Proofs.YtbfoiocbmhhdbaaGreat
/- Law 15: packs in memory; those of unlike sums. -/
namespace Go.Proofs.YtbfoiocbmhhdbaaGreat
open Go.RowKit
set_option linter.unusedSimpArgs false
set_option linter.unusedVariables false
/-- A pack of the law: its sum's text, its items' slice, its text, its items. -/
structure Pk where
  s : ByteArray
  a : Option Addr
  n : Nat
  c : Nat
  t : ByteArray
  L : List Xe
def pkC (p : Pk) : List Value := [.string p.s, .slice p.a p.n p.c, .string p.t]
def pkvs (l : List Pk) : List Value := l.flatMap pkC
theorem pkvs_snoc (l : List Pk) (p : Pk) : pkvs (l ++ [p]) = pkvs l ++ pkC p := by simp [pkvs]
theorem pkvs_get : ∀ {l : List Pk} {i : Nat} {p : Pk}, l[i]? = some p → ∀ j, j < 3 → (pkvs l)[i * 3 + j]? = (pkC p)[j]?
  | [], i, p, h, _, _ => by simp at h
  | x :: l, 0, p, h, j, hj => by
    simp only [List.getElem?_cons_zero, Option.some.injEq] at h
    subst h
    show (pkC x ++ pkvs l)[0 * 3 + j]? = _
    rw [Nat.zero_mul, Nat.zero_add, List.getElem?_append_left (by simp [pkC]; omega)]
  | x :: l, i + 1, p, h, j, hj => by
    have ih := pkvs_get (l := l) (i := i) (p := p) (by simpa using h) j hj
    show (pkC x ++ pkvs l)[(i + 1) * 3 + j]? = _
    rw [List.getElem?_append_right (by simp [pkC]; omega), ← ih]
    congr 1
    simp [pkC]
    omega
/-- What a pack's items' slice holds. -/
def PkI (w : World) (l : List Pk) : Prop := ∀ p ∈ l, ItL w p.a p.L ∧ p.L.length = p.n ∧ p.n ≤ 4611686018427387904
theorem PkI.below {w w' : World} {l : List Pk} (h : PkI w l) (hb : Below w.heap.size w w') : PkI w' l := fun p hp => ⟨(h p hp).1.below hb, (h p hp).2⟩
/-- Packs of a slice. -/
def PkL (w : World) (a : Option Addr) (l : List Pk) : Prop := ∀ i p, l[i]? = some p → ∃ g o, a = some ⟨g, o, none⟩ ∧ g < w.heap.size ∧ ∀ j v, (pkC p)[j]? = some v → w.cell? ⟨g, o + i * 3 + j, none⟩ = some v
theorem PkL.below {w w' : World} {a : Option Addr} {l : List Pk} (h : PkL w a l) (hb : Below w.heap.size w w') : PkL w' a l := fun i p hp => by
  obtain ⟨g, o, h1, h2, h3⟩ := h i p hp
  exact ⟨g, o, h1, Nat.lt_of_lt_of_le h2 hb.size, fun j v hv => by rw [hb.cell (p := ⟨g, o + i * 3 + j, none⟩) h2]; exact h3 j v hv⟩
theorem own_pkl {w : World} {B n : Nat} {v : Value} {l : List Pk} (h : w.ownsRow B 41 3 v n (pkvs l)) (hn : l.length = n) : ∃ a c, v = .slice a n c ∧ PkL w a l ∧ n ≤ c ∧ (a = none ∧ n = 0 ∨ ∃ g, a = some ⟨g, 0, none⟩ ∧ B ≤ g) := by
  rcases h.2 with ⟨h1, h0⟩ | ⟨g, cap, cur, h1, hle, hg, hnc, hsz, hone, ht⟩
  · subst h1
    refine ⟨none, 0, by rw [h0], fun i e he => ?_, by omega, .inl ⟨rfl, h0⟩⟩
    have : l = [] := List.length_eq_zero_iff.1 (by omega)
    rw [this] at he
    cases he
  · refine ⟨some ⟨g, 0, none⟩, cap, h1, fun i e he => ?_, hnc, .inr ⟨g, rfl, hle⟩⟩
    have hb : Bk w g cur 41 := hg
    have hi : i < l.length := (List.getElem?_eq_some_iff.1 he).1
    refine ⟨g, 0, rfl, hb.lt, fun j u hu => ?_⟩
    have hj : j < 3 := by
      have := (List.getElem?_eq_some_iff.1 hu).1
      simpa [pkC] using this
    have := pkvs_get he j hj
    rw [hu, ← ht, List.getElem?_take, if_pos (by omega), Array.getElem?_toList] at this
    rw [hb.cell, Nat.zero_add]
    exact this
theorem inf_pk : (Tryz.prog.info? 41).map (fun i => (i.zero, i.size, i.bytes)) = some (some (.agg #[.string ⟨#[]⟩, .slice none 0 0, .string ⟨#[]⟩]), 3, 56) := by kernel_rfl
theorem pk_one (p : Pk) : ∀ v ∈ pkC p, v.oneCell' = true := by
  intro v hv
  simp [pkC] at hv
  rcases hv with rfl | rfl | rfl <;> rfl
theorem pk_app {B : Nat} {w : World} {l : List Pk} {v : Value} (h : w.ownsRow B 41 3 v l.length (pkvs l)) (hB : B ≤ w.heap.size) (p : Pk) (hn : (l.length + 1) * 56 ≤ 140737488355328) :
    ∃ g cp w7, (Builtin.append_ #[22, 22] 22 #[v, .slice (some ⟨w.heap.size, 0, none⟩) 1 1]).run Tryz.prog (w.alloc (.cells (pkC p).toArray 41)) = .ok (.slice (some ⟨g, 0, none⟩) (l.length + 1) cp) w7 ∧
      w7.ownsRow B 41 3 (.slice (some ⟨g, 0, none⟩) (l.length + 1) cp) (l.length + 1) (pkvs (l ++ [p])) ∧ l.length + 1 ≤ cp ∧ (w.alloc (.cells (pkC p).toArray 41)).grownBy w7 v.ownBlock := by
  obtain ⟨i0, hi, hz0, hz1, hz2⟩ := info_parts inf_pk
  obtain ⟨v', w7, hrun, hown, hgrow, _, hat⟩ := run_append_own_at (P := Tryz.prog) (w := w.alloc (.cells (pkC p).toArray 41)) B 22 22 41 i0 (.agg #[.string ⟨#[]⟩, .slice none 0 0, .string ⟨#[]⟩]) 3 56 Tryz.underlying22 hi hz0 hz1 hz2 rfl (by decide) v l.length (pkvs l) (h.alloc _) ⟨w.heap.size, 0, none⟩ 1 1 (pkC p) (by simp [pkC])
    (fun j u hu => by
      rw [WideShapes.add_plain, (bk_new w (pkC p).toArray 41).cell, Nat.zero_add]
      simpa using hu) (pk_one p) (by unfold maxLen; omega) (by omega) (by rw [al_size]; omega)
  have ho : w7.ownsRow B 41 3 v' (l.length + 1) (pkvs (l ++ [p])) := by rw [pkvs_snoc]; exact hown
  obtain ⟨g, cp, hv, hcp⟩ : ∃ g cp, v' = .slice (some ⟨g, 0, none⟩) (l.length + 1) cp ∧ l.length + 1 ≤ cp := by
    rcases ho.2 with ⟨_, h0⟩ | ⟨g7, c7, cur, h1, _, _, h2, _⟩
    · omega
    · exact ⟨g7, c7, h1, h2⟩
  subst hv
  exact ⟨g, cp, w7, hrun, ho, hcp, hgrow⟩
structure OwP (w0 : World) (l : List Pk) (v : Value) (w : World) : Prop where
  ow : w.ownsRow w0.heap.size 41 3 v l.length (pkvs l)
  bel : Below w0.heap.size w0 w
theorem OwP.next {w0 w w' : World} {l : List Pk} {v : Value} (h : OwP w0 l v w) (hb : Below w.heap.size w w') : OwP w0 l v w' :=
  ⟨rows_keep h.ow (fun g _ hg => hb.block g hg), h.bel.trans (hb.mono h.bel.size)⟩
theorem OwP.app {w0 w : World} {l : List Pk} {v : Value} (h : OwP w0 l v w) (p : Pk) (hn : l.length ≤ 1000) :
    ∃ g cp w7, (Builtin.append_ #[22, 22] 22 #[v, .slice (some ⟨w.heap.size, 0, none⟩) 1 1]).run Tryz.prog (w.alloc (.cells (pkC p).toArray 41)) = .ok (.slice (some ⟨g, 0, none⟩) (l.length + 1) cp) w7 ∧
      OwP w0 (l ++ [p]) (.slice (some ⟨g, 0, none⟩) (l.length + 1) cp) w7 ∧ l.length + 1 ≤ cp := by
  obtain ⟨g, cp, w7, h1, h2, h3, h4⟩ := pk_app h.ow h.bel.size p (by omega)
  refine ⟨g, cp, w7, h1, ⟨by rw [List.length_append]; exact h2, ?_⟩, h3⟩
  exact rows_bel (h.bel.alloc h.bel.size _) (by rw [al_size]; have := h.bel.size; omega) (h.ow.alloc _) (Nat.le_refl _) h4
/-- Those of unlike sums, of the first thirty; without their texts. -/
def bare (p : Pk) : Pk := ⟨p.s, p.a, p.n, p.c, ⟨#[]⟩, p.L⟩
def unT (out : List Pk) (p : Pk) : Bool := out.any fun q => decide (idF q.s = idF p.s)
def unS (out : List Pk) (p : Pk) : List Pk := if unT out p = true then out else out ++ [bare p]
def unP (l : List Pk) : List Pk := (l.take 30).foldl unS []
theorem unT_take {out : List Pk} {p : Pk} {k : Nat} {q : Pk} (h : out[k]? = some q) : unT (out.take (k + 1)) p = (unT (out.take k) p || decide (idF q.s = idF p.s)) := by
  unfold unT
  rw [List.take_add_one, h, Option.toList_some, List.any_append]
  simp
theorem unS_len (out : List Pk) (p : Pk) : (unS out p).length ≤ out.length + 1 := by
  unfold unS; split
  · omega
  · simp
/-- What holds of them. -/
structure UnR (l out : List Pk) : Prop where
  len : out.length ≤ l.length
  apart : out.Pairwise (fun a b => idF a.s ≠ idF b.s)
  src : ∀ p ∈ out, ∃ q ∈ l, p = bare q
  sum : (out.map (fun p => p.L.length)).sum ≤ (l.map (fun p => p.L.length)).sum
theorem UnR.nil : UnR [] [] := ⟨Nat.le_refl _, List.Pairwise.nil, fun p h => (by cases h), Nat.le_refl _⟩
theorem UnR.snoc {l out : List Pk} (h : UnR l out) (p : Pk) : UnR (l ++ [p]) (unS out p) := by
  have hs : ∀ q ∈ out, ∃ r ∈ l ++ [p], q = bare r := fun q hq => by obtain ⟨r, a, b⟩ := h.src q hq; exact ⟨r, List.mem_append_left _ a, b⟩
  have h1 := h.len
  have h2 := h.sum
  unfold unS
  split
  · refine ⟨by simp; omega, h.apart, hs, ?_⟩
    simp only [List.map_append, List.sum_append]; omega
  · rename_i hn
    refine ⟨by simp; omega, ?_, fun q hq => ?_, ?_⟩
    · rw [List.pairwise_append]
      refine ⟨h.apart, List.pairwise_singleton _ _, fun a ha b hb => ?_⟩
      rw [List.mem_singleton] at hb
      subst hb
      intro e
      refine hn (List.any_eq_true.2 ⟨a, ha, ?_⟩)
      exact decide_eq_true e
    · rcases List.mem_append.1 hq with k | k
      · exact hs q k
      · rw [List.mem_singleton] at k; exact ⟨p, by simp, k⟩
    · simp only [List.map_append, List.sum_append, List.map_cons, List.map_nil, List.sum_cons, List.sum_nil, bare]; omega
theorem foldl_unr : ∀ (m l out : List Pk), UnR l out → UnR (l ++ m) (m.foldl unS out)
  | [], l, out, h => by simpa using h
  | p :: m, l, out, h => by
    have := foldl_unr m (l ++ [p]) (unS out p) (h.snoc p)
    rw [List.append_assoc] at this
    exact this
theorem unP_r (l : List Pk) : UnR (l.take 30) (unP l) := by
  have := foldl_unr (l.take 30) [] [] .nil
  exact this
theorem sum_take {f : Pk → Nat} : ∀ (l : List Pk) (k : Nat), ((l.take k).map f).sum ≤ (l.map f).sum
  | [], k => by simp
  | p :: l, 0 => by simp
  | p :: l, k + 1 => by
    have := sum_take (f := f) l k
    simp only [List.take_succ_cons, List.map_cons, List.sum_cons]
    omega
theorem unP_len (l : List Pk) : (unP l).length ≤ 30 := by
  have := (unP_r l).len
  rw [List.length_take] at this
  omega
theorem unP_take (l : List Pk) (k : Nat) (hk : k < 30) {p : Pk} (h : l[k]? = some p) : unS ((l.take k).foldl unS []) p = (l.take (k + 1)).foldl unS [] := by
  rw [List.take_add_one, h, Option.toList_some, List.foldl_append]
  rfl
end Go.Proofs.YtbfoiocbmhhdbaaGreat
/- The law's back: what follows from what a merged index tells. -/
namespace Go.Proofs.YtbfoiocbmhhdbaaGreat
open Go.RowKit
set_option linter.unusedSimpArgs false
set_option linter.unusedVariables false
/-- The entries of a pack. -/
def esOf (l : List Mr) (p : ByteArray) : List Xe := (l.filter (fun r => decide (r.p = p))).map Mr.e
theorem es_mem {l : List Mr} {p : ByteArray} {e : Xe} : e ∈ esOf l p ↔ (⟨p, e⟩ : Mr) ∈ l := by
  unfold esOf
  rw [List.mem_map]
  constructor
  · rintro ⟨⟨q, x⟩, h, rfl⟩
    rw [List.mem_filter] at h
    have := of_decide_eq_true h.2
    simp only at this
    subst this
    exact h.1
  · intro h
    exact ⟨⟨p, e⟩, List.mem_filter.2 ⟨h, by simp⟩, rfl⟩
theorem es_rise {ps : List ByteArray} {l : List Mr} (h : OkM ps l) (p : ByteArray) : Rise (esOf l p) := List.Pairwise.sublist (List.Sublist.map Mr.e List.filter_sublist) h.ri
theorem es_ok {ps : List ByteArray} {l : List Mr} (h : OkM ps l) (p : ByteArray) : ∀ e ∈ esOf l p, okX e = true := fun e he => h.ok _ (es_mem.1 he)
theorem es_id {ps : List ByteArray} {l : List Mr} (h : OkM ps l) (p : ByteArray) : ∀ e ∈ esOf l p, e.id.size = 32 := fun e he => h.id _ (es_mem.1 he)
theorem xbE_ap : ∀ {r d : List Xe}, Aprt (d ++ r) → (∀ e ∈ r, okX e = true) → xbE d r = 0 ∨ xbE d r = 1
  | [], d, _, _ => .inl rfl
  | e :: r, d, ha, ho => by
    unfold xbE
    split
    · exact .inr rfl
    · split
      · rename_i h1 h2
        exfalso
        have := (List.pairwise_append.1 ha).2.2
        obtain ⟨x, hx, hxe⟩ := (hasX_iff d e.id).1 h2
        exact this x hx e (List.mem_cons_self ..) hxe
      · exact xbE_ap (by rwa [List.append_assoc]) (fun x hx => ho x (List.mem_cons_of_mem _ hx))
theorem es_bE {ps : List ByteArray} {l : List Mr} (h : OkM ps l) (p : ByteArray) : bE (esOf l p) = 0 ∨ (bE (esOf l p) = 1 ∧ 65536 < (esOf l p).length) := by
  by_cases hl : (esOf l p).length ≤ 65536
  · exact .inl (gd_bE _ [] ⟨es_ok h p, (es_rise h p).apart, hl⟩)
  · have h1 : bE (esOf l p) ≠ 0 := fun q => hl (bE_ok q).len
    rcases xbE_ap (r := esOf l p) (d := []) (es_rise h p).apart (es_ok h p) with q | q
    · exact absurd q h1
    · exact .inr ⟨q, by omega⟩
/-- Texts of the packs taken apart. -/
structure Bks (ps : List ByteArray) (l : List Mr) (ts : List ByteArray) (xs : List (ByteArray × List Xe)) : Prop where
  ix : Ixs ts xs
  len : xs.length = ps.length
  at_ : ∀ (i : Nat) p q, ps[i]? = some p → xs[i]? = some q → q.1 = p ∧ q.2.Perm (esOf l p)
theorem Bks.nil (l : List Mr) : Bks [] l [] [] := ⟨Ixs.nil, rfl, fun i p q h => by simp at h⟩
theorem Bks.snoc {ps : List ByteArray} {l : List Mr} {ts : List ByteArray} {xs : List (ByteArray × List Xe)} (h : Bks ps l ts xs) {p t : ByteArray} {M : List Xe} (hm : M.Perm (esOf l p)) (hi : IsIx t p M) : Bks (ps ++ [p]) l (ts ++ [t]) (xs ++ [(p, M)]) := by
  refine ⟨h.ix.snoc (q := (p, M)) hi, by simp [h.len], fun i a b ha hb => ?_⟩
  by_cases hl : i < ps.length
  · rw [List.getElem?_append_left hl] at ha
    rw [List.getElem?_append_left (by rw [h.len]; exact hl)] at hb
    exact h.at_ i a b ha hb
  · have h1 := (List.getElem?_eq_some_iff.1 ha).1
    rw [List.length_append, List.length_singleton] at h1
    have e : i = ps.length := by omega
    subst e
    rw [List.getElem?_append_right (Nat.le_refl _), Nat.sub_self] at ha
    rw [List.getElem?_append_right (by rw [h.len]; exact Nat.le_refl _), h.len, Nat.sub_self] at hb
    simp at ha hb
    subst ha; subst hb
    exact ⟨rfl, hm⟩
theorem Bks.mem {ps : List ByteArray} {l : List Mr} {ts : List ByteArray} {xs : List (ByteArray × List Xe)} (h : Bks ps l ts xs) {q : ByteArray × List Xe} (hq : q ∈ xs) : q.1 ∈ ps ∧ q.2.Perm (esOf l q.1) := by
  obtain ⟨i, hi⟩ := List.getElem?_of_mem hq
  have hl : i < ps.length := by rw [← h.len]; exact (List.getElem?_eq_some_iff.1 hi).1
  have := h.at_ i ps[i] q (List.getElem?_eq_getElem hl) hi
  exact ⟨by rw [this.1]; exact List.getElem_mem _, by rw [this.1]; exact this.2⟩
theorem Bks.of {ps : List ByteArray} {l : List Mr} {ts : List ByteArray} {xs : List (ByteArray × List Xe)} (h : Bks ps l ts xs) {p : ByteArray} (hp : p ∈ ps) : ∃ q ∈ xs, q.1 = p := by
  obtain ⟨i, hi⟩ := List.getElem?_of_mem hp
  have hl : i < xs.length := by rw [h.len]; exact (List.getElem?_eq_some_iff.1 hi).1
  exact ⟨xs[i], List.getElem_mem _, (h.at_ i p _ hi (List.getElem?_eq_getElem hl)).1⟩
theorem Bks.back {ps : List ByteArray} {l : List Mr} {ts : List ByteArray} {xs : List (ByteArray × List Xe)} (h : Bks ps l ts xs) {s : ByteArray} (hs : IsMx s ps l) {e : Ending} (hm : MgR ts e) : e = .returned (.tuple #[.string s, .int .i64 0]) := by
  have hu : Unl xs := by
    refine List.pairwise_iff_getElem.2 (fun i j hi hj hij => ?_)
    have hi' : i < ps.length := by rw [← h.len]; exact hi
    have hj' : j < ps.length := by rw [← h.len]; exact hj
    rw [(h.at_ i _ _ (List.getElem?_eq_getElem hi') (List.getElem?_eq_getElem hi)).1, (h.at_ j _ _ (List.getElem?_eq_getElem hj') (List.getElem?_eq_getElem hj)).1]
    exact List.pairwise_iff_getElem.1 hs.ok.pri.nodup i j hi' hj' hij
  have hb : ∀ d, Hld xs d → d.length ≤ 1048576 := fun d hd => by
    refine Nat.le_trans (nodup_len (l' := l) ?_ (fun r hr => ?_)) hs.ok.len
    · refine List.Pairwise.imp (fun {a b} hab e => ?_) hd.ap
      subst e
      exact absurd rfl hab
    · obtain ⟨q, h1, h2, h3⟩ := hd.src r hr
      have := es_mem.1 ((h.mem h1).2.mem_iff.1 h3)
      rw [h2] at this
      exact this
  obtain ⟨ps', l', h1, h2, h3⟩ := hm.yesD h.ix hu (by rw [h.ix.len, h.len]; exact hs.ok.pln) hb
  have hg : Mgd xs ps l := ⟨fun p => ⟨fun hp => h.of hp, fun ⟨q, hq, e⟩ => by rw [← e]; exact (h.mem hq).1⟩, hs.ok.pri, hs.ok.ri, fun r hr => by
      obtain ⟨q, hq, e⟩ := h.of (hs.ok.mem r hr)
      exact ⟨q, hq, e, (h.mem hq).2.mem_iff.2 (es_mem.2 (by rw [e]; exact hr))⟩, fun q hq e he => ⟨⟨q.1, e⟩, es_mem.1 ((h.mem hq).2.mem_iff.1 he), rfl, ltN_irr _⟩⟩
  obtain ⟨rfl, rfl⟩ := h1.one hu (fun q hq => (h.ix.mem q hq).2.ri.apart) hg
  have hr : (⟨(mxB ps' l').toArray⟩ : ByteArray) = s := bl_inj (by rw [hs.bs]; rfl)
  rw [h3, hr]
end Go.Proofs.YtbfoiocbmhhdbaaGreat
/- Sorting nothing does nothing. -/
namespace Go.Proofs.YtbfoiocbmhhdbaaGreat
open Go.RowKit Go.Sort
set_option linter.unusedSimpArgs false
set_option linter.unusedVariables false
theorem sort_none : SNone := fun p cap fv w => AnyF.slices_SortFunc_none laysF6 p cap fv w
end Go.Proofs.YtbfoiocbmhhdbaaGreat
/- idx.Build: the walk. -/
namespace Go.Proofs.YtbfoiocbmhhdbaaGreat
open Go.RowKit
set_option linter.unusedSimpArgs false
set_option linter.unusedVariables false
/-- What Build tells. -/
def BdX (s : ByteArray) (l : List Xe) (R : ByteArray) : Prop := (bE l ≠ 0 → R = ⟨#[]⟩) ∧ (bE l = 0 → ∃ L, L.Perm l ∧ OkL L ∧ R = ⟨(ixB s L).toArray⟩)
theorem ret_seX {a : ByteArray} {e e' : Int} (h : e' = e) : Ending.returned (.tuple #[.string a, .int .i64 e]) = .returned (.tuple #[.string a, .int .i64 e']) := by rw [h]
theorem BdX.no {s : ByteArray} {l : List Xe} (h : bE l ≠ 0) : BdX s l ⟨#[]⟩ := ⟨fun _ => rfl, fun q => absurd q h⟩
set_option maxHeartbeats 16000000 in
set_option maxRecDepth 100000 in
theorem ibuild_any (SN : SNone) (s : ByteArray) (l : List Xe) (a : Option Addr) (n c : Nat) (w : World) (hs : s.size = 32) (hX : XeL w a l) (hl : l.length = n) (hA : a = none ∨ ∃ g o, a = some ⟨g, o, none⟩) (hn : n ≤ 4611686018427387904) :
    Calls Tryz.prog 25 #[.agg (idc s), .slice a n c] w fun e w' => ∃ R, e = .returned (.tuple #[.string R, .int .i64 (bE l)]) ∧ BdX s l R ∧ Below w.heap.size w w' := by
  have HX : Hid (XeL w a l) := hX
  have HL : Hid (l.length = n) := hl
  have HS : Hid (s.size = 32) := hs
  have HAA : Hid (a = none ∨ ∃ g o, a = some ⟨g, o, none⟩) := hA
  have HSN : Hid SNone := SN
  have X0 : Hid (BX w (w.heap.size + 1) s (l.take 0) ((w.alloc (.cells (idc s) 48)).alloc (.map #[] 0))) := by
    refine ⟨?_, ((Below.refl _ _).alloc (Nat.le_refl _) _).alloc (by rw [al_size]; omega) _, (bk_new _ _ _).alloc _, by omega⟩
    have := St.made (fun v => v = .agg #[]) (w.alloc (.cells (idc s) 48))
    rw [al_size] at this
    exact this
  obtain ⟨m, hm⟩ : ∃ m, w.heap.size + 1 = m := ⟨_, rfl⟩
  rw [hm] at X0
  have HI : Hid ((Tryz.prog.info? 48).map (·.size) = some (idc s).size) := info_32 (by rw [idc_size, hs])
  have hmm := @run_makeMap Tryz.prog
  clear hX hl hs hA SN
  go_enter Tryz.func25, Tryz.ntmps25
  go_wp2_with fail
  try rw [hm]
  clear hm hmm
  go_loopw [15] (fun v wr => ∃ k : Nat, v = .int .i64 k ∧ k ≤ n ∧ k ≤ 65536 ∧ Hid (BX w m s (l.take k) wr) ∧ Hid (bE l = xbE (l.take k) (l.drop k) ∧ GdX (l.take k))) (fun v _ => n - (intOf v).toNat)
  case atStart => exact ⟨0, rfl, Nat.zero_le _, Nat.zero_le _, X0.out, rfl, GdX.nil⟩
  case round =>
    obtain ⟨k, rfl, hk, hk6, HR, HE⟩ := hrel
    clear X0
    by_cases hlt : k < n
    · have hkz : (k : Int) < (n : Nat) := by omega
      obtain ⟨e, he⟩ : ∃ e, l[k]? = some e := ⟨l[k]'(by rw [HL.out]; exact hlt), List.getElem?_eq_getElem _⟩
      obtain ⟨ga, oa, rfl, hga, h32, hcells⟩ := (HX.out.below HR.out.bel).get he
      have HT : Hid (l.take (k + 1) = l.take k ++ [e]) := take_snocX he
      have HST : Hid (xbE (l.take k) (l.drop k) = if okX e = false ∨ k = 65536 then 1 else if hasX (l.take k) e.id = true then 7 else xbE (l.take (k + 1)) (l.drop (k + 1))) := xbE_step l k e he
      obtain ⟨X, hXe⟩ : ∃ X, xeC e = X := ⟨_, rfl⟩
      obtain ⟨D, hD⟩ : ∃ D, idc e.id = D := ⟨_, rfl⟩
      have HIX : Hid ((Tryz.prog.info? 50).map (·.size) = some X.toList.length ∧ X.all (·.oneCell') = true ∧ X.size = 35) := by rw [← hXe]; exact ⟨by rw [inf_xe35, Array.length_toList, xeC_size e h32], xeC_all e, xeC_size e h32⟩
      have HXI : Hid (∀ j v, D[j]? = some v → X[0 + j]? = some v) := fun j v hv => by rw [← hXe]; exact xeC_id e h32 j v (by rw [hD]; exact hv)
      have HID : Hid ((Tryz.prog.info? 48).map (·.size) = some D.size) := info_32 (by rw [← hD, idc_size, h32])
      rw [hXe] at hcells
      have HCE : Hid (∀ j v, X[j]? = some v → wr.cell? ⟨ga, oa + k * 35 + j, none⟩ = some v) := hcells
      have B1 : Hid (Bk (wr.alloc (.cells X 50)) wr.heap.size X 50) := bk_new _ _ _
      have R1 : Hid (BX w m s (l.take k) (wr.alloc (.cells X 50))) := HR.out.keep ((Below.refl _ _).alloc (Nat.le_refl _) _)
      have HMB : Hid (∀ W, Calls Tryz.prog 51 #[.agg X] W fun r w' => r = .returned (.bool (okX e)) ∧ Below W.heap.size W w') := fun W => by
        rw [← hXe]
        exact (maybe_any e W h32).mono fun r w' q => ⟨q.1, by rw [q.2]; exact (Below.refl _ _).alloc (Nat.le_refl _) _⟩
      have HLK : Hid (∀ W, BX w m s (l.take k) W → (Instr.lookup 74 (.map (some m)) (.agg D) true).run Tryz.prog W = .ok (.tuple #[.agg #[], .bool (hasX (l.take k) e.id)]) W) := fun W hW => by rw [← hD]; exact hW.look e.id h32
      have HPT : Hid (∀ W, BX w m s (l.take k) W → ∃ w', (Instr.mapUpdate 74 (.map (some m)) (.agg D) (.agg #[])).run Tryz.prog W = .ok () w' ∧ BX w m s (l.take (k + 1)) w') := fun W hW => by
        rw [← hD, HT.out]; exact hW.put (by rw [List.length_take]; omega) e h32
      clear hcells hXe hD he h32
      cases hok : okX e with
      | false =>
        have HE1 : Hid (bE l = 1) := by
          show _ = _
          rw [HE.out.1, HST.out, if_pos (.inl hok)]
        rw [hok] at HMB
        clear HE HST hok
        go_wp2_with (first
          | (go_at_call 51; refine (HMB.out _).mono ?_; rintro r w2 ⟨rfl, hb2⟩)
          | (refine wpList_load_mid rfl 50 (.tmp 18) rfl ga (oa + k * 35) rfl X.toList _ (fun j v hv => HCE.out j v (by rwa [Array.getElem?_toList] at hv)) Tryz.underlying50 rfl HIX.out.1 ?_)
          | (refine wpList_store_new rfl 50 (.tmp 8) (.tmp 19) rfl X _ 50 wr.heap.size rfl rfl rfl (info_xe HIX.out.2.2) (by rw [HIX.out.2.2]; rfl) HIX.out.2.1 ?_)
          | (refine wpList_get rfl 50 (.tmp 8) rfl wr.heap.size 0 X X 50 _ rfl B1.out (fun j v hv => by rw [Nat.zero_add]; exact hv) Tryz.underlying50 rfl (info_xe HIX.out.2.2) ?_)
          | fail)
        go_ret2
        exact ⟨_, ret_seX HE1.out, BdX.no (by rw [HE1.out]; decide), R1.out.bel.trans (hb2.mono R1.out.bel.size)⟩
      | true =>
        rw [hok] at HMB
        by_cases h65 : k = 65536
        · have HE1 : Hid (bE l = 1) := by
            show _ = _
            rw [HE.out.1, HST.out, if_pos (.inr h65)]
          have hz65 : ((k : Int) == 65536) = true := by rw [beq_iff_eq]; omega
          clear HE HST hok h65
          go_wp2_with (first
            | (go_at_call 51; refine (HMB.out _).mono ?_; rintro r w2 ⟨rfl, hb2⟩)
            | (refine wpList_load_mid rfl 50 (.tmp 18) rfl ga (oa + k * 35) rfl X.toList _ (fun j v hv => HCE.out j v (by rwa [Array.getElem?_toList] at hv)) Tryz.underlying50 rfl HIX.out.1 ?_)
            | (refine wpList_store_new rfl 50 (.tmp 8) (.tmp 19) rfl X _ 50 wr.heap.size rfl rfl rfl (info_xe HIX.out.2.2) (by rw [HIX.out.2.2]; rfl) HIX.out.2.1 ?_)
            | (refine wpList_get rfl 50 (.tmp 8) rfl wr.heap.size 0 X X 50 _ rfl B1.out (fun j v hv => by rw [Nat.zero_add]; exact hv) Tryz.underlying50 rfl (info_xe HIX.out.2.2) ?_)
            | fail)
          go_ret2
          exact ⟨_, ret_seX HE1.out, BdX.no (by rw [HE1.out]; decide), R1.out.bel.trans (hb2.mono R1.out.bel.size)⟩
        · have hz65 : ((k : Int) == 65536) = false := by rw [beq_eq_false_iff_ne]; omega
          have HNC : Hid (¬ (okX e = false ∨ k = 65536)) := by
            rintro (q | q)
            · rw [hok] at q; cases q
            · exact h65 q
          clear hok
          cases hh : hasX (l.take k) e.id with
          | true =>
            have HE1 : Hid (bE l = 7) := by
              show _ = _
              rw [HE.out.1, HST.out, if_neg HNC.out, if_pos hh]
            rw [hh] at HLK
            clear HE HST hh HNC
            go_wp2_with (first
              | (go_at_call 51; refine (HMB.out _).mono ?_; rintro r w2 ⟨rfl, hb2⟩; have R2 : Hid (BX w m s (l.take k) w2) := R1.out.keep hb2; have B2 : Hid (Bk w2 wr.heap.size X 50) := B1.out.below hb2 B1.out.lt; have hlook := HLK.out w2 R2.out)
              | (refine wpList_load_mid rfl 50 (.tmp 18) rfl ga (oa + k * 35) rfl X.toList _ (fun j v hv => HCE.out j v (by rwa [Array.getElem?_toList] at hv)) Tryz.underlying50 rfl HIX.out.1 ?_)
              | (refine wpList_store_new rfl 50 (.tmp 8) (.tmp 19) rfl X _ 50 wr.heap.size rfl rfl rfl (info_xe HIX.out.2.2) (by rw [HIX.out.2.2]; rfl) HIX.out.2.1 ?_)
              | (refine wpList_get rfl 50 (.tmp 8) rfl wr.heap.size 0 X X 50 _ rfl B1.out (fun j v hv => by rw [Nat.zero_add]; exact hv) Tryz.underlying50 rfl (info_xe HIX.out.2.2) ?_)
              | (refine wpList_get rfl 48 (.tmp 29) rfl wr.heap.size 0 X D 50 _ rfl B2.out HXI.out Tryz.underlying48 rfl HID.out ?_)
              | fail)
            go_ret2
            exact ⟨_, ret_seX HE1.out, BdX.no (by rw [HE1.out]; decide), R2.out.bel.alloc R2.out.bel.size _⟩
          | false =>
            have HE1 : Hid (bE l = xbE (l.take (k + 1)) (l.drop (k + 1)) ∧ GdX (l.take (k + 1))) := by
              refine ⟨?_, ?_⟩
              · rw [HE.out.1, HST.out, if_neg HNC.out, if_neg (by rw [hh]; simp)]
              · rw [HT.out]
                refine HE.out.2.snoc ?_ hh
                rw [List.length_take, Nat.min_eq_left (by rw [HL.out]; omega)]
                exact HNC.out
            rw [hh] at HLK
            clear HE HST hh HNC
            go_wp2_with (first
              | (go_at_call 51; refine (HMB.out _).mono ?_; rintro r w2 ⟨rfl, hb2⟩; have R2 : Hid (BX w m s (l.take k) w2) := R1.out.keep hb2; have B2 : Hid (Bk w2 wr.heap.size X 50) := B1.out.below hb2 B1.out.lt; have hlook := HLK.out w2 R2.out; have B3 : Hid (Bk (w2.alloc (.cells #[] 117)) wr.heap.size X 50) := B2.out.alloc _; obtain ⟨w8, hput, hR8⟩ := HPT.out (w2.alloc (.cells #[] 117)) (R2.out.keep ((Below.refl _ _).alloc (Nat.le_refl _) _)); have R8 : Hid (BX w m s (l.take (k + 1)) w8) := hR8; clear hR8)
              | (refine wpList_load_mid rfl 50 (.tmp 18) rfl ga (oa + k * 35) rfl X.toList _ (fun j v hv => HCE.out j v (by rwa [Array.getElem?_toList] at hv)) Tryz.underlying50 rfl HIX.out.1 ?_)
              | (refine wpList_store_new rfl 50 (.tmp 8) (.tmp 19) rfl X _ 50 wr.heap.size rfl rfl rfl (info_xe HIX.out.2.2) (by rw [HIX.out.2.2]; rfl) HIX.out.2.1 ?_)
              | (refine wpList_get rfl 50 (.tmp 8) rfl wr.heap.size 0 X X 50 _ rfl B1.out (fun j v hv => by rw [Nat.zero_add]; exact hv) Tryz.underlying50 rfl (info_xe HIX.out.2.2) ?_)
              | (refine wpList_get rfl 48 (.tmp 29) rfl wr.heap.size 0 X D 50 _ rfl B2.out HXI.out Tryz.underlying48 rfl HID.out ?_)
              | (refine wpList_get rfl 48 (.tmp 36) rfl wr.heap.size 0 X D 50 _ rfl B3.out HXI.out Tryz.underlying48 rfl HID.out ?_)
              | fail)
            clear hput hlook
            go_wp2
            go_roundw
            case rel => exact ⟨k + 1, by go_num, by omega, by omega, R8.out, HE1.out.1, HE1.out.2⟩
            case measure => simp [intOf]; omega
    · have hkz : ¬ (k : Int) < (n : Nat) := by omega
      obtain rfl : k = n := by omega
      have hxs : l.take k = l := List.take_of_length_le (by rw [HL.out]; omega)
      have hxd : l.drop k = [] := List.drop_eq_nil_of_le (by rw [HL.out]; omega)
      rw [hxs] at HR
      rw [hxs, hxd] at HE
      have HZ : Hid (bE l = 0 ∧ GdX l) := ⟨HE.out.1, HE.out.2⟩
      clear hxs hxd HE
      go_wp2_with fail
      refine (clone_any a k c l wr (HX.out.below HR.out.bel) HL.out HAA.out (by omega)).mono ?_
      rintro e w1 ⟨v, rfl, ho, hb1⟩
      have R1 : Hid (BX w m s l w1) := HR.out.keep hb1
      have hids : ∀ e ∈ l, e.id.size = 32 := HX.out.ids
      have hzz : w.heap.size < wr.heap.size := HR.out.bx.lt
      have HSO : Hid (Calls Tryz.prog 52 #[v, .func (.func 53) #[] #[]] w1 fun e w' => e = .returned (.tuple #[]) ∧ ∃ L a' c', L.Perm l ∧ OkL L ∧ v = .slice a' k c' ∧ XeL w' a' L ∧ k ≤ c' ∧ AdS a' ∧ Bk w' w.heap.size (idc s) 48 ∧ Below w.heap.size w w') := by
        rcases ho.2 with ⟨h1, h0⟩ | ⟨g, cap, cur, h1, hle, hg, hnc, _⟩
        · subst h1
          have hl0 : l = [] := List.length_eq_zero_iff.1 (by rw [HL.out]; exact h0)
          refine (HSN.out none 0 _ w1).mono ?_
          rintro e w' ⟨rfl, rfl⟩
          refine ⟨rfl, [], none, 0, by rw [hl0], ⟨fun e h => (by cases h), fun e h => (by cases h), List.Pairwise.nil, by simp⟩, by rw [h0], (fun i e h => by cases h), by omega, .inl rfl, R1.out.bx, R1.out.bel⟩
        · subst h1
          refine (sort_any wr.heap.size g k cap l w1 ho HL.out hids (by omega) hb1.size).mono ?_
          rintro e w' ⟨rfl, L, hp, hpw, ho', hb'⟩
          obtain ⟨a', c', hv, hXL, hkc, hAd⟩ := own_xel ho' (by rw [hp.length_eq]; exact HL.out) (fun e he => hids e (hp.mem_iff.1 he))
          refine ⟨rfl, L, a', c', hp, HZ.out.2.okl hp hids (rise_of hpw (HZ.out.2.ap.perm hp.symm)), hv, hXL, hkc, (by rcases hAd with ⟨q, _⟩ | ⟨q, q2, _⟩; exact .inl q; exact .inr ⟨q, 0, q2⟩), ?_, R1.out.bel.trans (hb'.mono (Nat.le_of_lt hzz))⟩
          unfold Bk
          rw [hb'.block w.heap.size hzz]
          exact R1.out.bx
      obtain ⟨va, vc, hvv⟩ : ∃ va vc, v = .slice va k vc := by
        rcases ho.2 with ⟨h1, h0⟩ | ⟨g, cap, cur, h1, _⟩
        · exact ⟨none, 0, by rw [h1, h0]⟩
        · exact ⟨_, _, h1⟩
      subst hvv
      clear ho hb1 R1 HR hids
      go_wp2_with fail
      refine HSO.out.mono ?_
      rintro e w2 ⟨rfl, L, a', c', hp, hOL, hv, hXL, hkc, hAd, hbx, hbel⟩
      injection hv with hva _ hvc
      subst hva
      subst hvc
      have HPL : Hid (L.Perm l ∧ OkL L) := ⟨hp, hOL⟩
      have HBX : Hid (Bk w2 w.heap.size (idc s) 48) := hbx
      have HBL : Hid (Below w.heap.size w w2) := hbel
      have HIO : Hid (Calls Tryz.prog 48 #[.agg (idc s), .slice va k vc] w2 fun e w' => ∃ g, e = .returned (.pointer (some ⟨g, 0, none⟩)) ∧ IxS w' g s L ∧ Below w.heap.size w w') := (indexOf_any s L va k vc w2 HS.out hXL (by rw [hp.length_eq]; exact HL.out) hkc hAd (by omega)).mono fun e w' ⟨g, h1, h2, h3, h4⟩ => ⟨g, h1, h3, hbel.trans (h4.mono hbel.size)⟩
      clear hp hOL hXL hkc hAd hbx hbel HSO
      go_wp2_with (first
        | (go_at_call 48; refine HIO.out.mono ?_; rintro e w3 ⟨gI, rfl, hI, hb3⟩; have HIX : Hid (IxS w3 gI s L ∧ Below w.heap.size w w3) := ⟨hI, hb3⟩; clear hI hb3)
        | (go_at_call 49; refine (bytes_any gI s L _ HIX.out.1 HPL.out.2.ok HPL.out.2.len).mono ?_; rintro e w4 ⟨rfl, hb4⟩)
        | (refine wpList_get rfl 48 (.tmp 2) rfl w.heap.size 0 (idc s) (idc s) 48 _ rfl HBX.out (fun j v hv => by rw [Nat.zero_add]; exact hv) Tryz.underlying48 rfl HI.out ?_)
        | fail)
      go_ret2
      exact ⟨_, ret_seX HZ.out.1, ⟨fun q => absurd HZ.out.1 q, fun _ => ⟨L, HPL.out.1, HPL.out.2, rfl⟩⟩, HIX.out.2.trans (hb4.mono HIX.out.2.size)⟩
end Go.Proofs.YtbfoiocbmhhdbaaGreat
/- Lists that a call made: nil, or of a block of its own. -/
namespace Go.Proofs.YtbfoiocbmhhdbaaGreat
open Go.RowKit
set_option linter.unusedSimpArgs false
set_option linter.unusedVariables false
/-- A list that the package made: nil, or a block of its own. -/
def Mad (w : World) (ao : Option Addr) (xs : List ByteArray) (w' : World) : Prop :=
  (ao = none ∧ xs.length = 0) ∨ ∃ g, ao = some ⟨g, 0, none⟩ ∧ w.heap.size ≤ g ∧ Bk w' g (txc xs) 9
theorem Mad.txl {w w' : World} {ao : Option Addr} {xs : List ByteArray} (h : Mad w ao xs w') : TxL w' ao xs := by
  rcases h with ⟨rfl, h0⟩ | ⟨g, rfl, _, hB⟩
  · have : xs = [] := List.eq_nil_of_length_eq_zero h0
    rw [this]; intro i x hx; simp at hx
  · exact hB.txl
theorem Mad.lo {w w' : World} {ao : Option Addr} {xs : List ByteArray} (h : Mad w ao xs w') (b o : Nat) (s : Option Nat) (e : ao = some ⟨b, o, s⟩) : w.heap.size ≤ b ∧ b < w'.heap.size := by
  rcases h with ⟨rfl, h0⟩ | ⟨g, rfl, h1, hB⟩
  · cases e
  · cases e; exact ⟨h1, hB.lt⟩
theorem Mad.grown {w w1 w2 : World} {ao : Option Addr} {xs : List ByteArray} {r : Option Nat} (h : Mad w ao xs w1) (hg : w1.grownBy w2 r) (hr : ∀ b o s, ao = some ⟨b, o, s⟩ → r ≠ some b) : Mad w ao xs w2 := by
  rcases h with h | ⟨g, h0, h1, hB⟩
  · exact .inl h
  · exact .inr ⟨g, h0, h1, hB.grown hg (hr g 0 none h0)⟩
theorem Mad.below {w w1 w2 : World} {ao : Option Addr} {xs : List ByteArray} (h : Mad w ao xs w1) (hb : Below w1.heap.size w1 w2) : Mad w ao xs w2 := h.grown (gr_of_below hb none) (by simp)
/-- A list of the document's answer. -/
def Ans (w : World) (a : Option Addr) (xs : List ByteArray) (w' : World) : Prop := TxL w' a xs ∧ ∀ b o s, a = some ⟨b, o, s⟩ → w.heap.size ≤ b ∧ b < w'.heap.size
theorem ans_of {w w' : World} {v : Value} {xs : List ByteArray} (h : w'.ownsRow w.heap.size 9 1 v xs.length (sv xs)) : ∃ a c, v = .slice a xs.length c ∧ Ans w a xs w' := by
  have h0 := h
  obtain ⟨a, c, rfl, ht, hl⟩ := own_txl h
  refine ⟨a, c, rfl, ht, fun b o s e => ⟨hl b o s e, ?_⟩⟩
  rcases h0.2 with ⟨h1, _⟩ | ⟨g, cap, cur, h1, _, hg, _⟩
  · rw [e] at h1; cases h1
  · rw [e] at h1; cases h1; exact (Array.getElem?_eq_some_iff.1 hg).1
theorem Ans.below {w w1 w2 : World} {a : Option Addr} {xs : List ByteArray} (h : Ans w a xs w1) (hb : Below w1.heap.size w1 w2) : Ans w a xs w2 :=
  ⟨h.1.below hb, fun b o s e => ⟨(h.2 b o s e).1, Nat.lt_of_lt_of_le (h.2 b o s e).2 hb.size⟩⟩
theorem map_block {ao : Option Addr} {g : Nat} (h : ao.map (·.block) = some g) : ∃ o s, ao = some ⟨g, o, s⟩ := by
  cases ao with
  | none => cases h
  | some q =>
    obtain ⟨b, o, s⟩ := q
    simp at h
    exact ⟨o, s, by rw [h]⟩
end Go.Proofs.YtbfoiocbmhhdbaaGreat
