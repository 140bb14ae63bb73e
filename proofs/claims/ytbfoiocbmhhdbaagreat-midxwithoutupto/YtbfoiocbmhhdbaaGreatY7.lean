import Derived.Test.YtbfoiocbmhhdbaaGreatY6
import Derived.BigRegion
import Derived.RegionTactic
import Derived.Deep.RegionHeld3
import Derived.Test.YtbfoiocbmhhdbaaGreatY5
import Derived.Test.YtbfoiocbmhhdbaaGreatChecked
import Derived.BigQuiet
import Derived.Deep.QuietTactic
import Derived.Test.YtbfoiocbmhhdbaaGreatY1
import Derived.Laws.StructEq
/- idx.indexOf: an index in memory. -/
namespace Go.Proofs.YtbfoiocbmhhdbaaGreat
open Go.RowKit
set_option linter.unusedSimpArgs false
set_option linter.unusedVariables false
/-- The fan-out's cells. -/
def fnC (f : Nat → Nat) : List Value := (List.range 256).map (fun b => Value.int .i64 (f b : Int))
theorem fnC_len (f : Nat → Nat) : (fnC f).length = 256 := by simp [fnC]
theorem fnC_get (f : Nat → Nat) (j : Nat) (h : j < 256) : (fnC f)[j]? = some (.int .i64 (f j : Int)) := by
  simp [fnC, h]
theorem fnC_set (f : Nat → Nat) (j m : Nat) (h : j < 256) : (fnC f).set j (.int .i64 (m : Int)) = fnC (fun b => if b = j then m else f b) := by
  apply List.ext_getElem?
  intro i
  rw [List.getElem?_set]
  by_cases hi : i < 256
  · rw [fnC_get (fun b => if b = j then m else f b) i hi]
    by_cases e : j = i
    · subst e
      rw [if_pos rfl, if_pos (by rw [fnC_len]; exact h)]
      simp
    · rw [if_neg e, fnC_get f i hi]
      have e2 : ¬ i = j := fun q => e q.symm
      simp [e2]
  · rw [List.getElem?_eq_none (by rw [fnC_len]; omega), List.getElem?_eq_none (by rw [fnC_len]; omega)]
    split
    · rw [if_neg (by rw [fnC_len]; omega)]
    · rfl
/-- An index's cells. -/
def ixC (s : ByteArray) (f : Nat → Nat) (v : Value) : Array Value := ((idc s).toList ++ (fnC f ++ [v])).toArray
theorem ixC_size (s : ByteArray) (f : Nat → Nat) (v : Value) (h : s.size = 32) : (ixC s f v).size = 289 := by simp [ixC, idc_size, fnC_len, h]
theorem ixC_id (s : ByteArray) (f : Nat → Nat) (v : Value) (h : s.size = 32) (j : Nat) (u : Value) (hu : (idc s)[j]? = some u) : (ixC s f v)[0 + j]? = some u := by
  have hj : j < 32 := by
    have := (Array.getElem?_eq_some_iff.1 hu).1
    rwa [idc_size, h] at this
  rw [Nat.zero_add, ixC, List.getElem?_toArray, List.getElem?_append_left (by rw [Array.length_toList, idc_size]; omega), Array.getElem?_toList]
  exact hu
theorem ixC_fan (s : ByteArray) (f : Nat → Nat) (v : Value) (h : s.size = 32) (j : Nat) (hj : j < 256) : (ixC s f v)[32 + j]? = some (.int .i64 (f j : Int)) := by
  have hl : (idc s).toList.length = 32 := by rw [Array.length_toList, idc_size, h]
  rw [ixC, List.getElem?_toArray, List.getElem?_append_right (by omega), hl, show 32 + j - 32 = j from by omega, List.getElem?_append_left (by rw [fnC_len]; exact hj), fnC_get f j hj]
theorem ixC_row (s : ByteArray) (f : Nat → Nat) (v : Value) (h : s.size = 32) : (ixC s f v)[288]? = some v := by
  have hl : (idc s).toList.length = 32 := by rw [Array.length_toList, idc_size, h]
  rw [ixC, List.getElem?_toArray, List.getElem?_append_right (by omega), hl, List.getElem?_append_right (by rw [fnC_len]; omega), fnC_len]
  rfl
theorem ixC_set (s : ByteArray) (f : Nat → Nat) (v : Value) (h : s.size = 32) (j m : Nat) (hj : j < 256) : (ixC s f v).setIfInBounds (32 + j) (.int .i64 (m : Int)) = ixC s (fun b => if b = j then m else f b) v := by
  have hl : (idc s).toList.length = 32 := by rw [Array.length_toList, idc_size, h]
  unfold ixC
  rw [List.setIfInBounds_toArray, List.set_append_right _ _ (by omega), hl, show 32 + j - 32 = j from by omega, List.set_append_left _ _ (by rw [fnC_len]; exact hj), fnC_set f j m hj]
/-- How many have this first byte among the first of them; sums. -/
def cnt8 (l : List Xe) (b : Nat) : Nat := l.countP (fun e => decide (fst8 e = b))
theorem cnt8_snoc (l : List Xe) (e : Xe) (b : Nat) : cnt8 (l ++ [e]) b = if b = fst8 e then cnt8 l b + 1 else cnt8 l b := by
  unfold cnt8
  rw [List.countP_append]
  by_cases h : b = fst8 e
  · rw [if_pos h]; simp [h]
  · rw [if_neg h]; simp; exact fun q => h q.symm
theorem fanL_zero (l : List Xe) : fanL l 0 = cnt8 l 0 := by
  unfold fanL cnt8
  congr 1
  funext e
  exact decide_eq_decide.2 (by omega)
theorem fanL_step (l : List Xe) (b : Nat) : fanL l (b + 1) = cnt8 l (b + 1) + fanL l b := by
  induction l with
  | nil => rfl
  | cons e l ih =>
    unfold fanL cnt8 at *
    rw [List.countP_cons, List.countP_cons, List.countP_cons, ih]
    by_cases h1 : fst8 e ≤ b
    · have d1 : decide (fst8 e ≤ b) = true := decide_eq_true h1
      have d2 : decide (fst8 e ≤ b + 1) = true := decide_eq_true (by omega)
      have d3 : decide (fst8 e = b + 1) = false := decide_eq_false (by omega)
      rw [d1, d2, d3]; simp; omega
    · have d1 : decide (fst8 e ≤ b) = false := decide_eq_false h1
      by_cases h2 : fst8 e = b + 1
      · have d2 : decide (fst8 e ≤ b + 1) = true := decide_eq_true (by omega)
        have d3 : decide (fst8 e = b + 1) = true := decide_eq_true h2
        rw [d1, d2, d3]; simp; omega
      · have d2 : decide (fst8 e ≤ b + 1) = false := decide_eq_false (by omega)
        have d3 : decide (fst8 e = b + 1) = false := decide_eq_false h2
        rw [d1, d2, d3]; simp
/-- An address that a slice of entries may have. -/
def AdS (a : Option Addr) : Prop := a = none ∨ ∃ g o, a = some ⟨g, o, none⟩
/-- An index that lies in memory. -/
structure IxS (w : World) (g : Nat) (s : ByteArray) (l : List Xe) : Prop where
  row : ∃ a n c, Bk w g (ixC s (fanL l) (.slice a n c)) 115 ∧ XeL w a l ∧ l.length = n ∧ n ≤ c ∧ AdS a
  id : s.size = 32
theorem IxS.below {w w' : World} {g : Nat} {s : ByteArray} {l : List Xe} (h : IxS w g s l) (hb : Below w.heap.size w w') : IxS w' g s l := by
  obtain ⟨a, n, c, h1, h2, h3, h4, h5⟩ := h.row
  exact ⟨⟨a, n, c, h1.below hb h1.lt, h2.below hb, h3, h4, h5⟩, h.id⟩
theorem inf_ix : (Tryz.prog.info? 115).map (·.size) = some 289 := by kernel_rfl
end Go.Proofs.YtbfoiocbmhhdbaaGreat
/- Plain facts of indexes: places by the first byte and by halving; rising step by step. -/
namespace Go.Proofs.YtbfoiocbmhhdbaaGreat
set_option linter.unusedSimpArgs false
set_option linter.unusedVariables false
/-- A name's first byte. -/
def f8 (x : ByteArray) : Nat := ((bl x).headD 0).toNat
theorem fst8_f8 (e : Xe) : fst8 e = f8 e.id := rfl
theorem f8_lt (x : ByteArray) : f8 x < 256 := UInt8.toNat_lt _
theorem cmpB_head : ∀ a b : List UInt8, Lib.compareBytes a b < 0 → (a.headD 0).toNat ≤ (b.headD 0).toNat
  | [], _, _ => by simp
  | _ :: _, [], h => by simp [Lib.compareBytes] at h
  | x :: a, y :: b, h => by
    rw [Lib.compareBytes] at h
    show x.toNat ≤ y.toNat
    by_cases h1 : x < y
    · rw [UInt8.lt_iff_toNat_lt] at h1; omega
    · rw [if_neg h1] at h
      by_cases h2 : y < x
      · rw [if_pos h2] at h; omega
      · rw [UInt8.lt_iff_toNat_lt] at h2; omega
theorem f8_le {a b : ByteArray} (h : ltN a b = true) : f8 a ≤ f8 b := cmpB_head _ _ (of_decide_eq_true h)
theorem f8_ltN {a b : ByteArray} (h : f8 a < f8 b) : ltN a b = true := by
  refine ltN_ne (fun e => ?_) ?_
  · rw [e] at h; omega
  · rw [Bool.eq_false_iff]; intro g; have := f8_le g; omega
/-- Places and counts, where what holds behind holds ahead. -/
theorem place_cnt {α : Type} {p : α → Bool} : ∀ {l : List α}, l.Pairwise (fun a b => p b = true → p a = true) → ∀ {i : Nat} {a : α}, l[i]? = some a → (p a = true ↔ i < l.countP p)
  | [], _, i, a, h => by simp at h
  | x :: r, hp, i, a, h => by
    obtain ⟨h1, h2⟩ := List.pairwise_cons.1 hp
    cases hx : p x with
    | true =>
      rw [List.countP_cons_of_pos hx]
      cases i with
      | zero => rw [List.getElem?_cons_zero] at h; injection h with h; subst h; simp [hx]
      | succ i => rw [List.getElem?_cons_succ] at h; rw [place_cnt h2 h]; omega
    | false =>
      have hr : r.countP p = 0 := List.countP_eq_zero.2 (fun b hb q => by rw [h1 b hb q] at hx; cases hx)
      rw [List.countP_cons_of_neg (by rw [hx]; simp), hr]
      cases i with
      | zero => rw [List.getElem?_cons_zero] at h; injection h with h; subst h; simp [hx]
      | succ i =>
        rw [List.getElem?_cons_succ] at h
        constructor
        · intro q; rw [h1 a (List.mem_of_getElem? h) q] at hx; cases hx
        · intro q; omega
theorem range_cnt (k : Nat) : ∀ n, (List.range n).countP (fun i => decide (i < k)) = min n k
  | 0 => by simp
  | n + 1 => by
    rw [List.range_succ, List.countP_append, range_cnt k n, List.countP_cons, List.countP_nil]
    by_cases h : n < k
    · simp [h]; omega
    · simp [h]; omega
/-- How many names stand ahead of this one. -/
def cntN (l : List Xe) (x : ByteArray) : Nat := l.countP (fun e => ltN e.id x)
theorem Rise.fan {l : List Xe} (h : Rise l) {i : Nat} {e : Xe} (he : l[i]? = some e) (b : Nat) : fst8 e ≤ b ↔ i < fanL l b := by
  have q := place_cnt (p := fun e : Xe => decide (fst8 e ≤ b)) (h.imp (fun {a c} r s => decide_eq_true (Nat.le_trans (f8_le r) (of_decide_eq_true s)))) he
  rw [← decide_eq_true_iff (p := fst8 e ≤ b)]; exact q
theorem Rise.fanb {l : List Xe} (h : Rise l) {i : Nat} {e : Xe} (he : l[i]? = some e) (b : Nat) : fst8 e < b ↔ i < fanB l b := by
  have q := place_cnt (p := fun e : Xe => decide (fst8 e < b)) (h.imp (fun {a c} r s => decide_eq_true (Nat.lt_of_le_of_lt (f8_le r) (of_decide_eq_true s)))) he
  rw [← decide_eq_true_iff (p := fst8 e < b)]; exact q
theorem Rise.cnt {l : List Xe} (h : Rise l) {i : Nat} {e : Xe} (he : l[i]? = some e) (x : ByteArray) : ltN e.id x = true ↔ i < cntN l x :=
  place_cnt (p := fun e : Xe => ltN e.id x) (h.imp (fun {a c} r s => ltN_trans r s)) he
theorem cntN_ge (l : List Xe) (x : ByteArray) : fanB l (f8 x) ≤ cntN l x := by
  refine List.countP_mono_left (fun e _ q => ?_)
  exact f8_ltN (of_decide_eq_true q)
theorem cntN_le (l : List Xe) (x : ByteArray) : cntN l x ≤ fanL l (f8 x) := by
  refine List.countP_mono_left (fun e _ q => ?_)
  exact decide_eq_true (f8_le q)
theorem cntN_len (l : List Xe) (x : ByteArray) : cntN l x ≤ l.length := List.countP_le_length
/-- The halving's answer. -/
theorem half_cnt {l : List Xe} (h : Rise l) (x : ByteArray) (q : Nat → Bool) (hq : ∀ i e, l[fanB l (f8 x) + i]? = some e → q i = ltN e.id x) :
    fanB l (f8 x) + (List.range (fanL l (f8 x) - fanB l (f8 x))).countP q = cntN l x := by
  have h1 := cntN_ge l x
  have h2 := cntN_le l x
  have h3 := fanL_le l (f8 x)
  have e : (List.range (fanL l (f8 x) - fanB l (f8 x))).countP q = (List.range (fanL l (f8 x) - fanB l (f8 x))).countP (fun i => decide (i < cntN l x - fanB l (f8 x))) := by
    refine List.countP_congr (fun i hi => ?_)
    rw [List.mem_range] at hi
    obtain ⟨e, he⟩ : ∃ e, l[fanB l (f8 x) + i]? = some e := ⟨_, List.getElem?_eq_getElem (by omega)⟩
    rw [hq i e he, h.cnt he, decide_eq_true_iff]
    omega
  rw [e, range_cnt]
  omega
/-- What Find finds. -/
def fnd (l : List Xe) (x : ByteArray) : Option Xe := l.find? (fun e => decide (e.id = x))
theorem fnd_some {l : List Xe} {x : ByteArray} {e : Xe} (h : fnd l x = some e) : e ∈ l ∧ e.id = x := ⟨List.mem_of_find?_eq_some h, of_decide_eq_true (List.find?_some (p := fun e : Xe => decide (e.id = x)) h)⟩
theorem fnd_mem {l : List Xe} (h : Aprt l) {e : Xe} (he : e ∈ l) : fnd l e.id = some e := by
  cases q : fnd l e.id with
  | none =>
    have := List.find?_eq_none.1 q e he
    simp at this
  | some d =>
    obtain ⟨h1, h2⟩ := fnd_some q
    obtain ⟨i, hi⟩ := List.mem_iff_getElem?.1 he
    obtain ⟨j, hj⟩ := List.mem_iff_getElem?.1 h1
    have := apart_one h hj hi h2
    subst this
    rw [hi] at hj; injection hj with hj; rw [hj]
theorem fnd_none {l : List Xe} {x : ByteArray} : fnd l x = none ↔ ∀ e ∈ l, e.id ≠ x := by
  unfold fnd
  rw [List.find?_eq_none]
  simp
theorem fnd_at {l : List Xe} (h : Rise l) (x : ByteArray) {e : Xe} (he : l[cntN l x]? = some e) (hx : e.id = x) : fnd l x = some e := by
  rw [← hx]; exact fnd_mem h.apart (List.mem_of_getElem? he)
theorem fnd_end {l : List Xe} (h : Rise l) (x : ByteArray) (he : cntN l x = fanL l (f8 x)) : fnd l x = none := by
  rw [fnd_none]
  intro e hm hx
  obtain ⟨i, hi⟩ := List.mem_iff_getElem?.1 hm
  have h1 := (h.fan hi (f8 x)).1 (by rw [fst8_f8, hx]; exact Nat.le_refl _)
  have h2 := (h.cnt hi x).2 (by omega)
  rw [hx, ltN_irr] at h2
  cases h2
theorem fnd_ne {l : List Xe} (h : Rise l) (x : ByteArray) {e : Xe} (he : l[cntN l x]? = some e) (hx : e.id ≠ x) : fnd l x = none := by
  rw [fnd_none]
  intro d hm hd
  obtain ⟨i, hi⟩ := List.mem_iff_getElem?.1 hm
  have h1 : ¬ i < cntN l x := fun q => by
    have := (h.cnt hi x).2 q
    rw [hd, ltN_irr] at this; cases this
  by_cases q : i = cntN l x
  · subst q; rw [he] at hi; injection hi with hi; exact hx (hi ▸ hd)
  · have hlt : cntN l x < i := by omega
    obtain ⟨hi2, rfl⟩ := List.getElem?_eq_some_iff.1 hi
    obtain ⟨hj2, rfl⟩ := List.getElem?_eq_some_iff.1 he
    have := List.pairwise_iff_getElem.1 h (cntN l x) i hj2 hi2 hlt
    rw [hd] at this
    have q2 := (h.cnt he x).1 this
    omega
/-- Do they rise, each against the one ahead of it? -/
def okR : Option Xe → List Xe → Bool
  | _, [] => true
  | o, e :: r => (okX e && (match o with | none => true | some d => ltN d.id e.id)) && okR (some e) r
theorem okR_some : ∀ (l : List Xe) (d : Xe), okR (some d) l = true ↔ (∀ e ∈ l, okX e = true) ∧ Rise (d :: l)
  | [], d => by simp [okR, Rise]
  | e :: r, d => by
    rw [okR, Bool.and_eq_true, Bool.and_eq_true, okR_some r e]
    show (okX e = true ∧ ltN d.id e.id = true) ∧ _ ↔ _
    constructor
    · rintro ⟨⟨h1, h2⟩, h3, h4⟩
      refine ⟨fun x hx => ?_, ?_⟩
      · rcases List.mem_cons.1 hx with rfl | hx
        · exact h1
        · exact h3 x hx
      · refine List.pairwise_cons.2 ⟨fun x hx => ?_, h4⟩
        rcases List.mem_cons.1 hx with rfl | hx
        · exact h2
        · exact ltN_trans h2 ((List.pairwise_cons.1 h4).1 x hx)
    · rintro ⟨h1, h2⟩
      obtain ⟨h3, h4⟩ := List.pairwise_cons.1 h2
      exact ⟨⟨h1 e List.mem_cons_self, h3 e List.mem_cons_self⟩, fun x hx => h1 x (List.mem_cons_of_mem _ hx), h4⟩
theorem okR_iff (l : List Xe) : okR none l = true ↔ (∀ e ∈ l, okX e = true) ∧ Rise l := by
  cases l with
  | nil => simp [okR, Rise]
  | cons e r =>
    rw [okR, Bool.and_eq_true, Bool.and_eq_true, okR_some r e]
    constructor
    · rintro ⟨⟨h1, _⟩, h3, h4⟩
      refine ⟨fun x hx => ?_, h4⟩
      rcases List.mem_cons.1 hx with rfl | hx
      · exact h1
      · exact h3 x hx
    · rintro ⟨h1, h2⟩
      exact ⟨⟨h1 e List.mem_cons_self, rfl⟩, fun x hx => h1 x (List.mem_cons_of_mem _ hx), h2⟩
/-- An index's bytes. -/
def IsIx (S : ByteArray) (s : ByteArray) (l : List Xe) : Prop := s.size = 32 ∧ OkL l ∧ bl S = ixB s l
theorem IsIx.take {S s : ByteArray} {l : List Xe} (h : IsIx S s l) : rdS (bl S) = s ∧ rdA (bl S) = l := by rw [h.2.2]; exact rd_ix h.1 h.2.1
end Go.Proofs.YtbfoiocbmhhdbaaGreat
/- idx.indexOf. -/
namespace Go.Proofs.YtbfoiocbmhhdbaaGreat
open Go.RowKit
set_option linter.unusedSimpArgs false
set_option linter.unusedVariables false
set_option maxRecDepth 100000 in
theorem builtIx (a0 a1 a2 a3 a4 a5 a6 a7 a8 a9 a10 a11 a12 a13 a14 a15 a16 a17 a18 a19 a20 a21 a22 a23 a24 a25 a26 a27 a28 a29 a30 a31 : Value) (o : Option Addr) (n c : Nat) : Tryz.prog.built 115 [(0, .agg #[a0, a1, a2, a3, a4, a5, a6, a7, a8, a9, a10, a11, a12, a13, a14, a15, a16, a17, a18, a19, a20, a21, a22, a23, a24, a25, a26, a27, a28, a29, a30, a31]), (2, .slice o n c)] = some ((([a0, a1, a2, a3, a4, a5, a6, a7, a8, a9, a10, a11, a12, a13, a14, a15, a16, a17, a18, a19, a20, a21, a22, a23, a24, a25, a26, a27, a28, a29, a30, a31] : List Value) ++ (fnC (fun _ => 0) ++ [Value.slice o n c])).toArray) := by kernel_rfl
set_option maxRecDepth 100000 in
theorem build_ix (s : ByteArray) (h : s.size = 32) (o : Option Addr) (n c : Nat) (w : World) : (Instr.build 115 #[(0, .agg (idc s)), (2, .slice o n c)]).run Tryz.prog w = .ok (.agg (ixC s (fun _ => 0) (.slice o n c))) w := by
  refine run_build w _ _ _ ?_
  obtain ⟨a0, a1, a2, a3, a4, a5, a6, a7, a8, a9, a10, a11, a12, a13, a14, a15, a16, a17, a18, a19, a20, a21, a22, a23, a24, a25, a26, a27, a28, a29, a30, a31, hl⟩ := list32X (idc s).toList (by rw [Array.length_toList, idc_size, h])
  have e1 : idc s = #[a0, a1, a2, a3, a4, a5, a6, a7, a8, a9, a10, a11, a12, a13, a14, a15, a16, a17, a18, a19, a20, a21, a22, a23, a24, a25, a26, a27, a28, a29, a30, a31] := by rw [← Array.toArray_toList (xs := idc s), hl]
  rw [ixC, hl, e1]
  exact builtIx _ _ _ _ _ _ _ _ _ _ _ _ _ _ _ _ _ _ _ _ _ _ _ _ _ _ _ _ _ _ _ _ _ _ _
theorem take_snocX {l : List Xe} {k : Nat} {e : Xe} (h : l[k]? = some e) : l.take (k + 1) = l.take k ++ [e] := by
  rw [List.take_add_one, h, Option.toList_some]
theorem fst8_cell (e : Xe) (h : e.id.size = 32) : (xeC e)[0]? = some (.int .u8 (fst8 e : Int)) := by
  have := xeC_id e h 0 _ (idc_get e.id 0 (by omega))
  rw [Nat.zero_add] at this
  rw [this]
  have q : fst8 e = (e.id[0]'(by omega)).toNat := by
    unfold fst8
    congr 1
    have hl : 0 < (bl e.id).length := by rw [bl_length]; omega
    rw [List.headD_eq_head?_getD, List.head?_eq_getElem?, List.getElem?_eq_getElem hl]
    rfl
  rw [q]
theorem XeL.get {w : World} {a : Option Addr} {l : List Xe} (h : XeL w a l) {i : Nat} {e : Xe} (he : l[i]? = some e) : ∃ g o, a = some ⟨g, o, none⟩ ∧ g < w.heap.size ∧ e.id.size = 32 ∧ ∀ j v, (xeC e)[j]? = some v → w.cell? ⟨g, o + i * 35 + j, none⟩ = some v := by
  obtain ⟨h1, g, o, h2, h3, h4⟩ := h i e he
  exact ⟨g, o, h2, h3, h1, h4⟩
/-- How the counting stands. -/
structure IxW (w : World) (g : Nat) (s : ByteArray) (f : Nat → Nat) (v : Value) (wr : World) : Prop where
  bel : Below w.heap.size w wr
  blk : Bk wr g (ixC s f v) 115
theorem IxW.below {w wr W : World} {g : Nat} {s : ByteArray} {f : Nat → Nat} {v : Value} (h : IxW w g s f v wr) (hb : Below wr.heap.size wr W) : IxW w g s f v W :=
  ⟨h.bel.trans (hb.mono h.bel.size), h.blk.below hb h.blk.lt⟩
theorem IxW.put {w wr : World} {g : Nat} {s : ByteArray} {f : Nat → Nat} {v : Value} (h : IxW w g s f v wr) (hs : s.size = 32) (hg : w.heap.size ≤ g) (j m : Nat) (hj : j < 256) (f' : Nat → Nat) (hf : ∀ b, b < 256 → f' b = if b = j then m else f b) : IxW w g s f' v (wr.setCell ⟨g, 32 + j, none⟩ (.int .i64 (m : Int))) := by
  have hgr : wr.grownBy (wr.setCell ⟨g, 32 + j, none⟩ (.int .i64 (m : Int))) (some g) := Lib.grownBy_setB (World.grownBy.refl _ _) (32 + j) _
  refine ⟨below_own h.bel h.bel.size hgr hg, ?_⟩
  have := h.blk.set (32 + j) (.int .i64 (m : Int))
  rw [ixC_set s f v hs j m hj] at this
  have e : fnC f' = fnC (fun b => if b = j then m else f b) := by
    unfold fnC
    apply List.map_congr_left
    intro b hb
    rw [hf b (List.mem_range.1 hb)]
  unfold ixC at this ⊢
  rw [e]
  exact this
set_option maxHeartbeats 8000000 in
set_option maxRecDepth 100000 in
theorem indexOf_any (s : ByteArray) (l : List Xe) (a : Option Addr) (n c : Nat) (w : World) (hs : s.size = 32) (hX : XeL w a l) (hl : l.length = n) (hc : n ≤ c) (hA : AdS a) (hn : n ≤ 1152921504606846976) :
    Calls Tryz.prog 48 #[.agg (idc s), .slice a n c] w fun e w' => ∃ g, e = .returned (.pointer (some ⟨g, 0, none⟩)) ∧ w.heap.size ≤ g ∧ IxS w' g s l ∧ Below w.heap.size w w' := by
  have HX : Hid (XeL w a l) := hX
  have HL : Hid (l.length = n) := hl
  have HS : Hid (s.size = 32) := hs
  have HCC : Hid (n ≤ c ∧ AdS a) := ⟨hc, hA⟩
  have HBD : Hid (∀ w, (Instr.build 115 #[(0, .agg (idc s)), (2, .slice a n c)]).run Tryz.prog w = .ok (.agg (ixC s (fun _ => 0) (.slice a n c))) w) := build_ix s hs a n c
  obtain ⟨D, hD⟩ : ∃ D, idc s = D := ⟨_, rfl⟩
  obtain ⟨Z, hZ⟩ : ∃ Z, ixC s (fun _ => 0) (.slice a n c) = Z := ⟨_, rfl⟩
  have HI : Hid ((Tryz.prog.info? 48).map (·.size) = some D.size) := info_32 (by rw [← hD, idc_size, hs])
  have HZ : Hid (ixC s (fun _ => 0) (.slice a n c) = Z) := hZ
  rw [hD, hZ] at HBD
  rw [hD]
  have HB0 : Hid (Bk (w.alloc (.cells D 48)) w.heap.size D 48) := bk_new _ _ _
  clear hX hl hs hD hZ hc hA
  go_enter Tryz.func48, Tryz.ntmps48
  go_wp2_with (first
    | (refine wpList_get rfl 48 (.tmp 2) rfl w.heap.size 0 D D 48 _ rfl HB0.out (fun j v hv => by rw [Nat.zero_add]; exact hv) Tryz.underlying48 rfl HI.out ?_)
    | (refine wpList_bdX2 rfl 115 0 2 (.tmp 9) (.tmp 10) rfl (.agg D) (.slice a n c) (.agg Z) rfl rfl (HBD.out _) ?_))
  have I0 : Hid (IxW w (w.heap.size + 1) s (cnt8 (l.take 0)) (.slice a n c) ((w.alloc (.cells D 48)).alloc (.cells Z 115))) := by
    refine ⟨((Below.refl _ _).alloc (Nat.le_refl _) _).alloc (by rw [al_size]; omega) _, ?_⟩
    have h := bk_new (w.alloc (.cells D 48)) Z 115
    rw [al_size] at h
    have e : ixC s (cnt8 (l.take 0)) (.slice a n c) = Z := HZ.out
    rw [e]
    exact h
  obtain ⟨W0, hW0⟩ : ∃ W, (w.alloc (.cells D 48)).alloc (.cells Z 115) = W := ⟨_, rfl⟩
  obtain ⟨G, hG⟩ : ∃ G, w.heap.size + 1 = G := ⟨_, rfl⟩
  have hGG : w.heap.size ≤ G := by omega
  rw [hW0] at I0 ⊢
  rw [hG] at I0 ⊢
  clear hW0 hG HBD HI HB0 HZ
  go_loopw [15] (fun v wr => ∃ k : Nat, v = .int .i64 k ∧ k ≤ n ∧ Hid (IxW w G s (cnt8 (l.take k)) (.slice a n c) wr)) (fun v _ => n - (intOf v).toNat)
  case atStart => exact ⟨0, rfl, Nat.zero_le _, I0.out⟩
  case round =>
    obtain ⟨k, rfl, hk, HR⟩ := hrel
    clear I0
    by_cases hlt : k < n
    · have hkz : (k : Int) < (n : Nat) := by omega
      obtain ⟨e, he⟩ : ∃ e, l[k]? = some e := ⟨l[k]'(by rw [HL.out]; exact hlt), List.getElem?_eq_getElem _⟩
      obtain ⟨ga, oa, rfl, hga, h32, hcells⟩ := (HX.out.below HR.out.bel).get he
      have HT : Hid (l.take (k + 1) = l.take k ++ [e]) := take_snocX he
      obtain ⟨X, hX⟩ : ∃ X, xeC e = X := ⟨_, rfl⟩
      obtain ⟨F, hF⟩ : ∃ F, fst8 e = F := ⟨_, rfl⟩
      have hF256 : F < 256 := by rw [← hF]; exact fst8_lt e
      have hc0 := fst8_cell e h32
      rw [hX, hF] at hc0
      rw [hX] at hcells
      have HF : Hid (fst8 e = F) := hF
      have HCE : Hid (∀ j v, X[j]? = some v → wr.cell? ⟨ga, oa + k * 35 + j, none⟩ = some v) := hcells
      have HIX : Hid ((Tryz.prog.info? 50).map (·.size) = some X.toList.length ∧ X.all (·.oneCell') = true ∧ X.size = 35) := by rw [← hX]; exact ⟨by rw [inf_xe35, Array.length_toList, xeC_size e h32], xeC_all e, xeC_size e h32⟩
      clear hcells hX he h32 hF
      have B1 : Hid (Bk (wr.alloc (.cells X 50)) wr.heap.size X 50) := bk_new _ _ _
      have R1 : Hid (IxW w G s (cnt8 (l.take k)) (.slice (some ⟨ga, oa, none⟩) n c) (wr.alloc (.cells X 50))) := HR.out.below ((Below.refl _ _).alloc (Nat.le_refl _) _)
      obtain ⟨cn, hcn⟩ : ∃ cn, cnt8 (l.take k) F = cn := ⟨_, rfl⟩
      have hq1 : (wr.alloc (.cells X 50)).cell? ⟨wr.heap.size, 0, none⟩ = some (.int .u8 (F : Int)) := by rw [B1.out.cell]; exact hc0
      have hq2 : (wr.alloc (.cells X 50)).cell? ⟨G, 32 + F, none⟩ = some (.int .i64 (cn : Int)) := by rw [R1.out.blk.cell, ixC_fan s _ _ HS.out F hF256, hcn]
      have hq3 : (wr.alloc (.cells X 50)).frozen? ⟨G, 32 + F, none⟩ = false := R1.out.blk.frozen _
      have hcl : cn ≤ n := by
        rw [← hcn]
        refine Nat.le_trans List.countP_le_length ?_
        rw [List.length_take]; omega
      have HCN : Hid (cnt8 (l.take k) F = cn) := hcn
      clear hcn hc0
      go_wp2_with (first
        | (refine wpList_load_mid rfl 50 (.tmp 17) rfl ga (oa + k * 35) rfl X.toList _ (fun j v hv => HCE.out j v (by rwa [Array.getElem?_toList] at hv)) Tryz.underlying50 rfl HIX.out.1 ?_)
        | (refine wpList_store_new rfl 50 (.tmp 7) (.tmp 18) rfl X _ 50 wr.heap.size rfl rfl rfl (info_xe HIX.out.2.2) (by rw [HIX.out.2.2]; rfl) HIX.out.2.1 ?_))
      have HNX : Hid (∀ W, IxW w G s (cnt8 (l.take k)) (.slice (some ⟨ga, oa, none⟩) n c) W → IxW w G s (cnt8 (l.take (k + 1))) (.slice (some ⟨ga, oa, none⟩) n c) (W.setCell ⟨G, 32 + F, none⟩ (.int .i64 ((cn + 1 : Nat) : Int)))) := fun W hW => hW.put HS.out hGG F (cn + 1) hF256 _ (fun b hb => by
        rw [HT.out, cnt8_snoc, HF.out]
        by_cases q : b = F
        · rw [if_pos q, if_pos q, q, HCN.out]
        · rw [if_neg q, if_neg q])
      obtain ⟨W2, hW2⟩ : ∃ W, wr.alloc (.cells X 50) = W := ⟨_, rfl⟩
      obtain ⟨gb, hgb⟩ : ∃ g, wr.heap.size = g := ⟨_, rfl⟩
      rw [hW2] at hq1 hq2 hq3 R1 ⊢
      rw [hgb] at hq1 ⊢
      clear hW2 hgb B1 HCE HIX HT HF HCN HR
      have hf1 : (0 : Int) ≤ F := by omega
      have hf2 : (F : Int) < 256 := by omega
      have hcw : IntKind.i64.wrap ((cn : Int) + 1) = (cn : Int) + 1 := by rw [IntKind.wrap_i64]; omega
      have hzk : IntKind.i64.wrap ((k : Int) + 1) = (k : Int) + 1 := by rw [IntKind.wrap_i64]; omega
      go_region
      go_wp2
      go_roundw
      case rel => exact ⟨k + 1, by go_num, by omega, (by have h := HNX.out _ R1.out; push_cast at h; exact h.below (Below.refl _ _).drew)⟩
      case measure => simp [intOf]; omega
    · have hkz : ¬ (k : Int) < (n : Nat) := by omega
      obtain rfl : k = n := by omega
      have hxs : l.take k = l := List.take_of_length_le (by rw [HL.out]; omega)
      rw [hxs] at HR
      clear hxs
      go_wp2
      go_loopw [8] (fun v wr => ∃ b : Nat, v = .int .i64 b ∧ 1 ≤ b ∧ b ≤ 256 ∧ Hid (IxW w G s (fun j => if j < b then fanL l j else cnt8 l j) (.slice a k c) wr)) (fun v _ => 256 - (intOf v).toNat)
      case atStart => exact ⟨1, rfl, by omega, by omega, HR.out.bel, by
        have h := HR.out.blk
        have e : fnC (fun j => if j < 1 then fanL l j else cnt8 l j) = fnC (cnt8 l) := by
          unfold fnC
          apply List.map_congr_left
          intro j _
          by_cases q : j < 1
          · have : j = 0 := by omega
            subst this
            simp [fanL_zero]
          · simp [q]
        unfold ixC at h ⊢
        rw [e]; exact h⟩
      case round =>
        obtain ⟨b, rfl, hb1, hb2, HQ⟩ := hrel
        clear HR
        by_cases hlt : b < 256
        · have hbz : (b : Int) < 256 := by omega
          obtain ⟨c1, hc1⟩ : ∃ c1, cnt8 l b = c1 := ⟨_, rfl⟩
          obtain ⟨c2, hc2⟩ : ∃ c2, fanL l (b - 1) = c2 := ⟨_, rfl⟩
          obtain ⟨d, hd⟩ : ∃ d, b - 1 = d := ⟨_, rfl⟩
          have hq1 : wr.cell? ⟨G, 32 + b, none⟩ = some (.int .i64 (c1 : Int)) := by rw [HQ.out.blk.cell, ixC_fan s _ _ HS.out b hlt, if_neg (by omega), hc1]
          have hq2 : wr.cell? ⟨G, 32 + d, none⟩ = some (.int .i64 (c2 : Int)) := by rw [HQ.out.blk.cell, ixC_fan s _ _ HS.out d (by omega), if_pos (by omega), ← hd, hc2]
          have hq3 : wr.frozen? ⟨G, 32 + b, none⟩ = false := HQ.out.blk.frozen _
          have hl1 : c1 ≤ k := by rw [← hc1, ← HL.out]; exact List.countP_le_length
          have hl2 : c2 ≤ k := by rw [← hc2, ← HL.out]; exact List.countP_le_length
          have HNX : Hid (∀ W, IxW w G s (fun j => if j < b then fanL l j else cnt8 l j) (.slice a k c) W → IxW w G s (fun j => if j < b + 1 then fanL l j else cnt8 l j) (.slice a k c) (W.setCell ⟨G, 32 + b, none⟩ (.int .i64 ((c1 + c2 : Nat) : Int)))) := fun W hW => hW.put HS.out hGG b (c1 + c2) hlt _ (fun j hj => by
            by_cases q : j = b
            · subst q
              rw [if_pos rfl, if_pos (by omega)]
              obtain ⟨t, rfl⟩ : ∃ t, j = t + 1 := ⟨j - 1, by omega⟩
              rw [fanL_step, hc1, ← hc2]; rfl
            · rw [if_neg q]
              by_cases q2 : j < b
              · rw [if_pos q2, if_pos (by omega)]
              · rw [if_neg q2, if_neg (by omega)])
          have hb0 : (0 : Int) ≤ b := by omega
          have hdz : (b : Int) - 1 = d := by omega
          have hd0 : (0 : Int) ≤ d := by omega
          have hd2 : (d : Int) < 256 := by omega
          have hcw : IntKind.i64.wrap ((c1 : Int) + c2) = (c1 : Int) + c2 := by rw [IntKind.wrap_i64]; omega
          have hdw : IntKind.i64.wrap (d : Int) = (d : Int) := by rw [IntKind.wrap_i64]; omega
          have HD : Hid (b - 1 = d) := hd
          clear hc1 hc2 hd
          go_wp2
          go_region
          go_wp2
          go_roundw
          case rel => exact ⟨b + 1, by go_num, by omega, by omega, (by have h := HNX.out _ HQ.out; push_cast at h; exact h.below (Below.refl _ _).drew)⟩
          case measure => simp [intOf]; omega
        · have hbz : ¬ (b : Int) < 256 := by omega
          obtain rfl : b = 256 := by omega
          have IX : Hid (IxS wr G s l) := by
            have h := HQ.out.blk
            have e : fnC (fun j => if j < 256 then fanL l j else cnt8 l j) = fnC (fanL l) := by
              unfold fnC
              apply List.map_congr_left
              intro j hj
              have q := List.mem_range.1 hj
              simp [q]
            refine ⟨⟨a, k, c, ?_, HX.out.below HQ.out.bel, HL.out, HCC.out.1, HCC.out.2⟩, HS.out⟩
            unfold ixC at h ⊢
            rw [e] at h; exact h
          go_wp2
          go_ret
          exact ⟨G, rfl, hGG, IX.out, HQ.out.bel⟩
end Go.Proofs.YtbfoiocbmhhdbaaGreat
/- A region that draws its order, over a class of worlds of one's own: each operation gives the same value in every world of the class. -/
namespace Go.Proofs.YtbfoiocbmhhdbaaGreat
open Go.RowKit
set_option linter.unusedSimpArgs false
set_option linter.unusedVariables false
theorem region_class10 {P : Program} {id : Nat} {Q : Exit → Act → World → Prop} {a : Act} {w : World} {l : List Oper} (C : World → Prop) (hm : P.follows .mixedOrders = true) (hB : Region.lexB .any l.toArray = true) (hC : C w.drew)
    (h : wpQuiet P l.toArray C (fun a' => ∀ w', C w' → Q .normal a' w') l a) : (Code.region id l.toArray true).wp P Q a w :=
  wp_region_quiet (C := C) hm hB hC (by simpa using h)
theorem quiet_val10 {P : Program} {o : Oper} {a : Act} {C : World → Prop} {K : Act → Prop} (v : Value) (h : ∀ w, C w → (execOp a.eval o).run P w = .ok (.value v) w) (hn : K (a.put o.dst v)) : o.quiet P a C K :=
  ⟨v, fun w hw => by unfold Oper.quietAt; rw [h w hw]; exact ⟨rfl, rfl⟩, hn⟩
theorem quiet_call10 {P : Program} {o : Oper} {a : Act} {C : World → Prop} {K : Act → Prop} (v : Value) (f : FuncId) (args : Array Value) (h : ∀ w, C w → (execOp a.eval o).run P w = .ok (.enter f args) w)
    (hc : ∀ w, C w → Calls P f args w (fun e w'' => e = .returned v ∧ C w'')) (hn : K (a.put o.dst v)) : o.quiet P a C K :=
  ⟨v, fun w hw => by unfold Oper.quietAt; rw [h w hw]; exact ⟨rfl, hc w hw⟩, hn⟩
theorem quiet_str10 {o : Oper} {a : Act} {C : World → Prop} {K : Act → Prop} (x : Operand) (ho : o.op = .load 9 x) (g f : Nat) (s : ByteArray) (hx : a.eval x = .pointer (some ⟨g, f, none⟩))
    (hc : ∀ w, C w → w.cell? ⟨g, f, none⟩ = some (.string s)) (hn : K (a.put o.dst (.string s))) : o.quiet Tryz.prog a C K :=
  quiet_val10 (.string s) (fun w hw => by
    have h := hc w hw
    have ha : (isAgg 9).run Tryz.prog w = .ok false w := by kernel_rfl
    unfold execOp
    simp [ho, hx, Instr.loadAt, Instr.sureAddr, loadVar, ha, h]) hn
end Go.Proofs.YtbfoiocbmhhdbaaGreat
/- Loads in a class of worlds: one cell, many cells. -/
namespace Go.Proofs.YtbfoiocbmhhdbaaGreat
open Go.RowKit
set_option linter.unusedSimpArgs false
set_option linter.unusedVariables false
theorem quiet_one {P : Program} {o : Oper} {a : Act} {C : World → Prop} {K : Act → Prop} (t : TypeId) (x : Operand) (ho : o.op = .load t x) (g f : Nat) (v : Value) (hx : a.eval x = .pointer (some ⟨g, f, none⟩)) (ha : ∀ w, (isAgg t).run P w = .ok false w)
    (hc : ∀ w, C w → w.cell? ⟨g, f, none⟩ = some v) (hn : K (a.put o.dst v)) : o.quiet P a C K :=
  quiet_val10 v (fun w hw => by
    have h := hc w hw
    have h2 := ha w
    unfold execOp
    simp [ho, hx, Instr.loadAt, Instr.sureAddr, loadVar, h2, h]) hn
theorem quiet_row {P : Program} {o : Oper} {a : Act} {C : World → Prop} {K : Act → Prop} (t : TypeId) (x : Operand) (ho : o.op = .load t x) (g f : Nat) (D cells : Array Value) (T : TypeId) (d : TypeDesc) (hx : a.eval x = .pointer (some ⟨g, f, none⟩))
    (hc : ∀ w, C w → Bk w g D T) (hD : ∀ j v, cells[j]? = some v → D[f + j]? = some v) (hu : P.underlying t = some d) (hd : d.isRow = true) (hi : (P.info? t).map (·.size) = some cells.size) (hn : K (a.put o.dst (.agg cells))) : o.quiet P a C K :=
  quiet_val10 (.agg cells) (fun w hw => by
    have h := hc w hw
    have hr := run_loadVar_mid (P := P) w g f t cells.toList d (fun j v hv => by rw [h.cell]; exact hD j v (by rwa [Array.getElem?_toList] at hv)) hu hd (by rw [Array.length_toList]; exact hi)
    unfold execOp
    simp [ho, hx, Instr.loadAt, Instr.sureAddr, hr]) hn
/-- The load of many cells, of an operation that is wanted. -/
theorem wpList_getG {P : Program} {ops : Array Oper} {rest : List Oper} {op : Oper} {a : Act} {w : World} {Q : Exit → Act → World → Prop} (hw : Region.wanted op (yielded ops a.tmps) = true) (ty : TypeId) (x : Operand) (ho : op.op = .load ty x)
    (b o : Nat) (C cells : Array Value) (T : TypeId) (d : TypeDesc) (hx : a.eval x = .pointer (some ⟨b, o, none⟩))
    (hB : Bk w b C T) (hc : ∀ j v, cells[j]? = some v → C[o + j]? = some v) (hu : P.underlying ty = some d) (hd : d.isRow = true) (hi : (P.info? ty).map (·.size) = some cells.size)
    (h : wpList P ops Q rest (a.put op.dst (.agg cells)) w) : wpList P ops Q (op :: rest) a w :=
  wpList_step fun K hK => by
    rw [if_pos hw]
    have e : cells.toList.toArray = cells := Array.toArray_toList
    refine wp_load_mid ty x ho b o hx cells.toList d (fun j v hv => by rw [hB.cell]; exact hc j v (by rwa [Array.getElem?_toList] at hv)) hu hd (by rw [hi]; simp) ?_
    rw [e]
    exact hK _ _ h
/-- A comparison whose run is known. -/
theorem wpList_eqR {P : Program} {ops : Array Oper} {rest : List Oper} {op : Oper} {a : Act} {w : World} {Q : Exit → Act → World → Prop} (hw : Region.wanted op (yielded ops a.tmps) = true) (t : TypeId) (x y : Operand) (ho : op.op = .binOp .eql t x y t)
    (v1 v2 : Array Value) (r : Value) (hm : P.eqGuardType P.depth t = false) (hx : a.eval x = .agg v1) (hy : a.eval y = .agg v2) (hr : (binOp .eql t (.agg v1) (.agg v2)).run P w = .ok r w)
    (h : wpList P ops Q rest (a.put op.dst r) w) : wpList P ops Q (op :: rest) a w :=
  wpList_step fun K hK => by
    rw [if_pos hw]
    unfold Oper.wp execOp
    simp only [ho, hx, hy, Sem.run_bind, run_eqGuard_agg w .eql t x y v1 v2 hm, hr, Result.andThen_ok, Sem.run_pure]
    exact hK _ _ h
theorem list_of_quiet {P : Program} {ops : Array Oper} {Q : Exit → Act → World → Prop} {C : World → Prop} : ∀ (l : List Oper) (a : Act) (w : World), wpQuiet P ops C (fun a' => ∀ w', C w' → Q .normal a' w') l a → C w → wpList P ops Q l a w
  | [], a, w, h, hC => h w hC
  | o :: rest, a, w, h, hC => by
    unfold wpQuiet at h
    refine wpList_step fun K hK => ?_
    split at h
    · rename_i hw
      rw [if_pos hw]
      exact Oper.wp_of_quiet hC (fun a w' hw' ha => hK a w' (list_of_quiet rest a w' ha hw')) h
    · rename_i hw
      rw [if_neg hw]
      exact hK _ _ (list_of_quiet rest _ w h hC)
/-- A region that does not draw, over a class of worlds. -/
theorem region_plain11 {P : Program} {id : Nat} {Q : Exit → Act → World → Prop} {a : Act} {w : World} {l : List Oper} (C : World → Prop) (hC : C w)
    (h : wpQuiet P l.toArray C (fun a' => ∀ w', C w' → Q .normal a' w') l a) : (Code.region id l.toArray false).wp P Q a w :=
  wp_region_lit (list_of_quiet l a w h hC)
end Go.Proofs.YtbfoiocbmhhdbaaGreat
