import Derived.Test.YtpfknjnigcefgaaGreatDoorY5
import Derived.Test.YtpfknjnigcefgaaGreatDoorY9
import Derived.Test.YtpfknjnigcefgaaGreatDoorY8
import Derived.DeepKeys4
/- Names as keys; sets of names. -/
namespace Go.Proofs.YtpfknjnigcefgaaGreatDoor
open Go.RowKit Go.Maps
set_option linter.unusedSimpArgs false
set_option linter.unusedVariables false
theorem laidOut11 : laidOutB Tryz.prog = true := by kernel_rfl
theorem idRow : (23 : TypeId) < Tryz.prog.types.size := of_decide_eq_true (by kernel_rfl)
theorem idLaw : WideMaps.KeyLaw Tryz.prog 23 := deep_law_laid laidOut11 (m := 2) (by omega) idRow (by kernel_rfl) (by kernel_rfl)
theorem idKey : Keyed Tryz.prog 23 := Keyed.of_law idLaw
theorem mapM_some {β : Type} (f : Nat → Option β) : ∀ l : List Nat, (∀ i ∈ l, ∃ y, f i = some y) → ∃ ys, l.mapM f = some ys
  | [], _ => ⟨[], rfl⟩
  | i :: l, h => by
    obtain ⟨y, hy⟩ := h i (by simp)
    obtain ⟨ys, hys⟩ := mapM_some f l (fun j hj => h j (by simp [hj]))
    exact ⟨y :: ys, by simp [List.mapM_cons, hy, hys]⟩
theorem u8wf (n : Nat) (h : n < 256) : (Lit.int .u8 (n : Int)).wf = true := by
  show (decide (IntKind.u8.min ≤ (n : Int)) && decide ((n : Int) ≤ IntKind.u8.max)) = true
  have e1 : IntKind.u8.min = 0 := by decide
  have e2 : IntKind.u8.max = 255 := by decide
  rw [e1, e2]; simp; omega
theorem lits_u8 {P : Program} {e : TypeId} (he : P.underlying e = some (.int .u8)) (d n : Nat) (h : n < 256) : P.keyLits (d + 1) e [.int .u8 (n : Int)] = some [.int .u8 (n : Int)] := by
  unfold Program.keyLits
  rw [he]
  simp [u8wf n h]
theorem lits_arr {P : Program} {k e : TypeId} (d : Nat) (cs ys) (hk : P.underlying k = some (.array 32 e)) (hc : cs.length = P.cellsOf k) (h : ((List.range 32).mapM fun i => P.keyLits d e ((cs.drop (i * P.cellsOf e)).take (P.cellsOf e))) = some ys) :
    P.keyLits (d + 1) k cs = some ys.flatten := by
  unfold Program.keyLits
  rw [hk]
  simp only [hc, if_true, h, Option.map_some]
theorem key_gen {P : Program} {k e : TypeId} (hu : P.underlying k = some (.array 32 e)) (he : P.underlying e = some (.int .u8)) (hk : P.keyType k = true) (c1 : P.cellsOf k = 32) (c2 : P.cellsOf e = 1) (hn : 0 < P.types.size) (s : ByteArray) (hs : s.size = 32) :
    ∃ l, keyOf P k (.agg (idc s)) = some l := by
  have hf : (Value.agg (idc s)).formed P k = true := by
    unfold Value.formed
    rw [hu]
    simp [idc_size, hs, c1]
  have hc : (idc s).toList.length = 32 := by rw [Array.length_toList, idc_size, hs]
  obtain ⟨m, hm⟩ : ∃ m, P.types.size = m + 1 := ⟨P.types.size - 1, by omega⟩
  obtain ⟨ys, hys⟩ := mapM_some (fun i => P.keyLits (m + 1) e (((idc s).toList.drop (i * P.cellsOf e)).take (P.cellsOf e))) (List.range 32) (fun i hi => by
    have hi' : i < 32 := List.mem_range.1 hi
    have hg := idc_get s i (by omega)
    have e1 : ((idc s).toList.drop (i * P.cellsOf e)).take (P.cellsOf e) = [.int .u8 (s[i].toNat : Int)] := by
      have h1 : i < (idc s).toList.length := by omega
      rw [c2, Nat.mul_one, List.drop_eq_getElem_cons h1]
      have : (idc s).toList[i]? = some (.int .u8 (s[i].toNat : Int)) := by rw [Array.getElem?_toList]; exact hg
      rw [List.getElem?_eq_getElem h1] at this
      injection this with this
      rw [this]; rfl
    rw [e1]
    exact ⟨_, lits_u8 he m _ s[i].toNat_lt⟩)
  refine ⟨.string (keyBytes ys.flatten), ?_⟩
  unfold keyOf
  rw [hu]
  simp only [hk, hf, Bool.and_self, if_true]
  rw [show (Value.agg (idc s)).cells.toList = (idc s).toList from rfl, lits_arr (P.types.size) _ ys hu (by rw [hc, c1]) (by rw [hm]; exact hys)]
  rfl
theorem key_some (s : ByteArray) (hs : s.size = 32) : ∃ l, keyOf Tryz.prog 23 (.agg (idc s)) = some l :=
  key_gen (P := Tryz.prog) (k := 23) (e := 5) (by kernel_rfl) Tryz.underlying5 (by kernel_rfl) (by kernel_rfl) (by kernel_rfl) (of_decide_eq_true (by kernel_rfl)) s hs
/-- A name as a key. -/
noncomputable def kI (s : ByteArray) : Lit := @Classical.epsilon Lit ⟨.bool true⟩ (fun l => keyOf Tryz.prog 23 (.agg (idc s)) = some l)
theorem kI_key (s : ByteArray) (hs : s.size = 32) : keyOf Tryz.prog 23 (.agg (idc s)) = some (kI s) := @Classical.epsilon_spec Lit (fun l => keyOf Tryz.prog 23 (.agg (idc s)) = some l) (key_some s hs)
theorem idc_inj {s t : ByteArray} (h : idc s = idc t) : s = t := by
  have hz : s.size = t.size := by rw [← idc_size, h, idc_size]
  apply bl_inj
  apply List.ext_getElem?
  intro i
  by_cases hi : i < s.size
  · have h1 := idc_get s i hi
    have h2 := idc_get t i (by omega)
    rw [h, h2] at h1
    have e : t[i].toNat = s[i].toNat := by
      simp only [Option.some.injEq, Value.int.injEq, true_and] at h1
      omega
    have e2 : s[i] = t[i]'(by omega) := UInt8.toNat.inj e.symm
    have h5 : i < s.data.size := hi
    have h6 : i < t.data.size := by have : i < t.size := by omega
                                    exact this
    rw [bl, bl, Array.getElem?_toList, Array.getElem?_toList, Array.getElem?_eq_getElem h5, Array.getElem?_eq_getElem h6]
    exact congrArg some e2
  · rw [List.getElem?_eq_none (by rw [bl_length]; omega), List.getElem?_eq_none (by rw [bl_length]; omega)]
theorem kI_inj {s t : ByteArray} (hs : s.size = 32) (ht : t.size = 32) (h : kI s = kI t) : s = t := by
  have h1 := kI_key s hs
  have h2 := kI_key t ht
  rw [h] at h1
  exact idc_inj (Value.agg.inj (idKey.inj h1 h2))
/-- Whether a name is on a list. -/
def onL (d : List ByteArray) (x : ByteArray) : Bool := d.any (fun y => bl y == bl x)
theorem onL_snoc (d : List ByteArray) (y x : ByteArray) : onL (d ++ [y]) x = (onL d x || (bl y == bl x)) := by simp [onL]
/-- Block m is a map whose keys are these names, each with an element as E says. -/
def St (E : Value → Prop) (w : World) (m : Nat) (d : List ByteArray) : Prop :=
  ∃ D, Mp w 23 m D ∧ Maps.size D ≤ d.length ∧ ∀ x, x.size = 32 → (hAt D (kI x)).isSome = onL d x ∧ ∀ v, hAt D (kI x) = some v → E v
theorem St.lt {E : Value → Prop} {w : World} {m : Nat} {d : List ByteArray} (h : St E w m d) : m < w.heap.size := by
  obtain ⟨D, h1, _⟩ := h; exact h1.lt
theorem St.keep {E : Value → Prop} {w w' : World} {m : Nat} {d : List ByteArray} (h : St E w m d) (hb : w'.heap[m]? = w.heap[m]?) : St E w' m d := by
  obtain ⟨D, ⟨es, c, h1, h2, h3, h4⟩, h5⟩ := h
  exact ⟨D, ⟨es, c, hb.trans h1, h2, h3, h4⟩, h5⟩
theorem St.grown {E : Value → Prop} {w w' : World} {m : Nat} {d : List ByteArray} {r : Option Nat} (h : St E w m d) (hg : w.grownBy w' r) (hr : some m ≠ r) : St E w' m d := h.keep (hg.block m h.lt hr)
theorem St.below {E : Value → Prop} {w w' : World} {m : Nat} {d : List ByteArray} (h : St E w m d) (hb : Below w.heap.size w w') : St E w' m d := h.keep (hb.block m h.lt)
theorem St.alloc {E : Value → Prop} {w : World} {m : Nat} {d : List ByteArray} (h : St E w m d) (o : Obj) : St E (w.alloc o) m d := h.grown (World.grownBy_alloc w o none) (by simp)
theorem St.isMap {E : Value → Prop} {w : World} {m : Nat} {d : List ByteArray} (h : St E w m d) : ∃ es c, w.heap[m]? = some (.map es c) := by
  obtain ⟨D, ⟨es, c, h1, _⟩, _⟩ := h
  exact ⟨es, c, h1⟩
theorem St.made (E : Value → Prop) (w : World) : St E (w.alloc (.map #[] 0)) w.heap.size [] :=
  ⟨.map [], Mp.made w _, Nat.le_refl _, fun x _ => ⟨rfl, fun v hv => by rw [hAt_empty] at hv; cases hv⟩⟩
theorem St.look {E : Value → Prop} {w : World} {m : Nat} {d : List ByteArray} {t e : TypeId} (h : St E w m d) (ht : Tryz.prog.underlying t = some (.map 23 e)) {z : Value} (hz : (zeroValue e).run Tryz.prog w = .ok z w) (hE : E z) (x : ByteArray) (hx : x.size = 32) :
    ∃ v, (Instr.lookup t (.map (some m)) (.agg (idc x)) true).run Tryz.prog w = .ok (.tuple #[v, .bool (onL d x)]) w ∧ E v := by
  obtain ⟨D, h1, _, h3⟩ := h
  obtain ⟨a, b⟩ := h3 x hx
  refine ⟨(hAt D (kI x)).getD z, ?_, ?_⟩
  · rw [← a]; exact (h1.at_held idKey ht hz (kI_key x hx)).1
  · cases hv : hAt D (kI x) with
    | none => exact hE
    | some v => exact b v hv
theorem St.put {E : Value → Prop} {w : World} {m : Nat} {d : List ByteArray} {t e : TypeId} (h : St E w m d) (ht : Tryz.prog.underlying t = some (.map 23 e)) (hn : d.length < 1048576) (x : ByteArray) (hx : x.size = 32) (v : Value) (hE : E v) :
    ∃ w', (Instr.mapUpdate t (.map (some m)) (.agg (idc x)) v).run Tryz.prog w = .ok () w' ∧ St E w' m (d ++ [x]) ∧ w.grownBy w' (some m) := by
  obtain ⟨D, h1, h2, h3⟩ := h
  obtain ⟨w', g1, g2, g3⟩ := h1.put idKey ht (by unfold maxLen; omega) (kI_key x hx) v
  have hk := idKey.key (kI_key x hx)
  have hD : IsMap D := World.ownsMap.isMap h1
  have htd : Tidy D := World.ownsMap.tidy h1 idKey
  refine ⟨w', g1, ⟨_, g2, ?_, ?_⟩, g3⟩
  · rw [Maps.size_put htd, List.length_append, List.length_singleton]
    split <;> omega
  · intro y hy
    rw [onL_snoc]
    by_cases e : y = x
    · subst e
      rw [hAt_put_same hD hk]
      refine ⟨by simp, fun u hu => ?_⟩
      injection hu with hu
      rw [← hu]; exact hE
    · have ne : kI y ≠ kI x := fun h => e (kI_inj hy hx h)
      rw [hAt_put_other ne]
      have : (bl x == bl y) = false := by
        rw [beq_eq_false_iff_ne]
        intro h
        exact e (bl_inj h).symm
      rw [this, Bool.or_false]
      exact h3 y hy
end Go.Proofs.YtpfknjnigcefgaaGreatDoor
/- idx.Build. -/
namespace Go.Proofs.YtpfknjnigcefgaaGreatDoor
open Go.RowKit
set_option linter.unusedSimpArgs false
set_option linter.unusedVariables false
/-- Has one of these this name? -/
def hasX (d : List Xe) (x : ByteArray) : Bool := onL (d.map (fun e : Xe => e.id)) x
theorem hasX_iff (d : List Xe) (x : ByteArray) : hasX d x = true ↔ ∃ e ∈ d, e.id = x := by
  unfold hasX onL
  rw [List.any_eq_true]
  constructor
  · rintro ⟨y, hy, he⟩
    obtain ⟨e, he2, rfl⟩ := List.mem_map.1 hy
    exact ⟨e, he2, bl_inj (eq_of_beq he)⟩
  · rintro ⟨e, he, rfl⟩
    exact ⟨e.id, List.mem_map.2 ⟨e, he, rfl⟩, beq_self_eq_true _⟩
/-- What Build tells as error, entry by entry. -/
def xbE (d : List Xe) : List Xe → Int
  | [] => 0
  | e :: r => if okX e = false ∨ d.length = 65536 then 1 else if hasX d e.id = true then 7 else xbE (d ++ [e]) r
def bE (l : List Xe) : Int := xbE [] l
/-- Entries that make an index. -/
structure GdX (l : List Xe) : Prop where
  ok : ∀ e ∈ l, okX e = true
  ap : Aprt l
  len : l.length ≤ 65536
theorem GdX.nil : GdX [] := ⟨fun e h => (by cases h), List.Pairwise.nil, by simp⟩
theorem GdX.snoc {d : List Xe} {e : Xe} (h : GdX d) (h1 : ¬ (okX e = false ∨ d.length = 65536)) (h2 : hasX d e.id = false) : GdX (d ++ [e]) := by
  have hl := h.len
  refine ⟨fun x hx => ?_, ?_, by rw [List.length_append, List.length_singleton]; omega⟩
  · rcases List.mem_append.1 hx with q | q
    · exact h.ok x q
    · rw [List.mem_singleton] at q
      subst q
      cases ho : okX x with
      | true => rfl
      | false => exact absurd (.inl ho) h1
  · unfold Aprt
    rw [List.pairwise_append]
    refine ⟨h.ap, List.pairwise_singleton _ _, fun a ha b hb hab => ?_⟩
    rw [List.mem_singleton] at hb
    subst hb
    rw [(hasX_iff d b.id).2 ⟨a, ha, hab⟩] at h2
    cases h2
theorem xbE_step (l : List Xe) (k : Nat) (e : Xe) (hk : l[k]? = some e) : xbE (l.take k) (l.drop k) = if okX e = false ∨ k = 65536 then 1 else if hasX (l.take k) e.id = true then 7 else xbE (l.take (k + 1)) (l.drop (k + 1)) := by
  have hlt : k < l.length := (List.getElem?_eq_some_iff.1 hk).1
  rw [List.drop_eq_getElem_cons hlt, xbE]
  have e1 : l[k] = e := by rw [List.getElem?_eq_getElem hlt] at hk; exact Option.some.inj hk
  have hl : (l.take k).length = k := by rw [List.length_take]; omega
  rw [e1, hl, List.take_add_one, hk, Option.toList_some]
theorem xbE_ok : ∀ (r d : List Xe), GdX d → xbE d r = 0 → GdX (d ++ r)
  | [], d, h, _ => by rw [List.append_nil]; exact h
  | e :: r, d, h, hz => by
    rw [xbE] at hz
    by_cases h1 : okX e = false ∨ d.length = 65536
    · rw [if_pos h1] at hz; cases hz
    · rw [if_neg h1] at hz
      cases h2 : hasX d e.id with
      | true => rw [h2, if_pos rfl] at hz; cases hz
      | false =>
        rw [h2, if_neg (by simp)] at hz
        have := xbE_ok r (d ++ [e]) (h.snoc h1 h2) hz
        rwa [List.append_assoc] at this
theorem bE_ok {l : List Xe} (h : bE l = 0) : GdX l := by
  have := xbE_ok l [] GdX.nil h
  rwa [List.nil_append] at this
theorem gd_bE : ∀ (r d : List Xe), GdX (d ++ r) → xbE d r = 0
  | [], d, _ => rfl
  | e :: r, d, h => by
    have h1 : ¬ (okX e = false ∨ d.length = 65536) := by
      rintro (q | q)
      · rw [h.ok e (by simp)] at q; cases q
      · have := h.len; rw [List.length_append, List.length_cons] at this; omega
    have h2 : hasX d e.id = false := by
      rw [Bool.eq_false_iff]
      intro q
      obtain ⟨a, ha, hab⟩ := (hasX_iff d e.id).1 q
      have := h.ap
      unfold Aprt at this
      rw [List.pairwise_append] at this
      exact this.2.2 a ha e (List.mem_cons_self ..) hab
    rw [xbE, if_neg h1, if_neg (by rw [h2]; simp)]
    exact gd_bE r (d ++ [e]) (by rw [List.append_assoc]; exact h)
theorem GdX.bE {l : List Xe} (h : GdX l) : bE l = 0 := gd_bE l [] (by rw [List.nil_append]; exact h)
theorem GdX.perm {l l' : List Xe} (h : GdX l) (p : l.Perm l') : GdX l' := ⟨fun e he => h.ok e (p.mem_iff.2 he), h.ap.perm p, by rw [← p.length_eq]; exact h.len⟩
/-- Sorted, and apart: rising. -/
theorem rise_of {l : List Xe} (h : l.Pairwise fun a b => ltN b.id a.id = false) (ha : Aprt l) : Rise l := by
  refine (h.and ha).imp ?_
  rintro a b ⟨h1, h2⟩
  exact ltN_ne h2 h1
theorem GdX.okl {l L : List Xe} (h : GdX l) (p : L.Perm l) (hi : ∀ e ∈ l, e.id.size = 32) (hr : Rise L) : OkL L := ⟨fun e he => h.ok e (p.mem_iff.1 he), fun e he => hi e (p.mem_iff.1 he), hr, by rw [p.length_eq]; exact h.len⟩
theorem zero_unitX : ∀ w, (zeroValue 59).run Tryz.prog w = .ok (.agg #[]) w := Tryz.zeroValue59
/-- How Build's looking stands. -/
structure BX (w : World) (m : Nat) (s : ByteArray) (d : List Xe) (wr : World) : Prop where
  st : St (fun v => v = .agg #[]) wr m (d.map (fun e : Xe => e.id))
  bel : Below w.heap.size w wr
  bx : Bk wr w.heap.size (idc s) 23
  mlb : w.heap.size < m
theorem BX.keep {w wr w' : World} {m : Nat} {s : ByteArray} {d : List Xe} (h : BX w m s d wr) (hb : Below wr.heap.size wr w') : BX w m s d w' :=
  ⟨h.st.below hb, h.bel.trans (hb.mono h.bel.size), h.bx.below hb h.bx.lt, h.mlb⟩
theorem BX.look {w wr : World} {m : Nat} {s : ByteArray} {d : List Xe} (h : BX w m s d wr) (x : ByteArray) (hx : x.size = 32) : (Instr.lookup 57 (.map (some m)) (.agg (idc x)) true).run Tryz.prog wr = .ok (.tuple #[.agg #[], .bool (hasX d x)]) wr := by
  obtain ⟨v, h1, rfl⟩ := h.st.look Tryz.underlying57 (zero_unitX _) rfl x hx
  exact h1
theorem BX.put {w wr : World} {m : Nat} {s : ByteArray} {d : List Xe} (h : BX w m s d wr) (hn : d.length < 1048576) (e : Xe) (hx : e.id.size = 32) :
    ∃ w', (Instr.mapUpdate 57 (.map (some m)) (.agg (idc e.id)) (.agg #[])).run Tryz.prog wr = .ok () w' ∧ BX w m s (d ++ [e]) w' := by
  obtain ⟨w', h1, h2, h3⟩ := h.st.put Tryz.underlying57 (by rw [List.length_map]; exact hn) e.id hx (.agg #[]) rfl
  obtain ⟨es, c, hm⟩ := h.st.isMap
  refine ⟨w', h1, by rw [List.map_append]; exact h2, below_own h.bel h.bel.size h3 (Nat.le_of_lt h.mlb), h.bx.grown h3 (fun q => ?_), h.mlb⟩
  injection q with q
  have hb' : wr.heap[w.heap.size]? = some (.cells (idc s) 23 (0, 0)) := h.bx
  rw [← q, hm] at hb'
  cases hb'
end Go.Proofs.YtpfknjnigcefgaaGreatDoor
/- Plain facts of indexes: places by the first byte and by halving; rising step by step. -/
namespace Go.Proofs.YtpfknjnigcefgaaGreatDoor
set_option linter.unusedSimpArgs false
set_option linter.unusedVariables false
/-- A name's first byte. -/
def f8 (x : ByteArray) : Nat := ((bl x).headD 0).toNat
theorem fst8_f8 (e : Xe) : fst8 e = f8 e.id := rfl
theorem f8_lt (x : ByteArray) : f8 x < 256 := UInt8.toNat_lt _
theorem cmpB_head : ∀ a b : List UInt8, Lib.compareBytes a b < 0 → (a.headD 0).toNat ≤ (b.headD 0).toNat
  | [], _, _ => by simp
  | _ :: _, [], h => by simp [Lib.compareBytes] at h
  | x :: a, y :: b, h => by
    rw [Lib.compareBytes] at h
    show x.toNat ≤ y.toNat
    by_cases h1 : x < y
    · rw [UInt8.lt_iff_toNat_lt] at h1; omega
    · rw [if_neg h1] at h
      by_cases h2 : y < x
      · rw [if_pos h2] at h; omega
      · rw [UInt8.lt_iff_toNat_lt] at h2; omega
theorem f8_le {a b : ByteArray} (h : ltN a b = true) : f8 a ≤ f8 b := cmpB_head _ _ (of_decide_eq_true h)
theorem f8_ltN {a b : ByteArray} (h : f8 a < f8 b) : ltN a b = true := by
  refine ltN_ne (fun e => ?_) ?_
  · rw [e] at h; omega
  · rw [Bool.eq_false_iff]; intro g; have := f8_le g; omega
/-- Places and counts, where what holds behind holds ahead. -/
theorem place_cnt {α : Type} {p : α → Bool} : ∀ {l : List α}, l.Pairwise (fun a b => p b = true → p a = true) → ∀ {i : Nat} {a : α}, l[i]? = some a → (p a = true ↔ i < l.countP p)
  | [], _, i, a, h => by simp at h
  | x :: r, hp, i, a, h => by
    obtain ⟨h1, h2⟩ := List.pairwise_cons.1 hp
    cases hx : p x with
    | true =>
      rw [List.countP_cons_of_pos hx]
      cases i with
      | zero => rw [List.getElem?_cons_zero] at h; injection h with h; subst h; simp [hx]
      | succ i => rw [List.getElem?_cons_succ] at h; rw [place_cnt h2 h]; omega
    | false =>
      have hr : r.countP p = 0 := List.countP_eq_zero.2 (fun b hb q => by rw [h1 b hb q] at hx; cases hx)
      rw [List.countP_cons_of_neg (by rw [hx]; simp), hr]
      cases i with
      | zero => rw [List.getElem?_cons_zero] at h; injection h with h; subst h; simp [hx]
      | succ i =>
        rw [List.getElem?_cons_succ] at h
        constructor
        · intro q; rw [h1 a (List.mem_of_getElem? h) q] at hx; cases hx
        · intro q; omega
theorem range_cnt (k : Nat) : ∀ n, (List.range n).countP (fun i => decide (i < k)) = min n k
  | 0 => by simp
  | n + 1 => by
    rw [List.range_succ, List.countP_append, range_cnt k n, List.countP_cons, List.countP_nil]
    by_cases h : n < k
    · simp [h]; omega
    · simp [h]; omega
/-- How many names stand ahead of this one. -/
def cntN (l : List Xe) (x : ByteArray) : Nat := l.countP (fun e => ltN e.id x)
theorem Rise.fan {l : List Xe} (h : Rise l) {i : Nat} {e : Xe} (he : l[i]? = some e) (b : Nat) : fst8 e ≤ b ↔ i < fanL l b := by
  have q := place_cnt (p := fun e : Xe => decide (fst8 e ≤ b)) (h.imp (fun {a c} r s => decide_eq_true (Nat.le_trans (f8_le r) (of_decide_eq_true s)))) he
  rw [← decide_eq_true_iff (p := fst8 e ≤ b)]; exact q
theorem Rise.fanb {l : List Xe} (h : Rise l) {i : Nat} {e : Xe} (he : l[i]? = some e) (b : Nat) : fst8 e < b ↔ i < fanB l b := by
  have q := place_cnt (p := fun e : Xe => decide (fst8 e < b)) (h.imp (fun {a c} r s => decide_eq_true (Nat.lt_of_le_of_lt (f8_le r) (of_decide_eq_true s)))) he
  rw [← decide_eq_true_iff (p := fst8 e < b)]; exact q
theorem Rise.cnt {l : List Xe} (h : Rise l) {i : Nat} {e : Xe} (he : l[i]? = some e) (x : ByteArray) : ltN e.id x = true ↔ i < cntN l x :=
  place_cnt (p := fun e : Xe => ltN e.id x) (h.imp (fun {a c} r s => ltN_trans r s)) he
theorem cntN_ge (l : List Xe) (x : ByteArray) : fanB l (f8 x) ≤ cntN l x := by
  refine List.countP_mono_left (fun e _ q => ?_)
  exact f8_ltN (of_decide_eq_true q)
theorem cntN_le (l : List Xe) (x : ByteArray) : cntN l x ≤ fanL l (f8 x) := by
  refine List.countP_mono_left (fun e _ q => ?_)
  exact decide_eq_true (f8_le q)
theorem cntN_len (l : List Xe) (x : ByteArray) : cntN l x ≤ l.length := List.countP_le_length
/-- The halving's answer. -/
theorem half_cnt {l : List Xe} (h : Rise l) (x : ByteArray) (q : Nat → Bool) (hq : ∀ i e, l[fanB l (f8 x) + i]? = some e → q i = ltN e.id x) :
    fanB l (f8 x) + (List.range (fanL l (f8 x) - fanB l (f8 x))).countP q = cntN l x := by
  have h1 := cntN_ge l x
  have h2 := cntN_le l x
  have h3 := fanL_le l (f8 x)
  have e : (List.range (fanL l (f8 x) - fanB l (f8 x))).countP q = (List.range (fanL l (f8 x) - fanB l (f8 x))).countP (fun i => decide (i < cntN l x - fanB l (f8 x))) := by
    refine List.countP_congr (fun i hi => ?_)
    rw [List.mem_range] at hi
    obtain ⟨e, he⟩ : ∃ e, l[fanB l (f8 x) + i]? = some e := ⟨_, List.getElem?_eq_getElem (by omega)⟩
    rw [hq i e he, h.cnt he, decide_eq_true_iff]
    omega
  rw [e, range_cnt]
  omega
/-- What Find finds. -/
def fnd (l : List Xe) (x : ByteArray) : Option Xe := l.find? (fun e => decide (e.id = x))
theorem fnd_some {l : List Xe} {x : ByteArray} {e : Xe} (h : fnd l x = some e) : e ∈ l ∧ e.id = x := ⟨List.mem_of_find?_eq_some h, of_decide_eq_true (List.find?_some (p := fun e : Xe => decide (e.id = x)) h)⟩
theorem fnd_mem {l : List Xe} (h : Aprt l) {e : Xe} (he : e ∈ l) : fnd l e.id = some e := by
  cases q : fnd l e.id with
  | none =>
    have := List.find?_eq_none.1 q e he
    simp at this
  | some d =>
    obtain ⟨h1, h2⟩ := fnd_some q
    obtain ⟨i, hi⟩ := List.mem_iff_getElem?.1 he
    obtain ⟨j, hj⟩ := List.mem_iff_getElem?.1 h1
    have := apart_one h hj hi h2
    subst this
    rw [hi] at hj; injection hj with hj; rw [hj]
theorem fnd_none {l : List Xe} {x : ByteArray} : fnd l x = none ↔ ∀ e ∈ l, e.id ≠ x := by
  unfold fnd
  rw [List.find?_eq_none]
  simp
theorem fnd_at {l : List Xe} (h : Rise l) (x : ByteArray) {e : Xe} (he : l[cntN l x]? = some e) (hx : e.id = x) : fnd l x = some e := by
  rw [← hx]; exact fnd_mem h.apart (List.mem_of_getElem? he)
theorem fnd_end {l : List Xe} (h : Rise l) (x : ByteArray) (he : cntN l x = fanL l (f8 x)) : fnd l x = none := by
  rw [fnd_none]
  intro e hm hx
  obtain ⟨i, hi⟩ := List.mem_iff_getElem?.1 hm
  have h1 := (h.fan hi (f8 x)).1 (by rw [fst8_f8, hx]; exact Nat.le_refl _)
  have h2 := (h.cnt hi x).2 (by omega)
  rw [hx, ltN_irr] at h2
  cases h2
theorem fnd_ne {l : List Xe} (h : Rise l) (x : ByteArray) {e : Xe} (he : l[cntN l x]? = some e) (hx : e.id ≠ x) : fnd l x = none := by
  rw [fnd_none]
  intro d hm hd
  obtain ⟨i, hi⟩ := List.mem_iff_getElem?.1 hm
  have h1 : ¬ i < cntN l x := fun q => by
    have := (h.cnt hi x).2 q
    rw [hd, ltN_irr] at this; cases this
  by_cases q : i = cntN l x
  · subst q; rw [he] at hi; injection hi with hi; exact hx (hi ▸ hd)
  · have hlt : cntN l x < i := by omega
    obtain ⟨hi2, rfl⟩ := List.getElem?_eq_some_iff.1 hi
    obtain ⟨hj2, rfl⟩ := List.getElem?_eq_some_iff.1 he
    have := List.pairwise_iff_getElem.1 h (cntN l x) i hj2 hi2 hlt
    rw [hd] at this
    have q2 := (h.cnt he x).1 this
    omega
/-- Do they rise, each against the one ahead of it? -/
def okR : Option Xe → List Xe → Bool
  | _, [] => true
  | o, e :: r => (okX e && (match o with | none => true | some d => ltN d.id e.id)) && okR (some e) r
theorem okR_some : ∀ (l : List Xe) (d : Xe), okR (some d) l = true ↔ (∀ e ∈ l, okX e = true) ∧ Rise (d :: l)
  | [], d => by simp [okR, Rise]
  | e :: r, d => by
    rw [okR, Bool.and_eq_true, Bool.and_eq_true, okR_some r e]
    show (okX e = true ∧ ltN d.id e.id = true) ∧ _ ↔ _
    constructor
    · rintro ⟨⟨h1, h2⟩, h3, h4⟩
      refine ⟨fun x hx => ?_, ?_⟩
      · rcases List.mem_cons.1 hx with rfl | hx
        · exact h1
        · exact h3 x hx
      · refine List.pairwise_cons.2 ⟨fun x hx => ?_, h4⟩
        rcases List.mem_cons.1 hx with rfl | hx
        · exact h2
        · exact ltN_trans h2 ((List.pairwise_cons.1 h4).1 x hx)
    · rintro ⟨h1, h2⟩
      obtain ⟨h3, h4⟩ := List.pairwise_cons.1 h2
      exact ⟨⟨h1 e List.mem_cons_self, h3 e List.mem_cons_self⟩, fun x hx => h1 x (List.mem_cons_of_mem _ hx), h4⟩
theorem okR_iff (l : List Xe) : okR none l = true ↔ (∀ e ∈ l, okX e = true) ∧ Rise l := by
  cases l with
  | nil => simp [okR, Rise]
  | cons e r =>
    rw [okR, Bool.and_eq_true, Bool.and_eq_true, okR_some r e]
    constructor
    · rintro ⟨⟨h1, _⟩, h3, h4⟩
      refine ⟨fun x hx => ?_, h4⟩
      rcases List.mem_cons.1 hx with rfl | hx
      · exact h1
      · exact h3 x hx
    · rintro ⟨h1, h2⟩
      exact ⟨⟨h1 e List.mem_cons_self, rfl⟩, fun x hx => h1 x (List.mem_cons_of_mem _ hx), h2⟩
/-- An index's bytes. -/
def IsIx (S : ByteArray) (s : ByteArray) (l : List Xe) : Prop := s.size = 32 ∧ OkL l ∧ bl S = ixB s l
theorem IsIx.take {S s : ByteArray} {l : List Xe} (h : IsIx S s l) : rdS (bl S) = s ∧ rdA (bl S) = l := by rw [h.2.2]; exact rd_ix h.1 h.2.1
end Go.Proofs.YtpfknjnigcefgaaGreatDoor
/- Plain facts of merging: two sorted lists of entries, taken one by one. -/
namespace Go.Proofs.YtpfknjnigcefgaaGreatDoor
set_option linter.unusedSimpArgs false
set_option linter.unusedVariables false
/-- Names do not fall. -/
def Srt (l : List Xe) : Prop := l.Pairwise (fun a b => ltN b.id a.id = false)
theorem leN_trans {a b c : ByteArray} (h : ltN b a = false) (g : ltN c b = false) : ltN c a = false := by
  rw [Bool.eq_false_iff]
  intro q
  by_cases e : b = a
  · subst e; rw [g] at q; cases q
  · by_cases e2 : c = b
    · subst e2; rw [h] at q; cases q
    · have h1 : ltN a b = true := ltN_ne (fun x => e x.symm) h
      have h2 := ltN_trans q h1
      rw [g] at h2
      cases h2
/-- How the merging stands: out, and what is left of both. -/
structure Mg (l O A B : List Xe) : Prop where
  pm : (O ++ (A ++ B)).Perm l
  so : Srt O
  sa : Srt A
  sb : Srt B
  oa : ∀ x ∈ O, ∀ y ∈ A, ltN y.id x.id = false
  ob : ∀ x ∈ O, ∀ y ∈ B, ltN y.id x.id = false
theorem Mg.start {l A B : List Xe} (h : (A ++ B).Perm l) (ha : Srt A) (hb : Srt B) : Mg l [] A B := ⟨h, List.Pairwise.nil, ha, hb, by simp, by simp⟩
theorem Srt.snoc {O : List Xe} {e : Xe} (h : Srt O) (he : ∀ x ∈ O, ltN e.id x.id = false) : Srt (O ++ [e]) := by
  refine List.pairwise_append.2 ⟨h, by simp, fun x hx y hy => ?_⟩
  rw [List.mem_singleton.1 hy]
  exact he x hx
theorem Srt.head {e : Xe} {r : List Xe} (h : Srt (e :: r)) : Srt r ∧ ∀ y ∈ r, ltN y.id e.id = false := ⟨(List.pairwise_cons.1 h).2, (List.pairwise_cons.1 h).1⟩
/-- The first of B is less than the first of A. -/
theorem Mg.right {l O A B : List Xe} {a b : Xe} (h : Mg l O (a :: A) (b :: B)) (hlt : ltN b.id a.id = true) : Mg l (O ++ [b]) (a :: A) B := by
  obtain ⟨q1, q2⟩ := h.sb.head
  obtain ⟨r1, r2⟩ := h.sa.head
  have hab : ltN a.id b.id = false := ltN_asym hlt
  refine ⟨?_, h.so.snoc (fun x hx => h.ob x hx b List.mem_cons_self), h.sa, q1, fun x hx y hy => ?_, fun x hx y hy => ?_⟩
  · refine List.Perm.trans ?_ h.pm
    rw [List.append_assoc]
    refine List.Perm.append_left O ?_
    rw [List.singleton_append]
    exact List.perm_middle.symm
  · rcases List.mem_append.1 hx with hx | hx
    · exact h.oa x hx y hy
    · rw [List.mem_singleton.1 hx]
      rcases List.mem_cons.1 hy with rfl | hy
      · exact hab
      · exact leN_trans hab (r2 y hy)
  · rcases List.mem_append.1 hx with hx | hx
    · exact h.ob x hx y (List.mem_cons_of_mem _ hy)
    · rw [List.mem_singleton.1 hx]; exact q2 y hy
/-- It is not. -/
theorem Mg.left {l O A B : List Xe} {a b : Xe} (h : Mg l O (a :: A) (b :: B)) (hlt : ltN b.id a.id = false) : Mg l (O ++ [a]) A (b :: B) := by
  obtain ⟨q1, q2⟩ := h.sb.head
  obtain ⟨r1, r2⟩ := h.sa.head
  refine ⟨?_, h.so.snoc (fun x hx => h.oa x hx a List.mem_cons_self), r1, h.sb, fun x hx y hy => ?_, fun x hx y hy => ?_⟩
  · refine List.Perm.trans ?_ h.pm
    rw [List.append_assoc]
    exact List.Perm.refl _
  · rcases List.mem_append.1 hx with hx | hx
    · exact h.oa x hx y (List.mem_cons_of_mem _ hy)
    · rw [List.mem_singleton.1 hx]; exact r2 y hy
  · rcases List.mem_append.1 hx with hx | hx
    · exact h.ob x hx y hy
    · rw [List.mem_singleton.1 hx]
      rcases List.mem_cons.1 hy with rfl | hy
      · exact hlt
      · exact leN_trans hlt (q2 y hy)
/-- One of them is at its end. -/
theorem Mg.done {l O A B : List Xe} (h : Mg l O A B) (hn : A = [] ∨ B = []) : Srt (O ++ A ++ B) ∧ (O ++ A ++ B).Perm l := by
  refine ⟨?_, by rw [List.append_assoc]; exact h.pm⟩
  rcases hn with rfl | rfl
  · rw [List.append_nil]
    exact List.pairwise_append.2 ⟨h.so, h.sb, h.ob⟩
  · rw [List.append_nil]
    exact List.pairwise_append.2 ⟨h.so, h.sa, h.oa⟩
/-- Sorted, and apart: the one rising order. -/
theorem Srt.one {L l M : List Xe} (h : Srt L) (hp : L.Perm l) (ha : Aprt l) (hM : Rise M) (hq : M.Perm l) : L = M := by
  refine rise_one (hp.trans hq.symm) ?_ hM
  have hap : Aprt L := ha.perm hp.symm
  exact (h.and hap).imp (fun {a b} q => ltN_ne q.2 q.1)
end Go.Proofs.YtpfknjnigcefgaaGreatDoor
