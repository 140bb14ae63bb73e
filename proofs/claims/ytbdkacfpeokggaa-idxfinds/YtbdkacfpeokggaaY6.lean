import Derived.Test.YtbdkacfpeokggaaY1
import Derived.Test.YtbdkacfpeokggaaY5
import Derived.Test.YtbdkacfpeokggaaY2
import Derived.DeepKeys4
import Derived.Shelf.SlSortCmp.NoneTotal
import Derived.Test.YtbdkacfpeokggaaY4
import Derived.RegionTactic
import Derived.ChangeAlike
/- Names as keys; sets of names. -/
namespace Go.Proofs.Ytbdkacfpeokggaa
open Go.RowKit Go.Maps
set_option linter.unusedSimpArgs false
set_option linter.unusedVariables false
theorem laidOut11 : laidOutB Try.prog = true := by kernel_rfl
theorem idRow : (30 : TypeId) < Try.prog.types.size := of_decide_eq_true (by kernel_rfl)
theorem idLaw : WideMaps.KeyLaw Try.prog 30 := deep_law_laid laidOut11 (m := 2) (by omega) idRow (by kernel_rfl) (by kernel_rfl)
theorem idKey : Keyed Try.prog 30 := Keyed.of_law idLaw
theorem mapM_some {β : Type} (f : Nat → Option β) : ∀ l : List Nat, (∀ i ∈ l, ∃ y, f i = some y) → ∃ ys, l.mapM f = some ys
  | [], _ => ⟨[], rfl⟩
  | i :: l, h => by
    obtain ⟨y, hy⟩ := h i (by simp)
    obtain ⟨ys, hys⟩ := mapM_some f l (fun j hj => h j (by simp [hj]))
    exact ⟨y :: ys, by simp [List.mapM_cons, hy, hys]⟩
theorem u8wf (n : Nat) (h : n < 256) : (Lit.int .u8 (n : Int)).wf = true := by
  show (decide (IntKind.u8.min ≤ (n : Int)) && decide ((n : Int) ≤ IntKind.u8.max)) = true
  have e1 : IntKind.u8.min = 0 := by decide
  have e2 : IntKind.u8.max = 255 := by decide
  rw [e1, e2]; simp; omega
theorem lits_u8 {P : Program} {e : TypeId} (he : P.underlying e = some (.int .u8)) (d n : Nat) (h : n < 256) : P.keyLits (d + 1) e [.int .u8 (n : Int)] = some [.int .u8 (n : Int)] := by
  unfold Program.keyLits
  rw [he]
  simp [u8wf n h]
theorem lits_arr {P : Program} {k e : TypeId} (d : Nat) (cs ys) (hk : P.underlying k = some (.array 32 e)) (hc : cs.length = P.cellsOf k) (h : ((List.range 32).mapM fun i => P.keyLits d e ((cs.drop (i * P.cellsOf e)).take (P.cellsOf e))) = some ys) :
    P.keyLits (d + 1) k cs = some ys.flatten := by
  unfold Program.keyLits
  rw [hk]
  simp only [hc, if_true, h, Option.map_some]
theorem key_gen {P : Program} {k e : TypeId} (hu : P.underlying k = some (.array 32 e)) (he : P.underlying e = some (.int .u8)) (hk : P.keyType k = true) (c1 : P.cellsOf k = 32) (c2 : P.cellsOf e = 1) (hn : 0 < P.types.size) (s : ByteArray) (hs : s.size = 32) :
    ∃ l, keyOf P k (.agg (idc s)) = some l := by
  have hf : (Value.agg (idc s)).formed P k = true := by
    unfold Value.formed
    rw [hu]
    simp [idc_size, hs, c1]
  have hc : (idc s).toList.length = 32 := by rw [Array.length_toList, idc_size, hs]
  obtain ⟨m, hm⟩ : ∃ m, P.types.size = m + 1 := ⟨P.types.size - 1, by omega⟩
  obtain ⟨ys, hys⟩ := mapM_some (fun i => P.keyLits (m + 1) e (((idc s).toList.drop (i * P.cellsOf e)).take (P.cellsOf e))) (List.range 32) (fun i hi => by
    have hi' : i < 32 := List.mem_range.1 hi
    have hg := idc_get s i (by omega)
    have e1 : ((idc s).toList.drop (i * P.cellsOf e)).take (P.cellsOf e) = [.int .u8 (s[i].toNat : Int)] := by
      have h1 : i < (idc s).toList.length := by omega
      rw [c2, Nat.mul_one, List.drop_eq_getElem_cons h1]
      have : (idc s).toList[i]? = some (.int .u8 (s[i].toNat : Int)) := by rw [Array.getElem?_toList]; exact hg
      rw [List.getElem?_eq_getElem h1] at this
      injection this with this
      rw [this]; rfl
    rw [e1]
    exact ⟨_, lits_u8 he m _ s[i].toNat_lt⟩)
  refine ⟨.string (keyBytes ys.flatten), ?_⟩
  unfold keyOf
  rw [hu]
  simp only [hk, hf, Bool.and_self, if_true]
  rw [show (Value.agg (idc s)).cells.toList = (idc s).toList from rfl, lits_arr (P.types.size) _ ys hu (by rw [hc, c1]) (by rw [hm]; exact hys)]
  rfl
theorem key_some (s : ByteArray) (hs : s.size = 32) : ∃ l, keyOf Try.prog 30 (.agg (idc s)) = some l :=
  key_gen (P := Try.prog) (k := 30) (e := 5) (by kernel_rfl) Try.underlying5 (by kernel_rfl) (by kernel_rfl) (by kernel_rfl) (of_decide_eq_true (by kernel_rfl)) s hs
/-- A name as a key. -/
noncomputable def kI (s : ByteArray) : Lit := @Classical.epsilon Lit ⟨.bool true⟩ (fun l => keyOf Try.prog 30 (.agg (idc s)) = some l)
theorem kI_key (s : ByteArray) (hs : s.size = 32) : keyOf Try.prog 30 (.agg (idc s)) = some (kI s) := @Classical.epsilon_spec Lit (fun l => keyOf Try.prog 30 (.agg (idc s)) = some l) (key_some s hs)
theorem idc_inj {s t : ByteArray} (h : idc s = idc t) : s = t := by
  have hz : s.size = t.size := by rw [← idc_size, h, idc_size]
  apply bl_inj
  apply List.ext_getElem?
  intro i
  by_cases hi : i < s.size
  · have h1 := idc_get s i hi
    have h2 := idc_get t i (by omega)
    rw [h, h2] at h1
    have e : t[i].toNat = s[i].toNat := by
      simp only [Option.some.injEq, Value.int.injEq, true_and] at h1
      omega
    have e2 : s[i] = t[i]'(by omega) := UInt8.toNat.inj e.symm
    have h5 : i < s.data.size := hi
    have h6 : i < t.data.size := by have : i < t.size := by omega
                                    exact this
    rw [bl, bl, Array.getElem?_toList, Array.getElem?_toList, Array.getElem?_eq_getElem h5, Array.getElem?_eq_getElem h6]
    exact congrArg some e2
  · rw [List.getElem?_eq_none (by rw [bl_length]; omega), List.getElem?_eq_none (by rw [bl_length]; omega)]
theorem kI_inj {s t : ByteArray} (hs : s.size = 32) (ht : t.size = 32) (h : kI s = kI t) : s = t := by
  have h1 := kI_key s hs
  have h2 := kI_key t ht
  rw [h] at h1
  exact idc_inj (Value.agg.inj (idKey.inj h1 h2))
/-- Whether a name is on a list. -/
def onL (d : List ByteArray) (x : ByteArray) : Bool := d.any (fun y => bl y == bl x)
theorem onL_snoc (d : List ByteArray) (y x : ByteArray) : onL (d ++ [y]) x = (onL d x || (bl y == bl x)) := by simp [onL]
/-- Block m is a map whose keys are these names, each with an element as E says. -/
def St (E : Value → Prop) (w : World) (m : Nat) (d : List ByteArray) : Prop :=
  ∃ D, Mp w 30 m D ∧ Maps.size D ≤ d.length ∧ ∀ x, x.size = 32 → (hAt D (kI x)).isSome = onL d x ∧ ∀ v, hAt D (kI x) = some v → E v
theorem St.lt {E : Value → Prop} {w : World} {m : Nat} {d : List ByteArray} (h : St E w m d) : m < w.heap.size := by
  obtain ⟨D, h1, _⟩ := h; exact h1.lt
theorem St.keep {E : Value → Prop} {w w' : World} {m : Nat} {d : List ByteArray} (h : St E w m d) (hb : w'.heap[m]? = w.heap[m]?) : St E w' m d := by
  obtain ⟨D, ⟨es, c, h1, h2, h3, h4⟩, h5⟩ := h
  exact ⟨D, ⟨es, c, hb.trans h1, h2, h3, h4⟩, h5⟩
theorem St.grown {E : Value → Prop} {w w' : World} {m : Nat} {d : List ByteArray} {r : Option Nat} (h : St E w m d) (hg : w.grownBy w' r) (hr : some m ≠ r) : St E w' m d := h.keep (hg.block m h.lt hr)
theorem St.below {E : Value → Prop} {w w' : World} {m : Nat} {d : List ByteArray} (h : St E w m d) (hb : Below w.heap.size w w') : St E w' m d := h.keep (hb.block m h.lt)
theorem St.alloc {E : Value → Prop} {w : World} {m : Nat} {d : List ByteArray} (h : St E w m d) (o : Obj) : St E (w.alloc o) m d := h.grown (World.grownBy_alloc w o none) (by simp)
theorem St.isMap {E : Value → Prop} {w : World} {m : Nat} {d : List ByteArray} (h : St E w m d) : ∃ es c, w.heap[m]? = some (.map es c) := by
  obtain ⟨D, ⟨es, c, h1, _⟩, _⟩ := h
  exact ⟨es, c, h1⟩
theorem St.made (E : Value → Prop) (w : World) : St E (w.alloc (.map #[] 0)) w.heap.size [] :=
  ⟨.map [], Mp.made w _, Nat.le_refl _, fun x _ => ⟨rfl, fun v hv => by rw [hAt_empty] at hv; cases hv⟩⟩
theorem St.look {E : Value → Prop} {w : World} {m : Nat} {d : List ByteArray} {t e : TypeId} (h : St E w m d) (ht : Try.prog.underlying t = some (.map 30 e)) {z : Value} (hz : (zeroValue e).run Try.prog w = .ok z w) (hE : E z) (x : ByteArray) (hx : x.size = 32) :
    ∃ v, (Instr.lookup t (.map (some m)) (.agg (idc x)) true).run Try.prog w = .ok (.tuple #[v, .bool (onL d x)]) w ∧ E v := by
  obtain ⟨D, h1, _, h3⟩ := h
  obtain ⟨a, b⟩ := h3 x hx
  refine ⟨(hAt D (kI x)).getD z, ?_, ?_⟩
  · rw [← a]; exact (h1.at_held idKey ht hz (kI_key x hx)).1
  · cases hv : hAt D (kI x) with
    | none => exact hE
    | some v => exact b v hv
theorem St.put {E : Value → Prop} {w : World} {m : Nat} {d : List ByteArray} {t e : TypeId} (h : St E w m d) (ht : Try.prog.underlying t = some (.map 30 e)) (hn : d.length < 1048576) (x : ByteArray) (hx : x.size = 32) (v : Value) (hE : E v) :
    ∃ w', (Instr.mapUpdate t (.map (some m)) (.agg (idc x)) v).run Try.prog w = .ok () w' ∧ St E w' m (d ++ [x]) ∧ w.grownBy w' (some m) := by
  obtain ⟨D, h1, h2, h3⟩ := h
  obtain ⟨w', g1, g2, g3⟩ := h1.put idKey ht (by unfold maxLen; omega) (kI_key x hx) v
  have hk := idKey.key (kI_key x hx)
  have hD : IsMap D := World.ownsMap.isMap h1
  have htd : Tidy D := World.ownsMap.tidy h1 idKey
  refine ⟨w', g1, ⟨_, g2, ?_, ?_⟩, g3⟩
  · rw [Maps.size_put htd, List.length_append, List.length_singleton]
    split <;> omega
  · intro y hy
    rw [onL_snoc]
    by_cases e : y = x
    · subst e
      rw [hAt_put_same hD hk]
      refine ⟨by simp, fun u hu => ?_⟩
      injection hu with hu
      rw [← hu]; exact hE
    · have ne : kI y ≠ kI x := fun h => e (kI_inj hy hx h)
      rw [hAt_put_other ne]
      have : (bl x == bl y) = false := by
        rw [beq_eq_false_iff_ne]
        intro h
        exact e (bl_inj h).symm
      rw [this, Bool.or_false]
      exact h3 y hy
end Go.Proofs.Ytbdkacfpeokggaa
/- idx.Build. -/
namespace Go.Proofs.Ytbdkacfpeokggaa
open Go.RowKit
set_option linter.unusedSimpArgs false
set_option linter.unusedVariables false
/-- Has one of these this name? -/
def hasX (d : List Xe) (x : ByteArray) : Bool := onL (d.map (fun e : Xe => e.id)) x
theorem hasX_iff (d : List Xe) (x : ByteArray) : hasX d x = true ↔ ∃ e ∈ d, e.id = x := by
  unfold hasX onL
  rw [List.any_eq_true]
  constructor
  · rintro ⟨y, hy, he⟩
    obtain ⟨e, he2, rfl⟩ := List.mem_map.1 hy
    exact ⟨e, he2, bl_inj (eq_of_beq he)⟩
  · rintro ⟨e, he, rfl⟩
    exact ⟨e.id, List.mem_map.2 ⟨e, he, rfl⟩, beq_self_eq_true _⟩
/-- What Build tells as error, entry by entry. -/
def xbE (d : List Xe) : List Xe → Int
  | [] => 0
  | e :: r => if okX e = false ∨ d.length = 65536 then 1 else if hasX d e.id = true then 7 else xbE (d ++ [e]) r
def bE (l : List Xe) : Int := xbE [] l
/-- Entries that make an index. -/
structure GdX (l : List Xe) : Prop where
  ok : ∀ e ∈ l, okX e = true
  ap : Aprt l
  len : l.length ≤ 65536
theorem GdX.nil : GdX [] := ⟨fun e h => (by cases h), List.Pairwise.nil, by simp⟩
theorem GdX.snoc {d : List Xe} {e : Xe} (h : GdX d) (h1 : ¬ (okX e = false ∨ d.length = 65536)) (h2 : hasX d e.id = false) : GdX (d ++ [e]) := by
  have hl := h.len
  refine ⟨fun x hx => ?_, ?_, by rw [List.length_append, List.length_singleton]; omega⟩
  · rcases List.mem_append.1 hx with q | q
    · exact h.ok x q
    · rw [List.mem_singleton] at q
      subst q
      cases ho : okX x with
      | true => rfl
      | false => exact absurd (.inl ho) h1
  · unfold Aprt
    rw [List.pairwise_append]
    refine ⟨h.ap, List.pairwise_singleton _ _, fun a ha b hb hab => ?_⟩
    rw [List.mem_singleton] at hb
    subst hb
    rw [(hasX_iff d b.id).2 ⟨a, ha, hab⟩] at h2
    cases h2
theorem xbE_step (l : List Xe) (k : Nat) (e : Xe) (hk : l[k]? = some e) : xbE (l.take k) (l.drop k) = if okX e = false ∨ k = 65536 then 1 else if hasX (l.take k) e.id = true then 7 else xbE (l.take (k + 1)) (l.drop (k + 1)) := by
  have hlt : k < l.length := (List.getElem?_eq_some_iff.1 hk).1
  rw [List.drop_eq_getElem_cons hlt, xbE]
  have e1 : l[k] = e := by rw [List.getElem?_eq_getElem hlt] at hk; exact Option.some.inj hk
  have hl : (l.take k).length = k := by rw [List.length_take]; omega
  rw [e1, hl, List.take_add_one, hk, Option.toList_some]
theorem xbE_ok : ∀ (r d : List Xe), GdX d → xbE d r = 0 → GdX (d ++ r)
  | [], d, h, _ => by rw [List.append_nil]; exact h
  | e :: r, d, h, hz => by
    rw [xbE] at hz
    by_cases h1 : okX e = false ∨ d.length = 65536
    · rw [if_pos h1] at hz; cases hz
    · rw [if_neg h1] at hz
      cases h2 : hasX d e.id with
      | true => rw [h2, if_pos rfl] at hz; cases hz
      | false =>
        rw [h2, if_neg (by simp)] at hz
        have := xbE_ok r (d ++ [e]) (h.snoc h1 h2) hz
        rwa [List.append_assoc] at this
theorem bE_ok {l : List Xe} (h : bE l = 0) : GdX l := by
  have := xbE_ok l [] GdX.nil h
  rwa [List.nil_append] at this
theorem gd_bE : ∀ (r d : List Xe), GdX (d ++ r) → xbE d r = 0
  | [], d, _ => rfl
  | e :: r, d, h => by
    have h1 : ¬ (okX e = false ∨ d.length = 65536) := by
      rintro (q | q)
      · rw [h.ok e (by simp)] at q; cases q
      · have := h.len; rw [List.length_append, List.length_cons] at this; omega
    have h2 : hasX d e.id = false := by
      rw [Bool.eq_false_iff]
      intro q
      obtain ⟨a, ha, hab⟩ := (hasX_iff d e.id).1 q
      have := h.ap
      unfold Aprt at this
      rw [List.pairwise_append] at this
      exact this.2.2 a ha e (List.mem_cons_self ..) hab
    rw [xbE, if_neg h1, if_neg (by rw [h2]; simp)]
    exact gd_bE r (d ++ [e]) (by rw [List.append_assoc]; exact h)
theorem GdX.bE {l : List Xe} (h : GdX l) : bE l = 0 := gd_bE l [] (by rw [List.nil_append]; exact h)
theorem GdX.perm {l l' : List Xe} (h : GdX l) (p : l.Perm l') : GdX l' := ⟨fun e he => h.ok e (p.mem_iff.2 he), h.ap.perm p, by rw [← p.length_eq]; exact h.len⟩
/-- Sorted, and apart: rising. -/
theorem rise_of {l : List Xe} (h : l.Pairwise fun a b => ltN b.id a.id = false) (ha : Aprt l) : Rise l := by
  refine (h.and ha).imp ?_
  rintro a b ⟨h1, h2⟩
  exact ltN_ne h2 h1
theorem GdX.okl {l L : List Xe} (h : GdX l) (p : L.Perm l) (hi : ∀ e ∈ l, e.id.size = 32) (hr : Rise L) : OkL L := ⟨fun e he => h.ok e (p.mem_iff.1 he), fun e he => hi e (p.mem_iff.1 he), hr, by rw [p.length_eq]; exact h.len⟩
theorem zero_unitX : ∀ w, (zeroValue 51).run Try.prog w = .ok (.agg #[]) w := Try.zeroValue51
/-- How Build's looking stands. -/
structure BX (w : World) (m : Nat) (s : ByteArray) (d : List Xe) (wr : World) : Prop where
  st : St (fun v => v = .agg #[]) wr m (d.map (fun e : Xe => e.id))
  bel : Below w.heap.size w wr
  bx : Bk wr w.heap.size (idc s) 30
  mlb : w.heap.size < m
theorem BX.keep {w wr w' : World} {m : Nat} {s : ByteArray} {d : List Xe} (h : BX w m s d wr) (hb : Below wr.heap.size wr w') : BX w m s d w' :=
  ⟨h.st.below hb, h.bel.trans (hb.mono h.bel.size), h.bx.below hb h.bx.lt, h.mlb⟩
theorem BX.look {w wr : World} {m : Nat} {s : ByteArray} {d : List Xe} (h : BX w m s d wr) (x : ByteArray) (hx : x.size = 32) : (Instr.lookup 49 (.map (some m)) (.agg (idc x)) true).run Try.prog wr = .ok (.tuple #[.agg #[], .bool (hasX d x)]) wr := by
  obtain ⟨v, h1, rfl⟩ := h.st.look Try.underlying49 (zero_unitX _) rfl x hx
  exact h1
theorem BX.put {w wr : World} {m : Nat} {s : ByteArray} {d : List Xe} (h : BX w m s d wr) (hn : d.length < 1048576) (e : Xe) (hx : e.id.size = 32) :
    ∃ w', (Instr.mapUpdate 49 (.map (some m)) (.agg (idc e.id)) (.agg #[])).run Try.prog wr = .ok () w' ∧ BX w m s (d ++ [e]) w' := by
  obtain ⟨w', h1, h2, h3⟩ := h.st.put Try.underlying49 (by rw [List.length_map]; exact hn) e.id hx (.agg #[]) rfl
  obtain ⟨es, c, hm⟩ := h.st.isMap
  refine ⟨w', h1, by rw [List.map_append]; exact h2, below_own h.bel h.bel.size h3 (Nat.le_of_lt h.mlb), h.bx.grown h3 (fun q => ?_), h.mlb⟩
  injection q with q
  have hb' : wr.heap[w.heap.size]? = some (.cells (idc s) 30 (0, 0)) := h.bx
  rw [← q, hm] at hb'
  cases hb'
end Go.Proofs.Ytbdkacfpeokggaa
/- idx.Build: the walk. -/
namespace Go.Proofs.Ytbdkacfpeokggaa
open Go.RowKit
set_option linter.unusedSimpArgs false
set_option linter.unusedVariables false
/-- What Build tells. -/
def BdX (s : ByteArray) (l : List Xe) (R : ByteArray) : Prop := (bE l ≠ 0 → R = ⟨#[]⟩) ∧ (bE l = 0 → ∃ L, L.Perm l ∧ OkL L ∧ R = ⟨(ixB s L).toArray⟩)
theorem ret_seX {a : ByteArray} {e e' : Int} (h : e' = e) : Ending.returned (.tuple #[.string a, .int .i64 e]) = .returned (.tuple #[.string a, .int .i64 e']) := by rw [h]
theorem BdX.no {s : ByteArray} {l : List Xe} (h : bE l ≠ 0) : BdX s l ⟨#[]⟩ := ⟨fun _ => rfl, fun q => absurd q h⟩
set_option maxHeartbeats 16000000 in
set_option maxRecDepth 100000 in
theorem ibuild_any (SN : SNone) (s : ByteArray) (l : List Xe) (a : Option Addr) (n c : Nat) (w : World) (hs : s.size = 32) (hX : XeL w a l) (hl : l.length = n) (hA : a = none ∨ ∃ g o, a = some ⟨g, o, none⟩) (hn : n ≤ 4611686018427387904) :
    Calls Try.prog 5 #[.agg (idc s), .slice a n c] w fun e w' => ∃ R, e = .returned (.tuple #[.string R, .int .i64 (bE l)]) ∧ BdX s l R ∧ Below w.heap.size w w' := by
  have HX : Hid (XeL w a l) := hX
  have HL : Hid (l.length = n) := hl
  have HS : Hid (s.size = 32) := hs
  have HAA : Hid (a = none ∨ ∃ g o, a = some ⟨g, o, none⟩) := hA
  have HSN : Hid SNone := SN
  have X0 : Hid (BX w (w.heap.size + 1) s (l.take 0) ((w.alloc (.cells (idc s) 30)).alloc (.map #[] 0))) := by
    refine ⟨?_, ((Below.refl _ _).alloc (Nat.le_refl _) _).alloc (by rw [al_size]; omega) _, (bk_new _ _ _).alloc _, by omega⟩
    have := St.made (fun v => v = .agg #[]) (w.alloc (.cells (idc s) 30))
    rw [al_size] at this
    exact this
  obtain ⟨m, hm⟩ : ∃ m, w.heap.size + 1 = m := ⟨_, rfl⟩
  rw [hm] at X0
  have HI : Hid ((Try.prog.info? 30).map (·.size) = some (idc s).size) := info_32 (by rw [idc_size, hs])
  have hmm := @run_makeMap Try.prog
  clear hX hl hs hA SN
  go_enter Try.func5, Try.ntmps5
  go_wp2_with fail
  try rw [hm]
  clear hm hmm
  go_loopw [15] (fun v wr => ∃ k : Nat, v = .int .i64 k ∧ k ≤ n ∧ k ≤ 65536 ∧ Hid (BX w m s (l.take k) wr) ∧ Hid (bE l = xbE (l.take k) (l.drop k) ∧ GdX (l.take k))) (fun v _ => n - (intOf v).toNat)
  case atStart => exact ⟨0, rfl, Nat.zero_le _, Nat.zero_le _, X0.out, rfl, GdX.nil⟩
  case round =>
    obtain ⟨k, rfl, hk, hk6, HR, HE⟩ := hrel
    clear X0
    by_cases hlt : k < n
    · have hkz : (k : Int) < (n : Nat) := by omega
      obtain ⟨e, he⟩ : ∃ e, l[k]? = some e := ⟨l[k]'(by rw [HL.out]; exact hlt), List.getElem?_eq_getElem _⟩
      obtain ⟨ga, oa, rfl, hga, h32, hcells⟩ := (HX.out.below HR.out.bel).get he
      have HT : Hid (l.take (k + 1) = l.take k ++ [e]) := take_snocX he
      have HST : Hid (xbE (l.take k) (l.drop k) = if okX e = false ∨ k = 65536 then 1 else if hasX (l.take k) e.id = true then 7 else xbE (l.take (k + 1)) (l.drop (k + 1))) := xbE_step l k e he
      obtain ⟨X, hXe⟩ : ∃ X, xeC e = X := ⟨_, rfl⟩
      obtain ⟨D, hD⟩ : ∃ D, idc e.id = D := ⟨_, rfl⟩
      have HIX : Hid ((Try.prog.info? 38).map (·.size) = some X.toList.length ∧ X.all (·.oneCell') = true ∧ X.size = 35) := by rw [← hXe]; exact ⟨by rw [inf_xe35, Array.length_toList, xeC_size e h32], xeC_all e, xeC_size e h32⟩
      have HXI : Hid (∀ j v, D[j]? = some v → X[0 + j]? = some v) := fun j v hv => by rw [← hXe]; exact xeC_id e h32 j v (by rw [hD]; exact hv)
      have HID : Hid ((Try.prog.info? 30).map (·.size) = some D.size) := info_32 (by rw [← hD, idc_size, h32])
      rw [hXe] at hcells
      have HCE : Hid (∀ j v, X[j]? = some v → wr.cell? ⟨ga, oa + k * 35 + j, none⟩ = some v) := hcells
      have B1 : Hid (Bk (wr.alloc (.cells X 38)) wr.heap.size X 38) := bk_new _ _ _
      have R1 : Hid (BX w m s (l.take k) (wr.alloc (.cells X 38))) := HR.out.keep ((Below.refl _ _).alloc (Nat.le_refl _) _)
      have HMB : Hid (∀ W, Calls Try.prog 16 #[.agg X] W fun r w' => r = .returned (.bool (okX e)) ∧ Below W.heap.size W w') := fun W => by
        rw [← hXe]
        exact (maybe_any e W h32).mono fun r w' q => ⟨q.1, by rw [q.2]; exact (Below.refl _ _).alloc (Nat.le_refl _) _⟩
      have HLK : Hid (∀ W, BX w m s (l.take k) W → (Instr.lookup 49 (.map (some m)) (.agg D) true).run Try.prog W = .ok (.tuple #[.agg #[], .bool (hasX (l.take k) e.id)]) W) := fun W hW => by rw [← hD]; exact hW.look e.id h32
      have HPT : Hid (∀ W, BX w m s (l.take k) W → ∃ w', (Instr.mapUpdate 49 (.map (some m)) (.agg D) (.agg #[])).run Try.prog W = .ok () w' ∧ BX w m s (l.take (k + 1)) w') := fun W hW => by
        rw [← hD, HT.out]; exact hW.put (by rw [List.length_take]; omega) e h32
      clear hcells hXe hD he h32
      cases hok : okX e with
      | false =>
        have HE1 : Hid (bE l = 1) := by
          show _ = _
          rw [HE.out.1, HST.out, if_pos (.inl hok)]
        rw [hok] at HMB
        clear HE HST hok
        go_wp2_with (first
          | (go_at_call 16; refine (HMB.out _).mono ?_; rintro r w2 ⟨rfl, hb2⟩)
          | (refine wpList_load_mid rfl 38 (.tmp 18) rfl ga (oa + k * 35) rfl X.toList _ (fun j v hv => HCE.out j v (by rwa [Array.getElem?_toList] at hv)) Try.underlying38 rfl HIX.out.1 ?_)
          | (refine wpList_store_new rfl 38 (.tmp 8) (.tmp 19) rfl X _ 38 wr.heap.size rfl rfl rfl (info_xe HIX.out.2.2) (by rw [HIX.out.2.2]; rfl) HIX.out.2.1 ?_)
          | (refine wpList_get rfl 38 (.tmp 8) rfl wr.heap.size 0 X X 38 _ rfl B1.out (fun j v hv => by rw [Nat.zero_add]; exact hv) Try.underlying38 rfl (info_xe HIX.out.2.2) ?_)
          | fail)
        go_ret2
        exact ⟨_, ret_seX HE1.out, BdX.no (by rw [HE1.out]; decide), R1.out.bel.trans (hb2.mono R1.out.bel.size)⟩
      | true =>
        rw [hok] at HMB
        by_cases h65 : k = 65536
        · have HE1 : Hid (bE l = 1) := by
            show _ = _
            rw [HE.out.1, HST.out, if_pos (.inr h65)]
          have hz65 : ((k : Int) == 65536) = true := by rw [beq_iff_eq]; omega
          clear HE HST hok h65
          go_wp2_with (first
            | (go_at_call 16; refine (HMB.out _).mono ?_; rintro r w2 ⟨rfl, hb2⟩)
            | (refine wpList_load_mid rfl 38 (.tmp 18) rfl ga (oa + k * 35) rfl X.toList _ (fun j v hv => HCE.out j v (by rwa [Array.getElem?_toList] at hv)) Try.underlying38 rfl HIX.out.1 ?_)
            | (refine wpList_store_new rfl 38 (.tmp 8) (.tmp 19) rfl X _ 38 wr.heap.size rfl rfl rfl (info_xe HIX.out.2.2) (by rw [HIX.out.2.2]; rfl) HIX.out.2.1 ?_)
            | (refine wpList_get rfl 38 (.tmp 8) rfl wr.heap.size 0 X X 38 _ rfl B1.out (fun j v hv => by rw [Nat.zero_add]; exact hv) Try.underlying38 rfl (info_xe HIX.out.2.2) ?_)
            | fail)
          go_ret2
          exact ⟨_, ret_seX HE1.out, BdX.no (by rw [HE1.out]; decide), R1.out.bel.trans (hb2.mono R1.out.bel.size)⟩
        · have hz65 : ((k : Int) == 65536) = false := by rw [beq_eq_false_iff_ne]; omega
          have HNC : Hid (¬ (okX e = false ∨ k = 65536)) := by
            rintro (q | q)
            · rw [hok] at q; cases q
            · exact h65 q
          clear hok
          cases hh : hasX (l.take k) e.id with
          | true =>
            have HE1 : Hid (bE l = 7) := by
              show _ = _
              rw [HE.out.1, HST.out, if_neg HNC.out, if_pos hh]
            rw [hh] at HLK
            clear HE HST hh HNC
            go_wp2_with (first
              | (go_at_call 16; refine (HMB.out _).mono ?_; rintro r w2 ⟨rfl, hb2⟩; have R2 : Hid (BX w m s (l.take k) w2) := R1.out.keep hb2; have B2 : Hid (Bk w2 wr.heap.size X 38) := B1.out.below hb2 B1.out.lt; have hlook := HLK.out w2 R2.out)
              | (refine wpList_load_mid rfl 38 (.tmp 18) rfl ga (oa + k * 35) rfl X.toList _ (fun j v hv => HCE.out j v (by rwa [Array.getElem?_toList] at hv)) Try.underlying38 rfl HIX.out.1 ?_)
              | (refine wpList_store_new rfl 38 (.tmp 8) (.tmp 19) rfl X _ 38 wr.heap.size rfl rfl rfl (info_xe HIX.out.2.2) (by rw [HIX.out.2.2]; rfl) HIX.out.2.1 ?_)
              | (refine wpList_get rfl 38 (.tmp 8) rfl wr.heap.size 0 X X 38 _ rfl B1.out (fun j v hv => by rw [Nat.zero_add]; exact hv) Try.underlying38 rfl (info_xe HIX.out.2.2) ?_)
              | (refine wpList_get rfl 30 (.tmp 29) rfl wr.heap.size 0 X D 38 _ rfl B2.out HXI.out Try.underlying30 rfl HID.out ?_)
              | fail)
            go_ret2
            exact ⟨_, ret_seX HE1.out, BdX.no (by rw [HE1.out]; decide), R2.out.bel.alloc R2.out.bel.size _⟩
          | false =>
            have HE1 : Hid (bE l = xbE (l.take (k + 1)) (l.drop (k + 1)) ∧ GdX (l.take (k + 1))) := by
              refine ⟨?_, ?_⟩
              · rw [HE.out.1, HST.out, if_neg HNC.out, if_neg (by rw [hh]; simp)]
              · rw [HT.out]
                refine HE.out.2.snoc ?_ hh
                rw [List.length_take, Nat.min_eq_left (by rw [HL.out]; omega)]
                exact HNC.out
            rw [hh] at HLK
            clear HE HST hh HNC
            go_wp2_with (first
              | (go_at_call 16; refine (HMB.out _).mono ?_; rintro r w2 ⟨rfl, hb2⟩; have R2 : Hid (BX w m s (l.take k) w2) := R1.out.keep hb2; have B2 : Hid (Bk w2 wr.heap.size X 38) := B1.out.below hb2 B1.out.lt; have hlook := HLK.out w2 R2.out; have B3 : Hid (Bk (w2.alloc (.cells #[] 51)) wr.heap.size X 38) := B2.out.alloc _; obtain ⟨w8, hput, hR8⟩ := HPT.out (w2.alloc (.cells #[] 51)) (R2.out.keep ((Below.refl _ _).alloc (Nat.le_refl _) _)); have R8 : Hid (BX w m s (l.take (k + 1)) w8) := hR8; clear hR8)
              | (refine wpList_load_mid rfl 38 (.tmp 18) rfl ga (oa + k * 35) rfl X.toList _ (fun j v hv => HCE.out j v (by rwa [Array.getElem?_toList] at hv)) Try.underlying38 rfl HIX.out.1 ?_)
              | (refine wpList_store_new rfl 38 (.tmp 8) (.tmp 19) rfl X _ 38 wr.heap.size rfl rfl rfl (info_xe HIX.out.2.2) (by rw [HIX.out.2.2]; rfl) HIX.out.2.1 ?_)
              | (refine wpList_get rfl 38 (.tmp 8) rfl wr.heap.size 0 X X 38 _ rfl B1.out (fun j v hv => by rw [Nat.zero_add]; exact hv) Try.underlying38 rfl (info_xe HIX.out.2.2) ?_)
              | (refine wpList_get rfl 30 (.tmp 29) rfl wr.heap.size 0 X D 38 _ rfl B2.out HXI.out Try.underlying30 rfl HID.out ?_)
              | (refine wpList_get rfl 30 (.tmp 36) rfl wr.heap.size 0 X D 38 _ rfl B3.out HXI.out Try.underlying30 rfl HID.out ?_)
              | fail)
            clear hput hlook
            go_wp2
            go_roundw
            case rel => exact ⟨k + 1, by go_num, by omega, by omega, R8.out, HE1.out.1, HE1.out.2⟩
            case measure => simp [intOf]; omega
    · have hkz : ¬ (k : Int) < (n : Nat) := by omega
      obtain rfl : k = n := by omega
      have hxs : l.take k = l := List.take_of_length_le (by rw [HL.out]; omega)
      have hxd : l.drop k = [] := List.drop_eq_nil_of_le (by rw [HL.out]; omega)
      rw [hxs] at HR
      rw [hxs, hxd] at HE
      have HZ : Hid (bE l = 0 ∧ GdX l) := ⟨HE.out.1, HE.out.2⟩
      clear hxs hxd HE
      go_wp2_with fail
      refine (clone_any a k c l wr (HX.out.below HR.out.bel) HL.out HAA.out (by omega)).mono ?_
      rintro e w1 ⟨v, rfl, ho, hb1⟩
      have R1 : Hid (BX w m s l w1) := HR.out.keep hb1
      have hids : ∀ e ∈ l, e.id.size = 32 := HX.out.ids
      have hzz : w.heap.size < wr.heap.size := HR.out.bx.lt
      have HSO : Hid (Calls Try.prog 18 #[v, .func (.func 19) #[] #[]] w1 fun e w' => e = .returned (.tuple #[]) ∧ ∃ L a' c', L.Perm l ∧ OkL L ∧ v = .slice a' k c' ∧ XeL w' a' L ∧ k ≤ c' ∧ AdS a' ∧ Bk w' w.heap.size (idc s) 30 ∧ Below w.heap.size w w') := by
        rcases ho.2 with ⟨h1, h0⟩ | ⟨g, cap, cur, h1, hle, hg, hnc, _⟩
        · subst h1
          have hl0 : l = [] := List.length_eq_zero_iff.1 (by rw [HL.out]; exact h0)
          refine (HSN.out none 0 _ w1).mono ?_
          rintro e w' ⟨rfl, rfl⟩
          refine ⟨rfl, [], none, 0, by rw [hl0], ⟨fun e h => (by cases h), fun e h => (by cases h), List.Pairwise.nil, by simp⟩, by rw [h0], (fun i e h => by cases h), by omega, .inl rfl, R1.out.bx, R1.out.bel⟩
        · subst h1
          refine (sort_any wr.heap.size g k cap l w1 ho HL.out hids (by omega) hb1.size).mono ?_
          rintro e w' ⟨rfl, L, hp, hpw, ho', hb'⟩
          obtain ⟨a', c', hv, hXL, hkc, hAd⟩ := own_xel ho' (by rw [hp.length_eq]; exact HL.out) (fun e he => hids e (hp.mem_iff.1 he))
          refine ⟨rfl, L, a', c', hp, HZ.out.2.okl hp hids (rise_of hpw (HZ.out.2.ap.perm hp.symm)), hv, hXL, hkc, (by rcases hAd with ⟨q, _⟩ | ⟨q, q2, _⟩; exact .inl q; exact .inr ⟨q, 0, q2⟩), ?_, R1.out.bel.trans (hb'.mono (Nat.le_of_lt hzz))⟩
          unfold Bk
          rw [hb'.block w.heap.size hzz]
          exact R1.out.bx
      obtain ⟨va, vc, hvv⟩ : ∃ va vc, v = .slice va k vc := by
        rcases ho.2 with ⟨h1, h0⟩ | ⟨g, cap, cur, h1, _⟩
        · exact ⟨none, 0, by rw [h1, h0]⟩
        · exact ⟨_, _, h1⟩
      subst hvv
      clear ho hb1 R1 HR hids
      go_wp2_with fail
      refine HSO.out.mono ?_
      rintro e w2 ⟨rfl, L, a', c', hp, hOL, hv, hXL, hkc, hAd, hbx, hbel⟩
      injection hv with hva _ hvc
      subst hva
      subst hvc
      have HPL : Hid (L.Perm l ∧ OkL L) := ⟨hp, hOL⟩
      have HBX : Hid (Bk w2 w.heap.size (idc s) 30) := hbx
      have HBL : Hid (Below w.heap.size w w2) := hbel
      have HIO : Hid (Calls Try.prog 20 #[.agg (idc s), .slice va k vc] w2 fun e w' => ∃ g, e = .returned (.pointer (some ⟨g, 0, none⟩)) ∧ IxS w' g s L ∧ Below w.heap.size w w') := (indexOf_any s L va k vc w2 HS.out hXL (by rw [hp.length_eq]; exact HL.out) hkc hAd (by omega)).mono fun e w' ⟨g, h1, h2, h3, h4⟩ => ⟨g, h1, h3, hbel.trans (h4.mono hbel.size)⟩
      clear hp hOL hXL hkc hAd hbx hbel HSO
      go_wp2_with (first
        | (go_at_call 20; refine HIO.out.mono ?_; rintro e w3 ⟨gI, rfl, hI, hb3⟩; have HIX : Hid (IxS w3 gI s L ∧ Below w.heap.size w w3) := ⟨hI, hb3⟩; clear hI hb3)
        | (go_at_call 21; refine (bytes_any gI s L _ HIX.out.1 HPL.out.2.ok HPL.out.2.len).mono ?_; rintro e w4 ⟨rfl, hb4⟩)
        | (refine wpList_get rfl 30 (.tmp 2) rfl w.heap.size 0 (idc s) (idc s) 30 _ rfl HBX.out (fun j v hv => by rw [Nat.zero_add]; exact hv) Try.underlying30 rfl HI.out ?_)
        | fail)
      go_ret2
      exact ⟨_, ret_seX HZ.out.1, ⟨fun q => absurd HZ.out.1 q, fun _ => ⟨L, HPL.out.1, HPL.out.2, rfl⟩⟩, HIX.out.2.trans (hb4.mono HIX.out.2.size)⟩
end Go.Proofs.Ytbdkacfpeokggaa
/- Sorting nothing does nothing. -/
namespace Go.Proofs.Ytbdkacfpeokggaa
open Go.RowKit Go.Sort
set_option linter.unusedSimpArgs false
set_option linter.unusedVariables false
theorem sort_none : SNone := fun p cap fv w => AnyF.slices_SortFunc_none laysF6 p cap fv w
end Go.Proofs.Ytbdkacfpeokggaa
/- The walks of wire.New and of the closure through which all is taken. -/
namespace Go.Proofs.Ytbdkacfpeokggaa
open Go.RowKit
set_option linter.unusedSimpArgs false
set_option linter.unusedVariables false
set_option maxHeartbeats 400000 in
theorem new_any (s : ByteArray) (w : World) :
    Calls Try.prog 36 #[.string s] w fun e w' => e = .returned (.pointer (some ⟨w.heap.size, 0, none⟩)) ∧ w' = w.alloc (.cells #[.string s] 100) := by
  go_enter Try.func36, Try.ntmps36
  go_wp2
  go_ret
  exact ⟨rfl, rfl⟩
set_option maxHeartbeats 400000 in
theorem taker_any (o : Option Addr) (w : World) :
    Calls Try.prog 62 #[.pointer o] w fun e w' => e = .returned (.func (Fn.func 64) #[] #[.pointer (some ⟨w.heap.size, 0, none⟩)]) ∧ w' = w.alloc (.cells #[.pointer o] 83) := by
  go_enter Try.func62, Try.ntmps62
  go_wp2
  go_ret
  exact ⟨rfl, rfl⟩
set_option maxHeartbeats 400000 in
theorem take1_no (s : ByteArray) (b c : Nat) (h n : Nat) (w : World) (hs : s.size ≤ maxLen) (hp : w.cell? ⟨c, 0, none⟩ = some (.pointer (some ⟨b, 0, none⟩))) (hc : w.cell? ⟨b, 0, none⟩ = some (.string s))
    (hh : h ≤ s.size) (hn : s.size - h < n) :
    Calls Try.prog 64 #[.int .i64 h, .int .u64 n, .pointer (some ⟨c, 0, none⟩)] w fun e w' => e = .returned (.tuple #[.string ⟨#[]⟩, .int .i64 4]) ∧ w' = w := by
  unfold maxLen at hs
  go_enter Try.func64, Try.ntmps64
  go_wp2
  go_ret2
  exact ⟨rfl, rfl⟩
set_option maxHeartbeats 400000 in
theorem take1_ok (s : ByteArray) (b c : Nat) (h n : Nat) (w : World) (hs : s.size ≤ maxLen) (hp : w.cell? ⟨c, 0, none⟩ = some (.pointer (some ⟨b, 0, none⟩))) (hc : w.cell? ⟨b, 0, none⟩ = some (.string s)) (hf : w.frozen? ⟨b, 0, none⟩ = false)
    (hh : h + n ≤ s.size) :
    Calls Try.prog 64 #[.int .i64 h, .int .u64 n, .pointer (some ⟨c, 0, none⟩)] w fun e w' => e = .returned (.tuple #[.string (s.extract h (h + n)), .int .i64 0]) ∧ w' = (w.setCell ⟨b, 0, none⟩ (.string (s.extract (h + n) s.size))).drew := by
  unfold maxLen at hs
  go_enter Try.func64, Try.ntmps64
  go_wp2
  go_region
  go_wp2
  go_ret2
  exact ⟨rfl, rfl⟩
/-- A call that turns the reader in block b alone: it holds s' now; whatever else was there is as it was. -/
structure Step (b : Nat) (w w' : World) (s' : ByteArray) : Prop where
  os : w'.os = w.os
  tape : w'.tape = w.tape
  output : w'.output = w.output
  size : w.heap.size ≤ w'.heap.size
  cell : w'.cell? ⟨b, 0, none⟩ = some (.string s')
  frozen : w'.frozen? ⟨b, 0, none⟩ = false
  block : ∀ k, k < w.heap.size → k ≠ b → w'.heap[k]? = w.heap[k]?
theorem Step.of_below {b : Nat} {w w' : World} {s : ByteArray} (h : Below w.heap.size w w') (hb : b < w.heap.size) (hc : w.cell? ⟨b, 0, none⟩ = some (.string s)) (hf : w.frozen? ⟨b, 0, none⟩ = false) : Step b w w' s :=
  ⟨h.os, h.tape, h.output, h.size, by rw [h.cell (p := ⟨b, 0, none⟩) hb]; exact hc, by rw [h.frozen (p := ⟨b, 0, none⟩) hb]; exact hf, fun k hk _ => h.block k hk⟩
theorem Step.of_set {b : Nat} {w w' : World} {s s' : ByteArray} (h : Below w.heap.size (w.setCell ⟨b, 0, none⟩ (.string s')) w') (hb : b < w.heap.size) (hc : w.cell? ⟨b, 0, none⟩ = some (.string s)) (hf : w.frozen? ⟨b, 0, none⟩ = false) : Step b w w' s' := by
  refine ⟨h.os, h.tape, h.output, by have := h.size; simpa [World.setCell] using this, ?_, ?_, fun k hk hne => ?_⟩
  · rw [h.cell (p := ⟨b, 0, none⟩) hb]; exact World.cell?_setCell_same' w _ _ (by rw [hc]; rfl)
  · rw [h.frozen (p := ⟨b, 0, none⟩) hb]; rw [← hf]; exact World.frozen?_setCell _ _ _ _
  · rw [h.block k hk]; exact Below.heap_setCell _ _ _ _ hne
/-- Behind a call that has turned the reader in block b alone, which the callers own blocks end below. -/
theorem Step.below {b B : Nat} {w w' : World} {s : ByteArray} (h : Step b w w' s) (hB : B ≤ b) (hB2 : B ≤ w.heap.size) : Below B w w' :=
  ⟨h.os, h.tape, h.output, h.size, fun k hk => h.block k (by omega) (by omega)⟩
end Go.Proofs.Ytbdkacfpeokggaa
/- What a reader's calls do to the world: small laws. -/
namespace Go.Proofs.Ytbdkacfpeokggaa
open Go.RowKit
set_option linter.unusedSimpArgs false
set_option linter.unusedVariables false
theorem al_ptr (w : World) (v : Value) (T : TypeId) : (w.alloc (.cells #[v] T)).cell? ⟨w.heap.size, 0, none⟩ = some v := by rw [World.cell?_alloc_new]; rfl
theorem al_cell {w : World} {b : Nat} {v : Value} (o : Obj) (hb : b < w.heap.size) (hc : w.cell? ⟨b, 0, none⟩ = some v) : (w.alloc o).cell? ⟨b, 0, none⟩ = some v := by rw [World.cell?_alloc_past _ _ _ hb]; exact hc
theorem al_frozen {w : World} {b : Nat} {v : Bool} (o : Obj) (hb : b < w.heap.size) (hc : w.frozen? ⟨b, 0, none⟩ = v) : (w.alloc o).frozen? ⟨b, 0, none⟩ = v := by
  rw [((Below.refl w.heap.size w).alloc (Nat.le_refl _) o).frozen (p := ⟨b, 0, none⟩) hb]; exact hc
/-- Behind the taker's box and its store. -/
theorem taken {w : World} {b : Nat} {s s' : ByteArray} (o : Obj) (hb : b < w.heap.size) (hc : w.cell? ⟨b, 0, none⟩ = some (.string s)) (hf : w.frozen? ⟨b, 0, none⟩ = false) :
    Step b w ((w.setCell ⟨b, 0, none⟩ (.string s')).alloc o).drew s' :=
  Step.of_set (((Below.refl _ _).alloc (by simp [World.setCell]) o).drew) hb hc hf
theorem untaken {w : World} {b : Nat} {s : ByteArray} (o : Obj) (hb : b < w.heap.size) (hc : w.cell? ⟨b, 0, none⟩ = some (.string s)) (hf : w.frozen? ⟨b, 0, none⟩ = false) :
    Step b w (w.alloc o) s := Step.of_below ((Below.refl _ _).alloc (Nat.le_refl _) _) hb hc hf
theorem still {w : World} {b : Nat} {s : ByteArray} (hb : b < w.heap.size) (hc : w.cell? ⟨b, 0, none⟩ = some (.string s)) (hf : w.frozen? ⟨b, 0, none⟩ = false) :
    Step b w w s := Step.of_below (Below.refl _ _) hb hc hf
end Go.Proofs.Ytbdkacfpeokggaa
/- The walks of a reader's Take. -/
namespace Go.Proofs.Ytbdkacfpeokggaa
open Go.RowKit
set_option linter.unusedSimpArgs false
set_option linter.unusedVariables false
set_option maxHeartbeats 400000 in
theorem take_arg (s : ByteArray) (b : Nat) (w : World) (hs : s.size ≤ maxLen) (hc : w.cell? ⟨b, 0, none⟩ = some (.string s)) (hf : w.frozen? ⟨b, 0, none⟩ = false) (hb : b < w.heap.size) (n : Int) (hn : n < 0) :
    Calls Try.prog 53 #[.pointer (some ⟨b, 0, none⟩), .int .i64 n] w fun e w' => e = .returned (.tuple #[.string ⟨#[]⟩, .int .i64 1]) ∧ Step b w w' s := by
  have HS := still hb hc hf
  go_enter Try.func53, Try.ntmps53
  go_wp2
  go_ret2
  exact ⟨rfl, HS⟩
set_option maxHeartbeats 400000 in
theorem take_no (s : ByteArray) (b : Nat) (w : World) (hs : s.size ≤ maxLen) (hc : w.cell? ⟨b, 0, none⟩ = some (.string s)) (hf : w.frozen? ⟨b, 0, none⟩ = false) (hb : b < w.heap.size) (n : Nat) (hn : s.size < n) (hn2 : n ≤ 9223372036854775807) :
    Calls Try.prog 53 #[.pointer (some ⟨b, 0, none⟩), .int .i64 n] w fun e w' => e = .returned (.tuple #[.string ⟨#[]⟩, .int .i64 4]) ∧ Step b w w' s := by
  have hs' := hs
  unfold maxLen at hs'
  go_enter Try.func53, Try.ntmps53
  go_wp2_with fail
  refine (taker_any _ _).mono ?_
  rintro e w1 ⟨rfl, rfl⟩
  go_wp2_with fail
  refine (take1_no s b w.heap.size 0 n _ hs (al_ptr _ _ _) (al_cell _ hb hc) (by omega) (by omega)).mono ?_
  rintro e w1 ⟨rfl, rfl⟩
  go_wp2
  go_ret2
  exact ⟨rfl, untaken _ hb hc hf⟩
set_option maxHeartbeats 400000 in
theorem take_ok (s : ByteArray) (b : Nat) (w : World) (hs : s.size ≤ maxLen) (hc : w.cell? ⟨b, 0, none⟩ = some (.string s)) (hf : w.frozen? ⟨b, 0, none⟩ = false) (hb : b < w.heap.size) (n : Nat) (hn : n ≤ s.size) :
    Calls Try.prog 53 #[.pointer (some ⟨b, 0, none⟩), .int .i64 n] w fun e w' => e = .returned (.tuple #[.string (s.extract 0 n), .int .i64 0]) ∧ Step b w w' (s.extract n s.size) := by
  have hs' := hs
  unfold maxLen at hs'
  go_enter Try.func53, Try.ntmps53
  go_wp2_with fail
  refine (taker_any _ _).mono ?_
  rintro e w1 ⟨rfl, rfl⟩
  go_wp2_with fail
  refine (take1_ok s b w.heap.size 0 n _ hs (al_ptr _ _ _) (al_cell _ hb hc) (al_frozen _ hb hf) (by omega)).mono ?_
  rintro e w1 ⟨rfl, rfl⟩
  rw [Nat.zero_add]
  go_wp2
  go_ret2
  exact ⟨rfl, taken _ hb hc hf⟩
set_option maxHeartbeats 400000 in
theorem take_nil (w : World) (n : Int) :
    Calls Try.prog 53 #[.pointer none, .int .i64 n] w fun e w' => e = .returned (.tuple #[.string ⟨#[]⟩, .int .i64 2]) ∧ w' = w := by
  go_enter Try.func53, Try.ntmps53
  go_wp2
  go_ret2
  exact ⟨rfl, rfl⟩
end Go.Proofs.Ytbdkacfpeokggaa
/- The walk of a reader's Fixed. -/
namespace Go.Proofs.Ytbdkacfpeokggaa
open Go.RowKit
set_option linter.unusedSimpArgs false
set_option linter.unusedVariables false
theorem ret_ue {a b : Nat} {k l : IntKind} {c : Int} (h : a = b) : Ending.returned (.tuple #[.int k a, .int l c]) = .returned (.tuple #[.int k b, .int l c]) := by rw [h]
set_option maxHeartbeats 400000 in
theorem fixed_nil (w : World) (m : Int) :
    Calls Try.prog 54 #[.pointer none, .int .i64 m] w fun e w' => e = .returned (.tuple #[.int .u64 0, .int .i64 2]) ∧ w' = w := by
  go_enter Try.func54, Try.ntmps54
  go_wp2
  go_ret2
  exact ⟨rfl, rfl⟩
set_option maxHeartbeats 400000 in
theorem fixed_arg (s : ByteArray) (b : Nat) (w : World) (hs : s.size ≤ maxLen) (hc : w.cell? ⟨b, 0, none⟩ = some (.string s)) (hf : w.frozen? ⟨b, 0, none⟩ = false) (hb : b < w.heap.size) (m : Int) (hm : isW m = false) :
    Calls Try.prog 54 #[.pointer (some ⟨b, 0, none⟩), .int .i64 m] w fun e w' => e = .returned (.tuple #[.int .u64 0, .int .i64 1]) ∧ Step b w w' s := by
  have HS := still hb hc hf
  go_enter Try.func54, Try.ntmps54
  go_wp2_with (go_at_call 52; refine (isWidth_any _ _).mono ?_; rintro e w' ⟨rfl, rfl⟩; rw [hm])
  go_ret2
  exact ⟨rfl, HS⟩
set_option maxHeartbeats 400000 in
theorem fixed_no (s : ByteArray) (b : Nat) (w : World) (hs : s.size ≤ maxLen) (hc : w.cell? ⟨b, 0, none⟩ = some (.string s)) (hf : w.frozen? ⟨b, 0, none⟩ = false) (hb : b < w.heap.size) (d : Nat) (hd1 : 1 ≤ d) (hd2 : d ≤ 8) (hl : s.size < d) :
    Calls Try.prog 54 #[.pointer (some ⟨b, 0, none⟩), .int .i64 d] w fun e w' => e = .returned (.tuple #[.int .u64 0, .int .i64 4]) ∧ Step b w w' s := by
  have hiw : isW (d : Int) = true := isW_yes (by omega) (by omega)
  go_enter Try.func54, Try.ntmps54
  go_wp2_with (go_at_call 52; refine (isWidth_any _ _).mono ?_; rintro e w' ⟨rfl, rfl⟩; rw [hiw])
  refine (taker_any _ _).mono ?_
  rintro e w1 ⟨rfl, rfl⟩
  go_wp2_with fail
  refine (take1_no s b w'.heap.size 0 d _ hs (al_ptr _ _ _) (al_cell _ hb hc) (by omega) (by omega)).mono ?_
  rintro e w1 ⟨rfl, rfl⟩
  go_wp2
  refine wp_loop_rounds 1 ?_
  rw [rounds_succ]
  go_wp2
  go_ret2
  exact ⟨rfl, untaken _ hb hc hf⟩
set_option maxHeartbeats 400000 in
theorem fixed_ok (s : ByteArray) (b : Nat) (w : World) (hs : s.size ≤ maxLen) (hc : w.cell? ⟨b, 0, none⟩ = some (.string s)) (hf : w.frozen? ⟨b, 0, none⟩ = false) (hb : b < w.heap.size) (d : Nat) (hd1 : 1 ≤ d) (hd2 : d ≤ 8) (hl : d ≤ s.size) :
    Calls Try.prog 54 #[.pointer (some ⟨b, 0, none⟩), .int .i64 d] w fun e w' => e = .returned (.tuple #[.int .u64 (fixV ((bl s).take d)), .int .i64 0]) ∧ Step b w w' (s.extract d s.size) := by
  have hiw : isW (d : Int) = true := isW_yes (by omega) (by omega)
  obtain ⟨t, ht⟩ : ∃ t, t = s.extract 0 d := ⟨_, rfl⟩
  have htz : t.size = d := by subst ht; simp; omega
  have HT : Hid (bl t = (bl s).take d) := by subst ht; exact extract_take s d hl
  go_enter Try.func54, Try.ntmps54
  go_wp2_with (go_at_call 52; refine (isWidth_any _ _).mono ?_; rintro e w' ⟨rfl, rfl⟩; rw [hiw])
  refine (taker_any _ _).mono ?_
  rintro e w1 ⟨rfl, rfl⟩
  go_wp2_with fail
  refine (take1_ok s b w'.heap.size 0 d _ hs (al_ptr _ _ _) (al_cell _ hb hc) (al_frozen _ hb hf) (by omega)).mono ?_
  rintro e w1 ⟨rfl, rfl⟩
  rw [Nat.zero_add, ← ht]
  clear ht
  have HW : Hid (Step b w' ((w'.setCell ⟨b, 0, none⟩ (.string (s.extract d s.size))).alloc (.cells #[.pointer (some ⟨b, 0, none⟩)] 83)).drew (s.extract d s.size)) := taken _ hb hc hf
  go_wp2
  go_loop [8, 25] (fun v i => ∃ (k acc : Nat), k ≤ d ∧ acc < 2 ^ 64 ∧ i = .int .i64 k ∧ v = .int .u64 acc ∧ Hid (acc = fixV ((bl t).take k))) (fun _ i => 10 - (intOf i).toNat)
  case atStart => exact ⟨0, 0, by omega, by omega, rfl, rfl, rfl⟩
  case round =>
    obtain ⟨k, acc, hk1, hacc, rfl, rfl, HR⟩ := hrel
    by_cases hlt : k < d
    · have hkt : k < t.size := by omega
      go_wp2
      go_round
      case rel =>
        have hlt256 := t[k].toNat_lt
        have hl : acc < 256 ^ k := by
          have := fixV_lt ((bl t).take k)
          rw [← HR.out, List.length_take, bl_length, htz, Nat.min_eq_left (by omega)] at this
          exact this
        obtain ⟨e1, e2⟩ := fixStep acc t[k].toNat k hlt256 (by omega) hl
        refine ⟨k + 1, _, by omega, e2, by go_num, ?_, ?_⟩
        · rw [← e1, show IntKind.u64.wrap (t[k].toNat : Int) = t[k].toNat from by rw [IntKind.wrap_u64]; omega]
        · rw [take_snoc t k hkt, fixV_snoc, ← HR.out]; rfl
      case measure => simp [intOf]; omega
    · go_wp2
      go_ret2
      refine ⟨ret_ue ?_, HW.out⟩
      have e : k = d := by omega
      rw [HR.out, HT.out, List.take_take, e, Nat.min_self]
end Go.Proofs.Ytbdkacfpeokggaa
/- wire.Reader.Left. -/
namespace Go.Proofs.Ytbdkacfpeokggaa
open Go.RowKit
set_option linter.unusedSimpArgs false
set_option linter.unusedVariables false
set_option maxHeartbeats 400000 in
theorem left_any (s : ByteArray) (b : Nat) (w : World) (hs : s.size ≤ maxLen) (hc : w.cell? ⟨b, 0, none⟩ = some (.string s)) :
    Calls Try.prog 37 #[.pointer (some ⟨b, 0, none⟩)] w fun e w' => e = .returned (.int .i64 s.size) ∧ w' = w := by
  unfold maxLen at hs
  go_enter Try.func37, Try.ntmps37
  go_wp2
  go_ret
  exact ⟨rfl, rfl⟩
set_option maxHeartbeats 400000 in
theorem left_nil (w : World) : Calls Try.prog 37 #[.pointer none] w fun e w' => e = .returned (.int .i64 0) ∧ w' = w := by
  go_enter Try.func37, Try.ntmps37
  go_wp2
  go_ret
  exact ⟨rfl, rfl⟩
end Go.Proofs.Ytbdkacfpeokggaa
