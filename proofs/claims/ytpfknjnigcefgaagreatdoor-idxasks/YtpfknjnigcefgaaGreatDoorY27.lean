import Derived.Test.YtpfknjnigcefgaaGreatDoorRows
import Derived.WalkKit
import Derived.Handy
import Derived.Maps.OwnSet
import Derived.Maps.OwnOps
import Derived.Maps.RangeWalk
import Derived.Maps.Ext
import Derived.StringKeys
import Derived.Test.YtpfknjnigcefgaaGreatDoorY8
import Derived.Test.YtpfknjnigcefgaaGreatDoorY5
import Derived.DeepKeys4
/- Maps whose elements are held as they lie: what a look-up, a store, a delete, a count do to them. -/
namespace Go.Proofs.YtpfknjnigcefgaaGreatDoor
open Go.RowKit Go.Maps
set_option linter.unusedSimpArgs false
set_option linter.unusedVariables false
/-- An element, read as it lies. -/
def hE : Value → Option (DataW Value × List MemPlace) := fun v => some (.held v, [])
theorem hE_mk (v : Value) : hE v = some (.held v, []) := rfl
theorem hE_inv {v : Value} {d : DataW Value} {ps : List MemPlace} (h : hE v = some (d, ps)) : d = .held v := by
  simp only [hE, Option.some.injEq, Prod.mk.injEq] at h; exact h.1.symm
/-- A map in memory, of keys of the type k. -/
def Mp (w : World) (k : TypeId) (b : Nat) (D : DataW Value) : Prop := w.ownsMap Tryz.prog k hE b (Maps.size D) D
theorem owns_size {w : World} {P : Program} {k : TypeId} {R : Value → Option (DataW Value × List MemPlace)} {b n : Nat} {D : DataW Value} (h : w.ownsMap P k R b n D) : w.ownsMap P k R b (Maps.size D) D := by
  obtain ⟨es, clock, hb, F, hs, rfl⟩ := h
  exact ⟨es, clock, hb, F, by simp [Maps.size, length_sorted], rfl⟩
theorem Mp.lt {w : World} {k : TypeId} {b : Nat} {D : DataW Value} (h : Mp w k b D) : b < w.heap.size := World.ownsMap.lt h
theorem Mp.grown {w w' : World} {k : TypeId} {b : Nat} {D : DataW Value} {r : Option Nat} (h : Mp w k b D) (hg : w.grownBy w' r) (hr : r ≠ some b) : Mp w' k b D := World.ownsMap.kept h hg (fun e => hr e.symm)
theorem Mp.made (w : World) (k : TypeId) : Mp (w.alloc (.map #[] 0)) k w.heap.size (.map []) := World.ownsMap_made w _ k hE
/-- A key that is a text; one that is a number. -/
theorem sKey : Keyed Tryz.prog 9 := string_keyed Tryz.underlying9
theorem iKey : Keyed Tryz.prog 3 := int_keyed Tryz.underlying3
def sL (s : ByteArray) : Lit := .string s.data.toList
def iL (n : Int) : Lit := .int .i64 n
theorem sL_inj {s t : ByteArray} (h : sL s = sL t) : s = t := by
  simp only [sL, Lit.string.injEq] at h
  exact ByteArray.ext (Array.ext' h)
theorem sL_key (s : ByteArray) (h : s.size ≤ maxLen) : keyOf Tryz.prog 9 (.string s) = some (sL s) := WideMaps.keyOf_string_mk Tryz.underlying9 h
theorem wf_int (n : Int) (h1 : -9223372036854775808 ≤ n) (h2 : n ≤ 9223372036854775807) : (Lit.int .i64 n).wf = true := by
  show (decide (IntKind.i64.min ≤ n) && decide (n ≤ IntKind.i64.max)) = true
  have e1 : IntKind.i64.min = -9223372036854775808 := by decide
  have e2 : IntKind.i64.max = 9223372036854775807 := by decide
  rw [e1, e2]; simp [h1, h2]
theorem iL_key (n : Int) (h1 : -9223372036854775808 ≤ n) (h2 : n ≤ 9223372036854775807) : keyOf Tryz.prog 3 (.int .i64 n) = some (iL n) := keyOf_int_mk Tryz.underlying3 (wf_int n h1 h2)
theorem zero_int (w : World) : (zeroValue 3).run Tryz.prog w = .ok (.int .i64 0) w := by kernel_rfl
/-- What lies at a key. -/
def hAt (D : DataW Value) (k : Lit) : Option Value := if Maps.has D k then (match D.atKey k .nil with | .held v => some v | _ => none) else none
section
variable {w : World} {b : Nat} {D : DataW Value} {k e t : TypeId}
theorem Mp.at_held (h : Mp w k b D) (K : Keyed Tryz.prog k) (ht : Tryz.prog.underlying t = some (.map k e)) {z : Value} (hz : (zeroValue e).run Tryz.prog w = .ok z w) {key : Value} {kl : Lit} (hkey : keyOf Tryz.prog k key = some kl) :
    (Instr.lookup t (.map (some b)) key true).run Tryz.prog w = .ok (.tuple #[(hAt D kl).getD z, .bool (hAt D kl).isSome]) w ∧ (Instr.lookup t (.map (some b)) key false).run Tryz.prog w = .ok ((hAt D kl).getD z) w := by
  obtain ⟨v, ps, h1, h2⟩ := World.ownsMap.look_ok h K ht hz (hE_mk z) hkey
  obtain ⟨v', ps', h3, h4⟩ := World.ownsMap.lookup h K ht hz (hE_mk z) hkey
  have e2 := hE_inv h2
  have e4 := hE_inv h4
  have hv : v' = v := by rw [e2] at e4; simpa using e4.symm
  have key : Maps.has D kl = (hAt D kl).isSome ∧ (hAt D kl).getD z = v := by
    unfold hAt
    cases hh : Maps.has D kl with
    | false =>
      rw [Maps.atKey_of_not_has hh] at e2
      simp at e2
      simp [e2]
    | true =>
      have ind : D.atKey kl .nil = .held v := by
        rw [← e2]
        obtain ⟨es, rfl⟩ := World.ownsMap.isMap h
        have h5 : es.any (fun p => p.1.sameKey kl) = true := hh
        obtain ⟨p, hp, hs⟩ := List.any_eq_true.1 h5
        unfold DataW.atKey
        simp only
        cases hf : es.find? (fun p => p.1.sameKey kl) with
        | none => exact absurd hs (by simpa using List.find?_eq_none.1 hf p hp)
        | some q => rfl
      rw [ind]; simp
  rw [key.2, ← key.1]
  exact ⟨h1, by rw [← hv]; exact h3⟩
theorem Mp.canon (h : Mp w k b D) (K : Keyed Tryz.prog k) : Canon D := World.ownsMap.canon h K
theorem Mp.put (h : Mp w k b D) (K : Keyed Tryz.prog k) (ht : Tryz.prog.underlying t = some (.map k e)) (hn : Maps.size D < maxLen) {key : Value} {kl : Lit} (hkey : keyOf Tryz.prog k key = some kl) (v : Value) :
    ∃ w', (Instr.mapUpdate t (.map (some b)) key v).run Tryz.prog w = .ok () w' ∧ Mp w' k b (D.put kl (.held v)) ∧ w.grownBy w' (some b) := by
  obtain ⟨w', h1, h2, h3⟩ := World.ownsMap.store h K ht hn hkey (hE_mk v)
  exact ⟨w', h1, owns_size h2, h3.grown⟩
theorem Mp.del (h : Mp w k b D) (K : Keyed Tryz.prog k) (ht : Tryz.prog.underlying t = some (.map k e)) {key : Value} {kl : Lit} (hkey : keyOf Tryz.prog k key = some kl) (ty : TypeId) :
    ∃ w', (Builtin.delete_ #[t, k] ty #[.map (some b), key]).run Tryz.prog w = .ok (.tuple #[]) w' ∧ Mp w' k b (D.del kl) ∧ w.grownBy w' (some b) := by
  obtain ⟨w', h1, h2, h3⟩ := World.ownsMap.drop h K ht hkey ty
  exact ⟨w', h1, owns_size h2, h3.grown⟩
theorem Mp.len (h : Mp w k b D) (ht : Tryz.prog.underlying t = some (.map k e)) (ty : TypeId) : (Builtin.len_ #[t] ty #[.map (some b)]).run Tryz.prog w = .ok (.int .i64 (Maps.size D)) w := World.ownsMap.len h ht ty
end
/-- A view of a map: what lies at each key. -/
theorem hAt_has {D : DataW Value} {k : Lit} {v : Value} (h : hAt D k = some v) : Maps.has D k = true := by
  unfold hAt at h
  split at h
  · assumption
  · cases h
theorem hAt_put_same {D : DataW Value} (hD : IsMap D) {k : Lit} (hk : WideAt.IsKeyLit k) (v : Value) : hAt (D.put k (.held v)) k = some v := by
  unfold hAt
  rw [has_put_same hD hk, atKey_put_same hD hk]; rfl
theorem hAt_put_other {D : DataW Value} {k k' : Lit} (hne : k' ≠ k) (v : Value) : hAt (D.put k (.held v)) k' = hAt D k' := by
  unfold hAt
  rw [has_put_other hne, atKey_put_other hne]
theorem hAt_del_same (D : DataW Value) (k : Lit) : hAt (D.del k) k = none := by
  unfold hAt
  rw [has_del_same]; rfl
theorem hAt_del_other {D : DataW Value} {k k' : Lit} (hne : k' ≠ k) : hAt (D.del k) k' = hAt D k' := by
  unfold hAt
  rw [has_del_other hne, atKey_del_other hne]
theorem hAt_empty (k : Lit) : hAt (.map []) k = none := rfl
theorem sL_lit (s : ByteArray) : WideAt.IsKeyLit (sL s) := trivial
theorem iL_lit (n : Int) : WideAt.IsKeyLit (iL n) := trivial
/-- A nil map. -/
theorem nil_at {w : World} {k e t : TypeId} (K : Keyed Tryz.prog k) (ht : Tryz.prog.underlying t = some (.map k e)) {z : Value} (hz : (zeroValue e).run Tryz.prog w = .ok z w) {key : Value} {kl : Lit} (hkey : keyOf Tryz.prog k key = some kl) :
    (Instr.lookup t (.map none) key true).run Tryz.prog w = .ok (.tuple #[z, .bool false]) w ∧ (Instr.lookup t (.map none) key false).run Tryz.prog w = .ok z w :=
  ⟨Maps.look_nil true K ht hz hkey, Maps.look_nil false K ht hz hkey⟩
end Go.Proofs.YtpfknjnigcefgaaGreatDoor
/- Names as keys; sets of names. -/
namespace Go.Proofs.YtpfknjnigcefgaaGreatDoor
open Go.RowKit Go.Maps
set_option linter.unusedSimpArgs false
set_option linter.unusedVariables false
theorem laidOut11 : laidOutB Tryz.prog = true := by kernel_rfl
theorem idRow : (23 : TypeId) < Tryz.prog.types.size := of_decide_eq_true (by kernel_rfl)
theorem idLaw : WideMaps.KeyLaw Tryz.prog 23 := deep_law_laid laidOut11 (m := 2) (by omega) idRow (by kernel_rfl) (by kernel_rfl)
theorem idKey : Keyed Tryz.prog 23 := Keyed.of_law idLaw
theorem mapM_some {β : Type} (f : Nat → Option β) : ∀ l : List Nat, (∀ i ∈ l, ∃ y, f i = some y) → ∃ ys, l.mapM f = some ys
  | [], _ => ⟨[], rfl⟩
  | i :: l, h => by
    obtain ⟨y, hy⟩ := h i (by simp)
    obtain ⟨ys, hys⟩ := mapM_some f l (fun j hj => h j (by simp [hj]))
    exact ⟨y :: ys, by simp [List.mapM_cons, hy, hys]⟩
theorem u8wf (n : Nat) (h : n < 256) : (Lit.int .u8 (n : Int)).wf = true := by
  show (decide (IntKind.u8.min ≤ (n : Int)) && decide ((n : Int) ≤ IntKind.u8.max)) = true
  have e1 : IntKind.u8.min = 0 := by decide
  have e2 : IntKind.u8.max = 255 := by decide
  rw [e1, e2]; simp; omega
theorem lits_u8 {P : Program} {e : TypeId} (he : P.underlying e = some (.int .u8)) (d n : Nat) (h : n < 256) : P.keyLits (d + 1) e [.int .u8 (n : Int)] = some [.int .u8 (n : Int)] := by
  unfold Program.keyLits
  rw [he]
  simp [u8wf n h]
theorem lits_arr {P : Program} {k e : TypeId} (d : Nat) (cs ys) (hk : P.underlying k = some (.array 32 e)) (hc : cs.length = P.cellsOf k) (h : ((List.range 32).mapM fun i => P.keyLits d e ((cs.drop (i * P.cellsOf e)).take (P.cellsOf e))) = some ys) :
    P.keyLits (d + 1) k cs = some ys.flatten := by
  unfold Program.keyLits
  rw [hk]
  simp only [hc, if_true, h, Option.map_some]
theorem key_gen {P : Program} {k e : TypeId} (hu : P.underlying k = some (.array 32 e)) (he : P.underlying e = some (.int .u8)) (hk : P.keyType k = true) (c1 : P.cellsOf k = 32) (c2 : P.cellsOf e = 1) (hn : 0 < P.types.size) (s : ByteArray) (hs : s.size = 32) :
    ∃ l, keyOf P k (.agg (idc s)) = some l := by
  have hf : (Value.agg (idc s)).formed P k = true := by
    unfold Value.formed
    rw [hu]
    simp [idc_size, hs, c1]
  have hc : (idc s).toList.length = 32 := by rw [Array.length_toList, idc_size, hs]
  obtain ⟨m, hm⟩ : ∃ m, P.types.size = m + 1 := ⟨P.types.size - 1, by omega⟩
  obtain ⟨ys, hys⟩ := mapM_some (fun i => P.keyLits (m + 1) e (((idc s).toList.drop (i * P.cellsOf e)).take (P.cellsOf e))) (List.range 32) (fun i hi => by
    have hi' : i < 32 := List.mem_range.1 hi
    have hg := idc_get s i (by omega)
    have e1 : ((idc s).toList.drop (i * P.cellsOf e)).take (P.cellsOf e) = [.int .u8 (s[i].toNat : Int)] := by
      have h1 : i < (idc s).toList.length := by omega
      rw [c2, Nat.mul_one, List.drop_eq_getElem_cons h1]
      have : (idc s).toList[i]? = some (.int .u8 (s[i].toNat : Int)) := by rw [Array.getElem?_toList]; exact hg
      rw [List.getElem?_eq_getElem h1] at this
      injection this with this
      rw [this]; rfl
    rw [e1]
    exact ⟨_, lits_u8 he m _ s[i].toNat_lt⟩)
  refine ⟨.string (keyBytes ys.flatten), ?_⟩
  unfold keyOf
  rw [hu]
  simp only [hk, hf, Bool.and_self, if_true]
  rw [show (Value.agg (idc s)).cells.toList = (idc s).toList from rfl, lits_arr (P.types.size) _ ys hu (by rw [hc, c1]) (by rw [hm]; exact hys)]
  rfl
theorem key_some (s : ByteArray) (hs : s.size = 32) : ∃ l, keyOf Tryz.prog 23 (.agg (idc s)) = some l :=
  key_gen (P := Tryz.prog) (k := 23) (e := 5) (by kernel_rfl) Tryz.underlying5 (by kernel_rfl) (by kernel_rfl) (by kernel_rfl) (of_decide_eq_true (by kernel_rfl)) s hs
/-- A name as a key. -/
noncomputable def kI (s : ByteArray) : Lit := @Classical.epsilon Lit ⟨.bool true⟩ (fun l => keyOf Tryz.prog 23 (.agg (idc s)) = some l)
theorem kI_key (s : ByteArray) (hs : s.size = 32) : keyOf Tryz.prog 23 (.agg (idc s)) = some (kI s) := @Classical.epsilon_spec Lit (fun l => keyOf Tryz.prog 23 (.agg (idc s)) = some l) (key_some s hs)
theorem idc_inj {s t : ByteArray} (h : idc s = idc t) : s = t := by
  have hz : s.size = t.size := by rw [← idc_size, h, idc_size]
  apply bl_inj
  apply List.ext_getElem?
  intro i
  by_cases hi : i < s.size
  · have h1 := idc_get s i hi
    have h2 := idc_get t i (by omega)
    rw [h, h2] at h1
    have e : t[i].toNat = s[i].toNat := by
      simp only [Option.some.injEq, Value.int.injEq, true_and] at h1
      omega
    have e2 : s[i] = t[i]'(by omega) := UInt8.toNat.inj e.symm
    have h5 : i < s.data.size := hi
    have h6 : i < t.data.size := by have : i < t.size := by omega
                                    exact this
    rw [bl, bl, Array.getElem?_toList, Array.getElem?_toList, Array.getElem?_eq_getElem h5, Array.getElem?_eq_getElem h6]
    exact congrArg some e2
  · rw [List.getElem?_eq_none (by rw [bl_length]; omega), List.getElem?_eq_none (by rw [bl_length]; omega)]
theorem kI_inj {s t : ByteArray} (hs : s.size = 32) (ht : t.size = 32) (h : kI s = kI t) : s = t := by
  have h1 := kI_key s hs
  have h2 := kI_key t ht
  rw [h] at h1
  exact idc_inj (Value.agg.inj (idKey.inj h1 h2))
/-- Whether a name is on a list. -/
def onL (d : List ByteArray) (x : ByteArray) : Bool := d.any (fun y => bl y == bl x)
theorem onL_snoc (d : List ByteArray) (y x : ByteArray) : onL (d ++ [y]) x = (onL d x || (bl y == bl x)) := by simp [onL]
/-- Block m is a map whose keys are these names, each with an element as E says. -/
def St (E : Value → Prop) (w : World) (m : Nat) (d : List ByteArray) : Prop :=
  ∃ D, Mp w 23 m D ∧ Maps.size D ≤ d.length ∧ ∀ x, x.size = 32 → (hAt D (kI x)).isSome = onL d x ∧ ∀ v, hAt D (kI x) = some v → E v
theorem St.lt {E : Value → Prop} {w : World} {m : Nat} {d : List ByteArray} (h : St E w m d) : m < w.heap.size := by
  obtain ⟨D, h1, _⟩ := h; exact h1.lt
theorem St.keep {E : Value → Prop} {w w' : World} {m : Nat} {d : List ByteArray} (h : St E w m d) (hb : w'.heap[m]? = w.heap[m]?) : St E w' m d := by
  obtain ⟨D, ⟨es, c, h1, h2, h3, h4⟩, h5⟩ := h
  exact ⟨D, ⟨es, c, hb.trans h1, h2, h3, h4⟩, h5⟩
theorem St.grown {E : Value → Prop} {w w' : World} {m : Nat} {d : List ByteArray} {r : Option Nat} (h : St E w m d) (hg : w.grownBy w' r) (hr : some m ≠ r) : St E w' m d := h.keep (hg.block m h.lt hr)
theorem St.below {E : Value → Prop} {w w' : World} {m : Nat} {d : List ByteArray} (h : St E w m d) (hb : Below w.heap.size w w') : St E w' m d := h.keep (hb.block m h.lt)
theorem St.alloc {E : Value → Prop} {w : World} {m : Nat} {d : List ByteArray} (h : St E w m d) (o : Obj) : St E (w.alloc o) m d := h.grown (World.grownBy_alloc w o none) (by simp)
theorem St.isMap {E : Value → Prop} {w : World} {m : Nat} {d : List ByteArray} (h : St E w m d) : ∃ es c, w.heap[m]? = some (.map es c) := by
  obtain ⟨D, ⟨es, c, h1, _⟩, _⟩ := h
  exact ⟨es, c, h1⟩
theorem St.made (E : Value → Prop) (w : World) : St E (w.alloc (.map #[] 0)) w.heap.size [] :=
  ⟨.map [], Mp.made w _, Nat.le_refl _, fun x _ => ⟨rfl, fun v hv => by rw [hAt_empty] at hv; cases hv⟩⟩
theorem St.look {E : Value → Prop} {w : World} {m : Nat} {d : List ByteArray} {t e : TypeId} (h : St E w m d) (ht : Tryz.prog.underlying t = some (.map 23 e)) {z : Value} (hz : (zeroValue e).run Tryz.prog w = .ok z w) (hE : E z) (x : ByteArray) (hx : x.size = 32) :
    ∃ v, (Instr.lookup t (.map (some m)) (.agg (idc x)) true).run Tryz.prog w = .ok (.tuple #[v, .bool (onL d x)]) w ∧ E v := by
  obtain ⟨D, h1, _, h3⟩ := h
  obtain ⟨a, b⟩ := h3 x hx
  refine ⟨(hAt D (kI x)).getD z, ?_, ?_⟩
  · rw [← a]; exact (h1.at_held idKey ht hz (kI_key x hx)).1
  · cases hv : hAt D (kI x) with
    | none => exact hE
    | some v => exact b v hv
theorem St.put {E : Value → Prop} {w : World} {m : Nat} {d : List ByteArray} {t e : TypeId} (h : St E w m d) (ht : Tryz.prog.underlying t = some (.map 23 e)) (hn : d.length < 1048576) (x : ByteArray) (hx : x.size = 32) (v : Value) (hE : E v) :
    ∃ w', (Instr.mapUpdate t (.map (some m)) (.agg (idc x)) v).run Tryz.prog w = .ok () w' ∧ St E w' m (d ++ [x]) ∧ w.grownBy w' (some m) := by
  obtain ⟨D, h1, h2, h3⟩ := h
  obtain ⟨w', g1, g2, g3⟩ := h1.put idKey ht (by unfold maxLen; omega) (kI_key x hx) v
  have hk := idKey.key (kI_key x hx)
  have hD : IsMap D := World.ownsMap.isMap h1
  have htd : Tidy D := World.ownsMap.tidy h1 idKey
  refine ⟨w', g1, ⟨_, g2, ?_, ?_⟩, g3⟩
  · rw [Maps.size_put htd, List.length_append, List.length_singleton]
    split <;> omega
  · intro y hy
    rw [onL_snoc]
    by_cases e : y = x
    · subst e
      rw [hAt_put_same hD hk]
      refine ⟨by simp, fun u hu => ?_⟩
      injection hu with hu
      rw [← hu]; exact hE
    · have ne : kI y ≠ kI x := fun h => e (kI_inj hy hx h)
      rw [hAt_put_other ne]
      have : (bl x == bl y) = false := by
        rw [beq_eq_false_iff_ne]
        intro h
        exact e (bl_inj h).symm
      rw [this, Bool.or_false]
      exact h3 y hy
end Go.Proofs.YtpfknjnigcefgaaGreatDoor
/- Plain facts: the checksum of 32 bits (no program in sight): a byte that is turned is told. -/
namespace Go.Proofs.YtpfknjnigcefgaaGreatDoor
set_option linter.unusedSimpArgs false
set_option linter.unusedVariables false
open Go
def poly : BitVec 32 := 0xEDB88320#32
/-- One bit goes out. -/
def sh1 (n : BitVec 32) : BitVec 32 := (n >>> 1) ^^^ (if n.getLsbD 0 then poly else 0#32)
/-- So many bits go out. -/
def shN32 : Nat → BitVec 32 → BitVec 32
  | 0, n => n
  | k + 1, n => sh1 (shN32 k n)
/-- A byte more. -/
def cst (n : BitVec 32) (b : UInt8) : BitVec 32 := shN32 8 (n ^^^ BitVec.ofNat 32 b.toNat)
def crcR (n : BitVec 32) (l : List UInt8) : BitVec 32 := l.foldl cst n
/-- A checksum gone on with. -/
def onC (c : BitVec 32) (l : List UInt8) : BitVec 32 := ~~~ (crcR (~~~ c) l)
def crcC (l : List UInt8) : BitVec 32 := onC 0#32 l
theorem crcR_append (n : BitVec 32) (a b : List UInt8) : crcR n (a ++ b) = crcR (crcR n a) b := List.foldl_append
theorem crcR_snoc (n : BitVec 32) (a : List UInt8) (b : UInt8) : crcR n (a ++ [b]) = cst (crcR n a) b := by simp [crcR]
theorem onC_append (c : BitVec 32) (a b : List UInt8) : onC (onC c a) b = onC c (a ++ b) := by
  simp [onC, crcR_append]
theorem onC_crc (a b : List UInt8) : onC (crcC a) b = crcC (a ++ b) := onC_append _ _ _
theorem sh1_top (n : BitVec 32) : (sh1 n).getLsbD 31 = n.getLsbD 0 := by
  unfold sh1
  rw [BitVec.getLsbD_xor, BitVec.getLsbD_ushiftRight, BitVec.getLsbD_of_ge n (1 + 31) (by omega)]
  cases n.getLsbD 0
  · simp
  · simp [poly]
theorem sh1_inj {n m : BitVec 32} (h : sh1 n = sh1 m) : n = m := by
  have h0 : n.getLsbD 0 = m.getLsbD 0 := by rw [← sh1_top, ← sh1_top, h]
  have h1 : n >>> 1 = m >>> 1 := by
    unfold sh1 at h
    rw [h0] at h
    have := congrArg (· ^^^ (if m.getLsbD 0 then poly else 0#32)) h
    simpa [BitVec.xor_assoc] using this
  apply BitVec.eq_of_getLsbD_eq
  intro i hi
  cases i with
  | zero => exact h0
  | succ i =>
    have := congrArg (fun x => x.getLsbD i) h1
    simp only [BitVec.getLsbD_ushiftRight] at this
    rwa [Nat.add_comm 1 i] at this
theorem shN32_inj : ∀ (k : Nat) {n m : BitVec 32}, shN32 k n = shN32 k m → n = m
  | 0, _, _, h => h
  | k + 1, _, _, h => shN32_inj k (sh1_inj h)
theorem xor_right_inj {a b c : BitVec 32} (h : a ^^^ c = b ^^^ c) : a = b := by
  have := congrArg (· ^^^ c) h
  simpa [BitVec.xor_assoc] using this
theorem xor_left_inj {a b c : BitVec 32} (h : c ^^^ a = c ^^^ b) : a = b := by
  rw [BitVec.xor_comm c a, BitVec.xor_comm c b] at h
  exact xor_right_inj h
theorem cst_inj {n m : BitVec 32} {b : UInt8} (h : cst n b = cst m b) : n = m := xor_right_inj (shN32_inj 8 h)
theorem cst_byte {n : BitVec 32} {b c : UInt8} (h : cst n b = cst n c) : b = c := by
  have h2 := xor_left_inj (shN32_inj 8 h)
  have h3 := congrArg BitVec.toNat h2
  have hb := b.toNat_lt
  have hc := c.toNat_lt
  simp only [BitVec.toNat_ofNat] at h3
  rw [Nat.mod_eq_of_lt (by omega), Nat.mod_eq_of_lt (by omega)] at h3
  exact UInt8.toNat.inj h3
theorem crcR_inj : ∀ (l : List UInt8) {n m : BitVec 32}, crcR n l = crcR m l → n = m
  | [], _, _, h => h
  | b :: l, n, m, h => cst_inj (crcR_inj l h)
theorem crcC_turn (a r : List UInt8) (b c : UInt8) (h : crcC (a ++ b :: r) = crcC (a ++ c :: r)) : b = c := by
  unfold crcC onC at h
  have h1 : crcR (~~~ 0#32) (a ++ b :: r) = crcR (~~~ 0#32) (a ++ c :: r) := by
    have := congrArg (~~~ ·) h
    simpa using this
  rw [crcR_append, crcR_append] at h1
  exact cst_byte (crcR_inj r h1)
/-- A frame. -/
def frL (p : List UInt8) : List UInt8 := by8 (fixN 4 p.length) ++ (by8 (fixN 4 (crcC (by8 (fixN 4 p.length) ++ p)).toNat) ++ p)
def frm (p : ByteArray) : ByteArray := ⟨(frL (bl p)).toArray⟩
theorem bl_frm (p : ByteArray) : bl (frm p) = frL (bl p) := by simp [bl, frm]
theorem frL_length (p : List UInt8) : (frL p).length = 8 + p.length := by simp [frL, by8_length, fixN_length]; omega
theorem frm_size (p : ByteArray) : (frm p).size = 8 + p.size := by rw [← bl_length, bl_frm, frL_length, bl_length]
/-- Whether a frame stands at the front, its payload's length told first. -/
def ufOk (l : List UInt8) : Bool := decide (8 ≤ l.length ∧ fixV (l.take 4) ≤ 67108864 ∧ 8 + fixV (l.take 4) ≤ l.length ∧
  (crcC (l.take 4 ++ (l.drop 8).take (fixV (l.take 4)))).toNat = fixV ((l.drop 4).take 4))
def ufn (s : ByteArray) : Nat := fixV ((bl s).take 4)
def ufB (s : ByteArray) : Bool := ufOk (bl s)
/-- The payload, what stands behind it, the error. -/
def ufP (s : ByteArray) : ByteArray := if ufB s = true then s.extract 8 (8 + ufn s) else ⟨#[]⟩
def ufR (s : ByteArray) : ByteArray := if ufB s = true then s.extract (8 + ufn s) s.size else ⟨#[]⟩
def ufE (s : ByteArray) : Int := if ufB s = true then 0 else 4
theorem ufB_iff (s : ByteArray) : ufB s = true ↔ (8 ≤ s.size ∧ ufn s ≤ 67108864 ∧ 8 + ufn s ≤ s.size ∧
    (crcC ((bl s).take 4 ++ ((bl s).drop 8).take (ufn s))).toNat = fixV (((bl s).drop 4).take 4)) := by
  unfold ufB ufOk
  rw [decide_eq_true_iff, bl_length]; rfl
theorem uf_yes {s : ByteArray} (h : ufB s = true) : ufP s = s.extract 8 (8 + ufn s) ∧ ufR s = s.extract (8 + ufn s) s.size ∧ ufE s = 0 :=
  ⟨if_pos h, if_pos h, if_pos h⟩
theorem uf_no {s : ByteArray} (h : ufB s = false) : ufP s = ⟨#[]⟩ ∧ ufR s = ⟨#[]⟩ ∧ ufE s = 4 :=
  ⟨if_neg (by rw [h]; simp), if_neg (by rw [h]; simp), if_neg (by rw [h]; simp)⟩
theorem take4_front (a b : List UInt8) (h : a.length = 4) : (a ++ b).take 4 = a ∧ (a ++ b).drop 4 = b := by
  rw [← h]
  exact ⟨List.take_left, List.drop_left⟩
theorem fix4_len (n : Nat) : (by8 (fixN 4 n)).length = 4 := by rw [by8_length, fixN_length]
/-- The four parts of what opens with a frame. -/
theorem fr_parts (p t : List UInt8) : (frL p ++ t).take 4 = by8 (fixN 4 p.length) ∧ ((frL p ++ t).drop 4).take 4 = by8 (fixN 4 (crcC (by8 (fixN 4 p.length) ++ p)).toNat) ∧ (frL p ++ t).drop 8 = p ++ t := by
  have e1 := take4_front (by8 (fixN 4 p.length)) (by8 (fixN 4 (crcC (by8 (fixN 4 p.length) ++ p)).toNat) ++ (p ++ t)) (fix4_len _)
  have e2 := take4_front (by8 (fixN 4 (crcC (by8 (fixN 4 p.length) ++ p)).toNat)) (p ++ t) (fix4_len _)
  have e0 : frL p ++ t = by8 (fixN 4 p.length) ++ (by8 (fixN 4 (crcC (by8 (fixN 4 p.length) ++ p)).toNat) ++ (p ++ t)) := by simp [frL]
  refine ⟨by rw [e0, e1.1], by rw [e0, e1.2, e2.1], ?_⟩
  rw [show (8 : Nat) = 4 + 4 from rfl, ← List.drop_drop, e0, e1.2, e2.2]
theorem frame_ufn (p s t : ByteArray) (hs : s = frm p ++ t) (hp : p.size ≤ 67108864) : ufn s = p.size := by
  unfold ufn
  rw [hs, bl_append, bl_frm, (fr_parts _ _).1, bl_length, fixV_fixN 4 _ (by omega)]
/-- A frame that stands at the front is found. -/
theorem frame_uf (p s t : ByteArray) (hs : s = frm p ++ t) (hp : p.size ≤ 67108864) : ufB s = true ∧ ufP s = p ∧ ufR s = t := by
  have hn := frame_ufn p s t hs hp
  have hz : s.size = 8 + p.size + t.size := by rw [hs, ByteArray.size_append, frm_size]
  obtain ⟨e1, e2, e3⟩ := fr_parts (bl p) (bl t)
  have hbl : bl s = frL (bl p) ++ bl t := by rw [hs, bl_append, bl_frm]
  have hB : ufB s = true := by
    rw [ufB_iff]
    refine ⟨by omega, by omega, by omega, ?_⟩
    rw [hn, hbl, e1, e2, e3, fixV_fixN 4 _ (by have := (crcC (by8 (fixN 4 (bl p).length) ++ bl p)).isLt; omega)]
    congr 2
    rw [List.take_append_of_le_length (by rw [bl_length]; exact Nat.le_refl _), List.take_of_length_le (by rw [bl_length]; exact Nat.le_refl _)]
  obtain ⟨a1, a2, _⟩ := uf_yes hB
  refine ⟨hB, ?_, ?_⟩
  · rw [a1, hn]
    apply bl_inj
    rw [bl_extract, List.drop_take, hbl, e3, Nat.add_sub_cancel_left, List.take_append_of_le_length (by rw [bl_length]; exact Nat.le_refl _), List.take_of_length_le (by rw [bl_length]; exact Nat.le_refl _)]
  · rw [a2, hn]
    exact drop_front s (frm p) t _ hs (by rw [frm_size])
theorem fixV_cons4 (a b c d : UInt8) : fixV [a, b, c, d] = ((a.toNat * 256 + b.toNat) * 256 + c.toNat) * 256 + d.toNat := by simp [fixV]
theorem fixV_inj4 (x y : List UInt8) (hx : x.length = 4) (hy : y.length = 4) (h : fixV x = fixV y) : x = y := by
  match x, hx with
  | [a, b, c, d], _ =>
    match y, hy with
    | [a', b', c', d'], _ =>
      rw [fixV_cons4, fixV_cons4] at h
      have h1 := a.toNat_lt; have h2 := b.toNat_lt; have h3 := c.toNat_lt; have h4 := d.toNat_lt
      have g1 := a'.toNat_lt; have g2 := b'.toNat_lt; have g3 := c'.toNat_lt; have g4 := d'.toNat_lt
      have e1 : a.toNat = a'.toNat := by omega
      have e2 : b.toNat = b'.toNat := by omega
      have e3 : c.toNat = c'.toNat := by omega
      have e4 : d.toNat = d'.toNat := by omega
      rw [UInt8.toNat.inj e1, UInt8.toNat.inj e2, UInt8.toNat.inj e3, UInt8.toNat.inj e4]
/-- A byte of a frame's checksum or payload that is turned is told, whatever stands behind. -/
theorem turned_uf (p t s' : ByteArray) (j : Nat) (c : UInt8) (hp : p.size ≤ 67108864) (hj : 4 ≤ j) (hj2 : j < 8 + p.size) (hs : bl s' = (frL (bl p) ++ bl t).set j c)
    (hc : (frL (bl p) ++ bl t)[j]? ≠ some c) : ufB s' = false := by
  rw [Bool.eq_false_iff]
  intro hB
  rw [ufB_iff] at hB
  obtain ⟨_, _, hlen, hcrc⟩ := hB
  obtain ⟨e1, e2, e3⟩ := fr_parts (bl p) (bl t)
  have ht4 : (bl s').take 4 = (frL (bl p) ++ bl t).take 4 := by rw [hs, List.take_set_of_le hj]
  have hn : ufn s' = p.size := by
    unfold ufn
    rw [ht4, e1, bl_length, fixV_fixN 4 _ (by omega)]
  rw [hn, ht4, e1] at hcrc
  have hV := fixV_fixN 4 (crcC (by8 (fixN 4 (bl p).length) ++ bl p)).toNat (by have := (crcC (by8 (fixN 4 (bl p).length) ++ bl p)).isLt; omega)
  have hz : (frL (bl p) ++ bl t).length = 8 + p.size + t.size := by rw [List.length_append, frL_length, bl_length, bl_length]
  by_cases h8 : j < 8
  · have e8 : (bl s').drop 8 = bl p ++ bl t := by rw [hs, List.drop_set_of_lt h8, e3]
    rw [e8, List.take_append_of_le_length (by rw [bl_length]; exact Nat.le_refl _), List.take_of_length_le (by rw [bl_length]; exact Nat.le_refl _), ← hV, ← e2] at hcrc
    have hl1 : (((frL (bl p) ++ bl t).drop 4).take 4).length = 4 := by rw [e2, fix4_len]
    have hl2 : (((bl s').drop 4).take 4).length = 4 := by rw [hs]; simp only [List.length_take, List.length_drop, List.length_set]; omega
    have heq := fixV_inj4 _ _ hl1 hl2 hcrc
    apply hc
    have g1 : (((frL (bl p) ++ bl t).drop 4).take 4)[j - 4]? = (frL (bl p) ++ bl t)[j]? := by
      rw [List.getElem?_take_of_lt (by omega), List.getElem?_drop]; congr 1; omega
    have g2 : (((bl s').drop 4).take 4)[j - 4]? = some c := by
      rw [List.getElem?_take_of_lt (by omega), List.getElem?_drop, hs, show 4 + (j - 4) = j from by omega, List.getElem?_set_self (by omega)]
    rw [← g1, heq, g2]
  · have e4 : ((bl s').drop 4).take 4 = ((frL (bl p) ++ bl t).drop 4).take 4 := by
      rw [hs, List.drop_set, if_neg (by omega), List.take_set_of_le (by omega)]
    have e8 : (bl s').drop 8 = (bl p ++ bl t).set (j - 8) c := by
      rw [hs, List.drop_set, if_neg (by omega), e3]
    have hjp : j - 8 < (bl p).length := by rw [bl_length]; omega
    rw [e4, e2, hV, e8, List.set_append, if_pos hjp, List.take_append_of_le_length (by rw [List.length_set, bl_length]; exact Nat.le_refl _),
      List.take_of_length_le (by rw [List.length_set, bl_length]; exact Nat.le_refl _)] at hcrc
    have hsp : bl p = (bl p).take (j - 8) ++ (bl p)[j - 8] :: (bl p).drop (j - 8 + 1) := by
      rw [List.getElem_cons_drop, List.take_append_drop]
    have hst : (bl p).set (j - 8) c = (bl p).take (j - 8) ++ c :: (bl p).drop (j - 8 + 1) := List.set_eq_take_append_cons_drop .. |>.trans (if_pos hjp)
    have hq := BitVec.eq_of_toNat_eq hcrc
    rw [hst, ← List.append_assoc] at hq
    have hq2 : crcC ((by8 (fixN 4 (bl p).length) ++ (bl p).take (j - 8)) ++ c :: (bl p).drop (j - 8 + 1)) = crcC ((by8 (fixN 4 (bl p).length) ++ (bl p).take (j - 8)) ++ (bl p)[j - 8] :: (bl p).drop (j - 8 + 1)) := by
      rw [hq, List.append_assoc, ← hsp]
    have := crcC_turn _ _ _ _ hq2
    apply hc
    have g : (frL (bl p) ++ bl t)[j]? = some ((bl p)[j - 8]) := by
      have : (frL (bl p) ++ bl t)[j]? = ((frL (bl p) ++ bl t).drop 8)[j - 8]? := by rw [List.getElem?_drop]; congr 1; omega
      rw [this, e3, List.getElem?_append_left hjp, List.getElem?_eq_getElem hjp]
    rw [g, ← this]
/-- A frame that is cut short is none. -/
theorem cut_uf (p s : ByteArray) (k : Nat) (hp : p.size ≤ 67108864) (hk : k < 8 + p.size) (hs : bl s = (frL (bl p)).take k) : ufB s = false := by
  rw [Bool.eq_false_iff]
  intro hB
  rw [ufB_iff] at hB
  obtain ⟨h8, _, hlen, _⟩ := hB
  have hz : s.size = k := by rw [← bl_length, hs, List.length_take, frL_length, bl_length]; omega
  have e1 := (fr_parts (bl p) []).1
  rw [List.append_nil] at e1
  have hn : ufn s = p.size := by
    unfold ufn
    rw [hs, List.take_take, Nat.min_eq_left (by omega), e1, bl_length, fixV_fixN 4 _ (by omega)]
  omega
end Go.Proofs.YtpfknjnigcefgaaGreatDoor
