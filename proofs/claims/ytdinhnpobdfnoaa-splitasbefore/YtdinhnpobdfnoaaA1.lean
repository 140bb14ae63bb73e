/- Maps whose elements are held as they lie: what a look-up, a store, a delete, a count do to them. -/
import Derived.Test.YtdinhnpobdfnoaaRows
import Derived.WalkKit
import Derived.Handy
import Derived.Maps.OwnSet
import Derived.Maps.OwnOps
import Derived.Maps.RangeWalk
import Derived.Maps.Ext
import Derived.StringKeys
import Derived.Test.YtdinhnpobdfnoaaM0
namespace Go.Proofs.Ytdinhnpobdfnoaa
open Go.RowKit Go.Maps
set_option linter.unusedSimpArgs false
set_option linter.unusedVariables false
/-- An element, read as it lies. -/
def hE : Value → Option (DataW Value × List MemPlace) := fun v => some (.held v, [])
theorem hE_mk (v : Value) : hE v = some (.held v, []) := rfl
theorem hE_inv {v : Value} {d : DataW Value} {ps : List MemPlace} (h : hE v = some (d, ps)) : d = .held v := by
  simp only [hE, Option.some.injEq, Prod.mk.injEq] at h; exact h.1.symm
/-- A map in memory, of keys of the type k. -/
def Mp (w : World) (k : TypeId) (b : Nat) (D : DataW Value) : Prop := w.ownsMap Try.prog k hE b (Maps.size D) D
theorem owns_size {w : World} {P : Program} {k : TypeId} {R : Value → Option (DataW Value × List MemPlace)} {b n : Nat} {D : DataW Value} (h : w.ownsMap P k R b n D) : w.ownsMap P k R b (Maps.size D) D := by
  obtain ⟨es, clock, hb, F, hs, rfl⟩ := h
  exact ⟨es, clock, hb, F, by simp [Maps.size, length_sorted], rfl⟩
theorem Mp.lt {w : World} {k : TypeId} {b : Nat} {D : DataW Value} (h : Mp w k b D) : b < w.heap.size := World.ownsMap.lt h
theorem Mp.grown {w w' : World} {k : TypeId} {b : Nat} {D : DataW Value} {r : Option Nat} (h : Mp w k b D) (hg : w.grownBy w' r) (hr : r ≠ some b) : Mp w' k b D := World.ownsMap.kept h hg (fun e => hr e.symm)
theorem Mp.made (w : World) (k : TypeId) : Mp (w.alloc (.map #[] 0)) k w.heap.size (.map []) := World.ownsMap_made w _ k hE
/-- A key that is a text; one that is a number. -/
theorem sKey : Keyed Try.prog 9 := string_keyed Try.underlying9
theorem iKey : Keyed Try.prog 3 := int_keyed Try.underlying3
def sL (s : ByteArray) : Lit := .string s.data.toList
def iL (n : Int) : Lit := .int .i64 n
theorem sL_inj {s t : ByteArray} (h : sL s = sL t) : s = t := by
  simp only [sL, Lit.string.injEq] at h
  exact ByteArray.ext (Array.ext' h)
theorem sL_key (s : ByteArray) (h : s.size ≤ maxLen) : keyOf Try.prog 9 (.string s) = some (sL s) := WideMaps.keyOf_string_mk Try.underlying9 h
theorem wf_int (n : Int) (h1 : -9223372036854775808 ≤ n) (h2 : n ≤ 9223372036854775807) : (Lit.int .i64 n).wf = true := by
  show (decide (IntKind.i64.min ≤ n) && decide (n ≤ IntKind.i64.max)) = true
  have e1 : IntKind.i64.min = -9223372036854775808 := by decide
  have e2 : IntKind.i64.max = 9223372036854775807 := by decide
  rw [e1, e2]; simp [h1, h2]
theorem iL_key (n : Int) (h1 : -9223372036854775808 ≤ n) (h2 : n ≤ 9223372036854775807) : keyOf Try.prog 3 (.int .i64 n) = some (iL n) := keyOf_int_mk Try.underlying3 (wf_int n h1 h2)
theorem zero_int (w : World) : (zeroValue 3).run Try.prog w = .ok (.int .i64 0) w := by kernel_rfl
/-- What lies at a key. -/
def hAt (D : DataW Value) (k : Lit) : Option Value := if Maps.has D k then (match D.atKey k .nil with | .held v => some v | _ => none) else none
section
variable {w : World} {b : Nat} {D : DataW Value} {k e t : TypeId}
theorem Mp.at_held (h : Mp w k b D) (K : Keyed Try.prog k) (ht : Try.prog.underlying t = some (.map k e)) {z : Value} (hz : (zeroValue e).run Try.prog w = .ok z w) {key : Value} {kl : Lit} (hkey : keyOf Try.prog k key = some kl) :
    (Instr.lookup t (.map (some b)) key true).run Try.prog w = .ok (.tuple #[(hAt D kl).getD z, .bool (hAt D kl).isSome]) w ∧ (Instr.lookup t (.map (some b)) key false).run Try.prog w = .ok ((hAt D kl).getD z) w := by
  obtain ⟨v, ps, h1, h2⟩ := World.ownsMap.look_ok h K ht hz (hE_mk z) hkey
  obtain ⟨v', ps', h3, h4⟩ := World.ownsMap.lookup h K ht hz (hE_mk z) hkey
  have e2 := hE_inv h2
  have e4 := hE_inv h4
  have hv : v' = v := by rw [e2] at e4; simpa using e4.symm
  have key : Maps.has D kl = (hAt D kl).isSome ∧ (hAt D kl).getD z = v := by
    unfold hAt
    cases hh : Maps.has D kl with
    | false =>
      rw [Maps.atKey_of_not_has hh] at e2
      simp at e2
      simp [e2]
    | true =>
      have ind : D.atKey kl .nil = .held v := by
        rw [← e2]
        obtain ⟨es, rfl⟩ := World.ownsMap.isMap h
        have h5 : es.any (fun p => p.1.sameKey kl) = true := hh
        obtain ⟨p, hp, hs⟩ := List.any_eq_true.1 h5
        unfold DataW.atKey
        simp only
        cases hf : es.find? (fun p => p.1.sameKey kl) with
        | none => exact absurd hs (by simpa using List.find?_eq_none.1 hf p hp)
        | some q => rfl
      rw [ind]; simp
  rw [key.2, ← key.1]
  exact ⟨h1, by rw [← hv]; exact h3⟩
theorem Mp.canon (h : Mp w k b D) (K : Keyed Try.prog k) : Canon D := World.ownsMap.canon h K
theorem Mp.put (h : Mp w k b D) (K : Keyed Try.prog k) (ht : Try.prog.underlying t = some (.map k e)) (hn : Maps.size D < maxLen) {key : Value} {kl : Lit} (hkey : keyOf Try.prog k key = some kl) (v : Value) :
    ∃ w', (Instr.mapUpdate t (.map (some b)) key v).run Try.prog w = .ok () w' ∧ Mp w' k b (D.put kl (.held v)) ∧ w.grownBy w' (some b) := by
  obtain ⟨w', h1, h2, h3⟩ := World.ownsMap.store h K ht hn hkey (hE_mk v)
  exact ⟨w', h1, owns_size h2, h3.grown⟩
theorem Mp.del (h : Mp w k b D) (K : Keyed Try.prog k) (ht : Try.prog.underlying t = some (.map k e)) {key : Value} {kl : Lit} (hkey : keyOf Try.prog k key = some kl) (ty : TypeId) :
    ∃ w', (Builtin.delete_ #[t, k] ty #[.map (some b), key]).run Try.prog w = .ok (.tuple #[]) w' ∧ Mp w' k b (D.del kl) ∧ w.grownBy w' (some b) := by
  obtain ⟨w', h1, h2, h3⟩ := World.ownsMap.drop h K ht hkey ty
  exact ⟨w', h1, owns_size h2, h3.grown⟩
theorem Mp.len (h : Mp w k b D) (ht : Try.prog.underlying t = some (.map k e)) (ty : TypeId) : (Builtin.len_ #[t] ty #[.map (some b)]).run Try.prog w = .ok (.int .i64 (Maps.size D)) w := World.ownsMap.len h ht ty
end
/-- A view of a map: what lies at each key. -/
theorem hAt_has {D : DataW Value} {k : Lit} {v : Value} (h : hAt D k = some v) : Maps.has D k = true := by
  unfold hAt at h
  split at h
  · assumption
  · cases h
theorem hAt_put_same {D : DataW Value} (hD : IsMap D) {k : Lit} (hk : WideAt.IsKeyLit k) (v : Value) : hAt (D.put k (.held v)) k = some v := by
  unfold hAt
  rw [has_put_same hD hk, atKey_put_same hD hk]; rfl
theorem hAt_put_other {D : DataW Value} {k k' : Lit} (hne : k' ≠ k) (v : Value) : hAt (D.put k (.held v)) k' = hAt D k' := by
  unfold hAt
  rw [has_put_other hne, atKey_put_other hne]
theorem hAt_del_same (D : DataW Value) (k : Lit) : hAt (D.del k) k = none := by
  unfold hAt
  rw [has_del_same]; rfl
theorem hAt_del_other {D : DataW Value} {k k' : Lit} (hne : k' ≠ k) : hAt (D.del k) k' = hAt D k' := by
  unfold hAt
  rw [has_del_other hne, atKey_del_other hne]
theorem hAt_empty (k : Lit) : hAt (.map []) k = none := rfl
theorem sL_lit (s : ByteArray) : WideAt.IsKeyLit (sL s) := trivial
theorem iL_lit (n : Int) : WideAt.IsKeyLit (iL n) := trivial
/-- A nil map. -/
theorem nil_at {w : World} {k e t : TypeId} (K : Keyed Try.prog k) (ht : Try.prog.underlying t = some (.map k e)) {z : Value} (hz : (zeroValue e).run Try.prog w = .ok z w) {key : Value} {kl : Lit} (hkey : keyOf Try.prog k key = some kl) :
    (Instr.lookup t (.map none) key true).run Try.prog w = .ok (.tuple #[z, .bool false]) w ∧ (Instr.lookup t (.map none) key false).run Try.prog w = .ok z w :=
  ⟨Maps.look_nil true K ht hz hkey, Maps.look_nil false K ht hz hkey⟩
end Go.Proofs.Ytdinhnpobdfnoaa
