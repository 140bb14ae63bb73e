/- The walks of package roll: Add, Digest. -/
import Derived.Test.YthfggejdeodinaaRows
import Derived.WalkKit
import Derived.WalkSpells
import Derived.WalkLawsBesides
import Derived.Handy
import Derived.Deep.QuietTactic
import Derived.BigQuiet
import Derived.RegionTactic
import Derived.Laws.BitsAllLaws
import Derived.Test.YthfggejdeodinaaM0
import Derived.Test.YthfggejdeodinaaK20
namespace Go.Proofs.Ythfggejdeodinaa
open Go.RowKit
set_option linter.unusedSimpArgs false
set_option linter.unusedVariables false
theorem ret_r {k : IntKind} {a b : Int} (h : a = b) : Ending.returned (.int k a) = .returned (.int k b) := by rw [h]
/-- A roll's cells: the ring, the oldest one's place, both sums. -/
def rcl (l : List UInt8) : Array Value := ((List.range 64).map (fun j => Value.int .u8 (rgW l j : Int)) ++ [Value.int .i64 ((l.length % 64 : Nat) : Int), Value.int .u16 (lo6 l : Int), Value.int .u16 (hi6 l : Int)]).toArray
theorem rcl_size (l : List UInt8) : (rcl l).size = 67 := by simp [rcl]
theorem rcl_ring (l : List UInt8) (j : Nat) (h : j < 64) : (rcl l)[j]? = some (.int .u8 (rgW l j : Int)) := by
  unfold rcl
  rw [List.getElem?_toArray, List.getElem?_append_left (by simpa using h), List.getElem?_map, List.getElem?_range h]; rfl
theorem rcl_old (l : List UInt8) : (rcl l)[64]? = some (.int .i64 ((l.length % 64 : Nat) : Int)) := by
  unfold rcl
  rw [List.getElem?_toArray, List.getElem?_append_right (by simp)]; simp
theorem rcl_lo (l : List UInt8) : (rcl l)[65]? = some (.int .u16 (lo6 l : Int)) := by
  unfold rcl
  rw [List.getElem?_toArray, List.getElem?_append_right (by simp)]; simp
theorem rcl_hi (l : List UInt8) : (rcl l)[66]? = some (.int .u16 (hi6 l : Int)) := by
  unfold rcl
  rw [List.getElem?_toArray, List.getElem?_append_right (by simp)]; simp
theorem rcl_snoc (l : List UInt8) (b : UInt8) (x1 x2 x3 x4 : Value) : (((((((rcl l).setIfInBounds 66 x1).setIfInBounds 66 (.int .u16 (hi6 (l ++ [b]) : Int))).setIfInBounds 65 x2).setIfInBounds 65 (.int .u16 (lo6 (l ++ [b]) : Int))).setIfInBounds (l.length % 64) (.int .u8 (b.toNat : Int))).setIfInBounds 64 x3).setIfInBounds 64 (.int .i64 (((l.length + 1) % 64 : Nat) : Int)) = rcl (l ++ [b]) := by
  have hm : l.length % 64 < 64 := Nat.mod_lt _ (by omega)
  apply Array.ext_getElem?
  intro i
  simp only [Array.getElem?_setIfInBounds, Array.size_setIfInBounds, rcl_size]
  by_cases h6 : i = 64
  · subst h6; rw [rcl_old (l ++ [b]), List.length_append, List.length_singleton]; simp
  · rw [if_neg (by omega), if_neg (by omega)]
    by_cases hr : i < 64
    · rw [rcl_ring (l ++ [b]) i hr, rgW_snoc l b i hr]
      by_cases e : l.length % 64 = i
      · rw [if_pos e, if_pos e, if_pos (by omega)]
      · rw [if_neg e, if_neg e, if_neg (by omega), if_neg (by omega), if_neg (by omega), if_neg (by omega), rcl_ring l i hr]
    · rw [if_neg (by omega)]
      by_cases h5 : i = 65
      · subst h5; rw [rcl_lo (l ++ [b])]; simp
      · rw [if_neg (by omega), if_neg (by omega)]
        by_cases h7 : i = 66
        · subst h7; rw [rcl_hi (l ++ [b])]; simp
        · rw [if_neg (by omega), if_neg (by omega), Array.getElem?_eq_none (by rw [rcl_size]; omega), Array.getElem?_eq_none (by rw [rcl_size]; omega)]
theorem wrap16 (n : Int) : IntKind.u16.wrap n = n % 65536 := by simp [IntKind.wrap, IntKind.bits, IntKind.signed]
theorem drew3 {w : World} {b : Nat} {C : Array Value} {T : TypeId} (h : Bk w b C T) : Bk w.drew.drew.drew b C T := h
/-- A text's bytes. -/
abbrev tby (s : ByteArray) : List UInt8 := s.data.toList
theorem tby_len (s : ByteArray) : (tby s).length = s.size := Array.length_toList
theorem tby_take (s : ByteArray) (k : Nat) (h : k < s.size) : (tby s).take (k + 1) = (tby s).take k ++ [s[k]] := by
  rw [List.take_succ_eq_append_getElem (by rw [tby_len]; exact h)]; rfl
theorem tby_all (s : ByteArray) (k : Nat) (h : s.size ≤ k) : (tby s).take k = tby s := List.take_of_length_le (by rw [tby_len]; exact h)
theorem or_dg (L H : Nat) (hL : L < 65536) (hH : H < 65536) : bits .or .u32 ((L : Int) * 65536) (H : Int) = ((L * 65536 + H : Nat) : Int) := by
  have e : (L : Int) * 65536 = ((L * 65536 : Nat) : Int) := by omega
  rw [e, u32_or_nat _ _ (by omega) (by omega)]
  have := Nat.shiftLeft_add_eq_or_of_lt (i := 16) (b := H) (by omega) L
  rw [Nat.shiftLeft_eq] at this
  rw [show 2 ^ 16 = 65536 from rfl] at this
  rw [this]
end Go.Proofs.Ythfggejdeodinaa
