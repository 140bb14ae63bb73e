/- The walks of package roll: Add, Digest. -/
import Derived.Test.YtdinhnpobdfnoaaRows
import Derived.WalkKit
import Derived.WalkSpells
import Derived.WalkLawsBesides
import Derived.Handy
import Derived.Deep.QuietTactic
import Derived.BigQuiet
import Derived.RegionTactic
import Derived.Laws.BitsAllLaws
import Derived.Test.YtdinhnpobdfnoaaM0
import Derived.Test.YtdinhnpobdfnoaaK20
namespace Go.Proofs.Ytdinhnpobdfnoaa
open Go.RowKit
set_option linter.unusedSimpArgs false
set_option linter.unusedVariables false
theorem ret_r {k : IntKind} {a b : Int} (h : a = b) : Ending.returned (.int k a) = .returned (.int k b) := by rw [h]
/-- A roll's cells: the ring, the oldest one's place, both sums. -/
def rcl (l : List UInt8) : Array Value := ((List.range 64).map (fun j => Value.int .u8 (rgW l j : Int)) ++ [Value.int .i64 ((l.length % 64 : Nat) : Int), Value.int .u16 (lo6 l : Int), Value.int .u16 (hi6 l : Int)]).toArray
theorem rcl_size (l : List UInt8) : (rcl l).size = 67 := by simp [rcl]
theorem rcl_ring (l : List UInt8) (j : Nat) (h : j < 64) : (rcl l)[j]? = some (.int .u8 (rgW l j : Int)) := by
  unfold rcl
  rw [List.getElem?_toArray, List.getElem?_append_left (by simpa using h), List.getElem?_map, List.getElem?_range h]; rfl
theorem rcl_old (l : List UInt8) : (rcl l)[64]? = some (.int .i64 ((l.length % 64 : Nat) : Int)) := by
  unfold rcl
  rw [List.getElem?_toArray, List.getElem?_append_right (by simp)]; simp
theorem rcl_lo (l : List UInt8) : (rcl l)[65]? = some (.int .u16 (lo6 l : Int)) := by
  unfold rcl
  rw [List.getElem?_toArray, List.getElem?_append_right (by simp)]; simp
theorem rcl_hi (l : List UInt8) : (rcl l)[66]? = some (.int .u16 (hi6 l : Int)) := by
  unfold rcl
  rw [List.getElem?_toArray, List.getElem?_append_right (by simp)]; simp
theorem rcl_snoc (l : List UInt8) (b : UInt8) (x1 x2 x3 x4 : Value) : (((((((rcl l).setIfInBounds 66 x1).setIfInBounds 66 (.int .u16 (hi6 (l ++ [b]) : Int))).setIfInBounds 65 x2).setIfInBounds 65 (.int .u16 (lo6 (l ++ [b]) : Int))).setIfInBounds (l.length % 64) (.int .u8 (b.toNat : Int))).setIfInBounds 64 x3).setIfInBounds 64 (.int .i64 (((l.length + 1) % 64 : Nat) : Int)) = rcl (l ++ [b]) := by
  have hm : l.length % 64 < 64 := Nat.mod_lt _ (by omega)
  apply Array.ext_getElem?
  intro i
  simp only [Array.getElem?_setIfInBounds, Array.size_setIfInBounds, rcl_size]
  by_cases h6 : i = 64
  · subst h6; rw [rcl_old (l ++ [b]), List.length_append, List.length_singleton]; simp
  · rw [if_neg (by omega), if_neg (by omega)]
    by_cases hr : i < 64
    · rw [rcl_ring (l ++ [b]) i hr, rgW_snoc l b i hr]
      by_cases e : l.length % 64 = i
      · rw [if_pos e, if_pos e, if_pos (by omega)]
      · rw [if_neg e, if_neg e, if_neg (by omega), if_neg (by omega), if_neg (by omega), if_neg (by omega), rcl_ring l i hr]
    · rw [if_neg (by omega)]
      by_cases h5 : i = 65
      · subst h5; rw [rcl_lo (l ++ [b])]; simp
      · rw [if_neg (by omega), if_neg (by omega)]
        by_cases h7 : i = 66
        · subst h7; rw [rcl_hi (l ++ [b])]; simp
        · rw [if_neg (by omega), if_neg (by omega), Array.getElem?_eq_none (by rw [rcl_size]; omega), Array.getElem?_eq_none (by rw [rcl_size]; omega)]
theorem wrap16 (n : Int) : IntKind.u16.wrap n = n % 65536 := by simp [IntKind.wrap, IntKind.bits, IntKind.signed]
theorem drew3 {w : World} {b : Nat} {C : Array Value} {T : TypeId} (h : Bk w b C T) : Bk w.drew.drew.drew b C T := h
/-- A roll in memory that has taken l. -/
abbrev Rll (w : World) (g : Nat) (l : List UInt8) : Prop := Bk w g (rcl l) 113
set_option maxHeartbeats 1000000 in
set_option maxRecDepth 100000 in
theorem add_any (l : List UInt8) (x : UInt8) (g : Nat) (w : World) (h : Rll w g l) :
    Calls Try.prog 41 #[.pointer (some ⟨g, 0, none⟩), .int .u8 (x.toNat : Int)] w fun e w' => e = .returned (.tuple #[]) ∧ Rll w' g (l ++ [x]) ∧ w.grownBy w' (some g) := by
  have hx := x.toNat_lt
  have c1 := h.cell 66
  have c2 := h.cell 65
  have c3 := h.cell 64
  rw [rcl_hi] at c1
  rw [rcl_lo] at c2
  rw [rcl_old] at c3
  have hf := fun j => h.frozen j
  have c4 := h.cell (l.length % 64)
  rw [rcl_ring l _ (Nat.mod_lt _ (by omega)), rgW_at] at c4
  have hL := lo6_lt l
  have hH := hi6_lt l
  have hW := wn_lt l 0
  obtain ⟨o, ho⟩ : ∃ o, l.length % 64 = o := ⟨_, rfl⟩
  have ho64 : o < 64 := by omega
  rw [ho] at c3 c4
  have HB : Hid (Rll w g l) := h
  have HS := lo6_snoc l x
  have HT := hi6_snoc l x
  have HO : Hid (l.length % 64 = o) := ho
  have H1 : Hid ((lo6 (l ++ [x]) : Int) = ((lo6 l : Int) + x.toNat - wn l 0) % 65536) := HS
  have H2 : Hid ((hi6 (l ++ [x]) : Int) = ((hi6 l : Int) - lo6 l + 64 * ((x.toNat : Int) + 31)) % 65536) := HT
  obtain ⟨H, hHe⟩ : ∃ H, hi6 l = H := ⟨_, rfl⟩
  obtain ⟨L, hLe⟩ : ∃ L, lo6 l = L := ⟨_, rfl⟩
  obtain ⟨q, hqe⟩ : ∃ q, wn l 0 = q := ⟨_, rfl⟩
  rw [hHe, hLe] at H2
  rw [hLe, hqe] at H1
  rw [hHe] at c1 hH
  rw [hLe] at c2 hL
  rw [hqe] at c4 hW
  clear h HS HT ho hHe hLe hqe
  go_enter Try.func41, Try.ntmps41
  go_wp2
  go_region
  go_wp2
  go_region
  go_wp2
  go_region
  go_wp2
  go_end0
  refine ⟨rfl, ?_, ?_⟩
  · have e := rcl_snoc l x (Value.int IntKind.u16 (IntKind.u16.wrap (↑H - ↑L))) (Value.int IntKind.u16 (IntKind.u16.wrap (↑L + ↑x.toNat))) (Value.int IntKind.i64 (↑o + 1)) (Value.int IntKind.i64 0)
    rw [H1.out, H2.out, HO.out] at e
    rw [wrap16, wrap16] at e
    have e1 : IntKind.u16.wrap (IntKind.u16.wrap ((H : Int) - L) + 64 * ((x.toNat : Int) + 31)) = ((H : Int) - L + 64 * ((x.toNat : Int) + 31)) % 65536 := by rw [wrap16, wrap16]; omega
    have e2 : IntKind.u16.wrap (IntKind.u16.wrap ((L : Int) + x.toNat) - q) = ((L : Int) + x.toNat - q) % 65536 := by rw [wrap16, wrap16]; omega
    have e3 : ((o : Int) + 1) % 64 = (((l.length + 1) % 64 : Nat) : Int) := by have := HO.out; omega
    rw [e1, e2, e3, wrap16, wrap16]
    show Bk _ _ _ _
    rw [← e]
    exact drew3 ((((((((HB.out.set 66 _).set 66 _).set 65 _).set 65 _).set o _).set 64 _).set 64 _))
  · exact Lib.Hx.grownBy_drew (Lib.Hx.grownBy_drew (Lib.Hx.grownBy_drew (Lib.grownBy_setB (Lib.grownBy_setB (Lib.grownBy_setB (Lib.grownBy_setB (Lib.grownBy_setB (Lib.grownBy_setB (Lib.grownBy_setB (World.grownBy.refl _ _) 66 _) 66 _) 65 _) 65 _) o _) 64 _) 64 _)))
theorem add_nil (x : UInt8) (w : World) : Calls Try.prog 41 #[.pointer none, .int .u8 (x.toNat : Int)] w fun e w' => e = .returned (.tuple #[]) ∧ w' = w := by
  go_enter Try.func41, Try.ntmps41
  go_wp2
  refine bodyPost_ret (results_none rfl _ _ _) rfl ?_
  exact ⟨rfl, rfl⟩
/-- A text's bytes. -/
abbrev tby (s : ByteArray) : List UInt8 := s.data.toList
theorem tby_len (s : ByteArray) : (tby s).length = s.size := Array.length_toList
theorem tby_take (s : ByteArray) (k : Nat) (h : k < s.size) : (tby s).take (k + 1) = (tby s).take k ++ [s[k]] := by
  rw [List.take_succ_eq_append_getElem (by rw [tby_len]; exact h)]; rfl
theorem tby_all (s : ByteArray) (k : Nat) (h : s.size ≤ k) : (tby s).take k = tby s := List.take_of_length_le (by rw [tby_len]; exact h)
theorem or_dg (L H : Nat) (hL : L < 65536) (hH : H < 65536) : bits .or .u32 ((L : Int) * 65536) (H : Int) = ((L * 65536 + H : Nat) : Int) := by
  have e : (L : Int) * 65536 = ((L * 65536 : Nat) : Int) := by omega
  rw [e, u32_or_nat _ _ (by omega) (by omega)]
  have := Nat.shiftLeft_add_eq_or_of_lt (i := 16) (b := H) (by omega) L
  rw [Nat.shiftLeft_eq] at this
  rw [show 2 ^ 16 = 65536 from rfl] at this
  rw [this]
set_option maxHeartbeats 1000000 in
theorem digestR_any (l : List UInt8) (g : Nat) (w : World) (h : Rll w g l) :
    Calls Try.prog 45 #[.pointer (some ⟨g, 0, none⟩)] w fun e w' => e = .returned (.int .u32 (dgR l : Int)) ∧ ∃ n, w' = w.drewN n := by
  have c1 := h.cell 66
  have c2 := h.cell 65
  rw [rcl_hi] at c1
  rw [rcl_lo] at c2
  have hL := lo6_lt l
  have hH := hi6_lt l
  have HE := or_dg (lo6 l) (hi6 l) hL hH
  have HE2 : Hid (bits .or .u32 ((lo6 l : Int) * 65536) (hi6 l : Int) = (dgR l : Int)) := HE
  obtain ⟨H, hHe⟩ : ∃ H, hi6 l = H := ⟨_, rfl⟩
  obtain ⟨L, hLe⟩ : ∃ L, lo6 l = L := ⟨_, rfl⟩
  rw [hHe, hLe] at HE2
  rw [hHe] at c1 hH
  rw [hLe] at c2 hL
  clear h HE hHe hLe
  go_enter Try.func45, Try.ntmps45
  go_wp2
  go_quiet (fail)
  go_wp2
  go_ret
  exact ⟨ret_r HE2.out, _, rfl⟩
theorem digestR_nil (w : World) : Calls Try.prog 45 #[.pointer none] w fun e w' => e = .returned (.int .u32 0) ∧ w' = w := by
  go_enter Try.func45, Try.ntmps45
  go_wp2
  go_ret
  exact ⟨rfl, rfl⟩
end Go.Proofs.Ytdinhnpobdfnoaa
