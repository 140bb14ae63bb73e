/- The Go library's public ParseUint at base 16. -/
import Derived.Test.YtobecfeelamlmaaDoorN19
import Derived.Test.YtobecfeelamlmaaDoorN17
import Derived.Lib.BufferWrite
import Derived.Lib.UnsafeStr
import Derived.Lib.IfaceEq
import Derived.Lib.AtoiErrMem
import Derived.Lib.Hide
import Derived.Laws.MakeOwn
import Derived.BigCall
import Derived.BigGuard
import Derived.RegionTactic
import Derived.Deep.RegionWith
namespace Go.Proofs.YtobecfeelamlmaaDoor
open Go.RowKit
set_option linter.unusedSimpArgs false
set_option linter.unusedVariables false
/-- The listed errors of strconv: some value of an interface lies in each. -/
def Er (w : World) : Prop := (∃ ev, w.cell? ⟨3, 0, none⟩ = some ev ∧ ∃ te pe, ev = .iface te pe) ∧ (∃ ev, w.cell? ⟨4, 0, none⟩ = some ev ∧ ∃ te pe, ev = .iface te pe)
theorem Er.below {w w' : World} {b : Nat} (h : Er w) (hb : Below b w w') (hS : 3 < b) (hR : 4 < b) : Er w' := by
  obtain ⟨⟨a, h1, h2⟩, c, h3, h4⟩ := h
  exact ⟨⟨a, (hb.cell (show (⟨3, 0, none⟩ : Addr).block < b from hS)).trans h1, h2⟩, c, (hb.cell (show (⟨4, 0, none⟩ : Addr).block < b from hR)).trans h3, h4⟩
theorem Er.lt {w : World} (h : Er w) : 3 < w.heap.size ∧ 4 < w.heap.size := by
  obtain ⟨⟨a, h1, h2⟩, c, h3, h4⟩ := h
  exact ⟨Lib.lt_of_cell h1, Lib.lt_of_cell h3⟩
theorem Er.keep {w w' : World} (h : Er w) (hb : Below w.heap.size w w') : Er w' := h.below hb h.lt.1 h.lt.2
set_option maxHeartbeats 4000000 in
set_option maxRecDepth 100000 in
theorem clone_any (s : ByteArray) (w : World) (hlim : s.size ≤ 281474976710656) :
    Calls Tryd.prog 79 #[.string s] w fun e w' => e = .returned (.string s) ∧ Below w.heap.size w w' := by
  by_cases h0 : s.size = 0
  · have hs : s = ⟨#[]⟩ := by
      apply ByteArray.ext
      exact Array.eq_empty_of_size_eq_zero h0
    subst hs
    go_enter Tryd.func79, Tryd.ntmps79
    go_wp2
    go_ret
    exact ⟨rfl, Below.refl _ _⟩
  · obtain ⟨i0, hi, hz0, hz1, hz2⟩ := info_parts inf_u8
    have hinfo : (Tryd.prog.info? 5).map (·.size) = some 1 := by rw [hi]; simp [hz1]
    have hco : Tryd.prog.cellsOf 5 = 1 := by simp [Program.cellsOf, hi, hz1]
    obtain ⟨M, hM⟩ : ∃ M, M = madeCells (Value.int .u8 0).cells (((s.size : Nat) : Int).toNat * i0.size) := ⟨_, rfl⟩
    have hMs : M.size = s.size := by rw [hM, size_madeCells, hz1]; simp
    have hmk : ∀ W : World, (Instr.makeSlice 37 (.int .i64 (s.size : Int)) (.int .i64 (s.size : Int))).run Tryd.prog W = .ok (.slice (some ⟨W.heap.size, 0, none⟩) s.size s.size) (W.alloc (.cells M 5)) := fun W => by
      have h := run_make (P := Tryd.prog) W 37 5 i0 (.int .u8 0) Tryd.underlying37 hi hz0 .i64 .i64 (s.size : Int) (s.size : Int) (by omega) (by omega) (by rw [hz2]; omega) (by omega)
      rw [← hM] at h
      simpa using h
    clear hM
    have hcp := Lib.run_copy_row_string (P := Tryd.prog) (w.alloc (.cells M 5)) 37 9 3 5 w.heap.size 0 s.size s.size s M 5 Tryd.underlying37 hinfo (heap_alloc_new w _) (Nat.le_refl _) (by omega)
    obtain ⟨Y, hY⟩ : ∃ Y, Y = (M.toList.take 0 ++ Lib.byteCells s.data.toList ++ M.toList.drop (0 + s.size)).toArray := ⟨_, rfl⟩
    rw [← hY] at hcp
    have hYl : Y.toList = Lib.byteCells s.data.toList := by
      rw [hY, List.toList_toArray, List.take_zero, List.nil_append, List.drop_of_length_le (by rw [Array.length_toList]; omega), List.append_nil]
    have hYs : Y.size = s.size := by rw [← Array.length_toList, hYl, Lib.byteCells_length, ← Lib.size_eq]
    have hgY : ((w.alloc (.cells M 5)).setRow w.heap.size Y).heap[w.heap.size]? = some (.cells Y 5 (0, 0)) := setRow_heap _ _ M _ 5 (0, 0) (heap_alloc_new w _)
    have hne : s.data.toList ≠ [] := fun e => h0 (by rw [Lib.size_eq, e]; rfl)
    have hUS := Lib.run_unsafeString_row (P := Tryd.prog) ((w.alloc (.cells M 5)).setRow w.heap.size Y) 72 3 9 5 Tryd.underlying72 hco w.heap.size Y.size (by unfold World.shape?; rw [hgY]) s.data.toList hne (by rw [← Lib.size_eq]; omega) (by rw [← Lib.size_eq]; omega)
      (fun j x hx => Lib.cells_of_row hgY Y.size j _ (by rw [List.take_of_length_le (by rw [Array.length_toList]; exact Nat.le_refl _), hYl]; simp [Lib.byteCells, hx]))
    rw [← Lib.size_eq] at hUS
    clear hY
    go_enter Tryd.func79, Tryd.ntmps79
    go_wp2
    go_ret
    have hb1 : Below w.heap.size w (w.alloc (.cells M 5)) := (Below.refl _ w).alloc (Nat.le_refl _) _
    have hb2 : Below w.heap.size (w.alloc (.cells M 5)) ((w.alloc (.cells M 5)).setRow w.heap.size Y) := ⟨rfl, rfl, rfl, by simp, fun k hk => setRow_other _ _ _ _ (by omega)⟩
    exact ⟨rfl, Lib.below_freeze (hb1.trans hb2) (p := ⟨w.heap.size, 0, none⟩) (Nat.le_refl _) _⟩
set_option maxHeartbeats 6400000 in
set_option maxRecDepth 100000 in
theorem synErr (fn s : ByteArray) (w : World) (hlim : s.size ≤ 281474976710656) (hE : Er w) :
    Calls Tryd.prog 66 #[.string fn, .string s] w fun e w' => ∃ N, e = .returned (.pointer (some ⟨N, 0, none⟩)) ∧ Below w.heap.size w w' := by
  obtain ⟨⟨ev, hv, te, pe, rfl⟩, _⟩ := hE
  have hG : 3 < w.heap.size := Lib.lt_of_cell hv
  have hvd : w.drew.cell? ⟨3, 0, none⟩ = some _ := hv
  go_enter Tryd.func66, Tryd.ntmps66
  go_wp2
  go_region_with (
      go_at_call 79
      refine (clone_any s _ hlim).mono ?_
      rintro e w2 ⟨rfl, hbel⟩
      have hv2 : w2.cell? ⟨3, 0, none⟩ = some _ := (hbel.cell (show (⟨3, 0, none⟩ : Addr).block < w.drew.heap.size from hG)).trans hvd)
  all_goals (
    go_wp2
    go_ret
    have hs2 : w.heap.size ≤ w2.heap.size := hbel.size
    exact ⟨_, rfl, ((Below.drew (Below.refl _ w)).trans hbel).alloc hs2 _⟩)
set_option maxHeartbeats 6400000 in
set_option maxRecDepth 100000 in
theorem rngErr (fn s : ByteArray) (w : World) (hlim : s.size ≤ 281474976710656) (hE : Er w) :
    Calls Tryd.prog 67 #[.string fn, .string s] w fun e w' => ∃ N, e = .returned (.pointer (some ⟨N, 0, none⟩)) ∧ Below w.heap.size w w' := by
  obtain ⟨_, ev, hv, te, pe, rfl⟩ := hE
  have hG : 4 < w.heap.size := Lib.lt_of_cell hv
  have hvd : w.drew.cell? ⟨4, 0, none⟩ = some _ := hv
  go_enter Tryd.func67, Tryd.ntmps67
  go_wp2
  go_region_with (
      go_at_call 79
      refine (clone_any s _ hlim).mono ?_
      rintro e w2 ⟨rfl, hbel⟩
      have hv2 : w2.cell? ⟨4, 0, none⟩ = some _ := (hbel.cell (show (⟨4, 0, none⟩ : Addr).block < w.drew.heap.size from hG)).trans hvd)
  all_goals (
    go_wp2
    go_ret
    have hs2 : w.heap.size ≤ w2.heap.size := hbel.size
    exact ⟨_, rfl, ((Below.drew (Below.refl _ w)).trans hbel).alloc hs2 _⟩)
set_option maxHeartbeats 4000000 in
set_option maxRecDepth 100000 in
theorem toErr (fn s : ByteArray) (base bits c : Int) (hc : c = 1 ∨ c = 2) (w : World) (hlim : s.size ≤ 281474976710656) (hE : Er w) :
    Calls Tryd.prog 51 #[.string fn, .string s, .int .i64 base, .int .i64 bits, .iface 96 (.int .i64 c)] w fun e w' => ∃ N, e = .returned (.iface 98 (.pointer (some ⟨N, 0, none⟩))) ∧ Below w.heap.size w w' := by
  have hcan : Tryd.prog.underlying 96 = some (.int .i64) := Tryd.underlying96
  rcases hc with rfl | rfl
  · have heq : ∀ W, (binOp .eql 43 (.iface 96 (.int .i64 1)) (.iface 96 (.int .i64 2))).run Tryd.prog W = .ok (.bool false) W := fun W => Lib.run_eql_iface_int W 1 2 Tryd.underlying43 (by kernel_rfl) hcan
    have heq2 : ∀ W, (binOp .eql 43 (.iface 96 (.int .i64 1)) (.iface 96 (.int .i64 1))).run Tryd.prog W = .ok (.bool true) W := fun W => Lib.run_eql_iface_int W 1 1 Tryd.underlying43 (by kernel_rfl) hcan
    go_enter Tryd.func51, Tryd.ntmps51
    go_wp2_with (go_at_call 67; refine (rngErr fn s _ hlim hE).mono ?_)
    rintro e w2 ⟨N, rfl, h3⟩
    go_wp2
    go_ret
    exact ⟨N, rfl, h3⟩
  · have heq : ∀ W, (binOp .eql 43 (.iface 96 (.int .i64 2)) (.iface 96 (.int .i64 2))).run Tryd.prog W = .ok (.bool true) W := fun W => Lib.run_eql_iface_int W 2 2 Tryd.underlying43 (by kernel_rfl) hcan
    go_enter Tryd.func51, Tryd.ntmps51
    go_wp2_with (go_at_call 66; refine (synErr fn s _ hlim hE).mono ?_)
    rintro e w2 ⟨N, rfl, h3⟩
    go_wp2
    go_ret
    exact ⟨N, rfl, h3⟩
set_option maxRecDepth 100000 in
theorem iparse_nil (bits : Int) (w : World) :
    Calls Tryd.prog 50 #[.string ⟨#[]⟩, .int .i64 16, .int .i64 bits] w fun e w' => e = .returned (.tuple #[.int .u64 0, .iface 96 (.int .i64 2)]) ∧ w' = w := by
  go_enter Tryd.func50, Tryd.ntmps50
  go_wp2
  go_ret2
  exact ⟨rfl, rfl⟩
/-- The answer of the public one: a number, or some error. -/
def PuB (M : Nat) (s : ByteArray) (e : Ending) : Prop := ∃ (x : Nat) (ev : Value), e = .returned (.tuple #[.int .u64 (x : Int), ev]) ∧ x ≤ M ∧
  ((s.size ≠ 0 ∧ hexP M 0 s.data.toList = some x ∧ ev = .nilIface) ∨ ((s.size = 0 ∨ hexP M 0 s.data.toList = none) ∧ ∃ N, ev = .iface 98 (.pointer (some ⟨N, 0, none⟩))))
set_option maxHeartbeats 1000000 in
set_option maxRecDepth 100000 in
theorem parse_of (M : Nat) (bits : Int) (s : ByteArray) (w : World) (hs : s.size ≤ 4398046511104) (hE : Er w)
    (hi : Calls Tryd.prog 50 #[.string s, .int .i64 16, .int .i64 bits] w fun e w' => ∃ (x : Nat) (ev : Value), e = .returned (.tuple #[.int .u64 (x : Int), ev]) ∧ x ≤ M ∧
      ((s.size ≠ 0 ∧ hexP M 0 s.data.toList = some x ∧ ev = .nilIface) ∨ ((s.size = 0 ∨ hexP M 0 s.data.toList = none) ∧ ∃ c : Int, ev = .iface 96 (.int .i64 c) ∧ (c = 1 ∨ c = 2))) ∧ Below w.heap.size w w') :
    Calls Tryd.prog 35 #[.string s, .int .i64 16, .int .i64 bits] w fun e w' => PuB M s e ∧ Below w.heap.size w w' := by
  go_enter Tryd.func35, Tryd.ntmps35
  go_wp2_with fail
  refine hi.mono ?_
  clear hi
  rintro e w1 ⟨x, ev, rfl, hx, hcase, hb⟩
  rcases hcase with ⟨h1, h2, rfl⟩ | ⟨h1, c, rfl, hc⟩
  · have H2 : Hid (s.size ≠ 0 ∧ hexP M 0 s.data.toList = some x) := ⟨h1, h2⟩
    clear h1 h2
    go_wp2
    go_ret2
    exact ⟨⟨x, _, rfl, hx, .inl ⟨H2.out.1, H2.out.2, rfl⟩⟩, hb⟩
  · have H2 : Hid (s.size = 0 ∨ hexP M 0 s.data.toList = none) := h1
    have HE : Hid (Er w1) := hE.keep hb
    clear h1 hE
    have hte := toErr ⟨#[80, 97, 114, 115, 101, 85, 105, 110, 116]⟩ s 16 bits c hc w1 (by omega) HE.out
    go_wp2_with fail
    refine hte.mono ?_
    clear hte
    rintro e w2 ⟨N, rfl, hb2⟩
    go_wp2
    go_ret2
    exact ⟨⟨x, _, rfl, hx, .inr ⟨H2.out, N, rfl⟩⟩, hb.trans (hb2.mono hb.size)⟩
theorem empty_of (s : ByteArray) (h : s.size = 0) : s = ⟨#[]⟩ := by
  apply ByteArray.ext
  exact Array.eq_empty_of_size_eq_zero h
theorem parse32 (s : ByteArray) (w : World) (hs : s.size ≤ 4398046511104) (hE : Er w) :
    Calls Tryd.prog 35 #[.string s, .int .i64 16, .int .i64 32] w fun e w' => PuB 4294967295 s e ∧ Below w.heap.size w w' := by
  refine parse_of 4294967295 32 s w hs hE ?_
  by_cases h0 : s.size = 0
  · obtain rfl := empty_of s h0
    refine (iparse_nil 32 w).mono ?_
    rintro e w1 ⟨rfl, rfl⟩
    exact ⟨0, _, rfl, by omega, .inr ⟨.inl rfl, 2, rfl, .inr rfl⟩, Below.refl _ _⟩
  · refine (iparse32 s w hs (by omega)).mono ?_
    rintro e w1 ⟨⟨x, ev, rfl, hx, hcase⟩, hb⟩
    refine ⟨x, ev, rfl, hx, ?_, hb⟩
    rcases hcase with ⟨h1, h2⟩ | ⟨h1, h2⟩
    · exact .inl ⟨h0, h1, h2⟩
    · exact .inr ⟨.inr h1, h2⟩
theorem parse8 (s : ByteArray) (w : World) (hs : s.size ≤ 4398046511104) (hE : Er w) :
    Calls Tryd.prog 35 #[.string s, .int .i64 16, .int .i64 8] w fun e w' => PuB 255 s e ∧ Below w.heap.size w w' := by
  refine parse_of 255 8 s w hs hE ?_
  by_cases h0 : s.size = 0
  · obtain rfl := empty_of s h0
    refine (iparse_nil 8 w).mono ?_
    rintro e w1 ⟨rfl, rfl⟩
    exact ⟨0, _, rfl, by omega, .inr ⟨.inl rfl, 2, rfl, .inr rfl⟩, Below.refl _ _⟩
  · refine (iparse8 s w hs (by omega)).mono ?_
    rintro e w1 ⟨⟨x, ev, rfl, hx, hcase⟩, hb⟩
    refine ⟨x, ev, rfl, hx, ?_, hb⟩
    rcases hcase with ⟨h1, h2⟩ | ⟨h1, h2⟩
    · exact .inl ⟨h0, h1, h2⟩
    · exact .inr ⟨.inr h1, h2⟩
end Go.Proofs.YtobecfeelamlmaaDoor
