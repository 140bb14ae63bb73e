/- strings.Builder; names.Show and names.Read at nothing, Read at a backslash. -/
import Derived.Test.YtobecfeelamlmaaDoorN1
import Derived.Shelf.Strings.BuilderK
import Derived.OwnWalk
namespace Go.Proofs.YtobecfeelamlmaaDoor
open Go.RowKit
set_option linter.unusedSimpArgs false
set_option linter.unusedVariables false
/-- A builder that holds these bytes. -/
abbrev Bld (B b : Nat) (l : List UInt8) (w : World) : Prop := Lib.IsBuilderF 39 5 B b (Lib.byteCells l) w
abbrev Oth (b : Nat) (w w' : World) : Prop := Lib.OthersKept 5 (some b) w w'
theorem str_cells (s : ByteArray) : Lib.strCells s = Lib.byteCells s.data.toList := by
  unfold Lib.strCells Lib.byteCells
  rfl
theorem writeS (B b : Nat) (l : List UInt8) (s : ByteArray) (w : World) (h : Bld B b l w) (hlen : l.length + s.size ≤ 140737488355328) (hBw : B ≤ w.heap.size) :
    Calls Tryd.prog 16 #[.pointer (some ⟨b, 0, none⟩), .string s] w fun e w' => e = .returned (.tuple #[.int .i64 s.size, .nilIface]) ∧ Bld B b (l ++ s.data.toList) w' ∧ Below B w w' ∧ Oth b w w' :=
  (Any.Builder_WriteString_k lays166 extra166 B b (Lib.byteCells l) s w h (by rw [Lib.byteCells_length]; exact hlen) hBw).mono fun e w' ⟨he, h1, h2, h3⟩ =>
    ⟨he, by rw [Bld, Lib.byteCells_append, ← str_cells]; exact Or.inr h1, h2, h3⟩
theorem writeB (B b : Nat) (l : List UInt8) (c : UInt8) (w : World) (h : Bld B b l w) (hlen : l.length + 1 ≤ 140737488355328) (hBw : B ≤ w.heap.size) :
    Calls Tryd.prog 26 #[.pointer (some ⟨b, 0, none⟩), .int .u8 (c.toNat : Int)] w fun e w' => e = .returned .nilIface ∧ Bld B b (l ++ [c]) w' ∧ Below B w w' ∧ Oth b w w' :=
  (Any.Builder_WriteByte_k lays167 extra167 B b (Lib.byteCells l) (c.toNat : Int) w h (by rw [Lib.byteCells_length]; exact hlen) hBw).mono fun e w' ⟨he, h1, h2, h3⟩ =>
    ⟨he, by rw [Bld, Lib.byteCells_append]; exact Or.inr h1, h2, h3⟩
theorem buildS (B b : Nat) (l : List UInt8) (w : World) (h : Bld B b l w) (hBw : B ≤ w.heap.size) :
    Calls Tryd.prog 17 #[.pointer (some ⟨b, 0, none⟩)] w fun e w' => e = .returned (.string ⟨l.toArray⟩) ∧ Bld B b l w' ∧ Below B w w' ∧ Oth b w w' :=
  Any.Builder_String_any_k lays169 extra169 B b l w h hBw
theorem fresh_bld (w : World) : Bld w.heap.size w.heap.size [] (w.alloc (.cells #[.pointer none, .slice none 0 0] 39)) := Lib.IsBuilderF.of (Lib.fresh_isBuilder _ _ w)
set_option maxRecDepth 100000 in
theorem show_nil (w : World) : Calls Tryd.prog 9 #[.string ⟨#[]⟩] w fun e w' => e = .returned (.string ⟨#[]⟩) ∧ Below w.heap.size w w' := by
  go_enter Tryd.func9, Tryd.ntmps9
  go_wp2_with fail
  go_loopw [] (fun wr => Hid (Bld w.heap.size w.heap.size [] wr) ∧ wr.heap[w.heap.size + 1]? = some (.stringIter ⟨#[]⟩ 0) ∧ Hid (Below w.heap.size w wr)) (fun _ => 0)
  case atStart =>
    refine ⟨(fresh_bld w).alloc _, ?_, ((Below.refl _ w).alloc (Nat.le_refl _) _).alloc (by simp) _⟩
    have := World.iter_heap (w.alloc (.cells #[.pointer none, .slice none 0 0] 39)) ⟨#[]⟩ 0
    simpa using this
  case round =>
    obtain ⟨H1, hit, HB⟩ := hrel
    have hnx : ∀ ty, (Instr.next (.pointer (some ⟨w.heap.size + 1, 0, none⟩)) true ty).run Tryd.prog wr = _ := fun ty => Lib.run_next_end_at wr (w.heap.size + 1) ⟨#[]⟩ 0 ty hit (by decide)
    have hz : w.heap.size ≤ wr.heap.size := HB.out.size
    go_wp2_with (go_at_call 17; refine (buildS w.heap.size w.heap.size [] wr H1.out hz).mono ?_; rintro e w2 ⟨rfl, h2, hb2, _⟩; have HB2 : Hid (Below w.heap.size wr w2) := hb2; clear h2 hb2)
    go_ret
    exact ⟨rfl, HB.out.trans HB2.out⟩
set_option maxRecDepth 100000 in
theorem read_nil (w : World) : Calls Tryd.prog 5 #[.string ⟨#[]⟩] w fun e w' => e = .returned (.tuple #[.string ⟨#[]⟩, .int .i64 0]) ∧ Below w.heap.size w w' := by
  go_enter Tryd.func5, Tryd.ntmps5
  go_wp2_with fail
  go_loopw [5] (fun v wr => v = .string ⟨#[]⟩ ∧ Hid (Bld w.heap.size w.heap.size [] wr) ∧ Hid (Below w.heap.size w wr)) (fun _ _ => 0)
  case atStart => exact ⟨rfl, fresh_bld w, (Below.refl _ w).alloc (Nat.le_refl _) _⟩
  case round =>
    obtain ⟨rfl, H1, HB⟩ := hrel
    have hz : w.heap.size ≤ wr.heap.size := HB.out.size
    go_wp2_with (first
      | (go_at_call 17; refine (buildS w.heap.size w.heap.size [] wr H1.out hz).mono ?_; rintro e w2 ⟨rfl, h2, hb2, _⟩; have HB2 : Hid (Below w.heap.size wr w2) := hb2; have hz2 : w.heap.size ≤ w2.heap.size := (HB.out.trans hb2).size; clear h2 hb2)
      | (go_at_call 9; refine (show_nil w2).mono ?_; rintro e w3 ⟨rfl, hb3⟩; have HB3 : Hid (Below w2.heap.size w2 w3) := hb3; clear hb3))
    go_ret2
    exact ⟨rfl, (HB.out.trans HB2.out).trans (HB3.out.mono hz2)⟩
set_option maxRecDepth 100000 in
theorem take_bs (w : World) : Calls Tryd.prog 15 #[.string ⟨#[92]⟩] w fun e w' => e = .returned (.tuple #[.string ⟨#[]⟩, .string ⟨#[]⟩, .bool false]) ∧ w' = w := by
  have h1 := hasPrefix_any ⟨#[92]⟩ ⟨#[92, 92]⟩ w
  have h2 := hasPrefix_any ⟨#[92]⟩ ⟨#[92, 120]⟩ w
  have h3 := hasPrefix_any ⟨#[92]⟩ ⟨#[92, 117]⟩ w
  rw [show Lib.hasPrefix (⟨#[92]⟩ : ByteArray).data.toList (⟨#[92, 92]⟩ : ByteArray).data.toList = false from rfl] at h1
  rw [show Lib.hasPrefix (⟨#[92]⟩ : ByteArray).data.toList (⟨#[92, 120]⟩ : ByteArray).data.toList = false from rfl] at h2
  rw [show Lib.hasPrefix (⟨#[92]⟩ : ByteArray).data.toList (⟨#[92, 117]⟩ : ByteArray).data.toList = false from rfl] at h3
  go_enter Tryd.func15, Tryd.ntmps15
  go_wp2_with fail
  refine h1.mono ?_
  rintro e w1 ⟨rfl, rfl⟩
  go_wp2_with fail
  refine h2.mono ?_
  rintro e w1 ⟨rfl, rfl⟩
  go_wp2_with fail
  refine h3.mono ?_
  rintro e w1 ⟨rfl, rfl⟩
  go_wp2
  go_ret3
  exact ⟨rfl, rfl⟩
set_option maxRecDepth 100000 in
theorem read_bs (w : World) : Calls Tryd.prog 5 #[.string ⟨#[92]⟩] w fun e w' => e = .returned (.tuple #[.string ⟨#[]⟩, .int .i64 4]) ∧ Below w.heap.size w w' := by
  go_enter Tryd.func5, Tryd.ntmps5
  go_wp2_with fail
  go_loopw [5] (fun v wr => v = .string ⟨#[92]⟩ ∧ Hid (Below w.heap.size w wr)) (fun _ _ => 0)
  case atStart => exact ⟨rfl, (Below.refl _ w).alloc (Nat.le_refl _) _⟩
  case round =>
    obtain ⟨rfl, HB⟩ := hrel
    go_wp2_with (go_at_call 15; refine (take_bs wr).mono ?_; rintro e w2 ⟨rfl, rfl⟩)
    go_ret2
    exact ⟨rfl, HB.out⟩
end Go.Proofs.YtobecfeelamlmaaDoor
