/- attrs.Modes: its closure, a node that is none, letters appended. -/
import Derived.Test.YtjnijcmalnckcaaDoorI12
import Derived.Test.YtjnijcmalnckcaaDoorS0A
import Derived.Maps.AppendAt
import Derived.Deep.RegionHeld3
namespace Go.Proofs.YtjnijcmalnckcaaDoor
open Go.RowKit
set_option linter.unusedSimpArgs false
set_option linter.unusedVariables false
set_option maxHeartbeats 4000000 in
theorem bit_lo (k : Int) (b : Nat) (w : World) (h0 : 0 ≤ k) (h9 : k ≤ 9) (hc : w.cell? ⟨b, 0, none⟩ = some (.int .u32 1023)) : Calls Tryd.prog 40 #[.int .i64 k, .pointer (some ⟨b, 0, none⟩)] w fun e w' => e = .returned (.int .u32 1) ∧ w' = w := by
  have hk : k = 0 ∨ k = 1 ∨ k = 2 ∨ k = 3 ∨ k = 4 ∨ k = 5 ∨ k = 6 ∨ k = 7 ∨ k = 8 ∨ k = 9 := by omega
  rcases hk with rfl | rfl | rfl | rfl | rfl | rfl | rfl | rfl | rfl | rfl
  all_goals
    go_enter Tryd.func40, Tryd.ntmps40
    go_wp2
    go_ret
    exact ⟨rfl, rfl⟩
set_option maxHeartbeats 4000000 in
theorem bit_hi (k : Int) (b : Nat) (w : World) (h0 : 10 ≤ k) (h9 : k ≤ 11) (hc : w.cell? ⟨b, 0, none⟩ = some (.int .u32 1023)) : Calls Tryd.prog 40 #[.int .i64 k, .pointer (some ⟨b, 0, none⟩)] w fun e w' => e = .returned (.int .u32 0) ∧ w' = w := by
  have hk : k = 10 ∨ k = 11 := by omega
  rcases hk with rfl | rfl
  all_goals
    go_enter Tryd.func40, Tryd.ntmps40
    go_wp2
    go_ret
    exact ⟨rfl, rfl⟩
set_option maxRecDepth 100000 in
theorem modes_no (w : World) : Calls Tryd.prog 12 #[.int .u8 4, .int .u32 0] w fun e w' => e = .returned (.tuple #[.string ⟨#[]⟩, .int .i64 1]) ∧ Below w.heap.size w w' := by
  have h := isNode_any 4
  rw [show ndB 4 = false from rfl] at h
  go_enter Tryd.func12, Tryd.ntmps12
  go_wp2_with fail
  refine (h _).mono ?_
  rintro e w1 ⟨rfl, rfl⟩
  go_wp2
  go_ret2
  exact ⟨rfl, (Below.refl _ _).alloc (Nat.le_refl _) _⟩
/-- The listed variable threes. -/
def thc : List Value := [.int .i64 8, .int .i64 7, .int .i64 6, .int .i64 11, .string ⟨#[45, 120, 83, 115]⟩, .int .i64 5, .int .i64 4, .int .i64 3, .int .i64 10, .string ⟨#[45, 120, 83, 115]⟩, .int .i64 2, .int .i64 1, .int .i64 0, .int .i64 9, .string ⟨#[45, 120, 84, 116]⟩]
def Th (w : World) : Prop := 0 < w.heap.size ∧ ∀ j v, thc[j]? = some v → w.cell? ⟨0, j, none⟩ = some v
theorem Th.below {w w' : World} (h : Th w) (hb : Below w.heap.size w w') : Th w' := ⟨Nat.lt_of_lt_of_le h.1 hb.size, fun j v hv => by rw [hb.cell (p := ⟨0, j, none⟩) h.1]; exact h.2 j v hv⟩
theorem inf_u8_10 : (Tryd.prog.info? 5).map (fun i => (i.zero, i.size, i.bytes)) = some (some (.int .u8 0), 1, 1) := by kernel_rfl
/-- Letters as cells. -/
def u8c (l : List UInt8) : List Value := l.map fun x => Value.int .u8 (x.toNat : Int)
theorem tix0 (u : World) : (Instr.index 94 (.agg #[.int .i64 8, .int .i64 7, .int .i64 6, .int .i64 11, .string ⟨#[45, 120, 83, 115]⟩, .int .i64 5, .int .i64 4, .int .i64 3, .int .i64 10, .string ⟨#[45, 120, 83, 115]⟩, .int .i64 2, .int .i64 1, .int .i64 0, .int .i64 9, .string ⟨#[45, 120, 84, 116]⟩]) (.int .i64 0)).run Tryd.prog u = .ok (.agg #[.int .i64 8, .int .i64 7, .int .i64 6, .int .i64 11, .string ⟨#[45, 120, 83, 115]⟩]) u := by kernel_rfl
theorem tix1 (u : World) : (Instr.index 94 (.agg #[.int .i64 8, .int .i64 7, .int .i64 6, .int .i64 11, .string ⟨#[45, 120, 83, 115]⟩, .int .i64 5, .int .i64 4, .int .i64 3, .int .i64 10, .string ⟨#[45, 120, 83, 115]⟩, .int .i64 2, .int .i64 1, .int .i64 0, .int .i64 9, .string ⟨#[45, 120, 84, 116]⟩]) (.int .i64 1)).run Tryd.prog u = .ok (.agg #[.int .i64 5, .int .i64 4, .int .i64 3, .int .i64 10, .string ⟨#[45, 120, 83, 115]⟩]) u := by kernel_rfl
theorem tix2 (u : World) : (Instr.index 94 (.agg #[.int .i64 8, .int .i64 7, .int .i64 6, .int .i64 11, .string ⟨#[45, 120, 83, 115]⟩, .int .i64 5, .int .i64 4, .int .i64 3, .int .i64 10, .string ⟨#[45, 120, 83, 115]⟩, .int .i64 2, .int .i64 1, .int .i64 0, .int .i64 9, .string ⟨#[45, 120, 84, 116]⟩]) (.int .i64 2)).run Tryd.prog u = .ok (.agg #[.int .i64 2, .int .i64 1, .int .i64 0, .int .i64 9, .string ⟨#[45, 120, 84, 116]⟩]) u := by kernel_rfl
def mls (i : Nat) : List UInt8 := [100, 114, 119, 120, 114, 119, 120, 114, 119, 116].take (1 + 3 * i)
theorem mapp (w wr : World) (g cp n : Nat) (l : List UInt8) (c1 c2 c3 : UInt8) (z1 z2 z3 : Int) (y1 : (c1.toNat : Int) = z1) (y2 : (c2.toNat : Int) = z2) (y3 : (c3.toNat : Int) = z3) (hb : Below w.heap.size w wr) (hc : wr.cell? ⟨w.heap.size, 0, none⟩ = some (.int .u32 1023)) (ho : wr.ownsRow (w.heap.size + 1) 5 1 (.slice (some ⟨g, 0, none⟩) n cp) n (u8c l)) (hz : w.heap.size + 1 ≤ wr.heap.size) (hn : n ≤ 100) :
    ∃ g' cp' w7, (Builtin.append_ #[60, 60] 60 #[.slice (some ⟨g, 0, none⟩) n cp, .slice (some ⟨wr.heap.size, 0, none⟩) 3 3]).run Tryd.prog (wr.alloc (.cells #[.int .u8 z1, .int .u8 z2, .int .u8 z3] 5)) = .ok (.slice (some ⟨g', 0, none⟩) (n + 3) cp') w7 ∧
      w7.ownsRow (w.heap.size + 1) 5 1 (.slice (some ⟨g', 0, none⟩) (n + 3) cp') (n + 3) (u8c (l ++ [c1, c2, c3])) ∧ w7.cell? ⟨w.heap.size, 0, none⟩ = some (.int .u32 1023) ∧ Below w.heap.size w w7 ∧ w.heap.size + 1 ≤ w7.heap.size ∧ ∀ b C T, Bk wr b C T → T ≠ 5 → Bk w7 b C T := by
  subst y1 y2 y3
  obtain ⟨i0, hi, hz0, hz1, hz2⟩ := info_parts inf_u8_10
  obtain ⟨v', w7, hrun, hown, hgrow, _, hat⟩ := run_append_own_at (P := Tryd.prog) (w := wr.alloc (.cells #[.int .u8 (c1.toNat : Int), .int .u8 (c2.toNat : Int), .int .u8 (c3.toNat : Int)] 5)) (w.heap.size + 1) 60 60 5 i0 (.int .u8 0) 1 1 Tryd.underlying60 hi hz0 hz1 hz2 rfl (by decide) (.slice (some ⟨g, 0, none⟩) n cp) n (u8c l) (ho.alloc _) ⟨wr.heap.size, 0, none⟩ 3 3 [.int .u8 (c1.toNat : Int), .int .u8 (c2.toNat : Int), .int .u8 (c3.toNat : Int)] rfl (news_list wr #[.int .u8 (c1.toNat : Int), .int .u8 (c2.toNat : Int), .int .u8 (c3.toNat : Int)] _) (by
    intro u hu
    simp at hu
    rcases hu with rfl | rfl | rfl <;> rfl) (by unfold maxLen; omega) (by omega) (by rw [al_size]; omega)
  obtain ⟨g', cp', hv⟩ : ∃ g7 c7, v' = .slice (some ⟨g7, 0, none⟩) (n + 3) c7 := by
    rcases hown.2 with ⟨_, h0⟩ | ⟨g7, c7, cur, h1, _⟩
    · omega
    · exact ⟨g7, c7, h1⟩
  subst hv
  have hblk : ∀ b, (Value.slice (some ⟨g, 0, none⟩) n cp).ownBlock = some b → w.heap.size + 1 ≤ b := fun b hb => (rows_blk ho hb).1
  have hbA : Below w.heap.size w (wr.alloc (.cells #[.int .u8 (c1.toNat : Int), .int .u8 (c2.toNat : Int), .int .u8 (c3.toNat : Int)] 5)) := hb.alloc (by omega) _
  refine ⟨g', cp', w7, hrun, ?_, ?_, rows_bel hbA (by rw [al_size]; omega) (ho.alloc _) (by omega) hgrow, by have := hgrow.size; rw [al_size] at this; omega, fun b C T hb hT => ?_⟩
  · have e : u8c (l ++ [c1, c2, c3]) = u8c l ++ [.int .u8 (c1.toNat : Int), .int .u8 (c2.toNat : Int), .int .u8 (c3.toNat : Int)] := by simp [u8c]
    rw [e]; exact hown
  · have q := cell_blk (j := 0) (hgrow.block w.heap.size (by rw [al_size]; omega) (fun e => by have := hblk _ e.symm; omega))
    rw [q.1, World.cell?_alloc_past _ _ _ (by show w.heap.size < _; omega)]
    exact hc
  · refine (hb.alloc _).grown hgrow (fun e => hT ?_)
    rcases (ho.alloc (.cells #[.int .u8 (c1.toNat : Int), .int .u8 (c2.toNat : Int), .int .u8 (c3.toNat : Int)] 5)).2 with ⟨h1, _⟩ | ⟨g', cap', cur', h1, _, hc', _⟩
    · cases h1
    · cases h1
      simp [Value.ownBlock] at e
      subst e
      have := hb.alloc (.cells #[.int .u8 (c1.toNat : Int), .int .u8 (c2.toNat : Int), .int .u8 (c3.toNat : Int)] 5)
      unfold Bk at this
      rw [hc'] at this
      cases this
      rfl
theorem nums10 (l : List UInt8) : strOfNums (l.map fun b => (b.toNat : Int)) = ⟨l.toArray⟩ := by
  unfold strOfNums
  rw [List.map_map]
  congr 2
  conv => rhs; rw [← List.map_id l]
  apply List.map_congr_left
  intro x _
  simp
theorem conv10 {w : World} {base n : Nat} {v : Value} {l : List UInt8} (h : w.ownsRow base 5 1 v n (u8c l)) :
    (convert 60 9 v).run Tryd.prog w = .ok (.string ⟨l.toArray⟩) w := by
  obtain ⟨hl, h⟩ := h
  have hll : l.length = n := by simpa [u8c] using hl
  rcases h with ⟨rfl, rfl⟩ | ⟨g, cap, cur, rfl, _, hg, hn, _, hc, ht⟩
  · have : l = [] := List.eq_nil_of_length_eq_zero hll
    subst this
    exact run_convert_bytes_nil w 60 5 Tryd.underlying60 Tryd.underlying5 0 0 9 Tryd.underlying9
  · have hbk : Bk w g cur 5 := hg
    have hr := run_convert_bytes_arg w 60 5 Tryd.underlying60 Tryd.underlying5 g 0 n cap (l.map fun x : UInt8 => (x.toNat : Int)) (by simp [hll]) (fun i hi => by
      have q : (u8c l)[i]? = some (.int .u8 ((l.map fun x : UInt8 => (x.toNat : Int)).getD i 0)) := by
        unfold u8c
        rw [List.getElem?_map, List.getD_eq_getElem?_getD, List.getElem?_map, List.getElem?_eq_getElem (by omega)]
        rfl
      rw [← ht, List.getElem?_take, if_pos (by omega), Array.getElem?_toList] at q
      rw [hbk.cell, Nat.zero_add]
      exact q) 9 Tryd.underlying9
    rw [hr, nums10]
end Go.Proofs.YtjnijcmalnckcaaDoor
