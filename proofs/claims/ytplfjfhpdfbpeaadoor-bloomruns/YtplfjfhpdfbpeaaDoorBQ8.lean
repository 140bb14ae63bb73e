/- bloom: Encode. -/
import Derived.Test.YtplfjfhpdfbpeaaDoorBQ4
import Derived.Test.YtplfjfhpdfbpeaaDoorBM2
import Derived.Test.YtplfjfhpdfbpeaaDoorW2P
import Derived.Test.YtplfjfhpdfbpeaaDoorM14
import Derived.RegionTactic
namespace Go.Proofs.YtplfjfhpdfbpeaaDoor
open Go.RowKit
set_option linter.unusedSimpArgs false
set_option linter.unusedVariables false
/-- The listed mark. -/
def mkC : Array Value := #[.int .u8 77, .int .u8 66, .int .u8 70, .int .u8 49]
def MkS (w : World) : Prop := ∀ t v, mkC[t]? = some v → w.cell? ⟨0, t, none⟩ = some v
theorem MkS.lt {w : World} (h : MkS w) : 0 < w.heap.size := World.block_lt_of_cell? w _ (h 0 _ rfl)
theorem MkS.grown {w w' : World} {r : Option Nat} (h : MkS w) (hg : w.grownBy w' r) (hr : r ≠ some 0) : MkS w' := fun t v ht => hg.cell (h t v ht) (fun e => hr e.symm)
theorem MkS.below {w w' : World} (h : MkS w) (hb : Below w.heap.size w w') : MkS w' := h.grown (gr_of_below hb none) (by simp)
def mkT14 : ByteArray := ⟨#[77, 66, 70, 49]⟩
theorem slice4 (g : Nat) (w : World) : (Instr.sliceAt 74 (.pointer (some ⟨g, 0, none⟩)) none none none).run Tryd.prog w = .ok (.slice (some ⟨g, 0, none⟩) 4 4) w := by
  have e1 : Tryd.prog.elem 74 = 5 := by kernel_rfl
  have e2 : Tryd.prog.arrayLen 74 = 4 := by kernel_rfl
  have e0 : Tryd.prog.underlying 74 = some (.array (Tryd.prog.arrayLen 74) (Tryd.prog.elem 74)) := by kernel_rfl
  rw [run_sliceAt_array_all (P := Tryd.prog) w 74 ⟨g, 0, none⟩ e0]
  rw [e1, e2, sizeOf_u8']
  simp [slicedAt, Result.andThen, Addr.add]
theorem conv_row14 (g cap : Nat) (s : List UInt8) (w : World) (h : ∀ j, j < s.length → w.cell? ⟨g, j, none⟩ = some (.int .u8 ((s.getD j 0).toNat : Int))) :
    (convert 64 9 (.slice (some ⟨g, 0, none⟩) s.length cap)).run Tryd.prog w = .ok (.string ⟨s.toArray⟩) w := by
  refine run_convert_bytes_back w 64 9 5 ⟨g, 0, none⟩ cap s Tryd.underlying64 Tryd.underlying5 Tryd.underlying9 (fun j hj => ?_)
  rw [WideShapes.add_plain, Nat.zero_add, h j hj, List.getD, List.getElem?_eq_getElem hj]; rfl
theorem conv_mk (g : Nat) (w : World) (h : Bk w g mkC 74) : (convert 64 9 (.slice (some ⟨g, 0, none⟩) 4 4)).run Tryd.prog w = .ok (.string mkT14) w := by
  refine conv_row14 g 4 [77, 66, 70, 49] w (fun j hj => ?_)
  simp only [List.length_cons, List.length_nil] at hj
  have h4 : j = 0 ∨ j = 1 ∨ j = 2 ∨ j = 3 := by omega
  rw [h.cell]
  rcases h4 with rfl | rfl | rfl | rfl <;> rfl
/-- While a filter is written. -/
structure EnC (w : World) (f g n k : Nat) (s : List UInt8) (W : World) : Prop where
  fil : FlS W f g n k s
  mrk : Bk W w.heap.size mkC 74
  bel : Below w.heap.size w W
set_option maxHeartbeats 1000000 in
set_option maxRecDepth 100000 in
theorem enc_any14 (f g n k : Nat) (s : List UInt8) (w : World) (h : FlS w f g n k s) (hm : MkS w) :
    Calls Tryd.prog 15 #[.pointer (some ⟨f, 0, none⟩)] w fun e w' => e = .returned (.tuple #[.string (enF n k s), .int .i64 0]) ∧ Below w.heap.size w w' := by
  have hfl := h.lt
  have h1 := okF_pos h.ok
  have h2 := okF_le h.ok
  have h3 := h.ok.2.2
  have hl := h.len
  have m0 : w.cell? ⟨0, 0, none⟩ = some (.int .u8 77) := hm 0 _ rfl
  have m1 : w.cell? ⟨0, 1, none⟩ = some (.int .u8 66) := hm 1 _ rfl
  have m2 : w.cell? ⟨0, 2, none⟩ = some (.int .u8 70) := hm 2 _ rfl
  have m3 : w.cell? ⟨0, 3, none⟩ = some (.int .u8 49) := hm 3 _ rfl
  have hml := hm.lt
  have HC : Hid (EnC w f g n k s (w.alloc (.cells mkC 74)).drew) := by
    have hb : Below w.heap.size w (w.alloc (.cells mkC 74)).drew := ((Below.refl _ _).alloc (Nat.le_refl _) _).drew
    exact ⟨h.below hb, bk_new _ _ _, hb⟩
  obtain ⟨S1, hS1⟩ : ∃ S : ByteArray, mkT14 ++ sb (encS n) = S := ⟨_, rfl⟩
  obtain ⟨S2, hS2⟩ : ∃ S : ByteArray, S1 ++ sb (encS k) = S := ⟨_, rfl⟩
  have z1 : S1.size ≤ 14 := by
    rw [← hS1, ByteArray.size_append, sb_size, encS_length]
    have := slen_le n (by omega)
    show 4 + _ ≤ _
    omega
  have z2 : S2.size ≤ 24 := by
    rw [← hS2, ByteArray.size_append, sb_size, encS_length]
    have := slen_le k (by omega)
    omega
  have HP1 : Hid (∀ u, EnC w f g n k s u → Calls Tryd.prog 37 #[.string mkT14, .int .u64 (n : Int)] u fun e w' => e = .returned (.string S1) ∧ EnC w f g n k s w') := fun u hu => by
    refine (put_any mkT14 (n : Int) u (by omega) (by omega) (by show 4 ≤ _; omega)).mono ?_
    rintro e w1 ⟨rfl, hb⟩
    exact ⟨by rw [← hS1]; rfl, hu.fil.below hb, hu.mrk.below hb hu.mrk.lt, hu.bel.trans (hb.mono hu.bel.size)⟩
  have HP2 : Hid (∀ u, EnC w f g n k s u → Calls Tryd.prog 37 #[.string S1, .int .u64 (k : Int)] u fun e w' => e = .returned (.string S2) ∧ Hid (EnC w f g n k s w') ∧ ∃ c, w'.cell? ⟨f, 2, none⟩ = some (.slice (some ⟨g, 0, none⟩) s.length c) ∧ (convert 64 9 (.slice (some ⟨g, 0, none⟩) s.length c)).run Tryd.prog w' = .ok (.string ⟨s.toArray⟩) w') := fun u hu => by
    refine (put_any S1 (k : Int) u (by omega) (by omega) (by omega)).mono ?_
    rintro e w1 ⟨rfl, hb⟩
    obtain ⟨c, ht, _⟩ := (hu.fil.below hb).top
    exact ⟨by rw [← hS2]; rfl, ⟨hu.fil.below hb, hu.mrk.below hb hu.mrk.lt, hu.bel.trans (hb.mono hu.bel.size)⟩, c, by rw [ht.cell]; rfl, conv_row14 g c s w1 (fun j hj => (hu.fil.below hb).row.cell j hj)⟩
  have HR : Hid (S2 ++ (⟨s.toArray⟩ : ByteArray) = enF n k s) := by show _ = _; rw [← hS2, ← hS1]; rfl
  obtain ⟨B, hB⟩ : ∃ B : ByteArray, (⟨s.toArray⟩ : ByteArray) = B := ⟨_, rfl⟩
  obtain ⟨L, hL⟩ : ∃ L, s.length = L := ⟨_, rfl⟩
  have zB : B.size ≤ 2097152 := by
    rw [← hB]
    show s.toArray.size ≤ _
    rw [List.size_toArray]
    omega
  rw [hB] at HR
  rw [hB, hL] at HP2
  have hwr : IntKind.u64.wrap (n : Int) = (n : Int) := by rw [IntKind.wrap_u64]; omega
  clear h hm hS1 hS2 hB hL hl
  go_enter Tryd.func15, Tryd.ntmps15
  go_wp2
  refine region_class10 (EnC w f g n k s) (by kernel_rfl) (by kernel_rfl) HC.out ?_
  try simp only [Act.put, List.setIfInBounds_toArray, List.set_cons_zero, List.set_cons_succ]
  repeat (first
    | go_big_quiet_skip
    | (go_big_quiet_want
       first
         | (refine quiet_one 3 _ rfl f 0 (.int .i64 (n : Int)) rfl (fun w => by kernel_rfl) (fun W h => h.fil.cells.1) ?_; go_big_quiet_on; simp only [Act.put, List.setIfInBounds_toArray, List.set_cons_zero, List.set_cons_succ])
         | (refine quiet_call10 (.string S1) 37 #[.string mkT14, .int .u64 (n : Int)] ?_ ?_ ?_; (focus (intro W hW; go_simp; done)); (focus (intro W hW; exact HP1.out W hW)); go_big_quiet_on; simp only [Act.put, List.setIfInBounds_toArray, List.set_cons_zero, List.set_cons_succ])
         | (refine quiet_val10 (.slice (some ⟨w.heap.size, 0, none⟩) 4 4) ?_ ?_; (focus (intro W hW; have hq := slice4 w.heap.size W; go_simp; done)); go_big_quiet_on; simp only [Act.put, List.setIfInBounds_toArray, List.set_cons_zero, List.set_cons_succ])
         | (refine quiet_val10 (.string mkT14) ?_ ?_; (focus (intro W hW; have hq := conv_mk w.heap.size W hW.mrk; go_simp; done)); go_big_quiet_on; simp only [Act.put, List.setIfInBounds_toArray, List.set_cons_zero, List.set_cons_succ])
         | (refine quiet_val10 (.int .u64 (n : Int)) ?_ ?_; (focus (intro W hW; go_simp; done)); go_big_quiet_on; simp only [Act.put, List.setIfInBounds_toArray, List.set_cons_zero, List.set_cons_succ])
         | (go_big_quiet_op; go_big_quiet_on)
         | (refine quiet_val10 (.pointer (some ⟨f, 0, none⟩)) ?_ ?_; (focus (intro W hW; go_simp; done)); go_big_quiet_on; simp only [Act.put, List.setIfInBounds_toArray, List.set_cons_zero, List.set_cons_succ])))
  refine wpQuiet_nil ?_
  intro w1 hw1
  have HC1 : Hid (EnC w f g n k s w1) := hw1
  have d1 := hw1.fil.cells.2
  clear hw1
  go_wp2_with fail
  refine (HP2.out _ HC1.out).mono ?_
  rintro e w2 ⟨rfl, HC2, c, c2, cv⟩
  go_wp2
  go_ret2
  refine ⟨?_, HC2.out.bel⟩
  show Ending.returned (.tuple #[.string (S2 ++ B), .int .i64 0]) = _
  rw [HR.out]
end Go.Proofs.YtplfjfhpdfbpeaaDoor
