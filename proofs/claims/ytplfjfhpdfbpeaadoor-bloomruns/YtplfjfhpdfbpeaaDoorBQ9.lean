/- bloom: Join, Size. -/
import Derived.Test.YtplfjfhpdfbpeaaDoorBQ4
import Derived.Test.YtplfjfhpdfbpeaaDoorBM2
import Derived.Test.YtplfjfhpdfbpeaaDoorM14
import Derived.RegionTactic
namespace Go.Proofs.YtplfjfhpdfbpeaaDoor
open Go.RowKit
set_option linter.unusedSimpArgs false
set_option linter.unusedVariables false
/-- One byte laid anew. -/
theorem FlS.byte {w : World} {f g n k : Nat} {s : List UInt8} (h : FlS w f g n k s) (i : Nat) (hi : i < s.length) (v : UInt8) : FlS (w.setCell ⟨g, i, none⟩ (.int .u8 (v.toNat : Int))) f g n k (s.set i v) ∧ w.grownBy (w.setCell ⟨g, i, none⟩ (.int .u8 (v.toNat : Int))) (some g) := by
  have hg := Lib.grownBy_setB (World.grownBy.refl w (some g)) i (.int .u8 (v.toNat : Int))
  obtain ⟨c, ht, hc⟩ := h.top
  refine ⟨⟨h.ok, by rw [List.length_set]; exact h.len, ⟨c, ?_, by rw [List.length_set]; exact hc⟩, h.row.set i hi _⟩, hg⟩
  rw [List.length_set]
  exact ht.grown hg (by have := h.ne; simp; omega)
/-- Two filters. -/
structure TwF (w : World) (f g n k : Nat) (s : List UInt8) (o q m j : Nat) (t : List UInt8) (W : World) : Prop where
  one : FlS W f g n k s
  two : FlS W o q m j t
  bel : Below w.heap.size w W
set_option maxHeartbeats 1000000 in
set_option maxRecDepth 100000 in
theorem join_no14 (f g n k : Nat) (s : List UInt8) (o q m j : Nat) (t : List UInt8) (w : World) (h1 : FlS w f g n k s) (h2 : FlS w o q m j t) (hne : ¬ (n = m ∧ k = j)) :
    Calls Tryd.prog 14 #[.pointer (some ⟨f, 0, none⟩), .pointer (some ⟨o, 0, none⟩)] w fun e w' => e = .returned (.int .i64 1) ∧ Below w.heap.size w w' := by
  have HT : Hid (TwF w f g n k s o q m j t w.drew) := ⟨h1.below (Below.refl _ _).drew, h2.below (Below.refl _ _).drew, (Below.refl _ _).drew⟩
  clear h1 h2
  by_cases hn : n = m
  · have hk : ¬ k = j := fun e => hne ⟨hn, e⟩
    subst hn
    have k1 : ((k : Int) != (j : Int)) = true := by simp; omega
    clear hne hk
    go_enter Tryd.func14, Tryd.ntmps14
    go_wp2
    refine region_class10 (TwF w f g n k s o q n j t) (by kernel_rfl) (by kernel_rfl) HT.out ?_
    try simp only [Act.put, List.setIfInBounds_toArray, List.set_cons_zero, List.set_cons_succ]
    repeat (first
      | go_big_quiet_skip
      | (go_big_quiet_want
         first
           | (refine quiet_one 3 _ rfl f 0 (.int .i64 (n : Int)) rfl (fun w => by kernel_rfl) (fun W h => h.one.cells.1) ?_; go_big_quiet_on; simp only [Act.put, List.setIfInBounds_toArray, List.set_cons_zero, List.set_cons_succ])
           | (refine quiet_one 3 _ rfl f 1 (.int .i64 (k : Int)) rfl (fun w => by kernel_rfl) (fun W h => h.one.cells.2) ?_; go_big_quiet_on; simp only [Act.put, List.setIfInBounds_toArray, List.set_cons_zero, List.set_cons_succ])
           | (refine quiet_one 3 _ rfl o 0 (.int .i64 (n : Int)) rfl (fun w => by kernel_rfl) (fun W h => h.two.cells.1) ?_; go_big_quiet_on; simp only [Act.put, List.setIfInBounds_toArray, List.set_cons_zero, List.set_cons_succ])
           | (refine quiet_one 3 _ rfl o 1 (.int .i64 (j : Int)) rfl (fun w => by kernel_rfl) (fun W h => h.two.cells.2) ?_; go_big_quiet_on; simp only [Act.put, List.setIfInBounds_toArray, List.set_cons_zero, List.set_cons_succ])
           | (refine quiet_val10 (.bool false) ?_ ?_; (focus (intro W hW; go_simp; done)); go_big_quiet_on; simp only [Act.put, List.setIfInBounds_toArray, List.set_cons_zero, List.set_cons_succ])
           | (refine quiet_val10 (.bool true) ?_ ?_; (focus (intro W hW; go_simp; done)); go_big_quiet_on; simp only [Act.put, List.setIfInBounds_toArray, List.set_cons_zero, List.set_cons_succ])
           | (go_big_quiet_op; go_big_quiet_on)
           | (refine quiet_val10 (.pointer (some ⟨f, 0, none⟩)) ?_ ?_; (focus (intro W hW; go_simp; done)); go_big_quiet_on; simp only [Act.put, List.setIfInBounds_toArray, List.set_cons_zero, List.set_cons_succ])
           | (refine quiet_val10 (.pointer (some ⟨o, 0, none⟩)) ?_ ?_; (focus (intro W hW; go_simp; done)); go_big_quiet_on; simp only [Act.put, List.setIfInBounds_toArray, List.set_cons_zero, List.set_cons_succ])
           | (refine quiet_val10 (.pointer (some ⟨f, 1, none⟩)) ?_ ?_; (focus (intro W hW; go_simp; done)); go_big_quiet_on; simp only [Act.put, List.setIfInBounds_toArray, List.set_cons_zero, List.set_cons_succ])
           | (refine quiet_val10 (.pointer (some ⟨o, 1, none⟩)) ?_ ?_; (focus (intro W hW; go_simp; done)); go_big_quiet_on; simp only [Act.put, List.setIfInBounds_toArray, List.set_cons_zero, List.set_cons_succ])))
    refine wpQuiet_nil ?_
    intro w1 hw1
    have HB : Hid (Below w.heap.size w w1) := hw1.bel
    clear hw1
    go_wp2
    go_ret
    exact ⟨rfl, HB.out⟩
  · have k1 : ((n : Int) != (m : Int)) = true := by simp; omega
    clear hne hn
    go_enter Tryd.func14, Tryd.ntmps14
    go_wp2
    refine region_class10 (TwF w f g n k s o q m j t) (by kernel_rfl) (by kernel_rfl) HT.out ?_
    try simp only [Act.put, List.setIfInBounds_toArray, List.set_cons_zero, List.set_cons_succ]
    repeat (first
      | go_big_quiet_skip
      | (go_big_quiet_want
         first
           | (refine quiet_one 3 _ rfl f 0 (.int .i64 (n : Int)) rfl (fun w => by kernel_rfl) (fun W h => h.one.cells.1) ?_; go_big_quiet_on; simp only [Act.put, List.setIfInBounds_toArray, List.set_cons_zero, List.set_cons_succ])
           | (refine quiet_one 3 _ rfl o 0 (.int .i64 (m : Int)) rfl (fun w => by kernel_rfl) (fun W h => h.two.cells.1) ?_; go_big_quiet_on; simp only [Act.put, List.setIfInBounds_toArray, List.set_cons_zero, List.set_cons_succ])
           | (refine quiet_val10 (.bool true) ?_ ?_; (focus (intro W hW; go_simp; done)); go_big_quiet_on; simp only [Act.put, List.setIfInBounds_toArray, List.set_cons_zero, List.set_cons_succ])
           | (go_big_quiet_op; go_big_quiet_on)
           | (refine quiet_val10 (.pointer (some ⟨f, 0, none⟩)) ?_ ?_; (focus (intro W hW; go_simp; done)); go_big_quiet_on; simp only [Act.put, List.setIfInBounds_toArray, List.set_cons_zero, List.set_cons_succ])
           | (refine quiet_val10 (.pointer (some ⟨o, 0, none⟩)) ?_ ?_; (focus (intro W hW; go_simp; done)); go_big_quiet_on; simp only [Act.put, List.setIfInBounds_toArray, List.set_cons_zero, List.set_cons_succ])
           | (refine quiet_val10 (.pointer (some ⟨f, 1, none⟩)) ?_ ?_; (focus (intro W hW; go_simp; done)); go_big_quiet_on; simp only [Act.put, List.setIfInBounds_toArray, List.set_cons_zero, List.set_cons_succ])
           | (refine quiet_val10 (.pointer (some ⟨o, 1, none⟩)) ?_ ?_; (focus (intro W hW; go_simp; done)); go_big_quiet_on; simp only [Act.put, List.setIfInBounds_toArray, List.set_cons_zero, List.set_cons_succ])))
    refine wpQuiet_nil ?_
    intro w1 hw1
    have HB : Hid (Below w.heap.size w w1) := hw1.bel
    clear hw1
    go_wp2
    go_ret
    exact ⟨rfl, HB.out⟩
set_option maxHeartbeats 1000000 in
set_option maxRecDepth 100000 in
theorem join_yes14 (f g n k : Nat) (s : List UInt8) (o q : Nat) (t : List UInt8) (w : World) (h1 : FlS w f g n k s) (h2 : FlS w o q n k t) (hgq : g ≠ q) :
    Calls Tryd.prog 14 #[.pointer (some ⟨f, 0, none⟩), .pointer (some ⟨o, 0, none⟩)] w fun e w' => e = .returned (.int .i64 0) ∧ FlS w' f g n k (jnR s t) ∧ w.grownBy w' (some g) := by
  have HT : Hid (TwF w f g n k s o q n k t w.drew) := ⟨h1.below (Below.refl _ _).drew, h2.below (Below.refl _ _).drew, (Below.refl _ _).drew⟩
  have l1 := h1.len
  have l2 := h2.len
  have hn := okF_le h1.ok
  have hog : o ≠ g := by
    rintro rfl
    obtain ⟨c, ht, _⟩ := h2.top
    exact bk_ne_row h1.row ht (by decide) rfl
  clear h1 h2
  obtain ⟨L, hL⟩ : ∃ L, t.length = L := ⟨_, rfl⟩
  have HL : Hid (t.length = L ∧ s.length = L) := ⟨hL, by omega⟩
  have hLb : L ≤ 2097152 := by omega
  clear hL l1 l2
  go_enter Tryd.func14, Tryd.ntmps14
  go_wp2
  refine region_class10 (TwF w f g n k s o q n k t) (by kernel_rfl) (by kernel_rfl) HT.out ?_
  try simp only [Act.put, List.setIfInBounds_toArray, List.set_cons_zero, List.set_cons_succ]
  repeat (first
    | go_big_quiet_skip
    | (go_big_quiet_want
       first
         | (refine quiet_one 3 _ rfl f 0 (.int .i64 (n : Int)) rfl (fun w => by kernel_rfl) (fun W h => h.one.cells.1) ?_; go_big_quiet_on; simp only [Act.put, List.setIfInBounds_toArray, List.set_cons_zero, List.set_cons_succ])
         | (refine quiet_one 3 _ rfl f 1 (.int .i64 (k : Int)) rfl (fun w => by kernel_rfl) (fun W h => h.one.cells.2) ?_; go_big_quiet_on; simp only [Act.put, List.setIfInBounds_toArray, List.set_cons_zero, List.set_cons_succ])
         | (refine quiet_one 3 _ rfl o 0 (.int .i64 (n : Int)) rfl (fun w => by kernel_rfl) (fun W h => h.two.cells.1) ?_; go_big_quiet_on; simp only [Act.put, List.setIfInBounds_toArray, List.set_cons_zero, List.set_cons_succ])
         | (refine quiet_one 3 _ rfl o 1 (.int .i64 (k : Int)) rfl (fun w => by kernel_rfl) (fun W h => h.two.cells.2) ?_; go_big_quiet_on; simp only [Act.put, List.setIfInBounds_toArray, List.set_cons_zero, List.set_cons_succ])
         | (refine quiet_val10 (.bool false) ?_ ?_; (focus (intro W hW; go_simp; done)); go_big_quiet_on; simp only [Act.put, List.setIfInBounds_toArray, List.set_cons_zero, List.set_cons_succ])
         | (go_big_quiet_op; go_big_quiet_on)
         | (refine quiet_val10 (.pointer (some ⟨f, 0, none⟩)) ?_ ?_; (focus (intro W hW; go_simp; done)); go_big_quiet_on; simp only [Act.put, List.setIfInBounds_toArray, List.set_cons_zero, List.set_cons_succ])
         | (refine quiet_val10 (.pointer (some ⟨o, 0, none⟩)) ?_ ?_; (focus (intro W hW; go_simp; done)); go_big_quiet_on; simp only [Act.put, List.setIfInBounds_toArray, List.set_cons_zero, List.set_cons_succ])
         | (refine quiet_val10 (.pointer (some ⟨f, 1, none⟩)) ?_ ?_; (focus (intro W hW; go_simp; done)); go_big_quiet_on; simp only [Act.put, List.setIfInBounds_toArray, List.set_cons_zero, List.set_cons_succ])
         | (refine quiet_val10 (.pointer (some ⟨o, 1, none⟩)) ?_ ?_; (focus (intro W hW; go_simp; done)); go_big_quiet_on; simp only [Act.put, List.setIfInBounds_toArray, List.set_cons_zero, List.set_cons_succ])))
  refine wpQuiet_nil ?_
  intro w1 hw1
  have HW : Hid (FlS w1 f g n k (jnK s t 0) ∧ FlS w1 o q n k t ∧ w.grownBy w1 (some g)) := ⟨hw1.one, hw1.two, gr_of_below hw1.bel _⟩
  obtain ⟨c', ht', hc'⟩ := hw1.two.top
  have c2 : w1.cell? ⟨o, 2, none⟩ = some (.slice (some ⟨q, 0, none⟩) L c') := by rw [ht'.cell, ← HL.out.1]; rfl
  rw [HL.out.1] at hc'
  clear hw1 ht' HT
  go_wp2
  go_loopw [38] (fun v wr => ∃ i : Nat, i ≤ L ∧ v = .int .i64 i ∧ Hid (FlS wr f g n k (jnK s t i) ∧ FlS wr o q n k t ∧ w.grownBy wr (some g))) (fun v _ => L - (intOf v).toNat)
  case atStart => exact ⟨0, Nat.zero_le _, rfl, HW.out⟩
  case round =>
    clear HW c2
    obtain ⟨i, hi, rfl, HW⟩ := hrel
    by_cases hlt : i < L
    · have hjl : (jnK s t i).length = L := by rw [jnK_len]; exact HL.out.2
      have r1 := HW.out.2.1.row.cell i (by rw [HL.out.1]; exact hlt)
      have r2 := HW.out.1.row.cell i (by rw [hjl]; exact hlt)
      have r3 := HW.out.1.row.frozen i (by rw [hjl]; exact hlt)
      obtain ⟨c, ht, hc⟩ := HW.out.1.top
      have c4 : wr.cell? ⟨f, 2, none⟩ = some (.slice (some ⟨g, 0, none⟩) L c) := by rw [ht.cell, ← hjl]; rfl
      rw [hjl] at hc
      have HN : Hid (FlS _ f g n k (jnK s t (i + 1)) ∧ _) := HW.out.1.byte i (by rw [hjl]; exact hlt) (UInt8.ofNat (((jnK s t i).getD i 0).toNat ||| (t.getD i 0).toNat))
      rw [or_toNat] at HN
      have eo := u8_or_nat ((jnK s t i).getD i 0).toNat (t.getD i 0).toNat (UInt8.toNat_lt _) (UInt8.toNat_lt _)
      obtain ⟨a, ha⟩ : ∃ a, ((jnK s t i).getD i 0).toNat = a := ⟨_, rfl⟩
      obtain ⟨b, hb⟩ : ∃ a, (t.getD i 0).toNat = a := ⟨_, rfl⟩
      rw [ha] at r2 eo HN
      rw [hb] at r1 eo HN
      obtain ⟨v, hv⟩ : ∃ v, a ||| b = v := ⟨_, rfl⟩
      rw [hv] at eo HN
      have HN2 : Hid (FlS (wr.setCell ⟨g, i, none⟩ (.int .u8 (v : Int))) f g n k (jnK s t (i + 1)) ∧ FlS (wr.setCell ⟨g, i, none⟩ (.int .u8 (v : Int))) o q n k t ∧ w.grownBy (wr.setCell ⟨g, i, none⟩ (.int .u8 (v : Int))) (some g)) := by
        refine ⟨HN.out.1, HW.out.2.1.grown HN.out.2 (by simp; omega) (by simp; omega), HW.out.2.2.trans HN.out.2⟩
      clear ha hb hv HN HW ht hjl
      go_wp2
      go_roundw
      case rel => exact ⟨i + 1, by omega, by go_num, HN2.out⟩
      case measure => simp [intOf]; omega
    · have hik : i = L := by omega
      have HK : Hid (FlS wr f g n k (jnR s t) ∧ w.grownBy wr (some g)) := by
        have h := HW.out
        rw [hik, ← HL.out.1] at h
        exact ⟨h.1, h.2.2⟩
      clear hik
      go_wp2
      go_ret
      exact ⟨rfl, HK.out.1, HK.out.2⟩
theorem size_any14 (f g n k : Nat) (s : List UInt8) (w : World) (h : FlS w f g n k s) : Calls Tryd.prog 18 #[.pointer (some ⟨f, 0, none⟩)] w fun e w' => e = .returned (.tuple #[.int .i64 (n : Int), .int .i64 (k : Int)]) ∧ Below w.heap.size w w' := by
  obtain ⟨c0, c1⟩ := h.cells
  clear h
  go_enter Tryd.func18, Tryd.ntmps18
  go_wp2
  go_region
  go_wp2
  go_ret2
  exact ⟨rfl, (Below.refl _ _).drew⟩
end Go.Proofs.YtplfjfhpdfbpeaaDoor
