/- The document's Join. -/
import Derived.Test.YtplfjfhpdfbpeaaDoorBR4
namespace Go.Proofs.YtplfjfhpdfbpeaaDoor
open Go.RowKit
set_option linter.unusedSimpArgs false
set_option linter.unusedVariables false
/-- Two of the document's filters. -/
structure RtF (w : World) (f g n k : Nat) (s : List UInt8) (o q m j : Nat) (t : List UInt8) (W : World) : Prop where
  one : RfS W f g n k s
  two : RfS W o q m j t
  bel : Below w.heap.size w W
set_option maxHeartbeats 1000000 in
set_option maxRecDepth 100000 in
theorem rjoin_no (f g n k : Nat) (s : List UInt8) (o q m j : Nat) (t : List UInt8) (w : World) (h1 : RfS w f g n k s) (h2 : RfS w o q m j t) (hne : ¬ (n = m ∧ k = j)) :
    Calls Tryd.prog 13 #[.pointer (some ⟨f, 0, none⟩), .pointer (some ⟨o, 0, none⟩)] w fun e w' => e = .returned (.int .i64 1) ∧ Below w.heap.size w w' := by
  have HT : Hid (RtF w f g n k s o q m j t w.drew) := ⟨h1.below (Below.refl _ _).drew, h2.below (Below.refl _ _).drew, (Below.refl _ _).drew⟩
  clear h1 h2
  by_cases hn : n = m
  · have hk : ¬ k = j := fun e => hne ⟨hn, e⟩
    subst hn
    have k1 : ((k : Int) != (j : Int)) = true := by simp; omega
    clear hne hk
    go_enter Tryd.func13, Tryd.ntmps13
    go_wp2
    refine region_class10 (RtF w f g n k s o q n j t) (by kernel_rfl) (by kernel_rfl) HT.out ?_
    try simp only [Act.put, List.setIfInBounds_toArray, List.set_cons_zero, List.set_cons_succ]
    repeat (first
      | go_big_quiet_skip
      | (go_big_quiet_want
         first
           | (refine quiet_one 3 _ rfl f 0 (.int .i64 (n : Int)) rfl (fun w => by kernel_rfl) (fun W h => h.one.cells.1) ?_; go_big_quiet_on; simp only [Act.put, List.setIfInBounds_toArray, List.set_cons_zero, List.set_cons_succ])
           | (refine quiet_one 3 _ rfl f 1 (.int .i64 (k : Int)) rfl (fun w => by kernel_rfl) (fun W h => h.one.cells.2.1) ?_; go_big_quiet_on; simp only [Act.put, List.setIfInBounds_toArray, List.set_cons_zero, List.set_cons_succ])
           | (refine quiet_one 3 _ rfl o 0 (.int .i64 (n : Int)) rfl (fun w => by kernel_rfl) (fun W h => h.two.cells.1) ?_; go_big_quiet_on; simp only [Act.put, List.setIfInBounds_toArray, List.set_cons_zero, List.set_cons_succ])
           | (refine quiet_one 3 _ rfl o 1 (.int .i64 (j : Int)) rfl (fun w => by kernel_rfl) (fun W h => h.two.cells.2.1) ?_; go_big_quiet_on; simp only [Act.put, List.setIfInBounds_toArray, List.set_cons_zero, List.set_cons_succ])
           | (refine quiet_val10 (.bool false) ?_ ?_; (focus (intro W hW; go_simp; done)); go_big_quiet_on; simp only [Act.put, List.setIfInBounds_toArray, List.set_cons_zero, List.set_cons_succ])
           | (refine quiet_val10 (.bool true) ?_ ?_; (focus (intro W hW; go_simp; done)); go_big_quiet_on; simp only [Act.put, List.setIfInBounds_toArray, List.set_cons_zero, List.set_cons_succ])
           | (go_big_quiet_op; go_big_quiet_on)
           | (refine quiet_val10 (.pointer (some ⟨f, 0, none⟩)) ?_ ?_; (focus (intro W hW; go_simp; done)); go_big_quiet_on; simp only [Act.put, List.setIfInBounds_toArray, List.set_cons_zero, List.set_cons_succ])
           | (refine quiet_val10 (.pointer (some ⟨o, 0, none⟩)) ?_ ?_; (focus (intro W hW; go_simp; done)); go_big_quiet_on; simp only [Act.put, List.setIfInBounds_toArray, List.set_cons_zero, List.set_cons_succ])
           | (refine quiet_val10 (.pointer (some ⟨f, 1, none⟩)) ?_ ?_; (focus (intro W hW; go_simp; done)); go_big_quiet_on; simp only [Act.put, List.setIfInBounds_toArray, List.set_cons_zero, List.set_cons_succ])
           | (refine quiet_val10 (.pointer (some ⟨o, 1, none⟩)) ?_ ?_; (focus (intro W hW; go_simp; done)); go_big_quiet_on; simp only [Act.put, List.setIfInBounds_toArray, List.set_cons_zero, List.set_cons_succ])))
    refine wpQuiet_nil ?_
    intro w1 hw1
    have HB : Hid (Below w.heap.size w w1) := hw1.bel
    clear hw1
    go_wp2
    go_ret
    exact ⟨rfl, HB.out⟩
  · have k1 : ((n : Int) != (m : Int)) = true := by simp; omega
    clear hne hn
    go_enter Tryd.func13, Tryd.ntmps13
    go_wp2
    refine region_class10 (RtF w f g n k s o q m j t) (by kernel_rfl) (by kernel_rfl) HT.out ?_
    try simp only [Act.put, List.setIfInBounds_toArray, List.set_cons_zero, List.set_cons_succ]
    repeat (first
      | go_big_quiet_skip
      | (go_big_quiet_want
         first
           | (refine quiet_one 3 _ rfl f 0 (.int .i64 (n : Int)) rfl (fun w => by kernel_rfl) (fun W h => h.one.cells.1) ?_; go_big_quiet_on; simp only [Act.put, List.setIfInBounds_toArray, List.set_cons_zero, List.set_cons_succ])
           | (refine quiet_one 3 _ rfl o 0 (.int .i64 (m : Int)) rfl (fun w => by kernel_rfl) (fun W h => h.two.cells.1) ?_; go_big_quiet_on; simp only [Act.put, List.setIfInBounds_toArray, List.set_cons_zero, List.set_cons_succ])
           | (refine quiet_val10 (.bool true) ?_ ?_; (focus (intro W hW; go_simp; done)); go_big_quiet_on; simp only [Act.put, List.setIfInBounds_toArray, List.set_cons_zero, List.set_cons_succ])
           | (go_big_quiet_op; go_big_quiet_on)
           | (refine quiet_val10 (.pointer (some ⟨f, 0, none⟩)) ?_ ?_; (focus (intro W hW; go_simp; done)); go_big_quiet_on; simp only [Act.put, List.setIfInBounds_toArray, List.set_cons_zero, List.set_cons_succ])
           | (refine quiet_val10 (.pointer (some ⟨o, 0, none⟩)) ?_ ?_; (focus (intro W hW; go_simp; done)); go_big_quiet_on; simp only [Act.put, List.setIfInBounds_toArray, List.set_cons_zero, List.set_cons_succ])
           | (refine quiet_val10 (.pointer (some ⟨f, 1, none⟩)) ?_ ?_; (focus (intro W hW; go_simp; done)); go_big_quiet_on; simp only [Act.put, List.setIfInBounds_toArray, List.set_cons_zero, List.set_cons_succ])
           | (refine quiet_val10 (.pointer (some ⟨o, 1, none⟩)) ?_ ?_; (focus (intro W hW; go_simp; done)); go_big_quiet_on; simp only [Act.put, List.setIfInBounds_toArray, List.set_cons_zero, List.set_cons_succ])))
    refine wpQuiet_nil ?_
    intro w1 hw1
    have HB : Hid (Below w.heap.size w w1) := hw1.bel
    clear hw1
    go_wp2
    go_ret
    exact ⟨rfl, HB.out⟩
/-- So many places of another filter joined. -/
def jnP (s t : List UInt8) (i j : Nat) : Bool := btR s j || (decide (j < i) && btR t j)
theorem jnP_next (s t : List UInt8) (i : Nat) (n : Nat) : ∀ j, j < n → (if j = i then (btR s i || btR t i) else jnP s t i j) = jnP s t (i + 1) j := by
  intro j _
  unfold jnP
  by_cases e : j = i
  · subst e; simp
  · have : (j < i + 1) ↔ (j < i) := by omega
    simp [e, this]
theorem jnP_at (s t : List UInt8) (i : Nat) : jnP s t i i = btR s i := by simp [jnP]
/-- While they are joined. -/
structure RjS (w : World) (f g n k : Nat) (s : List UInt8) (o q : Nat) (t : List UInt8) (c d i : Nat) (W : World) : Prop where
  one : RfP W f g n k (jnP s t i)
  two : RfS W o q n k t
  cf : W.cell? ⟨f, 2, none⟩ = some (.slice (some ⟨g, 0, none⟩) n c)
  co : W.cell? ⟨o, 2, none⟩ = some (.slice (some ⟨q, 0, none⟩) n d)
  gr : w.grownBy W (some g)
theorem RjS.drew {w : World} {f g n k : Nat} {s : List UInt8} {o q : Nat} {t : List UInt8} {c d i : Nat} {W : World} (h : RjS w f g n k s o q t c d i W) : RjS w f g n k s o q t c d i W.drew :=
  ⟨h.one.below (Below.refl _ _).drew, h.two.below (Below.refl _ _).drew, h.cf, h.co, Lib.Hx.grownBy_drew h.gr⟩
theorem RjS.next {w : World} {f g n k : Nat} {s : List UInt8} {o q : Nat} {t : List UInt8} {c d i : Nat} {W : World} (h : RjS w f g n k s o q t c d i W) (hi : i < n) (hgq : g ≠ q) (hog : o ≠ g) (b : Bool) (hb : b = (btR s i || btR t i)) : RjS w f g n k s o q t c d (i + 1) (W.setCell ⟨g, i, none⟩ (.bool b)) := by
  subst hb
  obtain ⟨h1, h2⟩ := h.one.set i (btR s i || btR t i) hi
  have hne := h.one.ne
  exact ⟨h1.congr (jnP_next s t i n), h.two.grown h2 (by simp; omega) (by simp; omega), h2.cell h.cf (by simp; omega), h2.cell h.co (by simp; omega), h.gr.trans h2⟩
set_option maxHeartbeats 2000000 in
set_option maxRecDepth 100000 in
theorem rjoin_yes (f g n k : Nat) (s : List UInt8) (o q : Nat) (t : List UInt8) (w : World) (h1 : RfS w f g n k s) (h2 : RfS w o q n k t) (ls : 8 * s.length = n) (lt : 8 * t.length = n) (hgq : g ≠ q) (hog : o ≠ g) :
    Calls Tryd.prog 13 #[.pointer (some ⟨f, 0, none⟩), .pointer (some ⟨o, 0, none⟩)] w fun e w' => e = .returned (.int .i64 0) ∧ RfS w' f g n k (jnR s t) ∧ w.grownBy w' (some g) := by
  have HT : Hid (RtF w f g n k s o q n k t w.drew) := ⟨h1.below (Below.refl _ _).drew, h2.below (Below.refl _ _).drew, (Below.refl _ _).drew⟩
  have HE : Hid (∀ j, j < n → jnP s t n j = btR (jnR s t) j) := fun j hj => by rw [btR_jnR s t j (by omega), jnP]; simp [hj]
  have hn := okF_le h1.ok
  clear h1 h2 ls lt
  go_enter Tryd.func13, Tryd.ntmps13
  go_wp2
  refine region_class10 (RtF w f g n k s o q n k t) (by kernel_rfl) (by kernel_rfl) HT.out ?_
  try simp only [Act.put, List.setIfInBounds_toArray, List.set_cons_zero, List.set_cons_succ]
  repeat (first
    | go_big_quiet_skip
    | (go_big_quiet_want
       first
         | (refine quiet_one 3 _ rfl f 0 (.int .i64 (n : Int)) rfl (fun w => by kernel_rfl) (fun W h => h.one.cells.1) ?_; go_big_quiet_on; simp only [Act.put, List.setIfInBounds_toArray, List.set_cons_zero, List.set_cons_succ])
         | (refine quiet_one 3 _ rfl f 1 (.int .i64 (k : Int)) rfl (fun w => by kernel_rfl) (fun W h => h.one.cells.2.1) ?_; go_big_quiet_on; simp only [Act.put, List.setIfInBounds_toArray, List.set_cons_zero, List.set_cons_succ])
         | (refine quiet_one 3 _ rfl o 0 (.int .i64 (n : Int)) rfl (fun w => by kernel_rfl) (fun W h => h.two.cells.1) ?_; go_big_quiet_on; simp only [Act.put, List.setIfInBounds_toArray, List.set_cons_zero, List.set_cons_succ])
         | (refine quiet_one 3 _ rfl o 1 (.int .i64 (k : Int)) rfl (fun w => by kernel_rfl) (fun W h => h.two.cells.2.1) ?_; go_big_quiet_on; simp only [Act.put, List.setIfInBounds_toArray, List.set_cons_zero, List.set_cons_succ])
         | (refine quiet_val10 (.bool false) ?_ ?_; (focus (intro W hW; go_simp; done)); go_big_quiet_on; simp only [Act.put, List.setIfInBounds_toArray, List.set_cons_zero, List.set_cons_succ])
         | (go_big_quiet_op; go_big_quiet_on)
         | (refine quiet_val10 (.pointer (some ⟨f, 0, none⟩)) ?_ ?_; (focus (intro W hW; go_simp; done)); go_big_quiet_on; simp only [Act.put, List.setIfInBounds_toArray, List.set_cons_zero, List.set_cons_succ])
         | (refine quiet_val10 (.pointer (some ⟨o, 0, none⟩)) ?_ ?_; (focus (intro W hW; go_simp; done)); go_big_quiet_on; simp only [Act.put, List.setIfInBounds_toArray, List.set_cons_zero, List.set_cons_succ])
         | (refine quiet_val10 (.pointer (some ⟨f, 1, none⟩)) ?_ ?_; (focus (intro W hW; go_simp; done)); go_big_quiet_on; simp only [Act.put, List.setIfInBounds_toArray, List.set_cons_zero, List.set_cons_succ])
         | (refine quiet_val10 (.pointer (some ⟨o, 1, none⟩)) ?_ ?_; (focus (intro W hW; go_simp; done)); go_big_quiet_on; simp only [Act.put, List.setIfInBounds_toArray, List.set_cons_zero, List.set_cons_succ])))
  refine wpQuiet_nil ?_
  intro w1 hw1
  obtain ⟨_, _, c, hc, hcn⟩ := hw1.one.cells
  obtain ⟨_, _, d, hd, hdn⟩ := hw1.two.cells
  have HW : Hid (RjS w f g n k s o q t c d 0 w1) := ⟨hw1.one.congr (fun j _ => by simp [jnP]), hw1.two, hc, hd, gr_of_below hw1.bel _⟩
  clear hw1 hc hd HT
  go_wp2
  go_loopw [5] (fun v wr => ∃ i : Nat, i ≤ n ∧ v = .int .i64 i ∧ Hid (RjS w f g n k s o q t c d i wr)) (fun v _ => n - (intOf v).toNat)
  case atStart => exact ⟨0, Nat.zero_le _, rfl, HW.out⟩
  case round =>
    clear HW
    obtain ⟨i, hi, rfl, HW⟩ := hrel
    have cf := HW.out.cf
    by_cases hlt : i < n
    · have hltz : (i : Int) < (n : Int) := by omega
      have HC : Hid (∀ W, RjS w f g n k s o q t c d i W → W.cell? ⟨g, i, none⟩ = some (.bool (btR s i)) ∧ W.cell? ⟨q, i, none⟩ = some (.bool (btR t i)) ∧ W.frozen? ⟨g, i, none⟩ = false) := fun W hW => ⟨by rw [hW.one.cell i hlt, jnP_at], hW.two.cell i hlt, hW.one.row.frozen i⟩
      have HN : Hid (∀ W b, b = (btR s i || btR t i) → RjS w f g n k s o q t c d i W → RjS w f g n k s o q t c d (i + 1) (W.setCell ⟨g, i, none⟩ (.bool b))) := fun W b hb hW => hW.next hlt hgq hog b hb
      obtain ⟨B, hB⟩ : ∃ B, btR t i = B := ⟨_, rfl⟩
      obtain ⟨A, hA⟩ : ∃ A, btR s i = A := ⟨_, rfl⟩
      rw [hA, hB] at HC HN
      clear hA hB
      cases A
      · go_wp2_with fail
        refine wp_region_tail (RjS w f g n k s o q t c d i) 22 (by kernel_rfl) (by kernel_rfl) HW.out.drew ?_
        simp only [List.take_succ_cons, List.take_zero, List.drop_succ_cons, List.drop_zero]
        repeat (first
          | go_big_quiet_skip
          | (go_big_quiet_want
             first
               | (refine quiet_one 49 _ rfl f 2 (.slice (some ⟨g, 0, none⟩) n c) rfl (fun w => by kernel_rfl) (fun W hW => hW.cf) ?_; go_big_quiet_on; simp only [Act.put, List.setIfInBounds_toArray, List.set_cons_zero, List.set_cons_succ])
               | (refine quiet_one 49 _ rfl o 2 (.slice (some ⟨q, 0, none⟩) n d) rfl (fun w => by kernel_rfl) (fun W hW => hW.co) ?_; go_big_quiet_on; simp only [Act.put, List.setIfInBounds_toArray, List.set_cons_zero, List.set_cons_succ])
               | (refine quiet_one 4 _ rfl g i (.bool false) rfl (fun w => by kernel_rfl) (fun W hW => (HC.out W hW).1) ?_; go_big_quiet_on; simp only [Act.put, List.setIfInBounds_toArray, List.set_cons_zero, List.set_cons_succ])
               | (refine quiet_one 4 _ rfl q i (.bool B) rfl (fun w => by kernel_rfl) (fun W hW => (HC.out W hW).2.1) ?_; go_big_quiet_on; simp only [Act.put, List.setIfInBounds_toArray, List.set_cons_zero, List.set_cons_succ])
               | (go_big_quiet_op; go_big_quiet_on)
               | (refine quiet_val10 (.pointer (some ⟨f, 0, none⟩)) ?_ ?_; (focus (intro W hW; go_simp; done)); go_big_quiet_on; simp only [Act.put, List.setIfInBounds_toArray, List.set_cons_zero, List.set_cons_succ])
               | (refine quiet_val10 (.pointer (some ⟨o, 0, none⟩)) ?_ ?_; (focus (intro W hW; go_simp; done)); go_big_quiet_on; simp only [Act.put, List.setIfInBounds_toArray, List.set_cons_zero, List.set_cons_succ])
               | (refine quiet_val10 (.pointer (some ⟨f, 2, none⟩)) ?_ ?_; (focus (intro W hW; go_simp; done)); go_big_quiet_on; simp only [Act.put, List.setIfInBounds_toArray, List.set_cons_zero, List.set_cons_succ])
               | (refine quiet_val10 (.pointer (some ⟨o, 2, none⟩)) ?_ ?_; (focus (intro W hW; go_simp; done)); go_big_quiet_on; simp only [Act.put, List.setIfInBounds_toArray, List.set_cons_zero, List.set_cons_succ])
               | (refine quiet_val10 (.pointer (some ⟨g, i, none⟩)) ?_ ?_; (focus (intro W hW; go_simp; done)); go_big_quiet_on; simp only [Act.put, List.setIfInBounds_toArray, List.set_cons_zero, List.set_cons_succ])
               | (refine quiet_val10 (.pointer (some ⟨q, i, none⟩)) ?_ ?_; (focus (intro W hW; go_simp; done)); go_big_quiet_on; simp only [Act.put, List.setIfInBounds_toArray, List.set_cons_zero, List.set_cons_succ])
               | (refine quiet_val10 (.bool B) ?_ ?_; (focus (intro W hW; go_simp; done)); go_big_quiet_on; simp only [Act.put, List.setIfInBounds_toArray, List.set_cons_zero, List.set_cons_succ])))
        refine wpQuiet_nil ?_
        intro w9 hw9
        obtain ⟨x1, _, x2⟩ := HC.out _ hw9
        have H9 : Hid (RjS w f g n k s o q t c d (i + 1) (w9.setCell ⟨g, i, none⟩ (.bool B))) := HN.out _ _ (by simp) hw9
        clear hw9 HC HN HW
        go_wp2
        go_roundw
        case rel => exact ⟨i + 1, by omega, by go_num, H9.out⟩
        case measure => simp [intOf]; omega
      · go_wp2_with fail
        refine wp_region_tail (RjS w f g n k s o q t c d i) 22 (by kernel_rfl) (by kernel_rfl) HW.out.drew ?_
        simp only [List.take_succ_cons, List.take_zero, List.drop_succ_cons, List.drop_zero]
        repeat (first
          | go_big_quiet_skip
          | (go_big_quiet_want
             first
               | (refine quiet_one 49 _ rfl f 2 (.slice (some ⟨g, 0, none⟩) n c) rfl (fun w => by kernel_rfl) (fun W hW => hW.cf) ?_; go_big_quiet_on; simp only [Act.put, List.setIfInBounds_toArray, List.set_cons_zero, List.set_cons_succ])
               | (refine quiet_one 4 _ rfl g i (.bool true) rfl (fun w => by kernel_rfl) (fun W hW => (HC.out W hW).1) ?_; go_big_quiet_on; simp only [Act.put, List.setIfInBounds_toArray, List.set_cons_zero, List.set_cons_succ])
               | (go_big_quiet_op; go_big_quiet_on)
               | (refine quiet_val10 (.pointer (some ⟨f, 0, none⟩)) ?_ ?_; (focus (intro W hW; go_simp; done)); go_big_quiet_on; simp only [Act.put, List.setIfInBounds_toArray, List.set_cons_zero, List.set_cons_succ])
               | (refine quiet_val10 (.pointer (some ⟨f, 2, none⟩)) ?_ ?_; (focus (intro W hW; go_simp; done)); go_big_quiet_on; simp only [Act.put, List.setIfInBounds_toArray, List.set_cons_zero, List.set_cons_succ])
               | (refine quiet_val10 (.pointer (some ⟨g, i, none⟩)) ?_ ?_; (focus (intro W hW; go_simp; done)); go_big_quiet_on; simp only [Act.put, List.setIfInBounds_toArray, List.set_cons_zero, List.set_cons_succ])
               | (refine quiet_val10 (.bool true) ?_ ?_; (focus (intro W hW; go_simp; done)); go_big_quiet_on; simp only [Act.put, List.setIfInBounds_toArray, List.set_cons_zero, List.set_cons_succ])))
        refine wpQuiet_nil ?_
        intro w9 hw9
        obtain ⟨x1, _, x2⟩ := HC.out _ hw9
        have H9 : Hid (RjS w f g n k s o q t c d (i + 1) (w9.setCell ⟨g, i, none⟩ (.bool true))) := HN.out _ _ (by simp) hw9
        clear hw9 HC HN HW
        go_wp2
        go_roundw
        case rel => exact ⟨i + 1, by omega, by go_num, H9.out⟩
        case measure => simp [intOf]; omega
    · obtain rfl : i = n := by omega
      go_wp2
      go_ret
      exact ⟨rfl, HW.out.one.congr HE.out, HW.out.gr⟩
end Go.Proofs.YtplfjfhpdfbpeaaDoor
