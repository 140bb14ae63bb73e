/- What split.Tiers refuses, and the document's. -/
import Derived.Test.YthfggejdeodinaaU18
namespace Go.Proofs.Ythfggejdeodinaa
open Go.RowKit
set_option linter.unusedSimpArgs false
set_option linter.unusedVariables false
/-- The first that is bad. -/
theorem first_bad (P : Int → Bool) : ∀ l : List Int, (∃ x ∈ l, P x = false) → ∃ (k : Nat) (x : Int), l[k]? = some x ∧ P x = false ∧ ∀ (j : Nat) (y : Int), j < k → l[j]? = some y → P y = true
  | [], h => by obtain ⟨x, hx, _⟩ := h; cases hx
  | y :: r, h => by
    cases hy : P y with
    | false => exact ⟨0, y, rfl, hy, fun j z hj => by omega⟩
    | true =>
      have h' : ∃ x ∈ r, P x = false := by
        obtain ⟨x, hx, hp⟩ := h
        rcases List.mem_cons.1 hx with rfl | hx
        · rw [hy] at hp; cases hp
        · exact ⟨x, hx, hp⟩
      obtain ⟨k, x, h1, h2, h3⟩ := first_bad P r h'
      refine ⟨k + 1, x, by simpa using h1, h2, fun j z hj hz => ?_⟩
      cases j with
      | zero => simp at hz; subst hz; exact hy
      | succ j => exact h3 j z (by omega) (by simpa using hz)
theorem tiers_big (a : Option Addr) (n c : Nat) (m : Int) (w : World) (hn : 1048576 < n) :
    Calls Try.prog 5 #[.slice a n c, .int .i64 m] w fun e w' => e = .returned (.tuple #[.slice none 0 0, .int .i64 1]) ∧ Below w.heap.size w w' := by
  have hnz : (n : Int) > 1048576 := by omega
  go_enter Try.func5, Try.ntmps5
  go_wp2
  go_ret2
  exact ⟨rfl, Below.refl _ _⟩
theorem tiers_fan (a : Option Addr) (n c : Nat) (m : Int) (w : World) (hn : n ≤ 1048576) (hm : wtn m 2 1024 = false) :
    Calls Try.prog 5 #[.slice a n c, .int .i64 m] w fun e w' => e = .returned (.tuple #[.slice none 0 0, .int .i64 1]) ∧ Below w.heap.size w w' := by
  have hnz : ¬ (n : Int) > 1048576 := by omega
  have HM : Hid (∀ u, Calls Try.prog 7 #[.int .i64 m, .int .i64 2, .int .i64 1024] u fun e w' => e = .returned (.bool false) ∧ w' = u) := fun u => by
    have := within_any m 2 1024 u
    rwa [hm] at this
  clear hm
  go_enter Try.func5, Try.ntmps5
  go_wp2_with fail
  refine (HM.out _).mono ?_
  rintro e w1 ⟨rfl, hw⟩
  obtain rfl : w = w1 := hw.symm
  clear hw
  go_wp2
  go_ret2
  exact ⟨rfl, Below.refl _ _⟩
set_option maxHeartbeats 4000000 in
set_option maxRecDepth 100000 in
theorem tiers_lvl (a : Option Addr) (n c : Nat) (m : Int) (l : List Int) (w : World) (ha : InL w a l) (hln : l.length = n) (hn : n ≤ 1048576) (hm : wtn m 2 1024 = true) (hb : ∃ x ∈ l, wtn x 0 32 = false) :
    Calls Try.prog 5 #[.slice a n c, .int .i64 m] w fun e w' => e = .returned (.tuple #[.slice none 0 0, .int .i64 1]) ∧ Below w.heap.size w w' := by
  have hnz : ¬ (n : Int) > 1048576 := by omega
  have HM : Hid (∀ u, Calls Try.prog 7 #[.int .i64 m, .int .i64 2, .int .i64 1024] u fun e w' => e = .returned (.bool true) ∧ w' = u) := fun u => by
    have := within_any m 2 1024 u
    rwa [hm] at this
  obtain ⟨k, xk, hk1, hk2, hk3⟩ := first_bad (fun x => wtn x 0 32) l hb
  have hkn : k < n := by rw [← hln]; exact (List.getElem?_eq_some_iff.1 hk1).1
  have HK1 : Hid (l[k]? = some xk) := hk1
  have HK2 : Hid (wtn xk 0 32 = false) := hk2
  have HK3 : Hid (∀ j y, j < k → l[j]? = some y → wtn y 0 32 = true) := hk3
  have HA : Hid (InL w a l) := ha
  have HN : Hid (l.length = n) := hln
  have hmk := make_it n hn w
  have HR0 : Hid ((∃ I, Bk (w.alloc (.cells (Array.replicate (n * 2) (.int .i64 0)) 37)) w.heap.size I 37 ∧ I.size = n * 2) ∧ Below w.heap.size w (w.alloc (.cells (Array.replicate (n * 2) (.int .i64 0)) 37))) :=
    ⟨⟨_, bk_new _ _ _, by simp⟩, (Below.refl _ _).alloc (Nat.le_refl _) _⟩
  clear hm hb hk1 hk2 hk3 ha hln
  go_enter Try.func5, Try.ntmps5
  go_wp2_with fail
  refine (HM.out _).mono ?_
  rintro e w1 ⟨rfl, hw⟩
  obtain rfl : w = w1 := hw.symm
  clear hw
  go_wp2_with fail
  go_loopw [24] (fun x wr => ∃ i : Nat, i ≤ k ∧ x = .int .i64 (i : Int) ∧ Hid ((∃ I, Bk wr w.heap.size I 37 ∧ I.size = n * 2) ∧ Below w.heap.size w wr)) (fun x _ => n - (intOf x).toNat)
  case atStart => exact ⟨0, Nat.zero_le _, rfl, HR0.out⟩
  case round =>
    clear HR0 hmk
    obtain ⟨i, hin, rfl, HR⟩ := hrel
    have hlt : i < n := by omega
    have hiz : (i : Int) < (n : Nat) := by omega
    have hi0 : (0 : Int) ≤ i := by omega
    obtain ⟨x, hx⟩ : ∃ x, l[i]? = some x := ⟨_, List.getElem?_eq_getElem (by rw [HN.out]; exact hlt)⟩
    obtain ⟨g, o, rfl, hg, hc⟩ := (HA.out.below HR.out.2 (Nat.le_refl _)) i x hx
    by_cases hik : i < k
    · have HWI : Hid (∀ u, Calls Try.prog 7 #[.int .i64 x, .int .i64 0, .int .i64 32] u fun e w' => e = .returned (.bool true) ∧ w' = u) := fun u => by
        have := within_any x 0 32 u
        rwa [HK3.out i x hik hx] at this
      obtain ⟨I, hI, hIs⟩ := HR.out.1
      have i1 : ∃ y, wr.cell? ⟨w.heap.size, i * 2, none⟩ = some y := ⟨_, by rw [hI.cell, Array.getElem?_eq_getElem (by omega)]⟩
      have i2 : ∃ y, wr.cell? ⟨w.heap.size, i * 2 + 1, none⟩ = some y := ⟨_, by rw [hI.cell, Array.getElem?_eq_getElem (by omega)]⟩
      obtain ⟨y1, i1⟩ := i1
      obtain ⟨y2, i2⟩ := i2
      have f1 := hI.frozen (i * 2)
      have f2 := hI.frozen (i * 2 + 1)
      have HF : Hid ((∃ I, Bk ((wr.setCell ⟨w.heap.size, i * 2, none⟩ (.int .i64 (i : Int))).setCell ⟨w.heap.size, i * 2 + 1, none⟩ (.int .i64 x)) w.heap.size I 37 ∧ I.size = n * 2) ∧ Below w.heap.size w ((wr.setCell ⟨w.heap.size, i * 2, none⟩ (.int .i64 (i : Int))).setCell ⟨w.heap.size, i * 2 + 1, none⟩ (.int .i64 x))) :=
        ⟨⟨_, (hI.set (i * 2) _).set (i * 2 + 1) _, by simpa using hIs⟩, below_own HR.out.2 HR.out.2.size (Lib.grownBy_setB (Lib.grownBy_setB (World.grownBy.refl _ _) (i * 2) _) (i * 2 + 1) _) (Nat.le_refl _)⟩
      clear hx hI hIs HR
      go_wp2_with fail
      refine (HWI.out _).mono ?_
      rintro e w1 ⟨rfl, hw⟩
      obtain rfl : wr = w1 := hw.symm
      clear hw
      go_wp2
      go_roundw
      case rel => exact ⟨i + 1, by omega, by go_num, HF.out⟩
      case measure => simp [intOf]; omega
    · have hie : i = k := by omega
      have hxe : x = xk := by
        have := HK1.out
        rw [← hie, hx] at this
        cases this; rfl
      have HWI : Hid (∀ u, Calls Try.prog 7 #[.int .i64 x, .int .i64 0, .int .i64 32] u fun e w' => e = .returned (.bool false) ∧ w' = u) := fun u => by
        have := within_any x 0 32 u
        rwa [hxe, HK2.out, ← hxe] at this
      clear hx hie hxe
      go_wp2_with fail
      refine (HWI.out _).mono ?_
      rintro e w1 ⟨rfl, hw⟩
      obtain rfl : wr = w1 := hw.symm
      clear hw
      go_wp2
      go_ret2
      exact ⟨rfl, HR.out.2⟩
/-- What Tiers refuses. -/
def tirNo (n : Nat) (m : Int) (l : List Int) : Prop := 1048576 < n ∨ wtn m 2 1024 = false ∨ ∃ x ∈ l, wtn x 0 32 = false
theorem tiers_no (a : Option Addr) (n c : Nat) (m : Int) (l : List Int) (w : World) (ha : InL w a l) (hln : l.length = n) (hb : tirNo n m l) :
    Calls Try.prog 5 #[.slice a n c, .int .i64 m] w fun e w' => e = .returned (.tuple #[.slice none 0 0, .int .i64 1]) ∧ Below w.heap.size w w' := by
  by_cases h1 : 1048576 < n
  · exact tiers_big a n c m w h1
  · cases h2 : wtn m 2 1024 with
    | false => exact tiers_fan a n c m w (by omega) h2
    | true =>
      rcases hb with h | h | h
      · exact absurd h h1
      · rw [h2] at h; cases h
      · exact tiers_lvl a n c m l w ha hln (by omega) h2 h
end Go.Proofs.Ythfggejdeodinaa
