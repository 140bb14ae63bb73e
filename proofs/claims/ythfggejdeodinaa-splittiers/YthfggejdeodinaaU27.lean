/- What the document's Tiers refuses. -/
import Derived.Test.YthfggejdeodinaaU26
namespace Go.Proofs.Ythfggejdeodinaa
open Go.RowKit
set_option linter.unusedSimpArgs false
set_option linter.unusedVariables false
theorem rtiers_big (a : Option Addr) (n c : Nat) (m : Int) (w : World) (hn : 1048576 < n) :
    Calls Try.prog 4 #[.slice a n c, .int .i64 m] w fun e w' => e = .returned (.tuple #[.slice none 0 0, .int .i64 1]) ∧ Below w.heap.size w w' := by
  have hnz : (n : Int) > 1048576 := by omega
  go_enter Try.func4, Try.ntmps4
  go_wp2
  go_ret2
  exact ⟨rfl, Below.refl _ _⟩
theorem rtiers_fan (a : Option Addr) (n c : Nat) (m : Int) (w : World) (hn : n ≤ 1048576) (hm : wtn m 2 1024 = false) :
    Calls Try.prog 4 #[.slice a n c, .int .i64 m] w fun e w' => e = .returned (.tuple #[.slice none 0 0, .int .i64 1]) ∧ Below w.heap.size w w' := by
  have hnz : ¬ (n : Int) > 1048576 := by omega
  by_cases h1 : m < 2
  · clear hm
    go_enter Try.func4, Try.ntmps4
    go_wp2
    go_ret2
    exact ⟨rfl, Below.refl _ _⟩
  · have h2 : m > 1024 := by
      simp [wtn] at hm
      have := hm (by omega)
      omega
    clear hm
    go_enter Try.func4, Try.ntmps4
    go_wp2
    go_ret2
    exact ⟨rfl, Below.refl _ _⟩
theorem wtn_and {n a b : Int} (h : wtn n a b = true) : a ≤ n ∧ n ≤ b := by simpa [wtn] using h
set_option maxHeartbeats 4000000 in
set_option maxRecDepth 100000 in
theorem rtiers_lvl (a : Option Addr) (n c : Nat) (m : Int) (l : List Int) (w : World) (ha : InL w a l) (hln : l.length = n) (hn : n ≤ 1048576) (hm : wtn m 2 1024 = true) (hb : ∃ x ∈ l, wtn x 0 32 = false) :
    Calls Try.prog 4 #[.slice a n c, .int .i64 m] w fun e w' => e = .returned (.tuple #[.slice none 0 0, .int .i64 1]) ∧ Below w.heap.size w w' := by
  have hnz : ¬ (n : Int) > 1048576 := by omega
  have hm1 : ¬ m < 2 := by have := (wtn_and hm).1; omega
  have hm2 : ¬ m > 1024 := by have := (wtn_and hm).2; omega
  obtain ⟨k, xk, hk1, hk2, hk3⟩ := first_bad (fun x => wtn x 0 32) l hb
  have hkn : k < n := by rw [← hln]; exact (List.getElem?_eq_some_iff.1 hk1).1
  have HK1 : Hid (l[k]? = some xk) := hk1
  have HK2 : Hid (wtn xk 0 32 = false) := hk2
  have HK3 : Hid (∀ (j : Nat) (y : Int), j < k → l[j]? = some y → wtn y 0 32 = true) := hk3
  have HA : Hid (InL w a l) := ha
  have HN : Hid (l.length = n) := hln
  clear hm hb hk1 hk2 hk3 ha hln
  go_enter Try.func4, Try.ntmps4
  go_wp2
  go_loopw [6] (fun x wr => ∃ i : Nat, i ≤ k ∧ x = .int .i64 (i : Int) ∧ wr = w) (fun x _ => n - (intOf x).toNat)
  case atStart => exact ⟨0, Nat.zero_le _, rfl, rfl⟩
  case round =>
    obtain ⟨i, hin, rfl, hwr⟩ := hrel
    obtain rfl : w = wr := hwr.symm
    clear hwr
    have hlt : i < n := by omega
    have hiz : (i : Int) < (n : Nat) := by omega
    have hi0 : (0 : Int) ≤ i := by omega
    obtain ⟨x, hx⟩ : ∃ x, l[i]? = some x := ⟨_, List.getElem?_eq_getElem (by rw [HN.out]; exact hlt)⟩
    obtain ⟨g, o, rfl, hg, hc⟩ := HA.out i x hx
    by_cases hik : i < k
    · have h1 := wtn_and (HK3.out i x hik hx)
      have h2 : ¬ x < 0 := by omega
      have h3 : ¬ x > 32 := by omega
      clear hx h1
      go_wp2
      go_roundw
      case rel => exact ⟨i + 1, by omega, by go_num, by trivial⟩
      case measure => simp [intOf]; omega
    · have hie : i = k := by omega
      have hxe : x = xk := by
        have := HK1.out
        rw [← hie, hx] at this
        cases this; rfl
      have h1 := HK2.out
      rw [← hxe] at h1
      by_cases h2 : x < 0
      · clear hx hie hxe h1
        go_wp2
        go_ret2
        exact ⟨rfl, Below.refl _ _⟩
      · have h3 : x > 32 := by
          simp [wtn] at h1
          have := h1 (by omega)
          omega
        clear hx hie hxe h1
        go_wp2
        go_ret2
        exact ⟨rfl, Below.refl _ _⟩
theorem rtiers_no (a : Option Addr) (n c : Nat) (m : Int) (l : List Int) (w : World) (ha : InL w a l) (hln : l.length = n) (hb : tirNo n m l) :
    Calls Try.prog 4 #[.slice a n c, .int .i64 m] w fun e w' => e = .returned (.tuple #[.slice none 0 0, .int .i64 1]) ∧ Below w.heap.size w w' := by
  by_cases h1 : 1048576 < n
  · exact rtiers_big a n c m w h1
  · cases h2 : wtn m 2 1024 with
    | false => exact rtiers_fan a n c m w (by omega) h2
    | true =>
      rcases hb with h | h | h
      · exact absurd h h1
      · rw [h2] at h; cases h
      · exact rtiers_lvl a n c m l w ha hln (by omega) h2 h
end Go.Proofs.Ythfggejdeodinaa
