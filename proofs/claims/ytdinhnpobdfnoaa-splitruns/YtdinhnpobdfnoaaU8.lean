/- The walk of the law's chunks. -/
import Derived.Test.YtdinhnpobdfnoaaU7
import Derived.Test.YtdinhnpobdfnoaaU8A
namespace Go.Proofs.Ytdinhnpobdfnoaa
open Go.RowKit
set_option linter.unusedSimpArgs false
set_option linter.unusedVariables false
set_option maxHeartbeats 2000000 in
set_option maxRecDepth 100000 in
theorem chunks_any (a1 a2 : Option Addr) (n1 c1 c2 : Nat) (l : List (Nat × Nat)) (w : World) (hn : l.length = n1) (hb : n1 ≤ maxLen) (h1 : CkL w a1 l) (h2 : CkL w a2 l) :
    Calls Try.prog 12 #[.slice a1 n1 c1, .slice a2 n1 c2] w fun e w' => e = .returned (.bool true) ∧ Below w.heap.size w w' := by
  unfold maxLen at hb
  have HN : Hid (l.length = n1) := hn
  have H1 : Hid (CkL w a1 l) := h1
  have H2 : Hid (CkL w a2 l) := h2
  have hne : ((n1 : Int) != n1) = false := by simp
  clear hn h1 h2
  go_enter Try.func12, Try.ntmps12
  go_wp2
  go_loopw [5] (fun x wr => ∃ k : Nat, k ≤ n1 ∧ x = .int .i64 (k : Int) ∧ Hid (CkL wr a1 l ∧ CkL wr a2 l ∧ Below w.heap.size w wr)) (fun x _ => n1 - (intOf x).toNat)
  case atStart => exact ⟨0, by omega, rfl, H1.out, H2.out, Below.refl _ _⟩
  case round =>
    clear H1 H2
    obtain ⟨k, hk, rfl, HW⟩ := hrel
    by_cases hlt : k < n1
    · have hkz : (k : Int) < (n1 : Nat) := by omega
      have hk0 : (0 : Int) ≤ k := by omega
      obtain ⟨x, hx⟩ : ∃ x, l[k]? = some x := ⟨_, List.getElem?_eq_getElem (by rw [HN.out]; exact hlt)⟩
      obtain ⟨g1, rfl, hg1, p1, p2⟩ := HW.out.1 k x hx
      obtain ⟨g2, rfl, hg2, q1, q2⟩ := HW.out.2.1 k x hx
      obtain ⟨X, hX⟩ : ∃ X, x.1 = X := ⟨_, rfl⟩
      obtain ⟨Y, hY⟩ : ∃ X, x.2 = X := ⟨_, rfl⟩
      rw [hX] at p1 q1
      rw [hY] at p2 q2
      have hXX : ((X : Int) != X) = false := by simp
      have hYY : ((Y : Int) != Y) = false := by simp
      clear hx hX hY
      go_wp2
      go_quiet (fail)
      go_wp2
      go_roundw
      case rel => exact ⟨k + 1, by omega, by go_num, HW.out.1.below (below_drewN (Below.refl _ _) _), HW.out.2.1.below (below_drewN (Below.refl _ _) _), below_drewN HW.out.2.2 _⟩
      case measure => simp [intOf]; omega
    · have hkz : ¬ (k : Int) < (n1 : Nat) := by omega
      go_wp2
      go_ret
      exact ⟨rfl, HW.out.2.2⟩
end Go.Proofs.Ytdinhnpobdfnoaa
