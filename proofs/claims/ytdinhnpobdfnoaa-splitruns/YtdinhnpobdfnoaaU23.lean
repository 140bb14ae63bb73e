/- Pieces of a slice; the walk of the law's pieces. -/
import Derived.Test.YtdinhnpobdfnoaaU22
import Derived.Test.YtdinhnpobdfnoaaU8
namespace Go.Proofs.Ytdinhnpobdfnoaa
open Go.RowKit
set_option linter.unusedSimpArgs false
set_option linter.unusedVariables false
/-- Pieces of a slice. -/
def PcL (w : World) (a : Option Addr) (l : List (List UInt8 × Nat)) : Prop := ∀ i x, l[i]? = some x → ∃ g, a = some ⟨g, 0, none⟩ ∧ g < w.heap.size ∧ w.cell? ⟨g, i * 2, none⟩ = some (.string ⟨x.1.toArray⟩) ∧ w.cell? ⟨g, i * 2 + 1, none⟩ = some (.int .i64 (x.2 : Int))
theorem pcv_get : ∀ (l : List (List UInt8 × Nat)) (i : Nat) (x : List UInt8 × Nat), l[i]? = some x → (pcv l)[i * 2]? = some (.string ⟨x.1.toArray⟩) ∧ (pcv l)[i * 2 + 1]? = some (.int .i64 (x.2 : Int))
  | [], i, x, h => by simp at h
  | y :: r, 0, x, h => by
    simp at h
    subst h
    exact ⟨rfl, rfl⟩
  | y :: r, i + 1, x, h => by
    have e : pcv (y :: r) = Value.string ⟨y.1.toArray⟩ :: Value.int .i64 (y.2 : Int) :: pcv r := rfl
    have ih := pcv_get r i x (by simpa using h)
    rw [e, show (i + 1) * 2 = i * 2 + 1 + 1 from by omega]
    exact ⟨ih.1, ih.2⟩
theorem own_pcl {w : World} {B : Nat} {e : TypeId} {v : Value} {l : List (List UInt8 × Nat)} {n : Nat} (h : w.ownsRow B e 2 v n (pcv l)) (hn : l.length = n) : ∃ a c, v = .slice a n c ∧ PcL w a l := by
  rcases h.2 with ⟨rfl, h0⟩ | ⟨g, cap, cur, rfl, hle, hg, hnc, _, hc, ht⟩
  · subst h0
    have : l = [] := List.eq_nil_of_length_eq_zero hn
    subst this
    exact ⟨none, 0, rfl, fun i x hx => by simp at hx⟩
  · refine ⟨some ⟨g, 0, none⟩, cap, rfl, fun i x hx => ⟨g, rfl, (Array.getElem?_eq_some_iff.1 hg).1, ?_⟩⟩
    have hb : Bk w g cur e := hg
    have hl : i < l.length := (List.getElem?_eq_some_iff.1 hx).1
    obtain ⟨q1, q2⟩ := pcv_get l i x hx
    rw [← ht, List.getElem?_take, if_pos (by omega), Array.getElem?_toList] at q1 q2
    exact ⟨by rw [hb.cell]; exact q1, by rw [hb.cell]; exact q2⟩
theorem PcL.below {w w' : World} {a : Option Addr} {l : List (List UInt8 × Nat)} (h : PcL w a l) (hb : Below w.heap.size w w') : PcL w' a l := fun i x hx => by
  obtain ⟨g, h1, h2, h3, h4⟩ := h i x hx
  exact ⟨g, h1, Nat.lt_of_lt_of_le h2 hb.size, by rw [hb.cell (p := ⟨g, i * 2, none⟩) h2]; exact h3, by rw [hb.cell (p := ⟨g, i * 2 + 1, none⟩) h2]; exact h4⟩
set_option maxHeartbeats 2000000 in
set_option maxRecDepth 100000 in
theorem pieces_any (a1 a2 : Option Addr) (n1 c1 c2 : Nat) (l : List (List UInt8 × Nat)) (w : World) (hn : l.length = n1) (hb : n1 ≤ maxLen) (h1 : PcL w a1 l) (h2 : PcL w a2 l) :
    Calls Try.prog 20 #[.slice a1 n1 c1, .slice a2 n1 c2] w fun e w' => e = .returned (.bool true) ∧ Below w.heap.size w w' := by
  unfold maxLen at hb
  have HN : Hid (l.length = n1) := hn
  have H1 : Hid (PcL w a1 l) := h1
  have H2 : Hid (PcL w a2 l) := h2
  have hne : ((n1 : Int) != n1) = false := by simp
  clear hn h1 h2
  go_enter Try.func20, Try.ntmps20
  go_wp2
  go_loopw [5] (fun x wr => ∃ k : Nat, k ≤ n1 ∧ x = .int .i64 (k : Int) ∧ Hid (PcL wr a1 l ∧ PcL wr a2 l ∧ Below w.heap.size w wr)) (fun x _ => n1 - (intOf x).toNat)
  case atStart => exact ⟨0, by omega, rfl, H1.out, H2.out, Below.refl _ _⟩
  case round =>
    clear H1 H2
    obtain ⟨k, hk, rfl, HW⟩ := hrel
    by_cases hlt : k < n1
    · have hkz : (k : Int) < (n1 : Nat) := by omega
      have hk0 : (0 : Int) ≤ k := by omega
      obtain ⟨x, hx⟩ : ∃ x, l[k]? = some x := ⟨_, List.getElem?_eq_getElem (by rw [HN.out]; exact hlt)⟩
      obtain ⟨g1, rfl, hg1, p1, p2⟩ := HW.out.1 k x hx
      obtain ⟨g2, rfl, hg2, q1, q2⟩ := HW.out.2.1 k x hx
      obtain ⟨X, hX⟩ : ∃ X : ByteArray, (⟨x.1.toArray⟩ : ByteArray) = X := ⟨_, rfl⟩
      obtain ⟨Y, hY⟩ : ∃ X, x.2 = X := ⟨_, rfl⟩
      rw [hX] at p1 q1
      rw [hY] at p2 q2
      have hXX : (X.toList != X.toList) = false := by simp
      have hYY : ((Y : Int) != Y) = false := by simp
      clear hx hX hY
      go_wp2
      go_quiet (fail)
      go_wp2
      go_roundw
      case rel => exact ⟨k + 1, by omega, by go_num, HW.out.1.below (below_drewN (Below.refl _ _) _), HW.out.2.1.below (below_drewN (Below.refl _ _) _), below_drewN HW.out.2.2 _⟩
      case measure => simp [intOf]; omega
    · have hkz : ¬ (k : Int) < (n1 : Nat) := by omega
      go_wp2
      go_ret
      exact ⟨rfl, HW.out.2.2⟩
end Go.Proofs.Ytdinhnpobdfnoaa
