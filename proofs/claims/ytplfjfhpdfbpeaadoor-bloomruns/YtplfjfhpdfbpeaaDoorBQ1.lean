/- A filter in memory; bloom.isSize. -/
import Derived.Test.YtplfjfhpdfbpeaaDoorBM1
import Derived.Test.YtplfjfhpdfbpeaaDoorDI
import Derived.Test.YtplfjfhpdfbpeaaDoorM0
import Derived.Test.YtplfjfhpdfbpeaaDoorM2
namespace Go.Proofs.YtplfjfhpdfbpeaaDoor
open Go.RowKit
set_option linter.unusedSimpArgs false
set_option linter.unusedVariables false
/-- Bytes of a row that may be written. -/
def Rw (w : World) (g : Nat) (s : List UInt8) : Prop := ∃ (C : Array Value) (fz : Nat × Nat), w.heap[g]? = some (.cells C 5 fz) ∧ (∀ j, j < s.length → ¬ (fz.1 ≤ j ∧ j < fz.2)) ∧ ∀ j, j < s.length → C[j]? = some (.int .u8 ((s.getD j 0).toNat : Int))
theorem Rw.lt {w : World} {g : Nat} {s : List UInt8} (h : Rw w g s) : g < w.heap.size := by
  obtain ⟨C, fz, h, _⟩ := h
  exact (Array.getElem?_eq_some_iff.1 h).1
theorem Rw.cell {w : World} {g : Nat} {s : List UInt8} (h : Rw w g s) (j : Nat) (hj : j < s.length) : w.cell? ⟨g, j, none⟩ = some (.int .u8 ((s.getD j 0).toNat : Int)) := by
  obtain ⟨C, fz, hC, _, hc⟩ := h
  rw [cell_of_row w g j C _ _ hC]
  exact hc j hj
theorem Rw.frozen {w : World} {g : Nat} {s : List UInt8} (h : Rw w g s) (j : Nat) (hj : j < s.length) : w.frozen? ⟨g, j, none⟩ = false := by
  obtain ⟨C, fz, hC, hn, _⟩ := h
  have := hn j hj
  simp only [World.frozen?, hC]
  simp only [Bool.and_eq_false_iff, decide_eq_false_iff_not]
  omega
theorem Rw.set {w : World} {g : Nat} {s : List UInt8} (h : Rw w g s) (i : Nat) (hi : i < s.length) (v : UInt8) : Rw (w.setCell ⟨g, i, none⟩ (.int .u8 (v.toNat : Int))) g (s.set i v) := by
  obtain ⟨C, fz, hC, hn, hc⟩ := h
  refine ⟨C.setIfInBounds i (.int .u8 (v.toNat : Int)), fz, Joins.block_setCell (i := i) hC _, by simpa using hn, fun j hj => ?_⟩
  rw [List.length_set] at hj
  have hiC : i < C.size := by
    have := hc i hi
    exact (Array.getElem?_eq_some_iff.1 this).1
  rw [Array.getElem?_setIfInBounds]
  by_cases e : i = j
  · subst e; rw [if_pos rfl, if_pos hiC]; simp [List.getD, hi]
  · rw [if_neg e, hc j hj]; simp [List.getD, List.getElem?_set, e]
theorem Rw.grown {w w' : World} {g : Nat} {s : List UInt8} {r : Option Nat} (h : Rw w g s) (hg : w.grownBy w' r) (hr : r ≠ some g) : Rw w' g s := by
  have hlt := h.lt
  obtain ⟨C, fz, hC, hn⟩ := h
  exact ⟨C, fz, by rw [hg.block g hlt (fun e => hr e.symm)]; exact hC, hn⟩
theorem Rw.of_bk {w : World} {g : Nat} {s : List UInt8} (h : Bk w g (rc s) 5) : Rw w g s :=
  ⟨rc s, (0, 0), h, fun j _ => by omega, fun j hj => by rw [rc_get, List.getD, List.getElem?_eq_getElem hj]; rfl⟩
/-- A filter: its size, its bytes; the block f is its own, g has its row. -/
structure FlS (w : World) (f g n k : Nat) (s : List UInt8) : Prop where
  ok : okF n k
  len : 8 * s.length = n
  top : ∃ c, Bk w f #[.int .i64 (n : Int), .int .i64 (k : Int), .slice (some ⟨g, 0, none⟩) s.length c] 69 ∧ s.length ≤ c
  row : Rw w g s
theorem FlS.lt {w : World} {f g n k : Nat} {s : List UInt8} (h : FlS w f g n k s) : f < w.heap.size := by
  obtain ⟨c, h, _⟩ := h.top
  exact h.lt
theorem FlS.ne {w : World} {f g n k : Nat} {s : List UInt8} (h : FlS w f g n k s) : f ≠ g := by
  rintro rfl
  obtain ⟨c, h1, _⟩ := h.top
  obtain ⟨C, fz, h2, _⟩ := h.row
  unfold Bk at h1
  rw [h1] at h2
  injection h2 with h2
  injection h2 with _ h2 _
  exact absurd h2 (by decide)
theorem FlS.grown {w w' : World} {f g n k : Nat} {s : List UInt8} {r : Option Nat} (h : FlS w f g n k s) (hg : w.grownBy w' r) (h1 : r ≠ some f) (h2 : r ≠ some g) : FlS w' f g n k s := by
  obtain ⟨c, ht, hc⟩ := h.top
  exact ⟨h.ok, h.len, ⟨c, ht.grown hg h1, hc⟩, h.row.grown hg h2⟩
theorem FlS.below {w w' : World} {f g n k : Nat} {s : List UInt8} (h : FlS w f g n k s) (hb : Below w.heap.size w w') : FlS w' f g n k s := h.grown (gr_of_below hb none) (by simp) (by simp)
theorem FlS.pos {w : World} {f g n k : Nat} {s : List UInt8} (h : FlS w f g n k s) : 0 < n := by have := okF_pos h.ok; omega
/-- One bit more. -/
theorem FlS.bit {w : World} {f g n k : Nat} {s : List UInt8} (h : FlS w f g n k s) (p : Nat) (hp : p < n) : FlS (w.setCell ⟨g, p / 8, none⟩ (.int .u8 ((orB (s.getD (p / 8) 0) (p % 8)).toNat : Int))) f g n k (stR s p) ∧ w.grownBy (w.setCell ⟨g, p / 8, none⟩ (.int .u8 ((orB (s.getD (p / 8) 0) (p % 8)).toNat : Int))) (some g) := by
  have hl := h.len
  have hg := Lib.grownBy_setB (World.grownBy.refl w (some g)) (p / 8) (.int .u8 ((orB (s.getD (p / 8) 0) (p % 8)).toNat : Int))
  obtain ⟨c, ht, hc⟩ := h.top
  refine ⟨⟨h.ok, by rw [stR_len]; exact hl, ⟨c, ?_, by rw [stR_len]; exact hc⟩, h.row.set (p / 8) (by omega) _⟩, hg⟩
  rw [stR_len]
  exact ht.grown hg (by have := h.ne; simp; omega)
set_option maxHeartbeats 1000000 in
set_option maxRecDepth 100000 in
theorem isSize_any (x y : Nat) (w : World) (hx : x < 18446744073709551616) (hy : y < 18446744073709551616) :
    Calls Tryd.prog 32 #[.int .u64 (x : Int), .int .u64 (y : Int)] w fun e w' => e = .returned (.bool (decide (x &&& (x - 1) = 0) && decide (64 ≤ x) && decide (x ≤ 16777216) && decide (1 ≤ y) && decide (y ≤ 8))) ∧ w' = w := by
  by_cases hx0 : x = 0
  · subst hx0
    go_enter Tryd.func32, Tryd.ntmps32
    go_wp2
    go_ret
    exact ⟨by simp, rfl⟩
  · obtain ⟨N, hN⟩ : ∃ N, x &&& (x - 1) = N := ⟨_, rfl⟩
    have hb : bits .and .u64 (x : Int) ((x : Int) - 1) = (N : Int) := by
      rw [show (x : Int) - 1 = ((x - 1 : Nat) : Int) from by omega, u64_and_nat _ _ hx (by omega), hN]
    rw [hN]
    have hx1 : 1 ≤ x := by omega
    have hx2 : (1 : Int) ≤ x := by omega
    clear hN hx0
    by_cases h1 : N = 0
    · subst h1
      by_cases h2 : 64 ≤ x
      · by_cases h3 : x ≤ 16777216
        · by_cases h4 : 1 ≤ y
          · by_cases h5 : y ≤ 8
            · have k2 : (64 : Int) ≤ x := by omega
              have k3 : (x : Int) ≤ 16777216 := by omega
              have k4 : (1 : Int) ≤ y := by omega
              have k5 : (y : Int) ≤ 8 := by omega
              go_enter Tryd.func32, Tryd.ntmps32
              go_wp2
              go_ret
              exact ⟨by simp [h2, h3, h4, h5], rfl⟩
            · have k2 : (64 : Int) ≤ x := by omega
              have k3 : (x : Int) ≤ 16777216 := by omega
              have k4 : (1 : Int) ≤ y := by omega
              have k5 : ¬ (y : Int) ≤ 8 := by omega
              go_enter Tryd.func32, Tryd.ntmps32
              go_wp2
              go_ret
              exact ⟨by simp [h2, h3, h4, h5], rfl⟩
          · have k2 : (64 : Int) ≤ x := by omega
            have k3 : (x : Int) ≤ 16777216 := by omega
            have k4 : ¬ (1 : Int) ≤ y := by omega
            go_enter Tryd.func32, Tryd.ntmps32
            go_wp2
            go_ret
            exact ⟨by simp [h2, h3, h4], rfl⟩
        · have k2 : (64 : Int) ≤ x := by omega
          have k3 : ¬ (x : Int) ≤ 16777216 := by omega
          go_enter Tryd.func32, Tryd.ntmps32
          go_wp2
          go_ret
          exact ⟨by simp [h2, h3], rfl⟩
      · have k2 : ¬ (64 : Int) ≤ x := by omega
        go_enter Tryd.func32, Tryd.ntmps32
        go_wp2
        go_ret
        exact ⟨by simp [h2], rfl⟩
    · have k1 : ¬ (N : Int) = 0 := by omega
      go_enter Tryd.func32, Tryd.ntmps32
      go_wp2
      go_ret
      exact ⟨by simp [h1], rfl⟩
theorem isSize_yes (x y : Nat) (w : World) (h : okF x y) : Calls Tryd.prog 32 #[.int .u64 (x : Int), .int .u64 (y : Int)] w fun e w' => e = .returned (.bool true) ∧ w' = w := by
  have h1 := (okF_iff x y).1 h
  refine (isSize_any x y w (by omega) (by omega)).mono ?_
  rintro e w' ⟨rfl, rfl⟩
  exact ⟨by simp [h1.1, h1.2.1, h1.2.2.1, h1.2.2.2.1, h1.2.2.2.2], rfl⟩
theorem isSize_no (x y : Nat) (w : World) (hx : x < 18446744073709551616) (hy : y < 18446744073709551616) (h : ¬ okF x y) : Calls Tryd.prog 32 #[.int .u64 (x : Int), .int .u64 (y : Int)] w fun e w' => e = .returned (.bool false) ∧ w' = w := by
  rw [okF_iff] at h
  refine (isSize_any x y w hx hy).mono ?_
  rintro e w' ⟨rfl, rfl⟩
  refine ⟨?_, rfl⟩
  congr 2
  rw [Bool.eq_false_iff]
  intro hc
  simp only [Bool.and_eq_true, decide_eq_true_eq] at hc
  exact h ⟨hc.1.1.1.1, hc.1.1.1.2, hc.1.1.2, hc.1.2, hc.2⟩
end Go.Proofs.YtplfjfhpdfbpeaaDoor
