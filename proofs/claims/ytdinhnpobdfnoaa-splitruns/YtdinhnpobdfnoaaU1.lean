/- The walks of package split: within, Plan.Check, begun, cutter.cut. -/
import Derived.Test.YtdinhnpobdfnoaaK21
import Derived.Test.YtdinhnpobdfnoaaV2A
namespace Go.Proofs.Ytdinhnpobdfnoaa
open Go.RowKit
set_option linter.unusedSimpArgs false
set_option linter.unusedVariables false
/-- A number from least to most. -/
def wtn (n a b : Int) : Bool := decide (a ≤ n) && decide (n ≤ b)
theorem wtn_yes {n a b : Int} (h1 : a ≤ n) (h2 : n ≤ b) : wtn n a b = true := by simp [wtn, h1, h2]
theorem wtn_low {n a b : Int} (h1 : ¬ a ≤ n) : wtn n a b = false := by simp [wtn, h1]
theorem wtn_high {n a b : Int} (h1 : ¬ n ≤ b) : wtn n a b = false := by simp [wtn, h1]
set_option maxHeartbeats 1000000 in
theorem within_any (n a b : Int) (w : World) : Calls Try.prog 31 #[.int .i64 n, .int .i64 a, .int .i64 b] w fun e w' => e = .returned (.bool (wtn n a b)) ∧ w' = w := by
  by_cases h1 : a ≤ n
  · by_cases h2 : n ≤ b
    · rw [wtn_yes h1 h2]
      go_enter Try.func31, Try.ntmps31
      go_wp2
      go_ret
      exact ⟨rfl, rfl⟩
    · rw [wtn_high h2]
      go_enter Try.func31, Try.ntmps31
      go_wp2
      go_ret
      exact ⟨rfl, rfl⟩
  · rw [wtn_low h1]
    go_enter Try.func31, Try.ntmps31
    go_wp2
    go_ret
    exact ⟨rfl, rfl⟩
/-- A plan that may be. -/
def plB (b f m : Int) : Bool := wtn b 4 16 && (wtn f 1 8 && wtn m 64 65536)
def plE (b f m : Int) : Int := if plB b f m = true then 0 else 90
abbrev plV (b f m : Int) : Value := .agg #[.int .i64 b, .int .i64 f, .int .i64 m]
set_option maxHeartbeats 1000000 in
theorem check_any (b f m : Int) (w : World) : Calls Try.prog 13 #[plV b f m] w fun e w' => e = .returned (.int .i64 (plE b f m)) ∧ Below w.heap.size w w' := by
  obtain ⟨x, hx⟩ : ∃ x, wtn b 4 16 = x := ⟨_, rfl⟩
  obtain ⟨y, hy⟩ : ∃ x, wtn f 1 8 = x := ⟨_, rfl⟩
  obtain ⟨z, hz⟩ : ∃ x, wtn m 64 65536 = x := ⟨_, rfl⟩
  have c1 : ∀ u, Calls Try.prog 31 #[.int .i64 b, .int .i64 4, .int .i64 16] u fun e w' => e = .returned (.bool x) ∧ w' = u := fun u => hx ▸ within_any b 4 16 u
  have c2 : ∀ u, Calls Try.prog 31 #[.int .i64 f, .int .i64 1, .int .i64 8] u fun e w' => e = .returned (.bool y) ∧ w' = u := fun u => hy ▸ within_any f 1 8 u
  have c3 : ∀ u, Calls Try.prog 31 #[.int .i64 m, .int .i64 64, .int .i64 65536] u fun e w' => e = .returned (.bool z) ∧ w' = u := fun u => hz ▸ within_any m 64 65536 u
  have hE : plE b f m = if (x && (y && z)) = true then 0 else 90 := by unfold plE plB; rw [hx, hy, hz]
  have HC1 : Hid _ := c1
  have HC2 : Hid _ := c2
  have HC3 : Hid _ := c3
  rw [hE]
  clear c1 c2 c3 hE hx hy hz
  cases x
  · go_enter Try.func13, Try.ntmps13
    go_wp2_with fail
    refine (HC1.out _).mono ?_
    rintro e w1 ⟨rfl, rfl⟩
    go_wp2
    go_ret
    exact ⟨rfl, (Below.refl _ _).alloc (Nat.le_refl _) _⟩
  · cases y
    · go_enter Try.func13, Try.ntmps13
      go_wp2_with fail
      refine (HC1.out _).mono ?_
      rintro e w1 ⟨rfl, rfl⟩
      go_wp2_with fail
      refine (HC2.out _).mono ?_
      rintro e w1 ⟨rfl, rfl⟩
      go_wp2
      go_ret
      exact ⟨rfl, (Below.refl _ _).alloc (Nat.le_refl _) _⟩
    · go_enter Try.func13, Try.ntmps13
      go_wp2_with fail
      refine (HC1.out _).mono ?_
      rintro e w1 ⟨rfl, rfl⟩
      go_wp2_with fail
      refine (HC2.out _).mono ?_
      rintro e w1 ⟨rfl, rfl⟩
      go_wp2_with fail
      refine (HC3.out _).mono ?_
      rintro e w1 ⟨rfl, rfl⟩
      cases z
      · go_wp2
        go_ret
        exact ⟨rfl, (Below.refl _ _).alloc (Nat.le_refl _) _⟩
      · go_wp2
        go_ret
        exact ⟨rfl, (Below.refl _ _).alloc (Nat.le_refl _) _⟩
/-- A cutter's cells. -/
abbrev cuV (p : Pl) (r : Nat) (n : Nat) : Array Value := #[.int .i64 p.B, .int .i64 p.F, .int .i64 p.M, .pointer (some ⟨r, 0, none⟩), .int .i64 n]
/-- A cutter at a place of a block, that holds l. -/
structure Cu (w : World) (g o : Nat) (p : Pl) (l : List UInt8) (r : Nat) : Prop where
  c0 : w.cell? ⟨g, o, none⟩ = some (.int .i64 p.B)
  c1 : w.cell? ⟨g, o + 1, none⟩ = some (.int .i64 p.F)
  c2 : w.cell? ⟨g, o + 2, none⟩ = some (.int .i64 p.M)
  c3 : w.cell? ⟨g, o + 3, none⟩ = some (.pointer (some ⟨r, 0, none⟩))
  c4 : w.cell? ⟨g, o + 4, none⟩ = some (.int .i64 (l.length : Int))
  roll : Rll w r l
/-- What cut tells. -/
def cuL (p : Pl) (l : List UInt8) : Nat := (ctA p l).getD 0
set_option maxHeartbeats 2000000 in
set_option maxRecDepth 100000 in
theorem cut_any (p : Pl) (hp : p.ok) (l : List UInt8) (g o r : Nat) (w : World) (h : Cu w g o p l r) (hl : l.length ≤ 65536) :
    Calls Try.prog 42 #[.pointer (some ⟨g, o, none⟩)] w fun e w' => e = .returned (.tuple #[.int .i64 (cuL p l : Int), .bool (ctA p l).isSome]) ∧ w.grownBy w' none := by
  obtain ⟨hb1, hb2, hf1, hf2, hm1, hm2⟩ := hp
  have c0 := h.c0
  have c1 := h.c1
  have c2 := h.c2
  have c3 := h.c3
  have c4 := h.c4
  have HR : Hid (Rll w r l) := h.roll
  have ho := one_le l
  have HO : Hid (onN 32 (dgR l) = one l) := rfl
  obtain ⟨b, hb⟩ : ∃ b, p.B = b := ⟨_, rfl⟩
  obtain ⟨f, hf⟩ : ∃ b, p.F = b := ⟨_, rfl⟩
  obtain ⟨m, hm⟩ : ∃ b, p.M = b := ⟨_, rfl⟩
  obtain ⟨N, hN⟩ : ∃ b, l.length = b := ⟨_, rfl⟩
  obtain ⟨k, hk⟩ : ∃ b, one l = b := ⟨_, rfl⟩
  rw [hk] at HO ho
  rw [hb] at c0
  rw [hf] at c1
  rw [hm] at c2
  rw [hN] at c4 hl
  rw [hb] at hb1 hb2
  rw [hf] at hf1 hf2
  rw [hm] at hm1 hm2
  have hd := dgR_lt l
  by_cases hkb : b ≤ k
  · have e1 : cuL p l = (k - b) / f := by unfold cuL; rw [ctA_ones (by rw [hb, hk]; exact hkb), hk, hb, hf]; rfl
    have e2 : (ctA p l).isSome = true := by rw [ctA_ones (by rw [hb, hk]; exact hkb)]; rfl
    rw [e1, e2]
    obtain ⟨D, hD⟩ : ∃ D, k - b = D := ⟨_, rfl⟩
    obtain ⟨Q, hQ⟩ : ∃ Q, D / f = Q := ⟨_, rfl⟩
    have hDz : (k : Int) - b = D := by omega
    have hDl : D ≤ 32 := by omega
    have hQl : Q ≤ 32 := by rw [← hQ]; exact Nat.le_trans (Nat.div_le_self _ _) hDl
    have q1 : (D : Int).tdiv f = Q := by rw [Int.tdiv_eq_ediv_of_nonneg (by omega), ← hQ]; rfl
    have q2 : (D : Int) / f = Q := by rw [← hQ]; rfl
    have hf0 : ((f : Int) == 0) = false := by simp; omega
    have hw1 : IntKind.i64.wrap (D : Int) = D := by rw [IntKind.wrap_i64]; omega
    have hw2 : IntKind.i64.wrap (Q : Int) = Q := by rw [IntKind.wrap_i64]; omega
    rw [hD, hQ]
    have hkz : (k : Int) ≥ b := by omega
    clear hD hQ hk hN hb hf hm e1 e2 h
    go_enter Try.func42, Try.ntmps42
    go_wp2_with fail
    refine (digestR_any l r _ HR.out).mono ?_
    rintro e w1 ⟨rfl, n, rfl⟩
    go_wp2_with fail
    refine (ones_any _ _ hd).mono ?_
    rintro e w1 ⟨rfl, rfl⟩
    rw [HO.out]
    go_wp2
    go_quiet (fail)
    go_wp2
    go_ret2
    exact ⟨rfl, (gr_drewN w n none).trans (gr_drewN _ _ none)⟩
  · have e1 : cuL p l = 0 := by
      unfold cuL
      by_cases c : N = m
      · rw [ctA_most (by rw [hb, hk]; exact hkb) (by rw [hN, hm]; exact c)]; rfl
      · rw [ctA_none (by rw [hb, hk]; exact hkb) (by rw [hN, hm]; exact c)]; rfl
    have e2 : (ctA p l).isSome = decide (N = m) := by
      by_cases c : N = m
      · rw [ctA_most (by rw [hb, hk]; exact hkb) (by rw [hN, hm]; exact c)]; simp [c]
      · rw [ctA_none (by rw [hb, hk]; exact hkb) (by rw [hN, hm]; exact c)]; simp [c]
    rw [e1, e2]
    have hkz : ¬ (k : Int) ≥ b := by omega
    obtain ⟨x, hx⟩ : ∃ x, ((N : Int) == m) = x := ⟨_, rfl⟩
    have hx2 : decide (N = m) = x := by rw [← hx]; by_cases c : N = m <;> simp [c]; omega
    rw [hx2]
    clear hk hN hb hf hm e1 e2 h hx2
    go_enter Try.func42, Try.ntmps42
    go_wp2_with fail
    refine (digestR_any l r _ HR.out).mono ?_
    rintro e w1 ⟨rfl, n, rfl⟩
    go_wp2_with fail
    refine (ones_any _ _ hd).mono ?_
    rintro e w1 ⟨rfl, rfl⟩
    rw [HO.out]
    go_wp2
    go_quiet (fail)
    go_wp2
    go_ret2
    exact ⟨rfl, (gr_drewN w n none).trans (gr_drewN _ _ none)⟩
end Go.Proofs.Ytdinhnpobdfnoaa
