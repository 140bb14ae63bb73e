/- What an elimination tells: the rank, and beside the unit the inverse. -/
import Derived.Test.YtblmblbkfdcbjaaK13
namespace Go.Proofs.Ytblmblbkfdcbjaa
open Go.RowKit
set_option linter.unusedSimpArgs false
set_option linter.unusedVariables false
theorem Sx_front (f : Nat → UInt8) (t : Nat) : ∀ R, t ≤ R → (∀ l, t ≤ l → l < R → f l = 0) → Sx R f = Sx t f := by
  intro R
  induction R with
  | zero =>
    intro h _
    obtain rfl : t = 0 := by omega
    rfl
  | succ R ih =>
    intro h hz
    by_cases e : t = R + 1
    · rw [e]
    · rw [Sx, hz R (by omega) (by omega), UInt8.xor_zero, ih (by omega) (fun l h1 h2 => hz l h1 (by omega))]
theorem Spn.cut {R L n : Nat} {A : Nat → Nat → UInt8} {v : Nat → UInt8} (h : Spn R A L v) (hn : n ≤ L) : Spn R A n v := by
  obtain ⟨c, hc⟩ := h
  exact ⟨c, fun j hj => hc j (by omega)⟩
theorem Spn.of {R L : Nat} {A B : Nat → Nat → UInt8} {v : Nat → UInt8} (h : Spn R A L v) (hAB : ∀ i j, i < R → j < L → A i j = B i j) : Spn R B L v := by
  obtain ⟨c, hc⟩ := h
  refine ⟨c, fun j hj => ?_⟩
  rw [hc j hj]
  apply Sx_congr
  intro l hl
  rw [hAB l j hl hj]
theorem El.left {A B M : Nat → Nat → UInt8} {R L n c t : Nat} {pv : Nat → Nat} (h : El A R L n c t pv M) (hAB : ∀ i j, i < R → j < n → A i j = B i j) : El B R n n c t pv M where
  up i hi := ((h.up i hi).cut h.nl).of hAB
  dn i hi := ((h.dn i hi).cut h.nl).congr (fun j hj => (hAB i j hi hj).symm)
  tr := h.tr
  cn := h.cn
  nl := Nat.le_refl _
  lt := h.lt
  mo := h.mo
  pu := h.pu
  ze := h.ze
theorem El.rank {X : List (List UInt8)} {n c t : Nat} {pv : Nat → Nat} {M : Nat → Nat → UInt8} (hX : ∀ r ∈ X, r.length = 64) (hl : X.length ≤ 64) (hn : n ≤ 64) (hz : ∀ i j, i < X.length → n ≤ j → j < 64 → mat X i j = 0)
    (h : El (mat X) X.length n n c t pv M) (hd : c = n ∨ t = X.length) : t = rk X := by
  apply Nat.le_antisymm
  · apply Classical.byContradiction
    intro hlt
    obtain ⟨C, g, hs⟩ := rk_span X hX hl
    have hr : ∀ k, k < t → ∃ D : Nat → UInt8, ∀ j, j < n → M k j = Sx (rk X) (fun s => mul (D s) (g s j)) := by
      intro k hk
      have hk' : k < X.length := by have := h.tr; omega
      have h2 : Spn (rk X) g n (M k) := Spn.trans (fun i hi => (⟨C i, fun j hj => hs i j hi (by omega)⟩ : Spn (rk X) g n (mat X i))) (h.up k hk')
      exact h2
    obtain ⟨lam, ⟨k0, hk0, hne⟩, hker⟩ := hom (rk X) t (fun k s => if h' : k < t then Classical.choose (hr k h') s else 0) (by omega)
    have hsum : ∀ j, j < n → Sx t (fun k => mul (lam k) (M k j)) = 0 := by
      intro j hj
      rw [Sx_congr t _ (fun k => Sx (rk X) (fun s => mul (mul (lam k) (if h' : k < t then Classical.choose (hr k h') s else 0)) (g s j))) (fun k hk => by
        rw [Classical.choose_spec (hr k hk) j hj, mul_comm, ← Sx_mul]
        apply Sx_congr
        intro s _
        simp only [dif_pos hk]
        rw [mul_comm (mul _ (g s j)), mul_assoc]), Sx_swap]
      apply Sx_nil
      intro s hs'
      rw [Sx_mul, hker s hs', zero_mul]
    have h1 := hsum (pv k0) (by have := h.lt k0 hk0; have := h.cn; omega)
    rw [Sx_one t _ k0 hk0 (fun i hi hik => by
      rw [h.pu k0 i hk0 (by have := h.tr; omega), if_neg hik, mul_zero_right]), h.pu k0 k0 hk0 (by have := h.tr; omega), if_pos rfl, mul_one] at h1
    exact hne h1
  · refine rk_le X hX hl t (fun i s => if h' : i < X.length then Classical.choose (h.dn i h') s else 0) (fun s j => if j < n then M s j else 0) (fun i j hi hj => ?_)
    by_cases hjn : j < n
    · rw [Classical.choose_spec (h.dn i hi) j hjn, Sx_front _ t X.length h.tr (fun l h1 h2 => by
        rcases hd with rfl | rfl
        · rw [h.ze l j h1 h2 hjn, mul_zero_right]
        · omega)]
      apply Sx_congr
      intro s _
      simp only [dif_pos hi, if_pos hjn]
    · rw [hz i j hi (by omega) hj]
      symm
      apply Sx_nil
      intro s _
      simp only [if_neg hjn]
      exact mul_zero_right _
/-- Rising places below n, n of them, are all. -/
theorem rise_all (n : Nat) (pv : Nat → Nat) (hl : ∀ k, k < n → pv k < n) (hm : ∀ k l, k < l → l < n → pv k < pv l) : ∀ k, k < n → pv k = k := by
  have lo : ∀ k, k < n → k ≤ pv k := by
    intro k
    induction k with
    | zero => intro _; exact Nat.zero_le _
    | succ k ih => intro h; have := ih (by omega); have := hm k (k + 1) (by omega) h; omega
  have hi : ∀ d k, k + d + 1 = n → pv k + d < n := by
    intro d
    induction d with
    | zero => intro k h; have := hl k (by omega); omega
    | succ d ih => intro k h; have := ih (k + 1) (by omega); have := hm k (k + 1) (by omega) (by omega); omega
  intro k hk
  have := lo k hk
  have := hi (n - 1 - k) k (by omega)
  omega
/-- A matrix with the unit beside it. -/
def bes (n : Nat) (A : Nat → Nat → UInt8) (i j : Nat) : UInt8 := if j < n then A i j else if j = n + i then 1 else 0
theorem El.inverse {xs : List ByteArray} {n c : Nat} {pv : Nat → Nat} {M : Nat → Nat → UInt8} (hq : SqM n xs) (h1 : 1 ≤ n) (h2 : n ≤ 64) (hs : sng (redP (arrL xs)) = false)
    (h : El (bes n (mat (arrL xs))) n (n + n) n c n pv M) : ∀ i j, i < n → j < n → M i (n + j) = mat (arrL (ivX xs)) i j := by
  obtain ⟨u1, u2, u3⟩ := undo xs n hq h1 h2 hs
  have hpv := rise_all n pv (fun k hk => by have := h.lt k hk; have := h.cn; omega) h.mo
  have hlin : ∀ i j, i < n → j < n → M i j = Sx n (fun l => mul (M i (n + l)) (mat (arrL xs) l j)) := by
    intro i j hi hj
    obtain ⟨d, hd⟩ := h.up i hi
    have hdl : ∀ l, l < n → M i (n + l) = d l := by
      intro l hl
      rw [hd (n + l) (by omega), Sx_one n _ l hl (fun k hk hkl => by
        rw [bes, if_neg (by omega), if_neg (by omega), mul_zero_right])]
      rw [bes, if_neg (by omega), if_pos rfl, mul_one]
    rw [hd j (by omega)]
    apply Sx_congr
    intro l hl
    rw [hdl l hl, bes, if_pos hj]
  have hid : ∀ i k, i < n → k < n → Sx n (fun l => mul (M i (n + l)) (mat (arrL xs) l k)) = if i = k then 1 else 0 := by
    intro i k hi hk
    rw [← hlin i k hi hk]
    have := h.pu k i hk hi
    rw [hpv k hk] at this
    exact this
  have hri : ∀ l j, l < n → j < n → Sx n (fun s => mul (mat (arrL xs) l s) (mat (arrL (ivX xs)) s j)) = if j = l then 1 else 0 := by
    intro l j hl hj
    have e := mat_prod (arrL xs) (arrL (ivX xs)) (u1.wide h2) l j (by rw [hq.len]; exact hl) (by omega)
    rw [u3, unL_mat n l j hl h2 (by omega), u1.len] at e
    exact e.symm
  intro i j hi hj
  have e1 : M i (n + j) = Sx n (fun l => mul (M i (n + l)) (if j = l then 1 else 0)) := by
    rw [Sx_one n _ j hj (fun k hk hkj => by simp only [if_neg (fun e : j = k => hkj e.symm)]; exact mul_zero_right _)]
    simp only [if_pos rfl]
    exact (mul_one _).symm
  rw [e1, Sx_congr n _ (fun l => Sx n (fun s => mul (mul (M i (n + l)) (mat (arrL xs) l s)) (mat (arrL (ivX xs)) s j))) (fun l hl => by
    rw [← hri l j hl hj, mul_comm, ← Sx_mul]
    apply Sx_congr
    intro s _
    rw [mul_comm (mul _ (mat (arrL (ivX xs)) s j)), mul_assoc]), Sx_swap]
  rw [Sx_congr n _ (fun s => mul (if i = s then 1 else 0) (mat (arrL (ivX xs)) s j)) (fun s hs' => by rw [Sx_mul, hid i s hi hs'])]
  rw [Sx_one n _ i hi (fun k hk hki => by simp only [if_neg (fun e : i = k => hki e.symm)]; exact zero_mul _)]
  simp only [if_pos rfl]
  exact one_mul _
end Go.Proofs.Ytblmblbkfdcbjaa
