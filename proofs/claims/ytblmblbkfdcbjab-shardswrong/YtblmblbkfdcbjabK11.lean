/- Ranks: as many rows as are not made of others. -/
import Derived.Test.YtblmblbkfdcbjabK10
namespace Go.Proofs.Ytblmblbkfdcbjab
open Go.RowKit
set_option linter.unusedSimpArgs false
set_option linter.unusedVariables false
/-- All numbers but i0, in order. -/
def skp (i0 i : Nat) : Nat := if i < i0 then i else i + 1
theorem Sx_skip (f : Nat → UInt8) (i0 : Nat) : ∀ k, i0 ≤ k → Sx (k + 1) f = Sx k (fun i => f (skp i0 i)) ^^^ f i0 := by
  intro k
  induction k with
  | zero =>
    intro h
    obtain rfl : i0 = 0 := by omega
    rfl
  | succ k ih =>
    intro h
    by_cases e : i0 = k + 1
    · subst e
      rw [Sx]
      congr 1
      apply Sx_congr
      intro i hi
      rw [skp, if_pos hi]
    · rw [Sx, ih (by omega), Sx, skp, if_neg (by omega), UInt8.xor_assoc, UInt8.xor_assoc, UInt8.xor_comm (f i0)]
theorem hom : ∀ (m k : Nat) (C : Nat → Nat → UInt8), m < k → ∃ c : Nat → UInt8, (∃ i, i < k ∧ c i ≠ 0) ∧ ∀ j, j < m → Sx k (fun i => mul (c i) (C i j)) = 0
  | 0, k, C, h => ⟨fun _ => 1, ⟨0, by omega, by decide⟩, fun j hj => by omega⟩
  | m + 1, k, C, h => by
    by_cases hz : ∀ i, i < k → C i m = 0
    · obtain ⟨c, h1, h2⟩ := hom m k C (by omega)
      refine ⟨c, h1, fun j hj => ?_⟩
      by_cases e : j = m
      · subst e
        exact Sx_nil _ _ (fun i hi => by rw [hz i hi, mul_zero_right])
      · exact h2 j (by omega)
    · obtain ⟨i0, hi0, hne⟩ : ∃ i0, i0 < k ∧ C i0 m ≠ 0 := by
        apply Classical.byContradiction
        intro hno
        apply hz
        intro i hi
        apply Classical.byContradiction
        intro h1
        exact hno ⟨i, hi, h1⟩
      obtain ⟨k', rfl⟩ : ∃ k', k = k' + 1 := ⟨k - 1, by omega⟩
      obtain ⟨c', ⟨i1, hi1, hc1⟩, h2⟩ := hom m k' (fun i j => C (skp i0 i) j ^^^ mul (mul (C (skp i0 i) m) (inv (C i0 m))) (C i0 j)) (by omega)
      obtain ⟨T, hT⟩ : ∃ T, mul (Sx k' (fun i => mul (c' i) (C (skp i0 i) m))) (inv (C i0 m)) = T := ⟨_, rfl⟩
      have hsk : ∀ i, (if skp i0 i = i0 then T else c' (if skp i0 i < i0 then skp i0 i else skp i0 i - 1)) = c' i := by
        intro i
        unfold skp
        by_cases e : i < i0
        · rw [if_pos e, if_neg (by omega), if_pos e]
        · rw [if_neg e, if_neg (by omega), if_neg (by omega), Nat.add_sub_cancel]
      refine ⟨fun i => if i = i0 then T else c' (if i < i0 then i else i - 1), ⟨skp i0 i1, by unfold skp; split <;> omega, by show (if skp i0 i1 = i0 then T else c' (if skp i0 i1 < i0 then skp i0 i1 else skp i0 i1 - 1)) ≠ 0; rw [hsk]; exact hc1⟩, fun j hj => ?_⟩
      rw [Sx_skip _ i0 k' (by omega)]
      show Sx k' (fun i => mul (if skp i0 i = i0 then T else c' (if skp i0 i < i0 then skp i0 i else skp i0 i - 1)) (C (skp i0 i) j)) ^^^ mul (if i0 = i0 then T else _) (C i0 j) = 0
      rw [if_pos rfl, Sx_congr k' _ (fun i => mul (c' i) (C (skp i0 i) j)) (fun i hi => by rw [hsk])]
      by_cases e : j = m
      · subst e
        rw [← hT, mul_assoc, mul_inv _ hne, mul_one, UInt8.xor_self]
      · have h3 := h2 j (by omega)
        have h4 : Sx k' (fun i => mul (c' i) (C (skp i0 i) j ^^^ mul (mul (C (skp i0 i) m) (inv (C i0 m))) (C i0 j))) = Sx k' (fun i => mul (c' i) (C (skp i0 i) j)) ^^^ mul T (C i0 j) := by
          rw [← hT, ← Sx_mul, ← Sx_mul, ← Sx_add]
          apply Sx_congr
          intro i hi
          rw [mul_xor_right, ← mul_assoc (c' i), ← mul_assoc (c' i)]
        rw [← h4]; exact h3
/-- The numbers of the rows that are not 0. -/
def nzI (X : List (List UInt8)) (n : Nat) : List Nat := (List.range n).filter fun k => lf (X.getD k zp) != zr
theorem nzI_next (X : List (List UInt8)) (n : Nat) : nzI X (n + 1) = nzI X n ++ (if lf (X.getD n zp) = zr then [] else [n]) := by
  unfold nzI
  rw [List.range_succ, List.filter_append]
  congr 1
  by_cases h : lf (X.getD n zp) = zr
  · rw [if_pos h]; simp only [List.filter_cons, h, bne_self_eq_false, Bool.false_eq_true, if_false, List.filter_nil]
  · rw [if_neg h]
    have : (lf (X.getD n zp) != zr) = true := by rw [bne_iff_ne]; exact h
    simp only [List.filter_cons, this, if_true, List.filter_nil]
theorem nzI_len (X : List (List UInt8)) : ∀ n, n ≤ X.length → (nzI X n).length = rkK X n
  | 0, _ => rfl
  | n + 1, h => by
    obtain ⟨p, hp⟩ : ∃ p, X[n]? = some p := ⟨_, List.getElem?_eq_getElem (by omega)⟩
    have e : X.getD n zp = p := by rw [List.getD, hp]; rfl
    rw [nzI_next, List.length_append, nzI_len X n (by omega), rkK_next X n p hp, e]
    split <;> rfl
theorem nzI_mem (X : List (List UInt8)) (n t : Nat) (h : t < (nzI X n).length) : (nzI X n).getD t 0 < n ∧ lf (X.getD ((nzI X n).getD t 0) zp) ≠ zr := by
  have hm : (nzI X n).getD t 0 ∈ nzI X n := by
    rw [List.getD, List.getElem?_eq_getElem h]
    exact List.getElem_mem h
  generalize (nzI X n).getD t 0 = k at *
  unfold nzI at hm
  rw [List.mem_filter, List.mem_range, bne_iff_ne] at hm
  exact hm
theorem nzI_inj (X : List (List UInt8)) (n t s : Nat) (ht : t < (nzI X n).length) (hs : s < (nzI X n).length) (h : t ≠ s) : (nzI X n).getD t 0 ≠ (nzI X n).getD s 0 := by
  have hnd : (nzI X n).Pairwise (· ≠ ·) := List.Nodup.sublist List.filter_sublist List.nodup_range
  rw [List.getD, List.getD, List.getElem?_eq_getElem ht, List.getElem?_eq_getElem hs]
  rcases Nat.lt_or_ge t s with h1 | h1
  · exact List.pairwise_iff_getElem.1 hnd t s ht hs h1
  · exact fun e => List.pairwise_iff_getElem.1 hnd s t hs ht (by omega) e.symm
theorem getD_left (l m : List Nat) (t : Nat) (h : t < l.length) : (l ++ m).getD t 0 = l.getD t 0 := by
  rw [List.getD, List.getD, List.getElem?_append_left h]
theorem Sx_nz (X : List (List UInt8)) (f : Nat → UInt8) : ∀ n, (∀ k, k < n → lf (X.getD k zp) = zr → f k = 0) → Sx n f = Sx (nzI X n).length (fun t => f ((nzI X n).getD t 0))
  | 0, _ => rfl
  | n + 1, h => by
    have ih := Sx_nz X f n (fun k hk => h k (by omega))
    rw [nzI_next]
    by_cases e : lf (X.getD n zp) = zr
    · rw [if_pos e, List.append_nil, Sx, h n (by omega) e, UInt8.xor_zero, ih]
    · rw [if_neg e, List.length_append, List.length_singleton, Sx, Sx, ih]
      congr 1
      · apply Sx_congr
        intro t ht
        rw [getD_left _ _ _ ht]
      · rw [List.getD, List.getElem?_append_right (Nat.le_refl _), Nat.sub_self]; rfl
/-- A matrix's rank, as package field counts it. -/
def rk (A : List (List UInt8)) : Nat := rkK (redP A) A.length
theorem rk_span (A : List (List UInt8)) (hA : ∀ r ∈ A, r.length = 64) (hn : A.length ≤ 64) : ∃ (C g : Nat → Nat → UInt8), ∀ i j, i < A.length → j < 64 → mat A i j = Sx (rk A) (fun s => mul (C i s) (g s j)) := by
  obtain ⟨⟨S, hS1, _⟩, _⟩ := both_red A hA hn
  have hXl : (redP A).length = A.length := by rw [redP, redK_len, staP_len]
  have hXW : ∀ p ∈ redP A, p.length = 128 := redK_wide _ (staP_wide A hA) _
  refine ⟨fun i s => S i ((nzI (redP A) A.length).getD s 0), fun s j => ent (redP A) ((nzI (redP A) A.length).getD s 0) j, fun i j hi hj => ?_⟩
  rw [hS1 i j hi hj, Sx_nz (redP A) _ A.length (fun k hk hz => by
    rw [show ent (redP A) k j = 0 from lf_zero (getD_wide2 _ hXW k) hz j hj, mul_zero_right]), nzI_len _ _ (by omega)]
  rfl
theorem rk_le (A : List (List UInt8)) (hA : ∀ r ∈ A, r.length = 64) (hn : A.length ≤ 64) (u : Nat) (C g : Nat → Nat → UInt8) (h : ∀ i j, i < A.length → j < 64 → mat A i j = Sx u (fun s => mul (C i s) (g s j))) : rk A ≤ u := by
  apply Classical.byContradiction
  intro hlt
  have hI := Inv.red A hA hn
  have hP := (both_red A hA hn).2
  have hXl : (redP A).length = A.length := by rw [redP, redK_len, staP_len]
  have hXW : ∀ p ∈ redP A, p.length = 128 := redK_wide _ (staP_wide A hA) _
  have hlen : (nzI (redP A) A.length).length = rk A := nzI_len _ _ (by omega)
  obtain ⟨c, ⟨t0, ht0, hc0⟩, hk⟩ := hom u (rk A) (fun t s => Sx A.length (fun i => mul (ent (redP A) ((nzI (redP A) A.length).getD t 0) (64 + i)) (C i s))) (by omega)
  have hrow : ∀ t j, t < rk A → j < 64 → ent (redP A) ((nzI (redP A) A.length).getD t 0) j = Sx u (fun s => mul (Sx A.length (fun i => mul (ent (redP A) ((nzI (redP A) A.length).getD t 0) (64 + i)) (C i s))) (g s j)) := by
    intro t j ht hj
    have hm := (nzI_mem (redP A) A.length t (by omega)).1
    rw [hI.lin _ j hm hj, Sx_congr A.length _ (fun i => Sx u (fun s => mul (mul (ent (redP A) ((nzI (redP A) A.length).getD t 0) (64 + i)) (C i s)) (g s j))) (fun i hi => by
      rw [h i j hi hj, mul_comm, ← Sx_mul]
      apply Sx_congr
      intro s hs
      rw [mul_comm (mul (C i s) (g s j)), mul_assoc]), Sx_swap]
    apply Sx_congr
    intro s hs
    rw [← Sx_mul]
  have hzero : ∀ j, j < 64 → Sx (rk A) (fun t => mul (c t) (ent (redP A) ((nzI (redP A) A.length).getD t 0) j)) = 0 := by
    intro j hj
    rw [Sx_congr (rk A) _ (fun t => Sx u (fun s => mul (mul (c t) (Sx A.length (fun i => mul (ent (redP A) ((nzI (redP A) A.length).getD t 0) (64 + i)) (C i s)))) (g s j))) (fun t ht => by
      rw [hrow t j ht hj, mul_comm, ← Sx_mul]
      apply Sx_congr
      intro s hs
      rw [mul_comm (mul _ (g s j)), mul_assoc]), Sx_swap]
    apply Sx_nil
    intro s hs
    rw [Sx_mul, hk s hs, zero_mul]
  obtain ⟨hm, hnz⟩ := nzI_mem (redP A) A.length t0 (by omega)
  rcases hP _ hm with h0 | ⟨d, hd, h1, h2⟩
  · apply hnz
    have hl := getD_wide2 (redP A) hXW ((nzI (redP A) A.length).getD t0 0)
    apply List.ext_getElem?
    intro j
    by_cases hj : j < 64
    · have := h0 j hj
      unfold ent at this
      rw [List.getD_eq_getElem?_getD (l := (redP A).getD _ zp), List.getElem?_eq_getElem (by omega)] at this
      rw [lf, List.getElem?_take, if_pos hj, List.getElem?_eq_getElem (by omega), zr, List.getElem?_replicate, if_pos hj]
      exact congrArg some this
    · rw [List.getElem?_eq_none (by rw [lf_len _ hl]; omega), List.getElem?_eq_none (by rw [zr_len]; omega)]
  · have := hzero d hd
    rw [Sx_one (rk A) _ t0 ht0 (fun t ht htt => by
      rw [h2 _ (nzI_mem (redP A) A.length t (by omega)).1 (nzI_inj (redP A) A.length t t0 (by omega) (by omega) htt), mul_zero_right]), h1, mul_one] at this
    exact hc0 this
end Go.Proofs.Ytblmblbkfdcbjab
