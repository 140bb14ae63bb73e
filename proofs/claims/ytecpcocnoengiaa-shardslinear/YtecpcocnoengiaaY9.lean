import Derived.Test.YtecpcocnoengiaaY8
import Derived.Test.YtecpcocnoengiaaY5
/- Ranks: as many rows as are not made of others. -/
namespace Go.Proofs.Ytecpcocnoengiaa
open Go.RowKit
set_option linter.unusedSimpArgs false
set_option linter.unusedVariables false
/-- All numbers but i0, in order. -/
def skp (i0 i : Nat) : Nat := if i < i0 then i else i + 1
theorem Sx_skip (f : Nat → UInt8) (i0 : Nat) : ∀ k, i0 ≤ k → Sx (k + 1) f = Sx k (fun i => f (skp i0 i)) ^^^ f i0 := by
  intro k
  induction k with
  | zero =>
    intro h
    obtain rfl : i0 = 0 := by omega
    rfl
  | succ k ih =>
    intro h
    by_cases e : i0 = k + 1
    · subst e
      rw [Sx]
      congr 1
      apply Sx_congr
      intro i hi
      rw [skp, if_pos hi]
    · rw [Sx, ih (by omega), Sx, skp, if_neg (by omega), UInt8.xor_assoc, UInt8.xor_assoc, UInt8.xor_comm (f i0)]
theorem hom : ∀ (m k : Nat) (C : Nat → Nat → UInt8), m < k → ∃ c : Nat → UInt8, (∃ i, i < k ∧ c i ≠ 0) ∧ ∀ j, j < m → Sx k (fun i => mul (c i) (C i j)) = 0
  | 0, k, C, h => ⟨fun _ => 1, ⟨0, by omega, by decide⟩, fun j hj => by omega⟩
  | m + 1, k, C, h => by
    by_cases hz : ∀ i, i < k → C i m = 0
    · obtain ⟨c, h1, h2⟩ := hom m k C (by omega)
      refine ⟨c, h1, fun j hj => ?_⟩
      by_cases e : j = m
      · subst e
        exact Sx_nil _ _ (fun i hi => by rw [hz i hi, mul_zero_right])
      · exact h2 j (by omega)
    · obtain ⟨i0, hi0, hne⟩ : ∃ i0, i0 < k ∧ C i0 m ≠ 0 := by
        apply Classical.byContradiction
        intro hno
        apply hz
        intro i hi
        apply Classical.byContradiction
        intro h1
        exact hno ⟨i, hi, h1⟩
      obtain ⟨k', rfl⟩ : ∃ k', k = k' + 1 := ⟨k - 1, by omega⟩
      obtain ⟨c', ⟨i1, hi1, hc1⟩, h2⟩ := hom m k' (fun i j => C (skp i0 i) j ^^^ mul (mul (C (skp i0 i) m) (inv (C i0 m))) (C i0 j)) (by omega)
      obtain ⟨T, hT⟩ : ∃ T, mul (Sx k' (fun i => mul (c' i) (C (skp i0 i) m))) (inv (C i0 m)) = T := ⟨_, rfl⟩
      have hsk : ∀ i, (if skp i0 i = i0 then T else c' (if skp i0 i < i0 then skp i0 i else skp i0 i - 1)) = c' i := by
        intro i
        unfold skp
        by_cases e : i < i0
        · rw [if_pos e, if_neg (by omega), if_pos e]
        · rw [if_neg e, if_neg (by omega), if_neg (by omega), Nat.add_sub_cancel]
      refine ⟨fun i => if i = i0 then T else c' (if i < i0 then i else i - 1), ⟨skp i0 i1, by unfold skp; split <;> omega, by show (if skp i0 i1 = i0 then T else c' (if skp i0 i1 < i0 then skp i0 i1 else skp i0 i1 - 1)) ≠ 0; rw [hsk]; exact hc1⟩, fun j hj => ?_⟩
      rw [Sx_skip _ i0 k' (by omega)]
      show Sx k' (fun i => mul (if skp i0 i = i0 then T else c' (if skp i0 i < i0 then skp i0 i else skp i0 i - 1)) (C (skp i0 i) j)) ^^^ mul (if i0 = i0 then T else _) (C i0 j) = 0
      rw [if_pos rfl, Sx_congr k' _ (fun i => mul (c' i) (C (skp i0 i) j)) (fun i hi => by rw [hsk])]
      by_cases e : j = m
      · subst e
        rw [← hT, mul_assoc, mul_inv _ hne, mul_one, UInt8.xor_self]
      · have h3 := h2 j (by omega)
        have h4 : Sx k' (fun i => mul (c' i) (C (skp i0 i) j ^^^ mul (mul (C (skp i0 i) m) (inv (C i0 m))) (C i0 j))) = Sx k' (fun i => mul (c' i) (C (skp i0 i) j)) ^^^ mul T (C i0 j) := by
          rw [← hT, ← Sx_mul, ← Sx_mul, ← Sx_add]
          apply Sx_congr
          intro i hi
          rw [mul_xor_right, ← mul_assoc (c' i), ← mul_assoc (c' i)]
        rw [← h4]; exact h3
/-- The numbers of the rows that are not 0. -/
def nzI (X : List (List UInt8)) (n : Nat) : List Nat := (List.range n).filter fun k => lf (X.getD k zp) != zr
theorem nzI_next (X : List (List UInt8)) (n : Nat) : nzI X (n + 1) = nzI X n ++ (if lf (X.getD n zp) = zr then [] else [n]) := by
  unfold nzI
  rw [List.range_succ, List.filter_append]
  congr 1
  by_cases h : lf (X.getD n zp) = zr
  · rw [if_pos h]; simp only [List.filter_cons, h, bne_self_eq_false, Bool.false_eq_true, if_false, List.filter_nil]
  · rw [if_neg h]
    have : (lf (X.getD n zp) != zr) = true := by rw [bne_iff_ne]; exact h
    simp only [List.filter_cons, this, if_true, List.filter_nil]
theorem nzI_len (X : List (List UInt8)) : ∀ n, n ≤ X.length → (nzI X n).length = rkK X n
  | 0, _ => rfl
  | n + 1, h => by
    obtain ⟨p, hp⟩ : ∃ p, X[n]? = some p := ⟨_, List.getElem?_eq_getElem (by omega)⟩
    have e : X.getD n zp = p := by rw [List.getD, hp]; rfl
    rw [nzI_next, List.length_append, nzI_len X n (by omega), rkK_next X n p hp, e]
    split <;> rfl
theorem nzI_mem (X : List (List UInt8)) (n t : Nat) (h : t < (nzI X n).length) : (nzI X n).getD t 0 < n ∧ lf (X.getD ((nzI X n).getD t 0) zp) ≠ zr := by
  have hm : (nzI X n).getD t 0 ∈ nzI X n := by
    rw [List.getD, List.getElem?_eq_getElem h]
    exact List.getElem_mem h
  generalize (nzI X n).getD t 0 = k at *
  unfold nzI at hm
  rw [List.mem_filter, List.mem_range, bne_iff_ne] at hm
  exact hm
theorem nzI_inj (X : List (List UInt8)) (n t s : Nat) (ht : t < (nzI X n).length) (hs : s < (nzI X n).length) (h : t ≠ s) : (nzI X n).getD t 0 ≠ (nzI X n).getD s 0 := by
  have hnd : (nzI X n).Pairwise (· ≠ ·) := List.Nodup.sublist List.filter_sublist List.nodup_range
  rw [List.getD, List.getD, List.getElem?_eq_getElem ht, List.getElem?_eq_getElem hs]
  rcases Nat.lt_or_ge t s with h1 | h1
  · exact List.pairwise_iff_getElem.1 hnd t s ht hs h1
  · exact fun e => List.pairwise_iff_getElem.1 hnd s t hs ht (by omega) e.symm
theorem getD_left (l m : List Nat) (t : Nat) (h : t < l.length) : (l ++ m).getD t 0 = l.getD t 0 := by
  rw [List.getD, List.getD, List.getElem?_append_left h]
theorem Sx_nz (X : List (List UInt8)) (f : Nat → UInt8) : ∀ n, (∀ k, k < n → lf (X.getD k zp) = zr → f k = 0) → Sx n f = Sx (nzI X n).length (fun t => f ((nzI X n).getD t 0))
  | 0, _ => rfl
  | n + 1, h => by
    have ih := Sx_nz X f n (fun k hk => h k (by omega))
    rw [nzI_next]
    by_cases e : lf (X.getD n zp) = zr
    · rw [if_pos e, List.append_nil, Sx, h n (by omega) e, UInt8.xor_zero, ih]
    · rw [if_neg e, List.length_append, List.length_singleton, Sx, Sx, ih]
      congr 1
      · apply Sx_congr
        intro t ht
        rw [getD_left _ _ _ ht]
      · rw [List.getD, List.getElem?_append_right (Nat.le_refl _), Nat.sub_self]; rfl
/-- A matrix's rank, as package field counts it. -/
def rk (A : List (List UInt8)) : Nat := rkK (redP A) A.length
theorem rk_span (A : List (List UInt8)) (hA : ∀ r ∈ A, r.length = 64) (hn : A.length ≤ 64) : ∃ (C g : Nat → Nat → UInt8), ∀ i j, i < A.length → j < 64 → mat A i j = Sx (rk A) (fun s => mul (C i s) (g s j)) := by
  obtain ⟨⟨S, hS1, _⟩, _⟩ := both_red A hA hn
  have hXl : (redP A).length = A.length := by rw [redP, redK_len, staP_len]
  have hXW : ∀ p ∈ redP A, p.length = 128 := redK_wide _ (staP_wide A hA) _
  refine ⟨fun i s => S i ((nzI (redP A) A.length).getD s 0), fun s j => ent (redP A) ((nzI (redP A) A.length).getD s 0) j, fun i j hi hj => ?_⟩
  rw [hS1 i j hi hj, Sx_nz (redP A) _ A.length (fun k hk hz => by
    rw [show ent (redP A) k j = 0 from lf_zero (getD_wide2 _ hXW k) hz j hj, mul_zero_right]), nzI_len _ _ (by omega)]
  rfl
theorem rk_le (A : List (List UInt8)) (hA : ∀ r ∈ A, r.length = 64) (hn : A.length ≤ 64) (u : Nat) (C g : Nat → Nat → UInt8) (h : ∀ i j, i < A.length → j < 64 → mat A i j = Sx u (fun s => mul (C i s) (g s j))) : rk A ≤ u := by
  apply Classical.byContradiction
  intro hlt
  have hI := Inv.red A hA hn
  have hP := (both_red A hA hn).2
  have hXl : (redP A).length = A.length := by rw [redP, redK_len, staP_len]
  have hXW : ∀ p ∈ redP A, p.length = 128 := redK_wide _ (staP_wide A hA) _
  have hlen : (nzI (redP A) A.length).length = rk A := nzI_len _ _ (by omega)
  obtain ⟨c, ⟨t0, ht0, hc0⟩, hk⟩ := hom u (rk A) (fun t s => Sx A.length (fun i => mul (ent (redP A) ((nzI (redP A) A.length).getD t 0) (64 + i)) (C i s))) (by omega)
  have hrow : ∀ t j, t < rk A → j < 64 → ent (redP A) ((nzI (redP A) A.length).getD t 0) j = Sx u (fun s => mul (Sx A.length (fun i => mul (ent (redP A) ((nzI (redP A) A.length).getD t 0) (64 + i)) (C i s))) (g s j)) := by
    intro t j ht hj
    have hm := (nzI_mem (redP A) A.length t (by omega)).1
    rw [hI.lin _ j hm hj, Sx_congr A.length _ (fun i => Sx u (fun s => mul (mul (ent (redP A) ((nzI (redP A) A.length).getD t 0) (64 + i)) (C i s)) (g s j))) (fun i hi => by
      rw [h i j hi hj, mul_comm, ← Sx_mul]
      apply Sx_congr
      intro s hs
      rw [mul_comm (mul (C i s) (g s j)), mul_assoc]), Sx_swap]
    apply Sx_congr
    intro s hs
    rw [← Sx_mul]
  have hzero : ∀ j, j < 64 → Sx (rk A) (fun t => mul (c t) (ent (redP A) ((nzI (redP A) A.length).getD t 0) j)) = 0 := by
    intro j hj
    rw [Sx_congr (rk A) _ (fun t => Sx u (fun s => mul (mul (c t) (Sx A.length (fun i => mul (ent (redP A) ((nzI (redP A) A.length).getD t 0) (64 + i)) (C i s)))) (g s j))) (fun t ht => by
      rw [hrow t j ht hj, mul_comm, ← Sx_mul]
      apply Sx_congr
      intro s hs
      rw [mul_comm (mul _ (g s j)), mul_assoc]), Sx_swap]
    apply Sx_nil
    intro s hs
    rw [Sx_mul, hk s hs, zero_mul]
  obtain ⟨hm, hnz⟩ := nzI_mem (redP A) A.length t0 (by omega)
  rcases hP _ hm with h0 | ⟨d, hd, h1, h2⟩
  · apply hnz
    have hl := getD_wide2 (redP A) hXW ((nzI (redP A) A.length).getD t0 0)
    apply List.ext_getElem?
    intro j
    by_cases hj : j < 64
    · have := h0 j hj
      unfold ent at this
      rw [List.getD_eq_getElem?_getD (l := (redP A).getD _ zp), List.getElem?_eq_getElem (by omega)] at this
      rw [lf, List.getElem?_take, if_pos hj, List.getElem?_eq_getElem (by omega), zr, List.getElem?_replicate, if_pos hj]
      exact congrArg some this
    · rw [List.getElem?_eq_none (by rw [lf_len _ hl]; omega), List.getElem?_eq_none (by rw [zr_len]; omega)]
  · have := hzero d hd
    rw [Sx_one (rk A) _ t0 ht0 (fun t ht htt => by
      rw [h2 _ (nzI_mem (redP A) A.length t (by omega)).1 (nzI_inj (redP A) A.length t t0 (by omega) (by omega) htt), mul_zero_right]), h1, mul_one] at this
    exact hc0 this
end Go.Proofs.Ytecpcocnoengiaa
/- Products of matrices, their numbers; what follows for three of them, for inverses and for ranks. -/
namespace Go.Proofs.Ytecpcocnoengiaa
open Go.RowKit
set_option linter.unusedSimpArgs false
set_option linter.unusedVariables false
theorem zr_getD (j : Nat) : zr.getD j 0 = 0 := by
  simp only [List.getD, zr, List.getElem?_replicate]
  split <;> rfl
theorem prodK_getD (r : List UInt8) (B : List (List UInt8)) (hB : ∀ r ∈ B, r.length = 64) (j : Nat) (hj : j < 64) : ∀ k, (prodK r B k).getD j 0 = Sx k (fun l => mul (r.getD l 0) ((B.getD l zr).getD j 0))
  | 0 => zr_getD j
  | k + 1 => by
    rw [prodK, addR_getD _ _ _ _ (by rw [prodK_len r B hB]; exact hj) (by rw [getD_wide B hB]; exact hj), prodK_getD r B hB j hj k, Sx, mul_comm]
theorem mat_prod (A B : List (List UInt8)) (hB : ∀ r ∈ B, r.length = 64) (i j : Nat) (hi : i < A.length) (hj : j < 64) : mat (prodL A B) i j = Sx B.length (fun l => mul (mat A i l) (mat B l j)) := by
  unfold mat
  obtain ⟨r, hr⟩ : ∃ r, A[i]? = some r := ⟨_, List.getElem?_eq_getElem hi⟩
  rw [show (prodL A B).getD i zr = prodR B r from by rw [List.getD, prodL, List.getElem?_map, hr]; rfl, show A.getD i zr = r from by rw [List.getD, hr]; rfl]
  exact prodK_getD r B hB j hj _
theorem prodL_wide (A B : List (List UInt8)) (hB : ∀ r ∈ B, r.length = 64) : ∀ r ∈ prodL A B, r.length = 64 := by
  intro r hr
  obtain ⟨x, _, rfl⟩ := List.mem_map.1 hr
  exact prodK_len x B hB _
theorem prodL_len (A B : List (List UInt8)) : (prodL A B).length = A.length := by simp [prodL]
theorem mat_ext (A B : List (List UInt8)) (hA : ∀ r ∈ A, r.length = 64) (hB : ∀ r ∈ B, r.length = 64) (hl : A.length = B.length) (h : ∀ i j, i < A.length → j < 64 → mat A i j = mat B i j) : A = B := by
  apply List.ext_getElem hl
  intro i h1 h2
  have ha := hA _ (List.getElem_mem h1)
  have hb := hB _ (List.getElem_mem h2)
  apply List.ext_getElem (by omega)
  intro j h3 h4
  have := h i j h1 (by omega)
  unfold mat at this
  rw [show A.getD i zr = A[i] from by rw [List.getD, List.getElem?_eq_getElem h1]; rfl, show B.getD i zr = B[i] from by rw [List.getD, List.getElem?_eq_getElem h2]; rfl, List.getD, List.getD, List.getElem?_eq_getElem h3, List.getElem?_eq_getElem h4] at this
  exact this
theorem prod_three (A B C : List (List UInt8)) (hB : ∀ r ∈ B, r.length = 64) (hC : ∀ r ∈ C, r.length = 64) (hb : B.length ≤ 64) (hc : C.length ≤ 64) : prodL (prodL A B) C = prodL A (prodL B C) := by
  apply mat_ext _ _ (prodL_wide _ _ hC) (prodL_wide _ _ (prodL_wide _ _ hC)) (by rw [prodL_len, prodL_len, prodL_len])
  intro i j hi hj
  rw [prodL_len, prodL_len] at hi
  rw [mat_prod _ C hC i j (by rw [prodL_len]; exact hi) hj, mat_prod A _ (prodL_wide _ _ hC) i j hi hj, prodL_len]
  rw [Sx_congr C.length _ (fun l => Sx B.length (fun k => mul (mul (mat A i k) (mat B k l)) (mat C l j))) (fun l hl => by rw [mat_prod A B hB i l hi (by omega), ← Sx_mul]), Sx_swap]
  apply Sx_congr
  intro k hk
  rw [mat_prod B C hC k j hk hj, mul_comm (mat A i k), ← Sx_mul]
  apply Sx_congr
  intro l hl
  rw [mul_comm (mul (mat B k l) (mat C l j)), mul_assoc]
/-- 0 from column n on, for rows of 64. -/
def zc (n : Nat) (r : List UInt8) : Prop := ∀ j, n ≤ j → j < 64 → r.getD j 0 = 0
theorem rowOf_zc (x : ByteArray) (n : Nat) (h : x.size ≤ n) (hn : n ≤ 64) : zc n (rowOf x) := by
  intro j h1 h2
  unfold rowOf
  rw [List.getD, putB_get _ _ _ (by rw [zr_len, dlen]; omega), if_neg (by rw [dlen]; omega), zr, List.getElem?_replicate, if_pos h2]; rfl
theorem rowOf_get (x : ByteArray) (h : x.size ≤ 64) (j : Nat) (hj : j < x.size) : (rowOf x)[j]? = x.data.toList[j]? := by
  unfold rowOf
  rw [putB_get _ _ _ (by rw [zr_len, dlen]; omega), if_pos ⟨by omega, by rw [dlen]; omega⟩, Nat.sub_zero]
theorem arr_txt (L : List (List UInt8)) (n : Nat) (hn : n ≤ 64) (hL : ∀ r ∈ L, r.length = 64) (hz : ∀ r ∈ L, zc n r) : arrL (txtL n L) = L := by
  unfold arrL txtL
  rw [List.map_map]
  conv => rhs; rw [← List.map_id L]
  apply List.map_congr_left
  intro r hr
  have hl := hL r hr
  show rowOf (mkT (r.take n)) = r
  have hsz : (mkT (r.take n)).size = n := by rw [mkT_size, List.length_take, hl]; omega
  apply List.ext_getElem (by rw [rowOf_len _ (by omega), hl])
  intro j h1 h2
  have e : (rowOf (mkT (r.take n)))[j]? = r[j]? := by
    by_cases hj : j < n
    · rw [rowOf_get _ (by omega) j (by omega), mkT_data, List.getElem?_take, if_pos hj]
    · have a := rowOf_zc (mkT (r.take n)) n (by omega) hn j (by omega) (by omega)
      have b := hz r hr j (by omega) (by omega)
      rw [List.getD, List.getElem?_eq_getElem h1] at a
      rw [List.getD, List.getElem?_eq_getElem h2] at b
      rw [List.getElem?_eq_getElem h1, List.getElem?_eq_getElem h2]
      exact congrArg some (a.trans b.symm)
  rw [List.getElem?_eq_getElem h1, List.getElem?_eq_getElem h2] at e
  exact Option.some.inj e
theorem prod_zc (A B : List (List UInt8)) (n : Nat) (hB : ∀ r ∈ B, r.length = 64) (hz : ∀ r ∈ B, zc n r) : ∀ r ∈ prodL A B, zc n r := by
  intro r hr j h1 h2
  obtain ⟨x, _, rfl⟩ := List.mem_map.1 hr
  show (prodK x B B.length).getD j 0 = 0
  rw [prodK_getD x B hB j h2]
  apply Sx_nil
  intro l hl
  have : (B.getD l zr).getD j 0 = 0 := by
    rw [show B.getD l zr = B[l] from by rw [List.getD, List.getElem?_eq_getElem hl]; rfl]
    exact hz _ (List.getElem_mem hl) j h1 h2
  rw [this, mul_zero_right]
/-- Square matrices of n rows, as texts. -/
def SqM (n : Nat) (xs : List ByteArray) : Prop := xs.length = n ∧ ∀ x ∈ xs, x.size = n
theorem SqM.isM {n : Nat} {xs : List ByteArray} (h : SqM n xs) (h1 : 1 ≤ n) (h2 : n ≤ 64) : isM xs = true ∧ wid xs = n := by
  have hw : wid xs = n := by
    unfold wid
    rw [List.getElem?_eq_getElem (by rw [h.1]; omega)]
    exact h.2 _ (List.getElem_mem _)
  refine ⟨isM_yes xs (by rw [h.1]; exact ⟨h1, h2⟩) (by rw [hw]; exact ⟨h1, h2⟩) (fun k x hk => ?_), hw⟩
  rw [hw]
  exact h.2 x (List.mem_of_getElem? hk)
theorem SqM.wide {n : Nat} {xs : List ByteArray} (h : SqM n xs) (h2 : n ≤ 64) : ∀ r ∈ arrL xs, r.length = 64 := arrL_wide xs (fun x hx => by rw [h.2 x hx]; exact h2)
theorem SqM.zc {n : Nat} {xs : List ByteArray} (h : SqM n xs) (h2 : n ≤ 64) : ∀ r ∈ arrL xs, zc n r := by
  intro r hr
  obtain ⟨x, hx, rfl⟩ := List.mem_map.1 hr
  exact rowOf_zc x n (by rw [h.2 x hx]; exact Nat.le_refl _) h2
theorem SqM.len {n : Nat} {xs : List ByteArray} (h : SqM n xs) : (arrL xs).length = n := by rw [arrL, List.length_map, h.1]
theorem sq_txt (L : List (List UInt8)) (n : Nat) (hl : L.length = n) (hL : ∀ r ∈ L, r.length = 64) (hn : n ≤ 64) : SqM n (txtL n L) := by
  refine ⟨by simp [txtL, hl], fun x hx => ?_⟩
  obtain ⟨r, hr, rfl⟩ := List.mem_map.1 hx
  rw [mkT_size, List.length_take, hL r hr]; omega
theorem unL_mat (n i j : Nat) (hi : i < n) (hn : n ≤ 64) (hj : j < 64) : mat (unL n) i j = if j = i then 1 else 0 := by
  unfold mat
  rw [show (unL n).getD i zr = ur i from by rw [List.getD, unL_at n i hi]; rfl]
  exact ur_getD i j (by omega) hj
theorem rk_full (A : List (List UInt8)) : (rk A = A.length) ↔ sng (redP A) = false := by
  have hXl : (redP A).length = A.length := by rw [redP, redK_len, staP_len]
  unfold rk rkK sng
  rw [List.take_of_length_le (by omega)]
  rw [← hXl, List.length_filter_eq_length_iff]
  rw [Bool.eq_false_iff, ne_eq, List.any_eq_true]
  constructor
  · rintro h ⟨p, hp, hz⟩
    have := h p hp
    simp only [bne_iff_ne, ne_eq] at this
    exact this (by simpa using hz)
  · intro h p hp
    rw [bne_iff_ne]
    intro e
    exact h ⟨p, hp, by simp [e]⟩
theorem rk_prod (A B : List (List UInt8)) (hA : ∀ r ∈ A, r.length = 64) (hB : ∀ r ∈ B, r.length = 64) (ha : A.length ≤ 64) (hb : B.length ≤ 64) : rk (prodL A B) ≤ rk A ∧ rk (prodL A B) ≤ rk B := by
  constructor
  · obtain ⟨C, g, h⟩ := rk_span A hA ha
    refine rk_le _ (prodL_wide _ _ hB) (by rw [prodL_len]; exact ha) (rk A) C (fun s j => Sx B.length (fun l => mul (g s l) (mat B l j))) (fun i j hi hj => ?_)
    rw [prodL_len] at hi
    rw [mat_prod A B hB i j hi hj, Sx_congr B.length _ (fun l => Sx (rk A) (fun s => mul (C i s) (mul (g s l) (mat B l j)))) (fun l hl => by
      rw [h i l hi (by omega), ← Sx_mul]
      apply Sx_congr
      intro s hs
      rw [mul_assoc]), Sx_swap]
    apply Sx_congr
    intro s hs
    rw [mul_comm (C i s), ← Sx_mul]
    apply Sx_congr
    intro l hl
    rw [mul_comm]
  · obtain ⟨C, g, h⟩ := rk_span B hB hb
    refine rk_le _ (prodL_wide _ _ hB) (by rw [prodL_len]; exact ha) (rk B) (fun i s => Sx B.length (fun l => mul (mat A i l) (C l s))) g (fun i j hi hj => ?_)
    rw [prodL_len] at hi
    rw [mat_prod A B hB i j hi hj, Sx_congr B.length _ (fun l => Sx (rk B) (fun s => mul (mul (mat A i l) (C l s)) (g s j))) (fun l hl => by
      rw [h l j hl hj, mul_comm, ← Sx_mul]
      apply Sx_congr
      intro s hs
      rw [mul_comm (mul (C l s) (g s j)), mul_assoc]), Sx_swap]
    apply Sx_congr
    intro s hs
    rw [Sx_mul]
theorem rk_rev_le (A B : List (List UInt8)) (hA : ∀ r ∈ A, r.length = 64) (hB : ∀ r ∈ B, r.length = 64) (ha : A.length ≤ 64) (hl : A.length = B.length) (h : ∀ i, i < A.length → ∃ k, k < B.length ∧ ∀ j, mat A i j = mat B k j) : rk A ≤ rk B := by
  obtain ⟨C, g, hs⟩ := rk_span B hB (by omega)
  refine rk_le A hA ha (rk B) (fun i s => if h' : i < A.length then C (Classical.choose (h i h')) s else 0) g (fun i j hi hj => ?_)
  have hc := Classical.choose_spec (h i hi)
  rw [hc.2 j, hs _ j hc.1 hj]
  apply Sx_congr
  intro s _
  simp only [dif_pos hi]
theorem rk_rev (A : List (List UInt8)) (hA : ∀ r ∈ A, r.length = 64) (ha : A.length ≤ 64) : rk A.reverse = rk A := by
  have hr : ∀ r ∈ A.reverse, r.length = 64 := fun r h => hA r (List.mem_reverse.1 h)
  have hm : ∀ i j, i < A.length → mat A.reverse i j = mat A (A.length - 1 - i) j := by
    intro i j hi
    have e : A.reverse.getD i zr = A.getD (A.length - 1 - i) zr := by rw [List.getD, List.getD, List.getElem?_reverse hi]
    unfold mat
    rw [e]
  apply Nat.le_antisymm
  · refine rk_rev_le _ _ hr hA (by simp; exact ha) (by simp) (fun i hi => ⟨A.length - 1 - i, by simp at hi; omega, fun j => hm i j (by simpa using hi)⟩)
  · refine rk_rev_le _ _ hA hr ha (by simp) (fun i hi => ⟨A.length - 1 - i, by simp; omega, fun j => ?_⟩)
    rw [hm (A.length - 1 - i) j (by omega), show A.length - 1 - (A.length - 1 - i) = i from by omega]
/-- The inverse undoes. -/
theorem undo (xs : List ByteArray) (n : Nat) (h : SqM n xs) (h1 : 1 ≤ n) (h2 : n ≤ 64) (hs : sng (redP (arrL xs)) = false) :
    SqM n (ivX xs) ∧ prodL (arrL (ivX xs)) (arrL xs) = unL n ∧ prodL (arrL xs) (arrL (ivX xs)) = unL n := by
  obtain ⟨hm, hw⟩ := h.isM h1 h2
  have hlen := h.len
  have hwide := h.wide h2
  have hzb := zb_red n xs (fun x hx => by rw [h.2 x hx]; exact Nat.le_refl _) h2
  have hboth := inv_both (arrL xs) hwide (by rw [hlen]; exact h2) (by rw [hlen]; exact hzb) hs
  rw [hlen] at hboth
  obtain ⟨hL, hR⟩ := hboth
  have hiv : ivX xs = txtL n (ivK (redP (arrL xs)) n n) := by
    unfold ivX
    rw [hm, hw, h.1, decide_eq_true rfl, hs]; rfl
  have hXW : ∀ p ∈ redP (arrL xs), p.length = 128 := redK_wide _ (staP_wide _ hwide) _
  have hVW := ivK_wide (redP (arrL xs)) hXW n n
  have hVl := ivK_len (redP (arrL xs)) n n
  generalize ivK (redP (arrL xs)) n n = V at *
  have hsq : SqM n (ivX xs) := by rw [hiv]; exact sq_txt V n hVl hVW h2
  have hpm : ∀ r l, r < n → l < n → mat (arrL (ivX xs)) r l = mat V r l := by
    intro r l hr hl
    unfold mat
    obtain ⟨v, hv⟩ : ∃ v, V[r]? = some v := ⟨_, List.getElem?_eq_getElem (by omega)⟩
    have hvl := hVW v (List.mem_of_getElem? hv)
    rw [show (arrL (ivX xs)).getD r zr = rowOf (mkT (v.take n)) from by rw [List.getD, arrL, List.getElem?_map, hiv, txtL, List.getElem?_map, hv]; rfl, show V.getD r zr = v from by rw [List.getD, hv]; rfl, List.getD, List.getD, rowOf_get _ (by rw [mkT_size, List.length_take]; omega) l (by rw [mkT_size, List.length_take]; omega), mkT_data, List.getElem?_take, if_pos hl]
  have hiw := hsq.wide h2
  have hil := hsq.len
  refine ⟨hsq, ?_, ?_⟩
  · apply mat_ext _ _ (prodL_wide _ _ hwide) (unL_wide n) (by rw [prodL_len, hil, unL_len])
    intro r j hr hj
    rw [prodL_len, hil] at hr
    rw [mat_prod _ _ hwide r j (by rw [hil]; exact hr) hj, hlen, unL_mat n r j hr h2 hj, ← hL r j hr hj]
    apply Sx_congr
    intro l hl
    rw [hpm r l hr hl]
  · apply mat_ext _ _ (prodL_wide _ _ hiw) (unL_wide n) (by rw [prodL_len, hlen, unL_len])
    intro i l hi hl
    rw [prodL_len, hlen] at hi
    rw [mat_prod _ _ hiw i l (by rw [hlen]; exact hi) hl, hil, unL_mat n i l hi h2 hl]
    by_cases hln : l < n
    · rw [← hR i l hi hln]
      apply Sx_congr
      intro r hr
      rw [hpm r l hr hln]
    · rw [if_neg (by omega)]
      apply Sx_nil
      intro r hr
      have : mat (arrL (ivX xs)) r l = 0 := by
        unfold mat
        rw [show (arrL (ivX xs)).getD r zr = (arrL (ivX xs))[r]'(by rw [hil]; exact hr) from by rw [List.getD, List.getElem?_eq_getElem (by rw [hil]; exact hr)]; rfl]
        exact hsq.zc h2 _ (List.getElem_mem _) l (by omega) hl
      rw [this, mul_zero_right]
end Go.Proofs.Ytecpcocnoengiaa
/- What Product answers. -/
namespace Go.Proofs.Ytecpcocnoengiaa
open Go.RowKit
/-- What Product answers. -/
def pdX (xs ys : List ByteArray) : List ByteArray := if isM xs = true ∧ isM ys = true ∧ wid xs = ys.length then txtL (wid ys) (prodL (arrL xs) (arrL ys)) else []
end Go.Proofs.Ytecpcocnoengiaa
/- Shards as sums of shards: sums of sums, the unit, and that any k of all rows have an inverse. -/
namespace Go.Proofs.Ytecpcocnoengiaa
open Go.RowKit
set_option linter.unusedSimpArgs false
set_option linter.unusedVariables false
theorem dm_mat (xs : List ByteArray) (i j : Nat) (hi : i < xs.length) (hs : ∀ x ∈ xs, x.size ≤ 64) : dm xs i j = mat (arrL xs) i j := by
  obtain ⟨x, hx⟩ : ∃ x, xs[i]? = some x := ⟨_, List.getElem?_eq_getElem hi⟩
  have hxs := hs x (List.mem_of_getElem? hx)
  rw [dm_at xs i j x hx]
  unfold mat
  rw [show (arrL xs).getD i zr = rowOf x from by rw [arrL, List.getD, List.getElem?_map, hx]; rfl]
  by_cases hj : j < x.size
  · rw [bt, List.getD, List.getD, rowOf_get x hxs j hj]
  · rw [bt_out x j (by omega)]
    by_cases h64 : j < 64
    · exact (rowOf_zc x x.size (Nat.le_refl _) hxs j (by omega) h64).symm
    · rw [List.getD, List.getElem?_eq_none (by rw [rowOf_len x hxs]; omega)]; rfl
theorem bt_mk (l : List UInt8) (j : Nat) : bt (mkT l) j = l.getD j 0 := by rw [bt, mkT_data]
theorem fl_getD (n : Nat) (f : Nat → UInt8) (p : Nat) (h : p < n) : (fl n f).getD p 0 = f p := by rw [List.getD, fl_get n f p h]; rfl
theorem mk_bt (x : ByteArray) (d : Nat) (h : x.size = d) : mkT (fl d (bt x)) = x := by
  have e : fl d (bt x) = x.data.toList := by
    apply List.ext_getElem?
    intro p
    by_cases hp : p < d
    · rw [fl_get d _ p hp, bt, List.getD]
      have : p < x.data.toList.length := by rw [Array.length_toList]; show p < x.size; omega
      rw [List.getElem?_eq_getElem this]; rfl
    · rw [List.getElem?_eq_none (by rw [fl_len]; omega), List.getElem?_eq_none (by rw [Array.length_toList]; show x.size ≤ p; omega)]
  rw [e]
  cases x; simp [mkT]
theorem mixL_at (rs xs : List ByteArray) (d i : Nat) (r : ByteArray) (h : rs[i]? = some r) : (mixL rs xs d)[i]? = some (mixT r xs d) := by rw [mixL, List.getElem?_map, h]; rfl
theorem dm_mix (rs xs : List ByteArray) (d i p : Nat) (hi : i < rs.length) (hp : p < d) : dm (mixL rs xs d) i p = Sx xs.length (fun j => mul (dm rs i j) (dm xs j p)) := by
  obtain ⟨r, hr⟩ : ∃ r, rs[i]? = some r := ⟨_, List.getElem?_eq_getElem hi⟩
  rw [dm_at _ i p _ (mixL_at rs xs d i r hr), mixT, bt_mk, fl_getD d _ p hp]
  show Sx _ _ = _
  apply Sx_congr
  intro j hj
  rw [dm_at rs i j r hr]
theorem mixL_ext (L M : List ByteArray) (d : Nat) (hl : L.length = M.length) (sL : ∀ x ∈ L, x.size = d) (sM : ∀ x ∈ M, x.size = d) (h : ∀ i p, i < L.length → p < d → dm L i p = dm M i p) : L = M := by
  apply List.ext_getElem hl
  intro i h1 h2
  have e1 := mk_bt L[i] d (sL _ (List.getElem_mem h1))
  have e2 := mk_bt M[i] d (sM _ (List.getElem_mem h2))
  rw [← e1, ← e2, fl_congr d (bt L[i]) (bt M[i]) (fun p hp => by
    have := h i p h1 hp
    rw [dm_at L i p L[i] (List.getElem?_eq_getElem h1), dm_at M i p M[i] (List.getElem?_eq_getElem h2)] at this
    exact this)]
theorem mixL_size (rs xs : List ByteArray) (d : Nat) : ∀ x ∈ mixL rs xs d, x.size = d := by
  intro x hx
  obtain ⟨r, _, rfl⟩ := List.mem_map.1 hx
  exact mixT_size _ _ _
/-- The product's numbers. -/
theorem dm_prod (A B : List ByteArray) (i j : Nat) (hi : i < A.length) (hj : j < wid B) (hA : isM A = true) (hB : isM B = true) (hw : wid A = B.length) : dm (pdX A B) i j = Sx B.length (fun l => mul (dm A i l) (dm B l j)) := by
  obtain ⟨a1, a2⟩ := isM_small A hA
  obtain ⟨b1, b2⟩ := isM_small B hB
  obtain ⟨_, q2, q3⟩ := isM_parts B hB
  have hbw := arrL_wide B b2
  have hbl : (arrL B).length = B.length := by simp [arrL]
  have hal : (arrL A).length = A.length := by simp [arrL]
  have e : pdX A B = txtL (wid B) (prodL (arrL A) (arrL B)) := if_pos ⟨hA, hB, hw⟩
  have hm := mat_prod (arrL A) (arrL B) hbw i j (by omega) (by omega)
  rw [hbl] at hm
  obtain ⟨r, hr⟩ : ∃ r, (prodL (arrL A) (arrL B))[i]? = some r := ⟨_, List.getElem?_eq_getElem (by rw [prodL_len]; omega)⟩
  have e2 : (pdX A B)[i]? = some (mkT (r.take (wid B))) := by rw [e, txtL, List.getElem?_map, hr]; rfl
  rw [dm_at _ i j _ e2, bt_mk, List.getD, List.getElem?_take, if_pos hj]
  have e3 : mat (prodL (arrL A) (arrL B)) i j = (r[j]?).getD 0 := by unfold mat; rw [List.getD, List.getD, hr]; rfl
  rw [← e3, hm]
  apply Sx_congr
  intro l hl
  rw [dm_mat A i l hi a2, dm_mat B l j hl b2]
/-- Sums of sums. -/
theorem mix_mix (A B X : List ByteArray) (d : Nat) (hA : isM A = true) (hB : isM B = true) (hw : wid A = B.length) (hX : wid B = X.length) : mixL (pdX A B) X d = mixL A (mixL B X d) d := by
  have e : pdX A B = txtL (wid B) (prodL (arrL A) (arrL B)) := if_pos ⟨hA, hB, hw⟩
  have hl : (pdX A B).length = A.length := by rw [e, txtL_len, prodL_len, arrL, List.length_map]
  apply mixL_ext _ _ d (by rw [mixL_len, mixL_len, hl]) (mixL_size _ _ _) (mixL_size _ _ _)
  intro i p hi hp
  rw [mixL_len, hl] at hi
  rw [dm_mix _ _ d i p (by rw [hl]; exact hi) hp, dm_mix _ _ d i p hi hp, mixL_len]
  have e1 : Sx X.length (fun j => mul (dm (pdX A B) i j) (dm X j p)) = Sx X.length (fun j => Sx B.length (fun l => mul (mul (dm A i l) (dm B l j)) (dm X j p))) := by
    apply Sx_congr
    intro j hj
    rw [dm_prod A B i j hi (by omega) hA hB hw, ← Sx_mul]
  have e2 : Sx B.length (fun l => mul (dm A i l) (dm (mixL B X d) l p)) = Sx B.length (fun l => Sx X.length (fun j => mul (mul (dm A i l) (dm B l j)) (dm X j p))) := by
    apply Sx_congr
    intro l hl
    rw [dm_mix B X d l p hl hp, mul_comm, ← Sx_mul]
    apply Sx_congr
    intro j hj
    rw [mul_comm, mul_assoc]
  rw [e1, e2, Sx_swap]
theorem mix_unit (X : List ByteArray) (k d : Nat) (hX : X.length = k) (h1 : 1 ≤ k) (h2 : k ≤ 64) (sX : ∀ x ∈ X, x.size = d) : mixL (txtL k (unL k)) X d = X := by
  have hl : (txtL k (unL k)).length = k := by rw [txtL_len, unL_len]
  apply mixL_ext _ _ d (by rw [mixL_len, hl, hX]) (mixL_size _ _ _) sX
  intro i p hi hp
  rw [mixL_len, hl] at hi
  rw [dm_mix _ _ d i p (by rw [hl]; exact hi) hp, hX]
  have hu : ∀ j, j < k → dm (txtL k (unL k)) i j = if j = i then 1 else 0 := fun j hj => by
    have e : (txtL k (unL k))[i]? = some (mkT ((ur i).take k)) := by rw [txtL, List.getElem?_map, unL_at k i hi]; rfl
    rw [dm_at _ i j _ e, bt_mk, List.getD, List.getElem?_take, if_pos hj]
    have := ur_getD i j (by omega) (by omega)
    rw [List.getD] at this
    exact this
  rw [Sx_one k _ i hi (fun j hj hne => by rw [hu j hj, if_neg hne, zero_mul]), hu i hi, if_pos rfl, one_mul]
/-- All rows: the unit's, then the parity's. -/
def ofD (n k : Nat) : List ByteArray := txtL k (unL k) ++ cyX (n - k) k
theorem ofD_len (n k : Nat) (h1 : 1 ≤ k) (h2 : k ≤ n) (h3 : n ≤ 64) : (ofD n k).length = n := by
  rw [ofD, List.length_append, txtL_len, unL_len, cyX_len _ _ (by omega) h1 (by omega)]; omega
theorem ofD_size (n k : Nat) (h1 : 1 ≤ k) (h2 : k ≤ n) (h3 : n ≤ 64) : ∀ r ∈ ofD n k, r.size = k := by
  intro r hr
  rw [ofD, List.mem_append] at hr
  rcases hr with h | h
  · obtain ⟨l, hl, rfl⟩ := List.mem_map.1 h
    rw [mkT_size, List.length_take, unL_wide k l hl]; omega
  · exact cyX_size _ _ (by omega) h1 (by omega) r h
theorem ofD_at (n k i j : Nat) (h1 : 1 ≤ k) (h2 : k ≤ n) (h3 : n ≤ 64) (hi : i < n) (hj : j < k) : dm (ofD n k) i j = if i < k then (if j = i then 1 else 0) else caV (i - k) j := by
  have hl : (txtL k (unL k)).length = k := by rw [txtL_len, unL_len]
  by_cases hik : i < k
  · rw [if_pos hik]
    have e : (ofD n k)[i]? = some (mkT ((ur i).take k)) := by rw [ofD, List.getElem?_append_left (by rw [hl]; exact hik), txtL, List.getElem?_map, unL_at k i hik]; rfl
    rw [dm_at _ i j _ e, bt_mk, List.getD, List.getElem?_take, if_pos hj]
    have := ur_getD i j (by omega) (by omega)
    rw [List.getD] at this
    exact this
  · rw [if_neg hik]
    have e : (ofD n k)[i]? = some (mkT ((caR k (i - k)).take k)) := by
      rw [ofD, List.getElem?_append_right (by rw [hl]; omega), hl, cyX_yes _ _ (by omega) (by omega) h1 (by omega), txtL, List.getElem?_map, caL_at _ _ _ (by omega)]; rfl
    rw [dm_at _ i j _ e, bt_mk, List.getD, List.getElem?_take, if_pos hj, caR, List.getElem?_map, List.getElem?_range (by omega), Option.map_some, Option.getD_some, if_pos hj]
theorem Sx_split (f : Nat → UInt8) (t : Nat) : ∀ m, Sx (t + m) f = Sx t f ^^^ Sx m (fun i => f (t + i))
  | 0 => by rw [Nat.add_zero, Sx, UInt8.xor_zero]
  | m + 1 => by rw [← Nat.add_assoc, Sx, Sx_split f t m, Sx, UInt8.xor_assoc]
/-- Rising numbers: those below k, then the others. -/
theorem ris_cut (k : Nat) : ∀ l : List Nat, l.Pairwise (· < ·) → ∃ A B, l = A ++ B ∧ (∀ a ∈ A, a < k) ∧ ∀ b ∈ B, k ≤ b
  | [], _ => ⟨[], [], rfl, fun a h => (by cases h), fun b h => (by cases h)⟩
  | x :: l, h => by
    rw [List.pairwise_cons] at h
    by_cases hx : x < k
    · obtain ⟨A, B, rfl, hA, hB⟩ := ris_cut k l h.2
      exact ⟨x :: A, B, rfl, fun a ha => by
        rcases List.mem_cons.1 ha with rfl | ha
        · exact hx
        · exact hA a ha, hB⟩
    · refine ⟨[], x :: l, rfl, fun a h => (by cases h), fun b hb => ?_⟩
      rcases List.mem_cons.1 hb with rfl | hb
      · omega
      · have := h.1 b hb; omega
theorem less_one (a : Nat) : ∀ l : List Nat, l.Pairwise (· < ·) → l.length ≤ (l.filter fun x => decide (x ≠ a)).length + 1
  | [], _ => by simp
  | b :: l, h => by
    rw [List.pairwise_cons] at h
    by_cases e : b = a
    · subst e
      have : (l.filter fun x => decide (x ≠ b)) = l := List.filter_eq_self.2 (fun x hx => by have := h.1 x hx; simp; omega)
      rw [List.filter_cons_of_neg (by simp), this, List.length_cons]
      omega
    · rw [List.filter_cons_of_pos (by simpa using e), List.length_cons, List.length_cons]
      have := less_one a l h.2
      omega
theorem rest_len (k : Nat) : ∀ A : List Nat, k ≤ ((List.range k).filter fun j => decide (j ∉ A)).length + A.length
  | [] => by
    rw [List.filter_eq_self.2 (fun x _ => by simp), List.length_range]; simp
  | a :: A => by
    have ih := rest_len k A
    have e : ((List.range k).filter fun j => decide (j ∉ a :: A)) = (((List.range k).filter fun j => decide (j ∉ A)).filter fun x => decide (x ≠ a)) := by
      rw [List.filter_filter]
      apply List.filter_congr
      intro x _
      simp [List.mem_cons, not_or]
    rw [e, List.length_cons]
    have := less_one a ((List.range k).filter fun j => decide (j ∉ A)) (List.Pairwise.filter _ List.pairwise_lt_range)
    omega
/-- Any k of all rows have an inverse. -/
def usd (n k : Nat) (idx : List Nat) : List ByteArray := idx.map fun i => (ofD n k).getD i (mkT [])
theorem usd_sq (n k : Nat) (idx : List Nat) (h1 : 1 ≤ k) (h2 : k ≤ n) (h3 : n ≤ 64) (hr : Ris n idx) (hl : idx.length = k) : SqM k (usd n k idx) := by
  refine ⟨by rw [usd, List.length_map, hl], fun x hx => ?_⟩
  obtain ⟨i, hi, rfl⟩ := List.mem_map.1 hx
  have hin := hr.2 i hi
  rw [List.getD, List.getElem?_eq_getElem (by rw [ofD_len n k h1 h2 h3]; exact hin)]
  exact ofD_size n k h1 h2 h3 _ (List.getElem_mem _)
theorem usd_at (n k : Nat) (idx : List Nat) (i j : Nat) (hi : i < idx.length) : dm (usd n k idx) i j = dm (ofD n k) (idx.getD i 0) j := by
  have e : idx.getD i 0 = idx[i] := by rw [List.getD, List.getElem?_eq_getElem hi]; rfl
  rw [dm, usd, List.getD, List.getElem?_map, List.getElem?_eq_getElem hi, e]
  rfl
theorem usd_ok (n k : Nat) (idx : List Nat) (h1 : 1 ≤ k) (h2 : k ≤ n) (h3 : n ≤ 64) (hr : Ris n idx) (hl : idx.length = k) : sng (redP (arrL (usd n k idx))) = false := by
  have hsq := usd_sq n k idx h1 h2 h3 hr hl
  have hk64 : k ≤ 64 := by omega
  cases hsg : sng (redP (arrL (usd n k idx))) with
  | false => rfl
  | true =>
    exfalso
    have hal : (arrL (usd n k idx)).length = k := hsq.len
    obtain ⟨v, ⟨i0, hi0, hvi⟩, hk⟩ := sng_ker _ (hsq.wide hk64) (by rw [hal]; exact hk64) hsg
    rw [hal] at hi0 hk
    have hk' : ∀ j, j < k → Sx k (fun i => mul (v i) (dm (ofD n k) (idx.getD i 0) j)) = 0 := fun j hj => by
      rw [← hk j (by omega)]
      apply Sx_congr
      intro i hi
      rw [← usd_at n k idx i j (by omega), dm_mat (usd n k idx) i j (by rw [hsq.1]; exact hi) (fun x hx => by rw [hsq.2 x hx]; exact hk64)]
    obtain ⟨A, B, hAB, hA, hB⟩ := ris_cut k idx hr.1
    have hlen : A.length + B.length = k := by rw [← hl, hAB, List.length_append]
    have hpw := hr.1
    rw [hAB, List.pairwise_append] at hpw
    have hgA : ∀ i, i < A.length → idx.getD i 0 = A.getD i 0 := fun i hi => by rw [hAB, List.getD, List.getElem?_append_left hi]; rfl
    have hgB : ∀ i, idx.getD (A.length + i) 0 = B.getD i 0 := fun i => by rw [hAB, List.getD, List.getElem?_append_right (by omega), Nat.add_sub_cancel_left]; rfl
    have hAr : Ris k A := ⟨hpw.1, hA⟩
    have hBr : Ris n B := ⟨hpw.2.1, fun x hx => hr.2 x (by rw [hAB]; exact List.mem_append_right _ hx)⟩
    obtain ⟨qs, hqs⟩ : ∃ qs, ((List.range k).filter fun j => decide (j ∉ A)) = qs := ⟨_, rfl⟩
    have hql := rest_len k A
    rw [hqs] at hql
    have hqr : Ris k qs := by
      rw [← hqs]
      exact ⟨List.Pairwise.filter _ List.pairwise_lt_range, fun x hx => by simpa using (List.mem_filter.1 hx).1⟩
    have hqA : ∀ j, j < qs.length → qs.getD j 0 ∉ A := fun j hj => by
      have hm : qs.getD j 0 ∈ qs := by rw [List.getD, List.getElem?_eq_getElem hj]; exact List.getElem_mem hj
      generalize qs.getD j 0 = q at hm ⊢
      rw [← hqs] at hm
      simpa using (List.mem_filter.1 hm).2
    have hAm : ∀ i, i < A.length → A.getD i 0 ∈ A := fun i hi => by rw [List.getD, List.getElem?_eq_getElem hi]; exact List.getElem_mem hi
    have hBm : ∀ i, i < B.length → B.getD i 0 ∈ B := fun i hi => by rw [List.getD, List.getElem?_eq_getElem hi]; exact List.getElem_mem hi
    have hvB : ∀ i, i < B.length → v (A.length + i) = 0 := by
      refine cauchy_ker B.length (fun i => UInt8.ofNat (128 + (B.getD i 0 - k))) (fun j => UInt8.ofNat (qs.getD j 0)) (fun i => v (A.length + i)) (fun i j h1 h2 => ?_) (fun i j h1 h2 h3 => ?_) (fun i j h1 h2 h3 => ?_) (fun j hj => ?_)
      · have a := ris_lt hBr i h1
        have b := ris_lt hqr j (by omega)
        exact ofNat_ne _ _ (by omega) (by omega) (by omega)
      · have a := ris_lt hBr i h1
        have b := ris_lt hBr j h2
        have c := hB _ (hBm i h1)
        have e := hB _ (hBm j h2)
        have d := ris_ne hBr i j h1 h2 h3
        exact ofNat_ne _ _ (by omega) (by omega) (by omega)
      · have a := ris_lt hqr i (by omega)
        have b := ris_lt hqr j (by omega)
        have d := ris_ne hqr i j (by omega) (by omega) h3
        exact ofNat_ne _ _ (by omega) (by omega) d
      · have hq := ris_lt hqr j (by omega)
        have hs := hk' (qs.getD j 0) hq
        have hsp := Sx_split (fun i => mul (v i) (dm (ofD n k) (idx.getD i 0) (qs.getD j 0))) A.length B.length
        rw [hlen, hs] at hsp
        replace hs := hsp.symm
        have e0 : Sx A.length (fun i => mul (v i) (dm (ofD n k) (idx.getD i 0) (qs.getD j 0))) = 0 := Sx_nil _ _ (fun i hi => by
          have hai := hA _ (hAm i hi)
          rw [hgA i hi, ofD_at n k _ _ h1 h2 h3 (by omega) hq, if_pos hai, if_neg (fun e => hqA j (by omega) (by rw [e]; exact hAm i hi)), mul_comm, zero_mul])
        rw [e0, UInt8.zero_xor] at hs
        rw [← hs]
        apply Sx_congr
        intro i hi
        have hbi := hB _ (hBm i hi)
        rw [hgB i, ofD_at n k _ _ h1 h2 h3 (ris_lt hBr i hi) hq, if_neg (by omega)]
        rfl
    apply hvi
    by_cases hiA : i0 < A.length
    · have hai := hA _ (hAm i0 hiA)
      have hs := hk' (A.getD i0 0) hai
      rw [Sx_one k _ i0 hi0 (fun i hi hne => ?_)] at hs
      · rw [hgA i0 hiA, ofD_at n k _ _ h1 h2 h3 (by omega) hai, if_pos hai, if_pos rfl, mul_one] at hs
        exact hs
      · by_cases hia : i < A.length
        · have hai2 := hA _ (hAm i hia)
          rw [hgA i hia, ofD_at n k _ _ h1 h2 h3 (by omega) hai, if_pos hai2, if_neg (ris_ne hAr i0 i hiA hia (fun e => hne e.symm)), mul_comm, zero_mul]
        · have := hvB (i - A.length) (by omega)
          rw [show A.length + (i - A.length) = i by omega] at this
          rw [this, zero_mul]
    · have := hvB (i0 - A.length) (by omega)
      rwa [show A.length + (i0 - A.length) = i0 by omega] at this
end Go.Proofs.Ytecpcocnoengiaa
