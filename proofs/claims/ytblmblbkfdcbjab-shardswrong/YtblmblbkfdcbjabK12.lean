/- Products of matrices, their numbers; what follows for three of them, for inverses and for ranks. -/
import Derived.Test.YtblmblbkfdcbjabK11
import Derived.Test.YtblmblbkfdcbjabF13
import Derived.Test.YtblmblbkfdcbjabF20
namespace Go.Proofs.Ytblmblbkfdcbjab
open Go.RowKit
set_option linter.unusedSimpArgs false
set_option linter.unusedVariables false
theorem zr_getD (j : Nat) : zr.getD j 0 = 0 := by
  simp only [List.getD, zr, List.getElem?_replicate]
  split <;> rfl
theorem prodK_getD (r : List UInt8) (B : List (List UInt8)) (hB : ∀ r ∈ B, r.length = 64) (j : Nat) (hj : j < 64) : ∀ k, (prodK r B k).getD j 0 = Sx k (fun l => mul (r.getD l 0) ((B.getD l zr).getD j 0))
  | 0 => zr_getD j
  | k + 1 => by
    rw [prodK, addR_getD _ _ _ _ (by rw [prodK_len r B hB]; exact hj) (by rw [getD_wide B hB]; exact hj), prodK_getD r B hB j hj k, Sx, mul_comm]
theorem mat_prod (A B : List (List UInt8)) (hB : ∀ r ∈ B, r.length = 64) (i j : Nat) (hi : i < A.length) (hj : j < 64) : mat (prodL A B) i j = Sx B.length (fun l => mul (mat A i l) (mat B l j)) := by
  unfold mat
  obtain ⟨r, hr⟩ : ∃ r, A[i]? = some r := ⟨_, List.getElem?_eq_getElem hi⟩
  rw [show (prodL A B).getD i zr = prodR B r from by rw [List.getD, prodL, List.getElem?_map, hr]; rfl, show A.getD i zr = r from by rw [List.getD, hr]; rfl]
  exact prodK_getD r B hB j hj _
theorem prodL_wide (A B : List (List UInt8)) (hB : ∀ r ∈ B, r.length = 64) : ∀ r ∈ prodL A B, r.length = 64 := by
  intro r hr
  obtain ⟨x, _, rfl⟩ := List.mem_map.1 hr
  exact prodK_len x B hB _
theorem prodL_len (A B : List (List UInt8)) : (prodL A B).length = A.length := by simp [prodL]
theorem mat_ext (A B : List (List UInt8)) (hA : ∀ r ∈ A, r.length = 64) (hB : ∀ r ∈ B, r.length = 64) (hl : A.length = B.length) (h : ∀ i j, i < A.length → j < 64 → mat A i j = mat B i j) : A = B := by
  apply List.ext_getElem hl
  intro i h1 h2
  have ha := hA _ (List.getElem_mem h1)
  have hb := hB _ (List.getElem_mem h2)
  apply List.ext_getElem (by omega)
  intro j h3 h4
  have := h i j h1 (by omega)
  unfold mat at this
  rw [show A.getD i zr = A[i] from by rw [List.getD, List.getElem?_eq_getElem h1]; rfl, show B.getD i zr = B[i] from by rw [List.getD, List.getElem?_eq_getElem h2]; rfl, List.getD, List.getD, List.getElem?_eq_getElem h3, List.getElem?_eq_getElem h4] at this
  exact this
theorem prod_three (A B C : List (List UInt8)) (hB : ∀ r ∈ B, r.length = 64) (hC : ∀ r ∈ C, r.length = 64) (hb : B.length ≤ 64) (hc : C.length ≤ 64) : prodL (prodL A B) C = prodL A (prodL B C) := by
  apply mat_ext _ _ (prodL_wide _ _ hC) (prodL_wide _ _ (prodL_wide _ _ hC)) (by rw [prodL_len, prodL_len, prodL_len])
  intro i j hi hj
  rw [prodL_len, prodL_len] at hi
  rw [mat_prod _ C hC i j (by rw [prodL_len]; exact hi) hj, mat_prod A _ (prodL_wide _ _ hC) i j hi hj, prodL_len]
  rw [Sx_congr C.length _ (fun l => Sx B.length (fun k => mul (mul (mat A i k) (mat B k l)) (mat C l j))) (fun l hl => by rw [mat_prod A B hB i l hi (by omega), ← Sx_mul]), Sx_swap]
  apply Sx_congr
  intro k hk
  rw [mat_prod B C hC k j hk hj, mul_comm (mat A i k), ← Sx_mul]
  apply Sx_congr
  intro l hl
  rw [mul_comm (mul (mat B k l) (mat C l j)), mul_assoc]
/-- 0 from column n on, for rows of 64. -/
def zc (n : Nat) (r : List UInt8) : Prop := ∀ j, n ≤ j → j < 64 → r.getD j 0 = 0
theorem rowOf_zc (x : ByteArray) (n : Nat) (h : x.size ≤ n) (hn : n ≤ 64) : zc n (rowOf x) := by
  intro j h1 h2
  unfold rowOf
  rw [List.getD, putB_get _ _ _ (by rw [zr_len, dlen]; omega), if_neg (by rw [dlen]; omega), zr, List.getElem?_replicate, if_pos h2]; rfl
theorem rowOf_get (x : ByteArray) (h : x.size ≤ 64) (j : Nat) (hj : j < x.size) : (rowOf x)[j]? = x.data.toList[j]? := by
  unfold rowOf
  rw [putB_get _ _ _ (by rw [zr_len, dlen]; omega), if_pos ⟨by omega, by rw [dlen]; omega⟩, Nat.sub_zero]
theorem arr_txt (L : List (List UInt8)) (n : Nat) (hn : n ≤ 64) (hL : ∀ r ∈ L, r.length = 64) (hz : ∀ r ∈ L, zc n r) : arrL (txtL n L) = L := by
  unfold arrL txtL
  rw [List.map_map]
  conv => rhs; rw [← List.map_id L]
  apply List.map_congr_left
  intro r hr
  have hl := hL r hr
  show rowOf (mkT (r.take n)) = r
  have hsz : (mkT (r.take n)).size = n := by rw [mkT_size, List.length_take, hl]; omega
  apply List.ext_getElem (by rw [rowOf_len _ (by omega), hl])
  intro j h1 h2
  have e : (rowOf (mkT (r.take n)))[j]? = r[j]? := by
    by_cases hj : j < n
    · rw [rowOf_get _ (by omega) j (by omega), mkT_data, List.getElem?_take, if_pos hj]
    · have a := rowOf_zc (mkT (r.take n)) n (by omega) hn j (by omega) (by omega)
      have b := hz r hr j (by omega) (by omega)
      rw [List.getD, List.getElem?_eq_getElem h1] at a
      rw [List.getD, List.getElem?_eq_getElem h2] at b
      rw [List.getElem?_eq_getElem h1, List.getElem?_eq_getElem h2]
      exact congrArg some (a.trans b.symm)
  rw [List.getElem?_eq_getElem h1, List.getElem?_eq_getElem h2] at e
  exact Option.some.inj e
theorem prod_zc (A B : List (List UInt8)) (n : Nat) (hB : ∀ r ∈ B, r.length = 64) (hz : ∀ r ∈ B, zc n r) : ∀ r ∈ prodL A B, zc n r := by
  intro r hr j h1 h2
  obtain ⟨x, _, rfl⟩ := List.mem_map.1 hr
  show (prodK x B B.length).getD j 0 = 0
  rw [prodK_getD x B hB j h2]
  apply Sx_nil
  intro l hl
  have : (B.getD l zr).getD j 0 = 0 := by
    rw [show B.getD l zr = B[l] from by rw [List.getD, List.getElem?_eq_getElem hl]; rfl]
    exact hz _ (List.getElem_mem hl) j h1 h2
  rw [this, mul_zero_right]
/-- Square matrices of n rows, as texts. -/
def SqM (n : Nat) (xs : List ByteArray) : Prop := xs.length = n ∧ ∀ x ∈ xs, x.size = n
theorem SqM.isM {n : Nat} {xs : List ByteArray} (h : SqM n xs) (h1 : 1 ≤ n) (h2 : n ≤ 64) : isM xs = true ∧ wid xs = n := by
  have hw : wid xs = n := by
    unfold wid
    rw [List.getElem?_eq_getElem (by rw [h.1]; omega)]
    exact h.2 _ (List.getElem_mem _)
  refine ⟨isM_yes xs (by rw [h.1]; exact ⟨h1, h2⟩) (by rw [hw]; exact ⟨h1, h2⟩) (fun k x hk => ?_), hw⟩
  rw [hw]
  exact h.2 x (List.mem_of_getElem? hk)
theorem SqM.wide {n : Nat} {xs : List ByteArray} (h : SqM n xs) (h2 : n ≤ 64) : ∀ r ∈ arrL xs, r.length = 64 := arrL_wide xs (fun x hx => by rw [h.2 x hx]; exact h2)
theorem SqM.zc {n : Nat} {xs : List ByteArray} (h : SqM n xs) (h2 : n ≤ 64) : ∀ r ∈ arrL xs, zc n r := by
  intro r hr
  obtain ⟨x, hx, rfl⟩ := List.mem_map.1 hr
  exact rowOf_zc x n (by rw [h.2 x hx]; exact Nat.le_refl _) h2
theorem SqM.len {n : Nat} {xs : List ByteArray} (h : SqM n xs) : (arrL xs).length = n := by rw [arrL, List.length_map, h.1]
theorem sq_txt (L : List (List UInt8)) (n : Nat) (hl : L.length = n) (hL : ∀ r ∈ L, r.length = 64) (hn : n ≤ 64) : SqM n (txtL n L) := by
  refine ⟨by simp [txtL, hl], fun x hx => ?_⟩
  obtain ⟨r, hr, rfl⟩ := List.mem_map.1 hx
  rw [mkT_size, List.length_take, hL r hr]; omega
theorem unL_mat (n i j : Nat) (hi : i < n) (hn : n ≤ 64) (hj : j < 64) : mat (unL n) i j = if j = i then 1 else 0 := by
  unfold mat
  rw [show (unL n).getD i zr = ur i from by rw [List.getD, unL_at n i hi]; rfl]
  exact ur_getD i j (by omega) hj
theorem rk_full (A : List (List UInt8)) : (rk A = A.length) ↔ sng (redP A) = false := by
  have hXl : (redP A).length = A.length := by rw [redP, redK_len, staP_len]
  unfold rk rkK sng
  rw [List.take_of_length_le (by omega)]
  rw [← hXl, List.length_filter_eq_length_iff]
  rw [Bool.eq_false_iff, ne_eq, List.any_eq_true]
  constructor
  · rintro h ⟨p, hp, hz⟩
    have := h p hp
    simp only [bne_iff_ne, ne_eq] at this
    exact this (by simpa using hz)
  · intro h p hp
    rw [bne_iff_ne]
    intro e
    exact h ⟨p, hp, by simp [e]⟩
theorem rk_prod (A B : List (List UInt8)) (hA : ∀ r ∈ A, r.length = 64) (hB : ∀ r ∈ B, r.length = 64) (ha : A.length ≤ 64) (hb : B.length ≤ 64) : rk (prodL A B) ≤ rk A ∧ rk (prodL A B) ≤ rk B := by
  constructor
  · obtain ⟨C, g, h⟩ := rk_span A hA ha
    refine rk_le _ (prodL_wide _ _ hB) (by rw [prodL_len]; exact ha) (rk A) C (fun s j => Sx B.length (fun l => mul (g s l) (mat B l j))) (fun i j hi hj => ?_)
    rw [prodL_len] at hi
    rw [mat_prod A B hB i j hi hj, Sx_congr B.length _ (fun l => Sx (rk A) (fun s => mul (C i s) (mul (g s l) (mat B l j)))) (fun l hl => by
      rw [h i l hi (by omega), ← Sx_mul]
      apply Sx_congr
      intro s hs
      rw [mul_assoc]), Sx_swap]
    apply Sx_congr
    intro s hs
    rw [mul_comm (C i s), ← Sx_mul]
    apply Sx_congr
    intro l hl
    rw [mul_comm]
  · obtain ⟨C, g, h⟩ := rk_span B hB hb
    refine rk_le _ (prodL_wide _ _ hB) (by rw [prodL_len]; exact ha) (rk B) (fun i s => Sx B.length (fun l => mul (mat A i l) (C l s))) g (fun i j hi hj => ?_)
    rw [prodL_len] at hi
    rw [mat_prod A B hB i j hi hj, Sx_congr B.length _ (fun l => Sx (rk B) (fun s => mul (mul (mat A i l) (C l s)) (g s j))) (fun l hl => by
      rw [h l j hl hj, mul_comm, ← Sx_mul]
      apply Sx_congr
      intro s hs
      rw [mul_comm (mul (C l s) (g s j)), mul_assoc]), Sx_swap]
    apply Sx_congr
    intro s hs
    rw [Sx_mul]
theorem rk_rev_le (A B : List (List UInt8)) (hA : ∀ r ∈ A, r.length = 64) (hB : ∀ r ∈ B, r.length = 64) (ha : A.length ≤ 64) (hl : A.length = B.length) (h : ∀ i, i < A.length → ∃ k, k < B.length ∧ ∀ j, mat A i j = mat B k j) : rk A ≤ rk B := by
  obtain ⟨C, g, hs⟩ := rk_span B hB (by omega)
  refine rk_le A hA ha (rk B) (fun i s => if h' : i < A.length then C (Classical.choose (h i h')) s else 0) g (fun i j hi hj => ?_)
  have hc := Classical.choose_spec (h i hi)
  rw [hc.2 j, hs _ j hc.1 hj]
  apply Sx_congr
  intro s _
  simp only [dif_pos hi]
theorem rk_rev (A : List (List UInt8)) (hA : ∀ r ∈ A, r.length = 64) (ha : A.length ≤ 64) : rk A.reverse = rk A := by
  have hr : ∀ r ∈ A.reverse, r.length = 64 := fun r h => hA r (List.mem_reverse.1 h)
  have hm : ∀ i j, i < A.length → mat A.reverse i j = mat A (A.length - 1 - i) j := by
    intro i j hi
    have e : A.reverse.getD i zr = A.getD (A.length - 1 - i) zr := by rw [List.getD, List.getD, List.getElem?_reverse hi]
    unfold mat
    rw [e]
  apply Nat.le_antisymm
  · refine rk_rev_le _ _ hr hA (by simp; exact ha) (by simp) (fun i hi => ⟨A.length - 1 - i, by simp at hi; omega, fun j => hm i j (by simpa using hi)⟩)
  · refine rk_rev_le _ _ hA hr ha (by simp) (fun i hi => ⟨A.length - 1 - i, by simp; omega, fun j => ?_⟩)
    rw [hm (A.length - 1 - i) j (by omega), show A.length - 1 - (A.length - 1 - i) = i from by omega]
/-- The inverse undoes. -/
theorem undo (xs : List ByteArray) (n : Nat) (h : SqM n xs) (h1 : 1 ≤ n) (h2 : n ≤ 64) (hs : sng (redP (arrL xs)) = false) :
    SqM n (ivX xs) ∧ prodL (arrL (ivX xs)) (arrL xs) = unL n ∧ prodL (arrL xs) (arrL (ivX xs)) = unL n := by
  obtain ⟨hm, hw⟩ := h.isM h1 h2
  have hlen := h.len
  have hwide := h.wide h2
  have hzb := zb_red n xs (fun x hx => by rw [h.2 x hx]; exact Nat.le_refl _) h2
  have hboth := inv_both (arrL xs) hwide (by rw [hlen]; exact h2) (by rw [hlen]; exact hzb) hs
  rw [hlen] at hboth
  obtain ⟨hL, hR⟩ := hboth
  have hiv : ivX xs = txtL n (ivK (redP (arrL xs)) n n) := by
    unfold ivX
    rw [hm, hw, h.1, decide_eq_true rfl, hs]; rfl
  have hXW : ∀ p ∈ redP (arrL xs), p.length = 128 := redK_wide _ (staP_wide _ hwide) _
  have hVW := ivK_wide (redP (arrL xs)) hXW n n
  have hVl := ivK_len (redP (arrL xs)) n n
  generalize ivK (redP (arrL xs)) n n = V at *
  have hsq : SqM n (ivX xs) := by rw [hiv]; exact sq_txt V n hVl hVW h2
  have hpm : ∀ r l, r < n → l < n → mat (arrL (ivX xs)) r l = mat V r l := by
    intro r l hr hl
    unfold mat
    obtain ⟨v, hv⟩ : ∃ v, V[r]? = some v := ⟨_, List.getElem?_eq_getElem (by omega)⟩
    have hvl := hVW v (List.mem_of_getElem? hv)
    rw [show (arrL (ivX xs)).getD r zr = rowOf (mkT (v.take n)) from by rw [List.getD, arrL, List.getElem?_map, hiv, txtL, List.getElem?_map, hv]; rfl, show V.getD r zr = v from by rw [List.getD, hv]; rfl, List.getD, List.getD, rowOf_get _ (by rw [mkT_size, List.length_take]; omega) l (by rw [mkT_size, List.length_take]; omega), mkT_data, List.getElem?_take, if_pos hl]
  have hiw := hsq.wide h2
  have hil := hsq.len
  refine ⟨hsq, ?_, ?_⟩
  · apply mat_ext _ _ (prodL_wide _ _ hwide) (unL_wide n) (by rw [prodL_len, hil, unL_len])
    intro r j hr hj
    rw [prodL_len, hil] at hr
    rw [mat_prod _ _ hwide r j (by rw [hil]; exact hr) hj, hlen, unL_mat n r j hr h2 hj, ← hL r j hr hj]
    apply Sx_congr
    intro l hl
    rw [hpm r l hr hl]
  · apply mat_ext _ _ (prodL_wide _ _ hiw) (unL_wide n) (by rw [prodL_len, hlen, unL_len])
    intro i l hi hl
    rw [prodL_len, hlen] at hi
    rw [mat_prod _ _ hiw i l (by rw [hlen]; exact hi) hl, hil, unL_mat n i l hi h2 hl]
    by_cases hln : l < n
    · rw [← hR i l hi hln]
      apply Sx_congr
      intro r hr
      rw [hpm r l hr hln]
    · rw [if_neg (by omega)]
      apply Sx_nil
      intro r hr
      have : mat (arrL (ivX xs)) r l = 0 := by
        unfold mat
        rw [show (arrL (ivX xs)).getD r zr = (arrL (ivX xs))[r]'(by rw [hil]; exact hr) from by rw [List.getD, List.getElem?_eq_getElem (by rw [hil]; exact hr)]; rfl]
        exact hsq.zc h2 _ (List.getElem_mem _) l (by omega) hl
      rw [this, mul_zero_right]
end Go.Proofs.Ytblmblbkfdcbjab
