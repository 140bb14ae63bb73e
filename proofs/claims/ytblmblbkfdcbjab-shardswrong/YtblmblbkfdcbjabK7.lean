/- What reduced keeps: each left row is what its right row makes of the matrix, and the right rows are not made of one another. -/
import Derived.Test.YtblmblbkfdcbjabK5
import Derived.Test.YtblmblbkfdcbjabK6
namespace Go.Proofs.Ytblmblbkfdcbjab
open Go.RowKit
set_option linter.unusedSimpArgs false
set_option linter.unusedVariables false
/-- The number j of the pair k. -/
def ent (X : List (List UInt8)) (k j : Nat) : UInt8 := (X.getD k zp).getD j 0
theorem addR_getD (a b : List UInt8) (t : UInt8) (j : Nat) (ha : j < a.length) (hb : j < b.length) : (addR a b t).getD j 0 = a.getD j 0 ^^^ mul (b.getD j 0) t := by
  simp only [List.getD, addR, List.getElem?_zipWith, List.getElem?_eq_getElem ha, List.getElem?_eq_getElem hb]
  rfl
theorem zp_getD (j : Nat) : zp.getD j 0 = 0 := by
  simp only [List.getD, zp, List.getElem?_replicate]
  split <;> rfl
/-- The left rows come of the right ones; these are not made of one another. -/
structure Inv (M : Nat → Nat → UInt8) (n : Nat) (X : List (List UInt8)) : Prop where
  lin : ∀ k j, k < n → j < 64 → ent X k j = Sx n (fun i => mul (ent X k (64 + i)) (M i j))
  ind : ∀ c : Nat → UInt8, (∀ i, i < n → Sx n (fun k => mul (c k) (ent X k (64 + i))) = 0) → ∀ k, k < n → c k = 0
theorem Inv.elem {M : Nat → Nat → UInt8} {n : Nat} {X X' : List (List UInt8)} (h : Inv M n X) (hn : n ≤ 64) (i : Nat) (hi : i < n) (s : UInt8) (hs : s ≠ 0) (t : Nat → UInt8)
    (he : ∀ k j, k < n → j < 128 → ent X' k j = if k = i then mul (ent X i j) s else ent X k j ^^^ mul (mul (ent X i j) s) (t k)) : Inv M n X' := by
  constructor
  · intro k j hk hj
    rw [he k j hk (by omega)]
    have hr : Sx n (fun l => mul (ent X' k (64 + l)) (M l j)) = Sx n (fun l => mul (if k = i then mul (ent X i (64 + l)) s else ent X k (64 + l) ^^^ mul (mul (ent X i (64 + l)) s) (t k)) (M l j)) := by
      apply Sx_congr
      intro l hl
      rw [he k (64 + l) hk (by omega)]
    rw [hr]
    have e2 : ∀ (u : UInt8), mul (ent X i j) u = Sx n (fun l => mul (mul (ent X i (64 + l)) u) (M l j)) := by
      intro u
      rw [h.lin i j hi hj, ← Sx_mul]
      apply Sx_congr
      intro l hl
      rw [mul_assoc, mul_assoc, mul_comm (M l j)]
    by_cases hki : k = i
    · simp only [if_pos hki]
      exact e2 s
    · simp only [if_neg hki]
      rw [mul_assoc, e2, h.lin k j hk hj, ← Sx_add]
      apply Sx_congr
      intro l hl
      rw [mul_xor_left, mul_assoc (ent X i (64 + l)) s (t k)]
  · intro c hc
    obtain ⟨g, hg⟩ : ∃ g : Nat → UInt8, g = fun k => if k = i then c i else mul (c k) (t k) := ⟨_, rfl⟩
    obtain ⟨c', hc'⟩ : ∃ c' : Nat → UInt8, c' = fun k => if k = i then mul (Sx n g) s else c k := ⟨_, rfl⟩
    have key : ∀ l, l < n → Sx n (fun k => mul (c' k) (ent X k (64 + l))) = 0 := by
      intro l hl
      rw [← hc l hl]
      have e1 : Sx n (fun k => mul (c k) (ent X' k (64 + l))) = Sx n (fun k => mul (if k = i then 0 else c k) (ent X k (64 + l)) ^^^ mul (g k) (mul (ent X i (64 + l)) s)) := by
        apply Sx_congr
        intro k hk
        rw [he k (64 + l) hk (by omega), hg]
        by_cases hki : k = i
        · simp only [if_pos hki]
          rw [zero_mul, UInt8.zero_xor, hki]
        · simp only [if_neg hki]
          rw [mul_xor_right, mul_assoc (c k) (t k), mul_comm (t k)]
      have e3 : mul (Sx n g) (mul (ent X i (64 + l)) s) = Sx n (fun k => mul (if k = i then mul (Sx n g) s else 0) (ent X k (64 + l))) := by
        have e4 := Sx_one n (fun k => mul (if k = i then mul (Sx n g) s else 0) (ent X k (64 + l))) i hi (fun k hk hki => by show mul (if k = i then mul (Sx n g) s else 0) _ = 0; rw [if_neg hki, zero_mul])
        rw [e4]
        show _ = mul (if i = i then mul (Sx n g) s else 0) (ent X i (64 + l))
        rw [if_pos rfl, mul_assoc, mul_comm s]
      rw [e1, Sx_add, Sx_mul, e3, ← Sx_add]
      apply Sx_congr
      intro k hk
      rw [hc', ← mul_xor_left]
      by_cases hki : k = i
      · simp only [if_pos hki, UInt8.zero_xor]
      · simp only [if_neg hki, UInt8.xor_zero]
    have h0 := h.ind c' key
    have hne : ∀ k, k < n → k ≠ i → c k = 0 := by
      intro k hk hki
      have := h0 k hk
      rw [hc'] at this
      simpa only [if_neg hki] using this
    have hG : Sx n g = 0 := by
      have := h0 i hi
      rw [hc'] at this
      have this' : (if i = i then mul (Sx n g) s else c i) = 0 := this
      rw [if_pos rfl] at this'
      rcases mul_eq_zero this' with h1 | h1
      · exact h1
      · exact absurd h1 hs
    have hci : c i = 0 := by
      rw [Sx_one n g i hi (fun k hk hki => by rw [hg]; show (if k = i then c i else mul (c k) (t k)) = 0; rw [if_neg hki, hne k hk hki, zero_mul]), hg] at hG
      have hG' : (if i = i then c i else mul (c i) (t i)) = 0 := hG
      rwa [if_pos rfl] at hG'
    intro k hk
    by_cases hki : k = i
    · rw [hki]; exact hci
    · exact hne k hk hki
theorem fst_ne {p : List UInt8} (hp : p.length = 128) (h0 : lf p ≠ zr) : p.getD (fst (lf p)) 0 ≠ 0 := by
  have hl := lf_len p hp
  have hlt := fst_lt (lf p) hl
  have hne : ¬ (lf p).all (· == 0) = true := by
    intro ha
    apply h0
    apply List.ext_getElem (by rw [hl, zr_len])
    intro i h1 h2
    rw [List.all_eq_true] at ha
    have := ha _ (List.getElem_mem h1)
    simp only [beq_iff_eq] at this
    rw [this]
    have hz : ∀ (m : Nat) (hm : m < zr.length), zr[m] = 0 := fun m hm => List.getElem_replicate hm
    exact (hz i h2).symm
  have hf : fst (lf p) = (lf p).findIdx (· != 0) := by unfold fst; rw [if_neg hne]
  have h1 : (lf p).findIdx (· != 0) < (lf p).length := by rw [← hf, hl]; exact hlt
  have h2 := List.findIdx_getElem (w := h1)
  intro e
  have h4 : (lf p)[(lf p).findIdx (· != 0)]? = some 0 := by
    rw [← hf]
    generalize fst (lf p) = j at *
    rw [lf, List.getElem?_take, if_pos hlt]
    rw [List.getD, List.getElem?_eq_getElem (by omega)] at e
    rw [List.getElem?_eq_getElem (by omega)]
    exact congrArg some e
  rw [List.getElem?_eq_getElem h1] at h4
  rw [Option.some.inj h4] at h2
  simp at h2
theorem stp_ent (X : List (List UInt8)) (hX : ∀ r ∈ X, r.length = 128) (i : Nat) (hi : i < X.length) (h0 : lf (X.getD i zp) ≠ zr) (k j : Nat) (hk : k < X.length) (hj : j < 128) :
    ent (stp X i) k j = if k = i then mul (ent X i j) (inv (ent X i (fst (lf (X.getD i zp))))) else ent X k j ^^^ mul (mul (ent X i j) (inv (ent X i (fst (lf (X.getD i zp)))))) (ent X k (fst (lf (X.getD i zp)))) := by
  obtain ⟨p, hp⟩ : ∃ p, X.getD i zp = p := ⟨_, rfl⟩
  have hpl : p.length = 128 := by rw [← hp]; exact getD_wide2 X hX i
  obtain ⟨c, hc⟩ : ∃ c, fst (lf p) = c := ⟨_, rfl⟩
  obtain ⟨q, hq⟩ : ∃ q, addR zp p (inv (p.getD c 0)) = q := ⟨_, rfl⟩
  have hql : q.length = 128 := by rw [← hq]; exact addR_len2 _ _ _ zp_len hpl
  have hqj : q.getD j 0 = mul (p.getD j 0) (inv (p.getD c 0)) := by
    rw [← hq, addR_getD _ _ _ _ (by rw [zp_len]; exact hj) (by rw [hpl]; exact hj), zp_getD, UInt8.zero_xor]
  have hst : stp X i = elP (X.set i q) i q c X.length := by
    unfold stp
    rw [hp] at h0 ⊢
    rw [if_neg h0, hc, hq]
  have hei : ∀ m, ent X i m = p.getD m 0 := fun m => by unfold ent; rw [hp]
  rw [hp, hc, hei j, hei c, hst]
  unfold ent
  by_cases hki : k = i
  · subst hki
    have h1 : (X.set k q)[k]? = some q := by rw [List.getElem?_set, if_pos rfl, if_pos hi]
    rw [if_pos rfl]
    have hgd : (elP (X.set k q) k q c X.length).getD k zp = q := by rw [List.getD, elP_at _ _ _ _ _ k q h1, if_pos (.inl rfl)]; rfl
    rw [hgd]
    exact hqj
  · rw [if_neg hki]
    obtain ⟨r, hr⟩ : ∃ r, X[k]? = some r := ⟨_, List.getElem?_eq_getElem hk⟩
    have hrl := hX r (List.mem_of_getElem? hr)
    have h1 : (X.set i q)[k]? = some r := by rw [List.getElem?_set, if_neg (fun e => hki e.symm), hr]
    have h2 : X.getD k zp = r := by rw [List.getD, hr]; rfl
    rw [h2]
    have hgd : (elP (X.set i q) i q c X.length).getD k zp = addR r q (r.getD c 0) := by rw [List.getD, elP_at _ _ _ _ _ k r h1, if_neg (by omega)]; rfl
    rw [hgd, addR_getD _ _ _ _ (by omega) (by omega), hqj]
theorem Inv.stp {M : Nat → Nat → UInt8} {X : List (List UInt8)} (h : Inv M X.length X) (hn : X.length ≤ 64) (hX : ∀ r ∈ X, r.length = 128) (i : Nat) (hi : i < X.length) : Inv M X.length (stp X i) := by
  by_cases h0 : lf (X.getD i zp) = zr
  · have e : Go.Proofs.Ytblmblbkfdcbjab.stp X i = X := by unfold Go.Proofs.Ytblmblbkfdcbjab.stp; rw [if_pos h0]
    rw [e]; exact h
  · refine h.elem hn i hi _ (inv_ne _ (fst_ne (getD_wide2 X hX i) h0)) (fun k => ent X k (fst (lf (X.getD i zp)))) (fun k j hk hj => ?_)
    exact stp_ent X hX i hi h0 k j hk hj
theorem Inv.redK {M : Nat → Nat → UInt8} {X : List (List UInt8)} (h : Inv M X.length X) (hn : X.length ≤ 64) (hX : ∀ r ∈ X, r.length = 128) : ∀ k, k ≤ X.length → Inv M X.length (redK X k)
  | 0, _ => h
  | k + 1, hk => by
    have ih := Inv.redK h hn hX k (by omega)
    have hl := redK_len X k
    rw [← hl] at ih ⊢
    exact ih.stp (by omega) (redK_wide X hX k) k (by omega)
theorem ur_getD (k l : Nat) (hk : k < 64) (hl : l < 64) : (ur k).getD l 0 = if l = k then 1 else 0 := by
  rw [List.getD, ur, List.getElem?_set, zr_len]
  by_cases e : k = l
  · subst e; rw [if_pos rfl, if_pos hk, if_pos rfl]; rfl
  · rw [if_neg e, if_neg (fun h => e h.symm), zr, List.getElem?_replicate, if_pos hl]; rfl
/-- The matrix's own numbers. -/
def mat (A : List (List UInt8)) (i j : Nat) : UInt8 := (A.getD i zr).getD j 0
theorem sta_ent (A : List (List UInt8)) (hA : ∀ r ∈ A, r.length = 64) (k : Nat) (hk : k < A.length) : (∀ j, j < 64 → ent (staP A) k j = mat A k j) ∧ ∀ l, l < 64 → k < 64 → ent (staP A) k (64 + l) = if l = k then 1 else 0 := by
  obtain ⟨r, hr⟩ : ∃ r, A[k]? = some r := ⟨_, List.getElem?_eq_getElem hk⟩
  have hrl := hA r (List.mem_of_getElem? hr)
  have e : (staP A).getD k zp = r ++ ur k := by rw [List.getD, staP_at A k r hr]; rfl
  constructor
  · intro j hj
    unfold ent mat
    rw [e, List.getD, List.getElem?_append_left (by omega), show A.getD k zr = r from by rw [List.getD, hr]; rfl, List.getD]
  · intro l hl hk64
    unfold ent
    rw [e, List.getD, List.getElem?_append_right (by omega), hrl, Nat.add_sub_cancel_left]
    exact ur_getD k l hk64 hl
theorem Inv.start (A : List (List UInt8)) (hA : ∀ r ∈ A, r.length = 64) (hn : A.length ≤ 64) : Inv (mat A) A.length (staP A) := by
  constructor
  · intro k j hk hj
    obtain ⟨h1, h2⟩ := sta_ent A hA k hk
    rw [h1 j hj, Sx_one A.length _ k hk (fun i hi hik => by rw [h2 i (by omega) (by omega), if_neg hik, zero_mul]), h2 k (by omega) (by omega), if_pos rfl, one_mul]
  · intro c hc k hk
    have h := hc k hk
    rw [Sx_one A.length _ k hk (fun i hi hik => by rw [(sta_ent A hA i hi).2 k (by omega) (by omega), if_neg (fun e => hik e.symm), mul_zero_right]), (sta_ent A hA k hk).2 k (by omega) (by omega), if_pos rfl, mul_one] at h
    exact h
theorem Inv.red (A : List (List UInt8)) (hA : ∀ r ∈ A, r.length = 64) (hn : A.length ≤ 64) : Inv (mat A) A.length (redP A) := by
  have h := Inv.start A hA hn
  rw [← staP_len A] at h ⊢
  have := h.redK (by rw [staP_len]; exact hn) (staP_wide A hA) A.length (by rw [staP_len]; exact Nat.le_refl _)
  exact this
/-- A matrix that package field calls singular has rows that add up to nothing. -/
theorem sng_ker (A : List (List UInt8)) (hA : ∀ r ∈ A, r.length = 64) (hn : A.length ≤ 64) (hs : sng (redP A) = true) : ∃ v : Nat → UInt8, (∃ i, i < A.length ∧ v i ≠ 0) ∧ ∀ j, j < 64 → Sx A.length (fun i => mul (v i) (mat A i j)) = 0 := by
  have h := Inv.red A hA hn
  unfold sng at hs
  rw [List.any_eq_true] at hs
  obtain ⟨p, hp, hz⟩ := hs
  obtain ⟨k, hk, e⟩ := List.mem_iff_getElem.1 hp
  have hlen : (redP A).length = A.length := by rw [redP, redK_len, staP_len]
  have hkn : k < A.length := by omega
  have hpk : (redP A).getD k zp = p := by rw [List.getD, List.getElem?_eq_getElem hk, e]; rfl
  have hpl : p.length = 128 := redK_wide _ (staP_wide A hA) _ p hp
  have hz' : lf p = zr := by simpa using hz
  refine ⟨fun i => ent (redP A) k (64 + i), ?_, ?_⟩
  · apply Classical.byContradiction
    intro hno
    have hall : ∀ i, i < A.length → ent (redP A) k (64 + i) = 0 := by
      intro i hi
      apply Classical.byContradiction
      intro h1
      exact hno ⟨i, hi, h1⟩
    have := h.ind (fun m => if m = k then 1 else 0) (fun i hi => by
      apply Sx_nil
      intro m hm
      by_cases hmk : m = k
      · rw [if_pos hmk, one_mul, hmk, hall i hi]
      · rw [if_neg hmk, zero_mul]) k hkn
    simp at this
  · intro j hj
    rw [← h.lin k j hkn hj]
    unfold ent
    rw [hpk]
    have : (lf p)[j]? = zr[j]? := by rw [hz']
    rw [lf, List.getElem?_take, if_pos hj, zr, List.getElem?_replicate, if_pos hj] at this
    rw [List.getD, this]; rfl
end Go.Proofs.Ytblmblbkfdcbjab
