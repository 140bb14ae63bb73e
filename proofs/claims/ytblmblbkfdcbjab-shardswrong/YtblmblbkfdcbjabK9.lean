/- The rows of the matrix come of the reduced ones; a reduced row is 0 or has a column of its own; the inverse undoes, on either side. -/
import Derived.Test.YtblmblbkfdcbjabK7
namespace Go.Proofs.Ytblmblbkfdcbjab
open Go.RowKit
set_option linter.unusedSimpArgs false
set_option linter.unusedVariables false
/-- The rows of M, and the unit's, come of the pairs by one S. -/
def Back (M : Nat → Nat → UInt8) (n : Nat) (X : List (List UInt8)) : Prop :=
  ∃ S : Nat → Nat → UInt8, (∀ i j, i < n → j < 64 → M i j = Sx n (fun k => mul (S i k) (ent X k j))) ∧ ∀ i l, i < n → l < n → (if l = i then (1 : UInt8) else 0) = Sx n (fun k => mul (S i k) (ent X k (64 + l)))
theorem elem_back {n i : Nat} (hi : i < n) (S e e' : Nat → UInt8) (s : UInt8) (hs : s ≠ 0) (t : Nat → UInt8) (he : ∀ k, k < n → e' k = if k = i then mul (e i) s else e k ^^^ mul (mul (e i) s) (t k)) :
    Sx n (fun k => mul (S k) (e k)) = Sx n (fun k => mul (if k = i then mul (S i) (inv s) ^^^ Sx n (fun m => if m = i then 0 else mul (S m) (t m)) else S k) (e' k)) := by
  obtain ⟨G, hG⟩ : ∃ G, Sx n (fun m => if m = i then 0 else mul (S m) (t m)) = G := ⟨_, rfl⟩
  rw [hG]
  -- the right side, apart
  have h1 : Sx n (fun k => mul (if k = i then mul (S i) (inv s) ^^^ G else S k) (e' k)) = Sx n (fun k => (if k = i then mul (mul (S i) (inv s) ^^^ G) (mul (e i) s) else mul (S k) (e k)) ^^^ mul (if k = i then 0 else mul (S k) (t k)) (mul (e i) s)) := by
    apply Sx_congr
    intro k hk
    rw [he k hk]
    by_cases hki : k = i
    · simp only [if_pos hki]
      rw [zero_mul, UInt8.xor_zero]
    · simp only [if_neg hki]
      rw [mul_xor_right, mul_assoc (S k) (t k), mul_comm (t k)]
  rw [h1, Sx_add, Sx_mul, hG]
  have h2 : mul G (mul (e i) s) = Sx n (fun k => if k = i then mul G (mul (e i) s) else 0) := by
    have := Sx_one n (fun k => if k = i then mul G (mul (e i) s) else 0) i hi (fun k hk hki => if_neg hki)
    rw [this]; exact (if_pos rfl).symm
  rw [h2, ← Sx_add]
  apply Sx_congr
  intro k hk
  by_cases hki : k = i
  · simp only [if_pos hki]
    rw [mul_xor_left, UInt8.xor_assoc, UInt8.xor_self, UInt8.xor_zero, hki, mul_assoc, mul_comm (e i) s, ← mul_assoc (inv s), mul_inv s hs, one_mul]
  · simp only [if_neg hki, UInt8.xor_zero]
theorem Back.elem {M : Nat → Nat → UInt8} {n : Nat} {X X' : List (List UInt8)} (h : Back M n X) (hn : n ≤ 64) (i : Nat) (hi : i < n) (s : UInt8) (hs : s ≠ 0) (t : Nat → UInt8)
    (he : ∀ k j, k < n → j < 128 → ent X' k j = if k = i then mul (ent X i j) s else ent X k j ^^^ mul (mul (ent X i j) s) (t k)) : Back M n X' := by
  obtain ⟨S, h1, h2⟩ := h
  refine ⟨fun r k => if k = i then mul (S r i) (inv s) ^^^ Sx n (fun m => if m = i then 0 else mul (S r m) (t m)) else S r k, fun r j hr hj => ?_, fun r l hr hl => ?_⟩
  · rw [h1 r j hr hj]
    exact elem_back hi (S r) (fun k => ent X k j) (fun k => ent X' k j) s hs t (fun k hk => he k j hk (by omega))
  · rw [h2 r l hr hl]
    exact elem_back hi (S r) (fun k => ent X k (64 + l)) (fun k => ent X' k (64 + l)) s hs t (fun k hk => he k (64 + l) hk (by omega))
/-- The first i rows are 0, or have a column of their own. -/
def Piv (n i : Nat) (X : List (List UInt8)) : Prop := ∀ k, k < i → (∀ j, j < 64 → ent X k j = 0) ∨ ∃ c, c < 64 ∧ ent X k c = 1 ∧ ∀ k', k' < n → k' ≠ k → ent X k' c = 0
theorem lf_zero {p : List UInt8} (hp : p.length = 128) (h : lf p = zr) (j : Nat) (hj : j < 64) : p.getD j 0 = 0 := by
  have : (lf p)[j]? = zr[j]? := by rw [h]
  rw [lf, List.getElem?_take, if_pos hj, zr, List.getElem?_replicate, if_pos hj] at this
  rw [List.getD, this]; rfl
theorem Piv.stp {X : List (List UInt8)} {i : Nat} (h : Piv X.length i X) (hX : ∀ r ∈ X, r.length = 128) (hi : i < X.length) : Piv X.length (i + 1) (stp X i) := by
  by_cases h0 : lf (X.getD i zp) = zr
  · have e : Go.Proofs.Ytblmblbkfdcbjab.stp X i = X := by unfold Go.Proofs.Ytblmblbkfdcbjab.stp; rw [if_pos h0]
    rw [e]
    intro k hk
    by_cases hki : k = i
    · left
      intro j hj
      rw [hki]
      exact lf_zero (getD_wide2 X hX i) h0 j hj
    · exact h k (by omega)
  · have hc := fst_lt (lf (X.getD i zp)) (lf_len _ (getD_wide2 X hX i))
    have hne := fst_ne (getD_wide2 X hX i) h0
    have he := stp_ent X hX i hi h0
    obtain ⟨c, hcc⟩ : ∃ c, fst (lf (X.getD i zp)) = c := ⟨_, rfl⟩
    rw [hcc] at hc hne he
    have hne' : ent X i c ≠ 0 := hne
    intro k hk
    by_cases hki : k = i
    · right
      refine ⟨c, hc, ?_, fun k' hk' hk'i => ?_⟩
      · rw [he k c (by omega) (by omega), if_pos hki, inv_mul _ hne']
      · rw [he k' c hk' (by omega), if_neg (by omega), inv_mul _ hne', one_mul, UInt8.xor_self]
    · rcases h k (by omega) with hz | ⟨d, hd, h1, h2⟩
      · left
        intro j hj
        rw [he k j (by omega) (by omega), if_neg hki, hz j hj, hz c hc, mul_zero_right, UInt8.xor_zero]
      · right
        have hid : ent X i d = 0 := h2 i hi (fun e => hki e.symm)
        refine ⟨d, hd, ?_, fun k' hk' hk'k => ?_⟩
        · rw [he k d (by omega) (by omega), if_neg hki, hid, zero_mul, zero_mul, UInt8.xor_zero, h1]
        · rw [he k' d hk' (by omega), hid, zero_mul]
          split
          · rfl
          · rw [zero_mul, UInt8.xor_zero, h2 k' hk' hk'k]
theorem Back.stp {M : Nat → Nat → UInt8} {X : List (List UInt8)} (h : Back M X.length X) (hn : X.length ≤ 64) (hX : ∀ r ∈ X, r.length = 128) (i : Nat) (hi : i < X.length) : Back M X.length (stp X i) := by
  by_cases h0 : lf (X.getD i zp) = zr
  · have e : Go.Proofs.Ytblmblbkfdcbjab.stp X i = X := by unfold Go.Proofs.Ytblmblbkfdcbjab.stp; rw [if_pos h0]
    rw [e]; exact h
  · exact h.elem hn i hi _ (inv_ne _ (fst_ne (getD_wide2 X hX i) h0)) (fun k => ent X k (fst (lf (X.getD i zp)))) (fun k j hk hj => stp_ent X hX i hi h0 k j hk hj)
theorem both_redK {M : Nat → Nat → UInt8} {X : List (List UInt8)} (h : Back M X.length X) (hn : X.length ≤ 64) (hX : ∀ r ∈ X, r.length = 128) : ∀ k, k ≤ X.length → Back M X.length (redK X k) ∧ Piv X.length k (redK X k)
  | 0, _ => ⟨h, fun k hk => by omega⟩
  | k + 1, hk => by
    have ih := both_redK h hn hX k (by omega)
    have hl := redK_len X k
    rw [← hl] at ih ⊢
    exact ⟨ih.1.stp (by omega) (redK_wide X hX k) k (by omega), ih.2.stp (redK_wide X hX k) (by omega)⟩
theorem Back.start (A : List (List UInt8)) (hA : ∀ r ∈ A, r.length = 64) (hn : A.length ≤ 64) : Back (mat A) A.length (staP A) := by
  refine ⟨fun i k => if k = i then 1 else 0, fun i j hi hj => ?_, fun i l hi hl => ?_⟩
  · rw [Sx_one A.length _ i hi (fun k hk hki => by show mul (if k = i then 1 else 0) _ = 0; rw [if_neg hki, zero_mul])]
    show _ = mul (if i = i then 1 else 0) _
    rw [if_pos rfl, one_mul, (sta_ent A hA i hi).1 j hj]
  · rw [Sx_one A.length _ i hi (fun k hk hki => by show mul (if k = i then 1 else 0) _ = 0; rw [if_neg hki, zero_mul])]
    show _ = mul (if i = i then 1 else 0) _
    rw [if_pos rfl, one_mul, (sta_ent A hA i hi).2 l (by omega) (by omega)]
theorem both_red (A : List (List UInt8)) (hA : ∀ r ∈ A, r.length = 64) (hn : A.length ≤ 64) : Back (mat A) A.length (redP A) ∧ Piv A.length A.length (redP A) := by
  have h := Back.start A hA hn
  rw [← staP_len A] at h
  have := both_redK h (by rw [staP_len]; exact hn) (staP_wide A hA) A.length (by rw [staP_len]; exact Nat.le_refl _)
  rw [staP_len] at this
  exact this
end Go.Proofs.Ytblmblbkfdcbjab
