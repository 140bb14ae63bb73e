/- The inverse that package field tells undoes the matrix, on either side. -/
import Derived.Test.YtblmblbkfdcbjabK9
namespace Go.Proofs.Ytblmblbkfdcbjab
open Go.RowKit
set_option linter.unusedSimpArgs false
set_option linter.unusedVariables false
theorem onto : ∀ (n : Nat) (c : Nat → Nat), (∀ k, k < n → c k < n) → (∀ k l, k < n → l < n → c k = c l → k = l) → ∀ j, j < n → ∃ k, k < n ∧ c k = j
  | 0, _, _, _, j, hj => by omega
  | n + 1, c, h1, h2, j, hj => by
    have hm := h1 n (by omega)
    have hne : ∀ k, k < n → c k = n → c n < n := by
      intro k hk e
      have : c n ≠ n := fun e2 => by have := h2 k n (by omega) (by omega) (by omega); omega
      omega
    have ih := onto n (fun k => if c k = n then c n else c k) (fun k hk => by
      show (if c k = n then c n else c k) < n
      by_cases e : c k = n
      · rw [if_pos e]; exact hne k hk e
      · rw [if_neg e]; have := h1 k (by omega); omega) (fun k l hk hl e => by
      have e' : (if c k = n then c n else c k) = (if c l = n then c n else c l) := e
      by_cases e1 : c k = n
      · by_cases e2 : c l = n
        · exact h2 k l (by omega) (by omega) (by omega)
        · rw [if_pos e1, if_neg e2] at e'
          have := h2 n l (by omega) (by omega) e'
          omega
      · by_cases e2 : c l = n
        · rw [if_neg e1, if_pos e2] at e'
          have := h2 k n (by omega) (by omega) e'
          omega
        · rw [if_neg e1, if_neg e2] at e'
          exact h2 k l (by omega) (by omega) e')
    by_cases hjm : j = c n
    · exact ⟨n, by omega, hjm.symm⟩
    · by_cases hjn : j = n
      · obtain ⟨k, hk, e⟩ := ih (c n) (by omega)
        have e' : (if c k = n then c n else c k) = c n := e
        by_cases e1 : c k = n
        · exact ⟨k, by omega, by omega⟩
        · rw [if_neg e1] at e'
          have := h2 k n (by omega) (by omega) e'
          omega
      · obtain ⟨k, hk, e⟩ := ih j (by omega)
        have e' : (if c k = n then c n else c k) = j := e
        by_cases e1 : c k = n
        · rw [if_pos e1] at e'; omega
        · rw [if_neg e1] at e'
          exact ⟨k, by omega, e'⟩
theorem zb_ent {n : Nat} {X : List (List UInt8)} (h : ∀ p ∈ X, zb n p) (k j : Nat) (hk : k < X.length) (h1 : n ≤ j) (h2 : j < 64) : ent X k j = 0 := by
  unfold ent
  have e : X.getD k zp = X[k] := by rw [List.getD, List.getElem?_eq_getElem hk]; rfl
  rw [e, List.getD, h _ (List.getElem_mem hk) j h1 h2]; rfl
/-- Where no reduced row is 0, they are the unit's rows, in some other order. -/
theorem red_unit (X : List (List UInt8)) (n : Nat) (hl : X.length = n) (hX : ∀ r ∈ X, r.length = 128) (hz : ∀ p ∈ X, zb n p) (hn : n ≤ 64) (hp : Piv n n X) (hs : sng X = false) :
    ∃ c : Nat → Nat, (∀ k, k < n → c k < n) ∧ (∀ k l, k < n → l < n → c k = c l → k = l) ∧ (∀ k j, k < n → j < 64 → ent X k j = if j = c k then 1 else 0) := by
  have hnz : ∀ k, k < n → ∃ c, c < n ∧ ent X k c = 1 ∧ ∀ k', k' < n → k' ≠ k → ent X k' c = 0 := by
    intro k hk
    rcases hp k hk with h0 | ⟨c, hc, h1, h2⟩
    · exfalso
      have hkl : k < X.length := by omega
      have hg : X.getD k zp = X[k] := by rw [List.getD, List.getElem?_eq_getElem hkl]; rfl
      have hlen := hX _ (List.getElem_mem hkl)
      have : lf X[k] = zr := by
        apply List.ext_getElem?
        intro j
        by_cases hj : j < 64
        · have := h0 j hj
          unfold ent at this
          rw [hg, List.getD, List.getElem?_eq_getElem (by omega)] at this
          rw [lf, List.getElem?_take, if_pos hj, List.getElem?_eq_getElem (by omega), zr, List.getElem?_replicate, if_pos hj]
          exact congrArg some this
        · rw [List.getElem?_eq_none (by rw [lf_len _ hlen]; omega), List.getElem?_eq_none (by rw [zr_len]; omega)]
      have hs2 : sng X = true := by
        unfold sng
        rw [List.any_eq_true]
        exact ⟨_, List.getElem_mem hkl, by simp [this]⟩
      rw [hs] at hs2
      cases hs2
    · refine ⟨c, ?_, h1, h2⟩
      apply Classical.byContradiction
      intro hcn
      rw [zb_ent hz k c (by omega) (by omega) hc] at h1
      exact absurd h1 (by decide)
  have hch : ∃ c : Nat → Nat, ∀ k, k < n → c k < n ∧ ent X k (c k) = 1 ∧ ∀ k', k' < n → k' ≠ k → ent X k' (c k) = 0 := by
    refine ⟨fun k => if h : k < n then Classical.choose (hnz k h) else 0, fun k hk => ?_⟩
    simp only [dif_pos hk]
    exact Classical.choose_spec (hnz k hk)
  obtain ⟨c, hc⟩ := hch
  have hinj : ∀ k l, k < n → l < n → c k = c l → k = l := by
    intro k l hk hl e
    apply Classical.byContradiction
    intro hkl
    have h1 := (hc l hl).2.2 k hk hkl
    rw [← e, (hc k hk).2.1] at h1
    exact absurd h1 (by decide)
  refine ⟨c, fun k hk => (hc k hk).1, hinj, fun k j hk hj => ?_⟩
  by_cases hjn : j < n
  · obtain ⟨k', hk', rfl⟩ := onto n c (fun k hk => (hc k hk).1) hinj j hjn
    by_cases e : k' = k
    · rw [e, if_pos rfl]; exact (hc k hk).2.1
    · rw [if_neg (fun e2 => e (hinj k' k hk' hk e2))]
      exact (hc k' hk').2.2 k hk (fun e2 => e e2.symm)
  · rw [zb_ent hz k j (by omega) (by omega) hj, if_neg (by have := (hc k hk).1; omega)]
theorem fst_unit (X : List (List UInt8)) (n : Nat) (hl : X.length = n) (hX : ∀ r ∈ X, r.length = 128) (c : Nat → Nat) (hc : ∀ k, k < n → c k < n) (hn : n ≤ 64) (he : ∀ k j, k < n → j < 64 → ent X k j = if j = c k then 1 else 0) (k : Nat) (hk : k < n) : fst (lf (X.getD k zp)) = c k := by
  have hlen := getD_wide2 X hX k
  have hck := hc k hk
  have hget : ∀ j, j < 64 → (lf (X.getD k zp))[j]? = some (ent X k j) := by
    intro j hj
    rw [lf, List.getElem?_take, if_pos hj]
    unfold ent
    rw [List.getD_eq_getElem?_getD (l := X.getD k zp), List.getElem?_eq_getElem (by omega)]
    rfl
  refine fst_hit _ (c k) 1 ?_ (by decide) (fun i hi => ?_)
  · rw [hget (c k) (by omega), he k (c k) hk (by omega), if_pos rfl]
  · rw [hget i (by omega), he k i hk (by omega), if_neg (by omega)]
theorem ivK_get (X : List (List UInt8)) (n : Nat) (c : Nat → Nat) (hc : ∀ k, k < n → c k < n) (hinj : ∀ k l, k < n → l < n → c k = c l → k = l) (hf : ∀ k, k < n → fst (lf (X.getD k zp)) = c k) :
    ∀ m, m ≤ n → ∀ k, k < m → (ivK X n m)[c k]? = some (rt (X.getD k zp))
  | 0, _, k, hk => by omega
  | m + 1, hm, k, hk => by
    rw [ivK, hf m (by omega), List.getElem?_set, ivK_len]
    by_cases e : c m = c k
    · have := hinj m k (by omega) (by omega) e
      subst this
      rw [if_pos rfl, if_pos (hc m (by omega))]
    · rw [if_neg e]
      have hkm : k < m := by
        rcases Nat.lt_or_ge k m with h | h
        · exact h
        · exfalso; apply e; rw [show k = m from by omega]
      exact ivK_get X n c hc hinj hf m (by omega) k hkm
/-- The numbers of the inverse. -/
theorem inv_both (A : List (List UInt8)) (hA : ∀ r ∈ A, r.length = 64) (hn : A.length ≤ 64) (hz : ∀ p ∈ redP A, zb A.length p) (hs : sng (redP A) = false) :
    (∀ r j, r < A.length → j < 64 → Sx A.length (fun l => mul (mat (ivK (redP A) A.length A.length) r l) (mat A l j)) = if j = r then 1 else 0) ∧
    (∀ i l, i < A.length → l < A.length → Sx A.length (fun r => mul (mat A i r) (mat (ivK (redP A) A.length A.length) r l)) = if l = i then 1 else 0) := by
  obtain ⟨⟨S, hS1, hS2⟩, hP⟩ := both_red A hA hn
  have hI := Inv.red A hA hn
  have hXl : (redP A).length = A.length := by rw [redP, redK_len, staP_len]
  have hXW : ∀ p ∈ redP A, p.length = 128 := redK_wide _ (staP_wide A hA) _
  obtain ⟨c, hc, hinj, he⟩ := red_unit (redP A) A.length hXl hXW hz hn hP hs
  have hf := fst_unit (redP A) A.length hXl hXW c hc hn he
  have hg := ivK_get (redP A) A.length c hc hinj hf A.length (Nat.le_refl _)
  have hV : ∀ k l, k < A.length → l < 64 → mat (ivK (redP A) A.length A.length) (c k) l = ent (redP A) k (64 + l) := by
    intro k l hk hl
    unfold mat ent
    rw [show (ivK (redP A) A.length A.length).getD (c k) zr = rt ((redP A).getD k zp) from by rw [List.getD, hg k hk]; rfl, rt, List.getD, List.getD, List.getElem?_drop]
    rfl
  constructor
  · intro r j hr hj
    obtain ⟨k, hk, rfl⟩ := onto A.length c hc hinj r hr
    rw [Sx_congr A.length _ (fun i => mul (ent (redP A) k (64 + i)) (mat A i j)) (fun l hl => by rw [hV k l hk (by omega)]), ← hI.lin k j hk hj, he k j hk hj]
  · intro i l hi hl
    rw [hS2 i l hi hl]
    have e1 : Sx A.length (fun r => mul (mat A i r) (mat (ivK (redP A) A.length A.length) r l)) = Sx A.length (fun r => Sx A.length (fun k => mul (mul (S i k) (if r = c k then 1 else 0)) (mat (ivK (redP A) A.length A.length) r l))) := by
      apply Sx_congr
      intro r hr
      rw [hS1 i r hi (by omega), ← Sx_mul]
      apply Sx_congr
      intro k hk
      rw [he k r hk (by omega)]
    rw [e1, Sx_swap]
    apply Sx_congr
    intro k hk
    rw [Sx_one A.length _ (c k) (hc k hk) (fun r hr hrk => by rw [if_neg hrk, mul_zero_right, zero_mul]), if_pos rfl, mul_one, hV k l hk (by omega)]
end Go.Proofs.Ytblmblbkfdcbjab
