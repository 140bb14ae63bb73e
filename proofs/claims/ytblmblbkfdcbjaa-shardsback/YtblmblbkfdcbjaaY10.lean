import Derived.Test.YtblmblbkfdcbjaaY9
import Derived.Test.YtblmblbkfdcbjaaY5
/- The inverse that package field tells undoes the matrix, on either side. -/
namespace Go.Proofs.Ytblmblbkfdcbjaa
open Go.RowKit
set_option linter.unusedSimpArgs false
set_option linter.unusedVariables false
theorem onto : ∀ (n : Nat) (c : Nat → Nat), (∀ k, k < n → c k < n) → (∀ k l, k < n → l < n → c k = c l → k = l) → ∀ j, j < n → ∃ k, k < n ∧ c k = j
  | 0, _, _, _, j, hj => by omega
  | n + 1, c, h1, h2, j, hj => by
    have hm := h1 n (by omega)
    have hne : ∀ k, k < n → c k = n → c n < n := by
      intro k hk e
      have : c n ≠ n := fun e2 => by have := h2 k n (by omega) (by omega) (by omega); omega
      omega
    have ih := onto n (fun k => if c k = n then c n else c k) (fun k hk => by
      show (if c k = n then c n else c k) < n
      by_cases e : c k = n
      · rw [if_pos e]; exact hne k hk e
      · rw [if_neg e]; have := h1 k (by omega); omega) (fun k l hk hl e => by
      have e' : (if c k = n then c n else c k) = (if c l = n then c n else c l) := e
      by_cases e1 : c k = n
      · by_cases e2 : c l = n
        · exact h2 k l (by omega) (by omega) (by omega)
        · rw [if_pos e1, if_neg e2] at e'
          have := h2 n l (by omega) (by omega) e'
          omega
      · by_cases e2 : c l = n
        · rw [if_neg e1, if_pos e2] at e'
          have := h2 k n (by omega) (by omega) e'
          omega
        · rw [if_neg e1, if_neg e2] at e'
          exact h2 k l (by omega) (by omega) e')
    by_cases hjm : j = c n
    · exact ⟨n, by omega, hjm.symm⟩
    · by_cases hjn : j = n
      · obtain ⟨k, hk, e⟩ := ih (c n) (by omega)
        have e' : (if c k = n then c n else c k) = c n := e
        by_cases e1 : c k = n
        · exact ⟨k, by omega, by omega⟩
        · rw [if_neg e1] at e'
          have := h2 k n (by omega) (by omega) e'
          omega
      · obtain ⟨k, hk, e⟩ := ih j (by omega)
        have e' : (if c k = n then c n else c k) = j := e
        by_cases e1 : c k = n
        · rw [if_pos e1] at e'; omega
        · rw [if_neg e1] at e'
          exact ⟨k, by omega, e'⟩
theorem zb_ent {n : Nat} {X : List (List UInt8)} (h : ∀ p ∈ X, zb n p) (k j : Nat) (hk : k < X.length) (h1 : n ≤ j) (h2 : j < 64) : ent X k j = 0 := by
  unfold ent
  have e : X.getD k zp = X[k] := by rw [List.getD, List.getElem?_eq_getElem hk]; rfl
  rw [e, List.getD, h _ (List.getElem_mem hk) j h1 h2]; rfl
/-- Where no reduced row is 0, they are the unit's rows, in some other order. -/
theorem red_unit (X : List (List UInt8)) (n : Nat) (hl : X.length = n) (hX : ∀ r ∈ X, r.length = 128) (hz : ∀ p ∈ X, zb n p) (hn : n ≤ 64) (hp : Piv n n X) (hs : sng X = false) :
    ∃ c : Nat → Nat, (∀ k, k < n → c k < n) ∧ (∀ k l, k < n → l < n → c k = c l → k = l) ∧ (∀ k j, k < n → j < 64 → ent X k j = if j = c k then 1 else 0) := by
  have hnz : ∀ k, k < n → ∃ c, c < n ∧ ent X k c = 1 ∧ ∀ k', k' < n → k' ≠ k → ent X k' c = 0 := by
    intro k hk
    rcases hp k hk with h0 | ⟨c, hc, h1, h2⟩
    · exfalso
      have hkl : k < X.length := by omega
      have hg : X.getD k zp = X[k] := by rw [List.getD, List.getElem?_eq_getElem hkl]; rfl
      have hlen := hX _ (List.getElem_mem hkl)
      have : lf X[k] = zr := by
        apply List.ext_getElem?
        intro j
        by_cases hj : j < 64
        · have := h0 j hj
          unfold ent at this
          rw [hg, List.getD, List.getElem?_eq_getElem (by omega)] at this
          rw [lf, List.getElem?_take, if_pos hj, List.getElem?_eq_getElem (by omega), zr, List.getElem?_replicate, if_pos hj]
          exact congrArg some this
        · rw [List.getElem?_eq_none (by rw [lf_len _ hlen]; omega), List.getElem?_eq_none (by rw [zr_len]; omega)]
      have hs2 : sng X = true := by
        unfold sng
        rw [List.any_eq_true]
        exact ⟨_, List.getElem_mem hkl, by simp [this]⟩
      rw [hs] at hs2
      cases hs2
    · refine ⟨c, ?_, h1, h2⟩
      apply Classical.byContradiction
      intro hcn
      rw [zb_ent hz k c (by omega) (by omega) hc] at h1
      exact absurd h1 (by decide)
  have hch : ∃ c : Nat → Nat, ∀ k, k < n → c k < n ∧ ent X k (c k) = 1 ∧ ∀ k', k' < n → k' ≠ k → ent X k' (c k) = 0 := by
    refine ⟨fun k => if h : k < n then Classical.choose (hnz k h) else 0, fun k hk => ?_⟩
    simp only [dif_pos hk]
    exact Classical.choose_spec (hnz k hk)
  obtain ⟨c, hc⟩ := hch
  have hinj : ∀ k l, k < n → l < n → c k = c l → k = l := by
    intro k l hk hl e
    apply Classical.byContradiction
    intro hkl
    have h1 := (hc l hl).2.2 k hk hkl
    rw [← e, (hc k hk).2.1] at h1
    exact absurd h1 (by decide)
  refine ⟨c, fun k hk => (hc k hk).1, hinj, fun k j hk hj => ?_⟩
  by_cases hjn : j < n
  · obtain ⟨k', hk', rfl⟩ := onto n c (fun k hk => (hc k hk).1) hinj j hjn
    by_cases e : k' = k
    · rw [e, if_pos rfl]; exact (hc k hk).2.1
    · rw [if_neg (fun e2 => e (hinj k' k hk' hk e2))]
      exact (hc k' hk').2.2 k hk (fun e2 => e e2.symm)
  · rw [zb_ent hz k j (by omega) (by omega) hj, if_neg (by have := (hc k hk).1; omega)]
theorem fst_unit (X : List (List UInt8)) (n : Nat) (hl : X.length = n) (hX : ∀ r ∈ X, r.length = 128) (c : Nat → Nat) (hc : ∀ k, k < n → c k < n) (hn : n ≤ 64) (he : ∀ k j, k < n → j < 64 → ent X k j = if j = c k then 1 else 0) (k : Nat) (hk : k < n) : fst (lf (X.getD k zp)) = c k := by
  have hlen := getD_wide2 X hX k
  have hck := hc k hk
  have hget : ∀ j, j < 64 → (lf (X.getD k zp))[j]? = some (ent X k j) := by
    intro j hj
    rw [lf, List.getElem?_take, if_pos hj]
    unfold ent
    rw [List.getD_eq_getElem?_getD (l := X.getD k zp), List.getElem?_eq_getElem (by omega)]
    rfl
  refine fst_hit _ (c k) 1 ?_ (by decide) (fun i hi => ?_)
  · rw [hget (c k) (by omega), he k (c k) hk (by omega), if_pos rfl]
  · rw [hget i (by omega), he k i hk (by omega), if_neg (by omega)]
theorem ivK_get (X : List (List UInt8)) (n : Nat) (c : Nat → Nat) (hc : ∀ k, k < n → c k < n) (hinj : ∀ k l, k < n → l < n → c k = c l → k = l) (hf : ∀ k, k < n → fst (lf (X.getD k zp)) = c k) :
    ∀ m, m ≤ n → ∀ k, k < m → (ivK X n m)[c k]? = some (rt (X.getD k zp))
  | 0, _, k, hk => by omega
  | m + 1, hm, k, hk => by
    rw [ivK, hf m (by omega), List.getElem?_set, ivK_len]
    by_cases e : c m = c k
    · have := hinj m k (by omega) (by omega) e
      subst this
      rw [if_pos rfl, if_pos (hc m (by omega))]
    · rw [if_neg e]
      have hkm : k < m := by
        rcases Nat.lt_or_ge k m with h | h
        · exact h
        · exfalso; apply e; rw [show k = m from by omega]
      exact ivK_get X n c hc hinj hf m (by omega) k hkm
/-- The numbers of the inverse. -/
theorem inv_both (A : List (List UInt8)) (hA : ∀ r ∈ A, r.length = 64) (hn : A.length ≤ 64) (hz : ∀ p ∈ redP A, zb A.length p) (hs : sng (redP A) = false) :
    (∀ r j, r < A.length → j < 64 → Sx A.length (fun l => mul (mat (ivK (redP A) A.length A.length) r l) (mat A l j)) = if j = r then 1 else 0) ∧
    (∀ i l, i < A.length → l < A.length → Sx A.length (fun r => mul (mat A i r) (mat (ivK (redP A) A.length A.length) r l)) = if l = i then 1 else 0) := by
  obtain ⟨⟨S, hS1, hS2⟩, hP⟩ := both_red A hA hn
  have hI := Inv.red A hA hn
  have hXl : (redP A).length = A.length := by rw [redP, redK_len, staP_len]
  have hXW : ∀ p ∈ redP A, p.length = 128 := redK_wide _ (staP_wide A hA) _
  obtain ⟨c, hc, hinj, he⟩ := red_unit (redP A) A.length hXl hXW hz hn hP hs
  have hf := fst_unit (redP A) A.length hXl hXW c hc hn he
  have hg := ivK_get (redP A) A.length c hc hinj hf A.length (Nat.le_refl _)
  have hV : ∀ k l, k < A.length → l < 64 → mat (ivK (redP A) A.length A.length) (c k) l = ent (redP A) k (64 + l) := by
    intro k l hk hl
    unfold mat ent
    rw [show (ivK (redP A) A.length A.length).getD (c k) zr = rt ((redP A).getD k zp) from by rw [List.getD, hg k hk]; rfl, rt, List.getD, List.getD, List.getElem?_drop]
    rfl
  constructor
  · intro r j hr hj
    obtain ⟨k, hk, rfl⟩ := onto A.length c hc hinj r hr
    rw [Sx_congr A.length _ (fun i => mul (ent (redP A) k (64 + i)) (mat A i j)) (fun l hl => by rw [hV k l hk (by omega)]), ← hI.lin k j hk hj, he k j hk hj]
  · intro i l hi hl
    rw [hS2 i l hi hl]
    have e1 : Sx A.length (fun r => mul (mat A i r) (mat (ivK (redP A) A.length A.length) r l)) = Sx A.length (fun r => Sx A.length (fun k => mul (mul (S i k) (if r = c k then 1 else 0)) (mat (ivK (redP A) A.length A.length) r l))) := by
      apply Sx_congr
      intro r hr
      rw [hS1 i r hi (by omega), ← Sx_mul]
      apply Sx_congr
      intro k hk
      rw [he k r hk (by omega)]
    rw [e1, Sx_swap]
    apply Sx_congr
    intro k hk
    rw [Sx_one A.length _ (c k) (hc k hk) (fun r hr hrk => by rw [if_neg hrk, mul_zero_right, zero_mul]), if_pos rfl, mul_one, hV k l hk (by omega)]
end Go.Proofs.Ytblmblbkfdcbjaa
/- Ranks: as many rows as are not made of others. -/
namespace Go.Proofs.Ytblmblbkfdcbjaa
open Go.RowKit
set_option linter.unusedSimpArgs false
set_option linter.unusedVariables false
/-- All numbers but i0, in order. -/
def skp (i0 i : Nat) : Nat := if i < i0 then i else i + 1
theorem Sx_skip (f : Nat → UInt8) (i0 : Nat) : ∀ k, i0 ≤ k → Sx (k + 1) f = Sx k (fun i => f (skp i0 i)) ^^^ f i0 := by
  intro k
  induction k with
  | zero =>
    intro h
    obtain rfl : i0 = 0 := by omega
    rfl
  | succ k ih =>
    intro h
    by_cases e : i0 = k + 1
    · subst e
      rw [Sx]
      congr 1
      apply Sx_congr
      intro i hi
      rw [skp, if_pos hi]
    · rw [Sx, ih (by omega), Sx, skp, if_neg (by omega), UInt8.xor_assoc, UInt8.xor_assoc, UInt8.xor_comm (f i0)]
theorem hom : ∀ (m k : Nat) (C : Nat → Nat → UInt8), m < k → ∃ c : Nat → UInt8, (∃ i, i < k ∧ c i ≠ 0) ∧ ∀ j, j < m → Sx k (fun i => mul (c i) (C i j)) = 0
  | 0, k, C, h => ⟨fun _ => 1, ⟨0, by omega, by decide⟩, fun j hj => by omega⟩
  | m + 1, k, C, h => by
    by_cases hz : ∀ i, i < k → C i m = 0
    · obtain ⟨c, h1, h2⟩ := hom m k C (by omega)
      refine ⟨c, h1, fun j hj => ?_⟩
      by_cases e : j = m
      · subst e
        exact Sx_nil _ _ (fun i hi => by rw [hz i hi, mul_zero_right])
      · exact h2 j (by omega)
    · obtain ⟨i0, hi0, hne⟩ : ∃ i0, i0 < k ∧ C i0 m ≠ 0 := by
        apply Classical.byContradiction
        intro hno
        apply hz
        intro i hi
        apply Classical.byContradiction
        intro h1
        exact hno ⟨i, hi, h1⟩
      obtain ⟨k', rfl⟩ : ∃ k', k = k' + 1 := ⟨k - 1, by omega⟩
      obtain ⟨c', ⟨i1, hi1, hc1⟩, h2⟩ := hom m k' (fun i j => C (skp i0 i) j ^^^ mul (mul (C (skp i0 i) m) (inv (C i0 m))) (C i0 j)) (by omega)
      obtain ⟨T, hT⟩ : ∃ T, mul (Sx k' (fun i => mul (c' i) (C (skp i0 i) m))) (inv (C i0 m)) = T := ⟨_, rfl⟩
      have hsk : ∀ i, (if skp i0 i = i0 then T else c' (if skp i0 i < i0 then skp i0 i else skp i0 i - 1)) = c' i := by
        intro i
        unfold skp
        by_cases e : i < i0
        · rw [if_pos e, if_neg (by omega), if_pos e]
        · rw [if_neg e, if_neg (by omega), if_neg (by omega), Nat.add_sub_cancel]
      refine ⟨fun i => if i = i0 then T else c' (if i < i0 then i else i - 1), ⟨skp i0 i1, by unfold skp; split <;> omega, by show (if skp i0 i1 = i0 then T else c' (if skp i0 i1 < i0 then skp i0 i1 else skp i0 i1 - 1)) ≠ 0; rw [hsk]; exact hc1⟩, fun j hj => ?_⟩
      rw [Sx_skip _ i0 k' (by omega)]
      show Sx k' (fun i => mul (if skp i0 i = i0 then T else c' (if skp i0 i < i0 then skp i0 i else skp i0 i - 1)) (C (skp i0 i) j)) ^^^ mul (if i0 = i0 then T else _) (C i0 j) = 0
      rw [if_pos rfl, Sx_congr k' _ (fun i => mul (c' i) (C (skp i0 i) j)) (fun i hi => by rw [hsk])]
      by_cases e : j = m
      · subst e
        rw [← hT, mul_assoc, mul_inv _ hne, mul_one, UInt8.xor_self]
      · have h3 := h2 j (by omega)
        have h4 : Sx k' (fun i => mul (c' i) (C (skp i0 i) j ^^^ mul (mul (C (skp i0 i) m) (inv (C i0 m))) (C i0 j))) = Sx k' (fun i => mul (c' i) (C (skp i0 i) j)) ^^^ mul T (C i0 j) := by
          rw [← hT, ← Sx_mul, ← Sx_mul, ← Sx_add]
          apply Sx_congr
          intro i hi
          rw [mul_xor_right, ← mul_assoc (c' i), ← mul_assoc (c' i)]
        rw [← h4]; exact h3
/-- The numbers of the rows that are not 0. -/
def nzI (X : List (List UInt8)) (n : Nat) : List Nat := (List.range n).filter fun k => lf (X.getD k zp) != zr
theorem nzI_next (X : List (List UInt8)) (n : Nat) : nzI X (n + 1) = nzI X n ++ (if lf (X.getD n zp) = zr then [] else [n]) := by
  unfold nzI
  rw [List.range_succ, List.filter_append]
  congr 1
  by_cases h : lf (X.getD n zp) = zr
  · rw [if_pos h]; simp only [List.filter_cons, h, bne_self_eq_false, Bool.false_eq_true, if_false, List.filter_nil]
  · rw [if_neg h]
    have : (lf (X.getD n zp) != zr) = true := by rw [bne_iff_ne]; exact h
    simp only [List.filter_cons, this, if_true, List.filter_nil]
theorem nzI_len (X : List (List UInt8)) : ∀ n, n ≤ X.length → (nzI X n).length = rkK X n
  | 0, _ => rfl
  | n + 1, h => by
    obtain ⟨p, hp⟩ : ∃ p, X[n]? = some p := ⟨_, List.getElem?_eq_getElem (by omega)⟩
    have e : X.getD n zp = p := by rw [List.getD, hp]; rfl
    rw [nzI_next, List.length_append, nzI_len X n (by omega), rkK_next X n p hp, e]
    split <;> rfl
theorem nzI_mem (X : List (List UInt8)) (n t : Nat) (h : t < (nzI X n).length) : (nzI X n).getD t 0 < n ∧ lf (X.getD ((nzI X n).getD t 0) zp) ≠ zr := by
  have hm : (nzI X n).getD t 0 ∈ nzI X n := by
    rw [List.getD, List.getElem?_eq_getElem h]
    exact List.getElem_mem h
  generalize (nzI X n).getD t 0 = k at *
  unfold nzI at hm
  rw [List.mem_filter, List.mem_range, bne_iff_ne] at hm
  exact hm
theorem nzI_inj (X : List (List UInt8)) (n t s : Nat) (ht : t < (nzI X n).length) (hs : s < (nzI X n).length) (h : t ≠ s) : (nzI X n).getD t 0 ≠ (nzI X n).getD s 0 := by
  have hnd : (nzI X n).Pairwise (· ≠ ·) := List.Nodup.sublist List.filter_sublist List.nodup_range
  rw [List.getD, List.getD, List.getElem?_eq_getElem ht, List.getElem?_eq_getElem hs]
  rcases Nat.lt_or_ge t s with h1 | h1
  · exact List.pairwise_iff_getElem.1 hnd t s ht hs h1
  · exact fun e => List.pairwise_iff_getElem.1 hnd s t hs ht (by omega) e.symm
theorem getD_left (l m : List Nat) (t : Nat) (h : t < l.length) : (l ++ m).getD t 0 = l.getD t 0 := by
  rw [List.getD, List.getD, List.getElem?_append_left h]
theorem Sx_nz (X : List (List UInt8)) (f : Nat → UInt8) : ∀ n, (∀ k, k < n → lf (X.getD k zp) = zr → f k = 0) → Sx n f = Sx (nzI X n).length (fun t => f ((nzI X n).getD t 0))
  | 0, _ => rfl
  | n + 1, h => by
    have ih := Sx_nz X f n (fun k hk => h k (by omega))
    rw [nzI_next]
    by_cases e : lf (X.getD n zp) = zr
    · rw [if_pos e, List.append_nil, Sx, h n (by omega) e, UInt8.xor_zero, ih]
    · rw [if_neg e, List.length_append, List.length_singleton, Sx, Sx, ih]
      congr 1
      · apply Sx_congr
        intro t ht
        rw [getD_left _ _ _ ht]
      · rw [List.getD, List.getElem?_append_right (Nat.le_refl _), Nat.sub_self]; rfl
/-- A matrix's rank, as package field counts it. -/
def rk (A : List (List UInt8)) : Nat := rkK (redP A) A.length
theorem rk_span (A : List (List UInt8)) (hA : ∀ r ∈ A, r.length = 64) (hn : A.length ≤ 64) : ∃ (C g : Nat → Nat → UInt8), ∀ i j, i < A.length → j < 64 → mat A i j = Sx (rk A) (fun s => mul (C i s) (g s j)) := by
  obtain ⟨⟨S, hS1, _⟩, _⟩ := both_red A hA hn
  have hXl : (redP A).length = A.length := by rw [redP, redK_len, staP_len]
  have hXW : ∀ p ∈ redP A, p.length = 128 := redK_wide _ (staP_wide A hA) _
  refine ⟨fun i s => S i ((nzI (redP A) A.length).getD s 0), fun s j => ent (redP A) ((nzI (redP A) A.length).getD s 0) j, fun i j hi hj => ?_⟩
  rw [hS1 i j hi hj, Sx_nz (redP A) _ A.length (fun k hk hz => by
    rw [show ent (redP A) k j = 0 from lf_zero (getD_wide2 _ hXW k) hz j hj, mul_zero_right]), nzI_len _ _ (by omega)]
  rfl
theorem rk_le (A : List (List UInt8)) (hA : ∀ r ∈ A, r.length = 64) (hn : A.length ≤ 64) (u : Nat) (C g : Nat → Nat → UInt8) (h : ∀ i j, i < A.length → j < 64 → mat A i j = Sx u (fun s => mul (C i s) (g s j))) : rk A ≤ u := by
  apply Classical.byContradiction
  intro hlt
  have hI := Inv.red A hA hn
  have hP := (both_red A hA hn).2
  have hXl : (redP A).length = A.length := by rw [redP, redK_len, staP_len]
  have hXW : ∀ p ∈ redP A, p.length = 128 := redK_wide _ (staP_wide A hA) _
  have hlen : (nzI (redP A) A.length).length = rk A := nzI_len _ _ (by omega)
  obtain ⟨c, ⟨t0, ht0, hc0⟩, hk⟩ := hom u (rk A) (fun t s => Sx A.length (fun i => mul (ent (redP A) ((nzI (redP A) A.length).getD t 0) (64 + i)) (C i s))) (by omega)
  have hrow : ∀ t j, t < rk A → j < 64 → ent (redP A) ((nzI (redP A) A.length).getD t 0) j = Sx u (fun s => mul (Sx A.length (fun i => mul (ent (redP A) ((nzI (redP A) A.length).getD t 0) (64 + i)) (C i s))) (g s j)) := by
    intro t j ht hj
    have hm := (nzI_mem (redP A) A.length t (by omega)).1
    rw [hI.lin _ j hm hj, Sx_congr A.length _ (fun i => Sx u (fun s => mul (mul (ent (redP A) ((nzI (redP A) A.length).getD t 0) (64 + i)) (C i s)) (g s j))) (fun i hi => by
      rw [h i j hi hj, mul_comm, ← Sx_mul]
      apply Sx_congr
      intro s hs
      rw [mul_comm (mul (C i s) (g s j)), mul_assoc]), Sx_swap]
    apply Sx_congr
    intro s hs
    rw [← Sx_mul]
  have hzero : ∀ j, j < 64 → Sx (rk A) (fun t => mul (c t) (ent (redP A) ((nzI (redP A) A.length).getD t 0) j)) = 0 := by
    intro j hj
    rw [Sx_congr (rk A) _ (fun t => Sx u (fun s => mul (mul (c t) (Sx A.length (fun i => mul (ent (redP A) ((nzI (redP A) A.length).getD t 0) (64 + i)) (C i s)))) (g s j))) (fun t ht => by
      rw [hrow t j ht hj, mul_comm, ← Sx_mul]
      apply Sx_congr
      intro s hs
      rw [mul_comm (mul _ (g s j)), mul_assoc]), Sx_swap]
    apply Sx_nil
    intro s hs
    rw [Sx_mul, hk s hs, zero_mul]
  obtain ⟨hm, hnz⟩ := nzI_mem (redP A) A.length t0 (by omega)
  rcases hP _ hm with h0 | ⟨d, hd, h1, h2⟩
  · apply hnz
    have hl := getD_wide2 (redP A) hXW ((nzI (redP A) A.length).getD t0 0)
    apply List.ext_getElem?
    intro j
    by_cases hj : j < 64
    · have := h0 j hj
      unfold ent at this
      rw [List.getD_eq_getElem?_getD (l := (redP A).getD _ zp), List.getElem?_eq_getElem (by omega)] at this
      rw [lf, List.getElem?_take, if_pos hj, List.getElem?_eq_getElem (by omega), zr, List.getElem?_replicate, if_pos hj]
      exact congrArg some this
    · rw [List.getElem?_eq_none (by rw [lf_len _ hl]; omega), List.getElem?_eq_none (by rw [zr_len]; omega)]
  · have := hzero d hd
    rw [Sx_one (rk A) _ t0 ht0 (fun t ht htt => by
      rw [h2 _ (nzI_mem (redP A) A.length t (by omega)).1 (nzI_inj (redP A) A.length t t0 (by omega) (by omega) htt), mul_zero_right]), h1, mul_one] at this
    exact hc0 this
end Go.Proofs.Ytblmblbkfdcbjaa
/- Products of matrices, their numbers; what follows for three of them, for inverses and for ranks. -/
namespace Go.Proofs.Ytblmblbkfdcbjaa
open Go.RowKit
set_option linter.unusedSimpArgs false
set_option linter.unusedVariables false
theorem zr_getD (j : Nat) : zr.getD j 0 = 0 := by
  simp only [List.getD, zr, List.getElem?_replicate]
  split <;> rfl
theorem prodK_getD (r : List UInt8) (B : List (List UInt8)) (hB : ∀ r ∈ B, r.length = 64) (j : Nat) (hj : j < 64) : ∀ k, (prodK r B k).getD j 0 = Sx k (fun l => mul (r.getD l 0) ((B.getD l zr).getD j 0))
  | 0 => zr_getD j
  | k + 1 => by
    rw [prodK, addR_getD _ _ _ _ (by rw [prodK_len r B hB]; exact hj) (by rw [getD_wide B hB]; exact hj), prodK_getD r B hB j hj k, Sx, mul_comm]
theorem mat_prod (A B : List (List UInt8)) (hB : ∀ r ∈ B, r.length = 64) (i j : Nat) (hi : i < A.length) (hj : j < 64) : mat (prodL A B) i j = Sx B.length (fun l => mul (mat A i l) (mat B l j)) := by
  unfold mat
  obtain ⟨r, hr⟩ : ∃ r, A[i]? = some r := ⟨_, List.getElem?_eq_getElem hi⟩
  rw [show (prodL A B).getD i zr = prodR B r from by rw [List.getD, prodL, List.getElem?_map, hr]; rfl, show A.getD i zr = r from by rw [List.getD, hr]; rfl]
  exact prodK_getD r B hB j hj _
theorem prodL_wide (A B : List (List UInt8)) (hB : ∀ r ∈ B, r.length = 64) : ∀ r ∈ prodL A B, r.length = 64 := by
  intro r hr
  obtain ⟨x, _, rfl⟩ := List.mem_map.1 hr
  exact prodK_len x B hB _
theorem prodL_len (A B : List (List UInt8)) : (prodL A B).length = A.length := by simp [prodL]
theorem mat_ext (A B : List (List UInt8)) (hA : ∀ r ∈ A, r.length = 64) (hB : ∀ r ∈ B, r.length = 64) (hl : A.length = B.length) (h : ∀ i j, i < A.length → j < 64 → mat A i j = mat B i j) : A = B := by
  apply List.ext_getElem hl
  intro i h1 h2
  have ha := hA _ (List.getElem_mem h1)
  have hb := hB _ (List.getElem_mem h2)
  apply List.ext_getElem (by omega)
  intro j h3 h4
  have := h i j h1 (by omega)
  unfold mat at this
  rw [show A.getD i zr = A[i] from by rw [List.getD, List.getElem?_eq_getElem h1]; rfl, show B.getD i zr = B[i] from by rw [List.getD, List.getElem?_eq_getElem h2]; rfl, List.getD, List.getD, List.getElem?_eq_getElem h3, List.getElem?_eq_getElem h4] at this
  exact this
theorem prod_three (A B C : List (List UInt8)) (hB : ∀ r ∈ B, r.length = 64) (hC : ∀ r ∈ C, r.length = 64) (hb : B.length ≤ 64) (hc : C.length ≤ 64) : prodL (prodL A B) C = prodL A (prodL B C) := by
  apply mat_ext _ _ (prodL_wide _ _ hC) (prodL_wide _ _ (prodL_wide _ _ hC)) (by rw [prodL_len, prodL_len, prodL_len])
  intro i j hi hj
  rw [prodL_len, prodL_len] at hi
  rw [mat_prod _ C hC i j (by rw [prodL_len]; exact hi) hj, mat_prod A _ (prodL_wide _ _ hC) i j hi hj, prodL_len]
  rw [Sx_congr C.length _ (fun l => Sx B.length (fun k => mul (mul (mat A i k) (mat B k l)) (mat C l j))) (fun l hl => by rw [mat_prod A B hB i l hi (by omega), ← Sx_mul]), Sx_swap]
  apply Sx_congr
  intro k hk
  rw [mat_prod B C hC k j hk hj, mul_comm (mat A i k), ← Sx_mul]
  apply Sx_congr
  intro l hl
  rw [mul_comm (mul (mat B k l) (mat C l j)), mul_assoc]
/-- 0 from column n on, for rows of 64. -/
def zc (n : Nat) (r : List UInt8) : Prop := ∀ j, n ≤ j → j < 64 → r.getD j 0 = 0
theorem rowOf_zc (x : ByteArray) (n : Nat) (h : x.size ≤ n) (hn : n ≤ 64) : zc n (rowOf x) := by
  intro j h1 h2
  unfold rowOf
  rw [List.getD, putB_get _ _ _ (by rw [zr_len, dlen]; omega), if_neg (by rw [dlen]; omega), zr, List.getElem?_replicate, if_pos h2]; rfl
theorem rowOf_get (x : ByteArray) (h : x.size ≤ 64) (j : Nat) (hj : j < x.size) : (rowOf x)[j]? = x.data.toList[j]? := by
  unfold rowOf
  rw [putB_get _ _ _ (by rw [zr_len, dlen]; omega), if_pos ⟨by omega, by rw [dlen]; omega⟩, Nat.sub_zero]
theorem arr_txt (L : List (List UInt8)) (n : Nat) (hn : n ≤ 64) (hL : ∀ r ∈ L, r.length = 64) (hz : ∀ r ∈ L, zc n r) : arrL (txtL n L) = L := by
  unfold arrL txtL
  rw [List.map_map]
  conv => rhs; rw [← List.map_id L]
  apply List.map_congr_left
  intro r hr
  have hl := hL r hr
  show rowOf (mkT (r.take n)) = r
  have hsz : (mkT (r.take n)).size = n := by rw [mkT_size, List.length_take, hl]; omega
  apply List.ext_getElem (by rw [rowOf_len _ (by omega), hl])
  intro j h1 h2
  have e : (rowOf (mkT (r.take n)))[j]? = r[j]? := by
    by_cases hj : j < n
    · rw [rowOf_get _ (by omega) j (by omega), mkT_data, List.getElem?_take, if_pos hj]
    · have a := rowOf_zc (mkT (r.take n)) n (by omega) hn j (by omega) (by omega)
      have b := hz r hr j (by omega) (by omega)
      rw [List.getD, List.getElem?_eq_getElem h1] at a
      rw [List.getD, List.getElem?_eq_getElem h2] at b
      rw [List.getElem?_eq_getElem h1, List.getElem?_eq_getElem h2]
      exact congrArg some (a.trans b.symm)
  rw [List.getElem?_eq_getElem h1, List.getElem?_eq_getElem h2] at e
  exact Option.some.inj e
theorem prod_zc (A B : List (List UInt8)) (n : Nat) (hB : ∀ r ∈ B, r.length = 64) (hz : ∀ r ∈ B, zc n r) : ∀ r ∈ prodL A B, zc n r := by
  intro r hr j h1 h2
  obtain ⟨x, _, rfl⟩ := List.mem_map.1 hr
  show (prodK x B B.length).getD j 0 = 0
  rw [prodK_getD x B hB j h2]
  apply Sx_nil
  intro l hl
  have : (B.getD l zr).getD j 0 = 0 := by
    rw [show B.getD l zr = B[l] from by rw [List.getD, List.getElem?_eq_getElem hl]; rfl]
    exact hz _ (List.getElem_mem hl) j h1 h2
  rw [this, mul_zero_right]
/-- Square matrices of n rows, as texts. -/
def SqM (n : Nat) (xs : List ByteArray) : Prop := xs.length = n ∧ ∀ x ∈ xs, x.size = n
theorem SqM.isM {n : Nat} {xs : List ByteArray} (h : SqM n xs) (h1 : 1 ≤ n) (h2 : n ≤ 64) : isM xs = true ∧ wid xs = n := by
  have hw : wid xs = n := by
    unfold wid
    rw [List.getElem?_eq_getElem (by rw [h.1]; omega)]
    exact h.2 _ (List.getElem_mem _)
  refine ⟨isM_yes xs (by rw [h.1]; exact ⟨h1, h2⟩) (by rw [hw]; exact ⟨h1, h2⟩) (fun k x hk => ?_), hw⟩
  rw [hw]
  exact h.2 x (List.mem_of_getElem? hk)
theorem SqM.wide {n : Nat} {xs : List ByteArray} (h : SqM n xs) (h2 : n ≤ 64) : ∀ r ∈ arrL xs, r.length = 64 := arrL_wide xs (fun x hx => by rw [h.2 x hx]; exact h2)
theorem SqM.zc {n : Nat} {xs : List ByteArray} (h : SqM n xs) (h2 : n ≤ 64) : ∀ r ∈ arrL xs, zc n r := by
  intro r hr
  obtain ⟨x, hx, rfl⟩ := List.mem_map.1 hr
  exact rowOf_zc x n (by rw [h.2 x hx]; exact Nat.le_refl _) h2
theorem SqM.len {n : Nat} {xs : List ByteArray} (h : SqM n xs) : (arrL xs).length = n := by rw [arrL, List.length_map, h.1]
theorem sq_txt (L : List (List UInt8)) (n : Nat) (hl : L.length = n) (hL : ∀ r ∈ L, r.length = 64) (hn : n ≤ 64) : SqM n (txtL n L) := by
  refine ⟨by simp [txtL, hl], fun x hx => ?_⟩
  obtain ⟨r, hr, rfl⟩ := List.mem_map.1 hx
  rw [mkT_size, List.length_take, hL r hr]; omega
theorem unL_mat (n i j : Nat) (hi : i < n) (hn : n ≤ 64) (hj : j < 64) : mat (unL n) i j = if j = i then 1 else 0 := by
  unfold mat
  rw [show (unL n).getD i zr = ur i from by rw [List.getD, unL_at n i hi]; rfl]
  exact ur_getD i j (by omega) hj
theorem rk_full (A : List (List UInt8)) : (rk A = A.length) ↔ sng (redP A) = false := by
  have hXl : (redP A).length = A.length := by rw [redP, redK_len, staP_len]
  unfold rk rkK sng
  rw [List.take_of_length_le (by omega)]
  rw [← hXl, List.length_filter_eq_length_iff]
  rw [Bool.eq_false_iff, ne_eq, List.any_eq_true]
  constructor
  · rintro h ⟨p, hp, hz⟩
    have := h p hp
    simp only [bne_iff_ne, ne_eq] at this
    exact this (by simpa using hz)
  · intro h p hp
    rw [bne_iff_ne]
    intro e
    exact h ⟨p, hp, by simp [e]⟩
theorem rk_prod (A B : List (List UInt8)) (hA : ∀ r ∈ A, r.length = 64) (hB : ∀ r ∈ B, r.length = 64) (ha : A.length ≤ 64) (hb : B.length ≤ 64) : rk (prodL A B) ≤ rk A ∧ rk (prodL A B) ≤ rk B := by
  constructor
  · obtain ⟨C, g, h⟩ := rk_span A hA ha
    refine rk_le _ (prodL_wide _ _ hB) (by rw [prodL_len]; exact ha) (rk A) C (fun s j => Sx B.length (fun l => mul (g s l) (mat B l j))) (fun i j hi hj => ?_)
    rw [prodL_len] at hi
    rw [mat_prod A B hB i j hi hj, Sx_congr B.length _ (fun l => Sx (rk A) (fun s => mul (C i s) (mul (g s l) (mat B l j)))) (fun l hl => by
      rw [h i l hi (by omega), ← Sx_mul]
      apply Sx_congr
      intro s hs
      rw [mul_assoc]), Sx_swap]
    apply Sx_congr
    intro s hs
    rw [mul_comm (C i s), ← Sx_mul]
    apply Sx_congr
    intro l hl
    rw [mul_comm]
  · obtain ⟨C, g, h⟩ := rk_span B hB hb
    refine rk_le _ (prodL_wide _ _ hB) (by rw [prodL_len]; exact ha) (rk B) (fun i s => Sx B.length (fun l => mul (mat A i l) (C l s))) g (fun i j hi hj => ?_)
    rw [prodL_len] at hi
    rw [mat_prod A B hB i j hi hj, Sx_congr B.length _ (fun l => Sx (rk B) (fun s => mul (mul (mat A i l) (C l s)) (g s j))) (fun l hl => by
      rw [h l j hl hj, mul_comm, ← Sx_mul]
      apply Sx_congr
      intro s hs
      rw [mul_comm (mul (C l s) (g s j)), mul_assoc]), Sx_swap]
    apply Sx_congr
    intro s hs
    rw [Sx_mul]
theorem rk_rev_le (A B : List (List UInt8)) (hA : ∀ r ∈ A, r.length = 64) (hB : ∀ r ∈ B, r.length = 64) (ha : A.length ≤ 64) (hl : A.length = B.length) (h : ∀ i, i < A.length → ∃ k, k < B.length ∧ ∀ j, mat A i j = mat B k j) : rk A ≤ rk B := by
  obtain ⟨C, g, hs⟩ := rk_span B hB (by omega)
  refine rk_le A hA ha (rk B) (fun i s => if h' : i < A.length then C (Classical.choose (h i h')) s else 0) g (fun i j hi hj => ?_)
  have hc := Classical.choose_spec (h i hi)
  rw [hc.2 j, hs _ j hc.1 hj]
  apply Sx_congr
  intro s _
  simp only [dif_pos hi]
theorem rk_rev (A : List (List UInt8)) (hA : ∀ r ∈ A, r.length = 64) (ha : A.length ≤ 64) : rk A.reverse = rk A := by
  have hr : ∀ r ∈ A.reverse, r.length = 64 := fun r h => hA r (List.mem_reverse.1 h)
  have hm : ∀ i j, i < A.length → mat A.reverse i j = mat A (A.length - 1 - i) j := by
    intro i j hi
    have e : A.reverse.getD i zr = A.getD (A.length - 1 - i) zr := by rw [List.getD, List.getD, List.getElem?_reverse hi]
    unfold mat
    rw [e]
  apply Nat.le_antisymm
  · refine rk_rev_le _ _ hr hA (by simp; exact ha) (by simp) (fun i hi => ⟨A.length - 1 - i, by simp at hi; omega, fun j => hm i j (by simpa using hi)⟩)
  · refine rk_rev_le _ _ hA hr ha (by simp) (fun i hi => ⟨A.length - 1 - i, by simp; omega, fun j => ?_⟩)
    rw [hm (A.length - 1 - i) j (by omega), show A.length - 1 - (A.length - 1 - i) = i from by omega]
/-- The inverse undoes. -/
theorem undo (xs : List ByteArray) (n : Nat) (h : SqM n xs) (h1 : 1 ≤ n) (h2 : n ≤ 64) (hs : sng (redP (arrL xs)) = false) :
    SqM n (ivX xs) ∧ prodL (arrL (ivX xs)) (arrL xs) = unL n ∧ prodL (arrL xs) (arrL (ivX xs)) = unL n := by
  obtain ⟨hm, hw⟩ := h.isM h1 h2
  have hlen := h.len
  have hwide := h.wide h2
  have hzb := zb_red n xs (fun x hx => by rw [h.2 x hx]; exact Nat.le_refl _) h2
  have hboth := inv_both (arrL xs) hwide (by rw [hlen]; exact h2) (by rw [hlen]; exact hzb) hs
  rw [hlen] at hboth
  obtain ⟨hL, hR⟩ := hboth
  have hiv : ivX xs = txtL n (ivK (redP (arrL xs)) n n) := by
    unfold ivX
    rw [hm, hw, h.1, decide_eq_true rfl, hs]; rfl
  have hXW : ∀ p ∈ redP (arrL xs), p.length = 128 := redK_wide _ (staP_wide _ hwide) _
  have hVW := ivK_wide (redP (arrL xs)) hXW n n
  have hVl := ivK_len (redP (arrL xs)) n n
  generalize ivK (redP (arrL xs)) n n = V at *
  have hsq : SqM n (ivX xs) := by rw [hiv]; exact sq_txt V n hVl hVW h2
  have hpm : ∀ r l, r < n → l < n → mat (arrL (ivX xs)) r l = mat V r l := by
    intro r l hr hl
    unfold mat
    obtain ⟨v, hv⟩ : ∃ v, V[r]? = some v := ⟨_, List.getElem?_eq_getElem (by omega)⟩
    have hvl := hVW v (List.mem_of_getElem? hv)
    rw [show (arrL (ivX xs)).getD r zr = rowOf (mkT (v.take n)) from by rw [List.getD, arrL, List.getElem?_map, hiv, txtL, List.getElem?_map, hv]; rfl, show V.getD r zr = v from by rw [List.getD, hv]; rfl, List.getD, List.getD, rowOf_get _ (by rw [mkT_size, List.length_take]; omega) l (by rw [mkT_size, List.length_take]; omega), mkT_data, List.getElem?_take, if_pos hl]
  have hiw := hsq.wide h2
  have hil := hsq.len
  refine ⟨hsq, ?_, ?_⟩
  · apply mat_ext _ _ (prodL_wide _ _ hwide) (unL_wide n) (by rw [prodL_len, hil, unL_len])
    intro r j hr hj
    rw [prodL_len, hil] at hr
    rw [mat_prod _ _ hwide r j (by rw [hil]; exact hr) hj, hlen, unL_mat n r j hr h2 hj, ← hL r j hr hj]
    apply Sx_congr
    intro l hl
    rw [hpm r l hr hl]
  · apply mat_ext _ _ (prodL_wide _ _ hiw) (unL_wide n) (by rw [prodL_len, hlen, unL_len])
    intro i l hi hl
    rw [prodL_len, hlen] at hi
    rw [mat_prod _ _ hiw i l (by rw [hlen]; exact hi) hl, hil, unL_mat n i l hi h2 hl]
    by_cases hln : l < n
    · rw [← hR i l hi hln]
      apply Sx_congr
      intro r hr
      rw [hpm r l hr hln]
    · rw [if_neg (by omega)]
      apply Sx_nil
      intro r hr
      have : mat (arrL (ivX xs)) r l = 0 := by
        unfold mat
        rw [show (arrL (ivX xs)).getD r zr = (arrL (ivX xs))[r]'(by rw [hil]; exact hr) from by rw [List.getD, List.getElem?_eq_getElem (by rw [hil]; exact hr)]; rfl]
        exact hsq.zc h2 _ (List.getElem_mem _) l (by omega) hl
      rw [this, mul_zero_right]
end Go.Proofs.Ytblmblbkfdcbjaa
/- What Product answers. -/
namespace Go.Proofs.Ytblmblbkfdcbjaa
open Go.RowKit
/-- What Product answers. -/
def pdX (xs ys : List ByteArray) : List ByteArray := if isM xs = true ∧ isM ys = true ∧ wid xs = ys.length then txtL (wid ys) (prodL (arrL xs) (arrL ys)) else []
end Go.Proofs.Ytblmblbkfdcbjaa
