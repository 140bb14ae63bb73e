/- Patterns, told from the right: a row of truths after the other. No program is named here. -/
import Derived.Test.YtobecfeelamlmaaDoorP13
namespace Go.Proofs.YtobecfeelamlmaaDoor
open Go.Lib
set_option linter.unusedSimpArgs false
set_option linter.unusedVariables false
theorem likeR_star_nil : ∀ p : List Nat, like (p ++ [42]) [] = like p []
  | [] => by rw [List.nil_append, like_star_nil]
  | c :: p => by
    by_cases hc : c = 42
    · subst hc; rw [List.cons_append, like_star_nil, like_star_nil, likeR_star_nil p]
    · rw [List.cons_append, like_one_nil c _ hc, like_one_nil c _ hc]
theorem likeR_one_nil (d : Nat) (hd : d ≠ 42) : ∀ p : List Nat, like (p ++ [d]) [] = false
  | [] => by rw [List.nil_append, like_one_nil d _ hd]
  | c :: p => by
    by_cases hc : c = 42
    · subst hc; rw [List.cons_append, like_star_nil, likeR_one_nil d hd p]
    · rw [List.cons_append, like_one_nil c _ hc]
theorem like_all : ∀ n : List Nat, like [42] n = true
  | [] => by rw [like_star_nil, like_nil]; rfl
  | x :: t => by rw [like_star, like_all t]; simp
theorem likeR_one (d x : Nat) (hd : d ≠ 42) : ∀ (k : Nat) (p t : List Nat), p.length + t.length ≤ k → like (p ++ [d]) (t ++ [x]) = (like p t && (d == 63 || d == x))
  | k, [], [], _ => by
    rw [List.nil_append, List.nil_append, like_one d _ _ _ hd, like_nil]
    simp
  | k, [], y :: t, _ => by
    rw [List.nil_append, List.cons_append, like_one d _ _ _ hd, like_nil, like_nil]
    simp
  | 0, c :: p, t, h => by simp at h
  | k + 1, c :: p, [], h => by
    have hk : p.length + ([] : List Nat).length ≤ k := by simp only [List.length_cons] at h; omega
    by_cases hc : c = 42
    · subst hc
      rw [List.cons_append, List.nil_append, like_star, like_star_nil, likeR_one_nil d hd p, Bool.or_false, like_star_nil]
      exact likeR_one d x hd k p [] hk
    · rw [List.cons_append, List.nil_append, like_one c _ _ _ hc, likeR_one_nil d hd p, like_one_nil c _ hc, Bool.and_false, Bool.false_and]
  | k + 1, c :: p, y :: t, h => by
    have h1 : p.length + (y :: t).length ≤ k := by simp only [List.length_cons] at h ⊢; omega
    have h2 : (c :: p).length + t.length ≤ k := by simp only [List.length_cons] at h ⊢; omega
    have h3 : p.length + t.length ≤ k := by simp only [List.length_cons] at h; omega
    by_cases hc : c = 42
    · subst hc
      have i1 := likeR_one d x hd k p (y :: t) h1
      have i2 := likeR_one d x hd k (42 :: p) t h2
      rw [List.cons_append] at i1 i2
      rw [List.cons_append, List.cons_append, like_star, i1, i2, like_star]
      cases like p (y :: t) <;> cases like (42 :: p) t <;> cases (d == 63 || d == x) <;> rfl
    · rw [List.cons_append, List.cons_append, like_one c _ _ _ hc, likeR_one d x hd k p t h3, like_one c _ _ _ hc, Bool.and_assoc]
theorem likeR_star (x : Nat) : ∀ (k : Nat) (p t : List Nat), p.length + t.length ≤ k → like (p ++ [42]) (t ++ [x]) = (like p (t ++ [x]) || like (p ++ [42]) t)
  | k, [], t, _ => by
    rw [List.nil_append, like_all, like_all]; simp
  | 0, c :: p, t, h => by simp at h
  | k + 1, c :: p, [], h => by
    have hk : p.length + ([] : List Nat).length ≤ k := by simp only [List.length_cons] at h; omega
    have ih := likeR_star x k p [] hk
    rw [List.nil_append] at ih
    by_cases hc : c = 42
    · subst hc
      rw [List.cons_append, List.nil_append, like_star, ih, like_star_nil, like_star, like_star_nil, likeR_star_nil p]
    · rw [List.cons_append, List.nil_append, like_one c _ _ _ hc, like_one c _ _ _ hc, like_one_nil c _ hc, likeR_star_nil p, Bool.or_false]
  | k + 1, c :: p, y :: t, h => by
    have h1 : p.length + (y :: t).length ≤ k := by simp only [List.length_cons] at h ⊢; omega
    have h2 : (c :: p).length + t.length ≤ k := by simp only [List.length_cons] at h ⊢; omega
    have h3 : p.length + t.length ≤ k := by simp only [List.length_cons] at h; omega
    by_cases hc : c = 42
    · subst hc
      have i1 := likeR_star x k p (y :: t) h1
      have i2 := likeR_star x k (42 :: p) t h2
      rw [List.cons_append] at i1 i2
      rw [List.cons_append, List.cons_append, like_star, i1, i2, like_star, like_star]
      cases like p (y :: (t ++ [x])) <;> cases like (p ++ [42]) (y :: t) <;> cases like (42 :: p) (t ++ [x]) <;> cases like (42 :: (p ++ [42])) t <;> rfl
    · rw [List.cons_append, List.cons_append, like_one c _ _ _ hc, likeR_star x k p t h3, like_one c _ _ _ hc, like_one c _ _ _ hc]
      cases (c == 63 || c == y) <;> simp
/-- What stands in the row i at k. -/
def lk (p n : List Nat) (i k : Nat) : Bool := like (p.take i) (n.take k)
theorem lk_start (p n : List Nat) (k : Nat) (h : k ≤ n.length) : lk p n 0 k = decide (k = 0) := by
  unfold lk
  rw [List.take_zero, like_nil]
  cases k with
  | zero => simp
  | succ k =>
    cases n with
    | nil => simp at h
    | cons x n => simp
theorem take_next (l : List Nat) (i c : Nat) (h : l[i]? = some c) : l.take (i + 1) = l.take i ++ [c] := by
  obtain ⟨hi, e⟩ := List.getElem?_eq_some_iff.1 h
  rw [List.take_succ_eq_append_getElem hi, e]
theorem lk_star0 (p n : List Nat) (i : Nat) (hp : p[i]? = some 42) : lk p n (i + 1) 0 = lk p n i 0 := by
  unfold lk
  rw [take_next p i 42 hp, List.take_zero, likeR_star_nil]
theorem lk_star (p n : List Nat) (i k x : Nat) (hp : p[i]? = some 42) (hx : n[k]? = some x) : lk p n (i + 1) (k + 1) = (lk p n i (k + 1) || lk p n (i + 1) k) := by
  unfold lk
  rw [take_next p i 42 hp, take_next n k x hx, likeR_star x _ _ _ (Nat.le_refl _)]
theorem lk_one0 (p n : List Nat) (i c : Nat) (hc : c ≠ 42) (hp : p[i]? = some c) : lk p n (i + 1) 0 = false := by
  unfold lk
  rw [take_next p i c hp, List.take_zero, likeR_one_nil c hc]
theorem lk_one (p n : List Nat) (i k c x : Nat) (hc : c ≠ 42) (hp : p[i]? = some c) (hx : n[k]? = some x) : lk p n (i + 1) (k + 1) = (lk p n i k && (c == 63 || c == x)) := by
  unfold lk
  rw [take_next p i c hp, take_next n k x hx, likeR_one c x hc _ _ _ (Nat.le_refl _)]
theorem lk_end (p n : List Nat) : lk p n p.length n.length = like p n := by
  unfold lk
  rw [List.take_length, List.take_length]
/-- The first k truths of the next row. -/
def rwB (p n : List Nat) (i k : Nat) : List Bool := (List.range k).map (fun j => lk p n i j) ++ List.replicate (n.length + 1 - k) false
theorem rwB_len (p n : List Nat) (i k : Nat) (h : k ≤ n.length + 1) : (rwB p n i k).length = n.length + 1 := by simp [rwB]; omega
theorem rwB_get (p n : List Nat) (i k j : Nat) (h : j < k) : (rwB p n i k)[j]? = some (lk p n i j) := by
  unfold rwB
  rw [List.getElem?_append_left (by simp; omega), List.getElem?_map, List.getElem?_range h]; rfl
theorem rwB_next (p n : List Nat) (i k : Nat) (h : k < n.length + 1) : (rwB p n i k).set k (lk p n i k) = rwB p n i (k + 1) := by
  unfold rwB
  rw [List.set_append_right _ _ (by simp), List.length_map, List.length_range, Nat.sub_self, show n.length + 1 - k = (n.length + 1 - (k + 1)) + 1 from by omega, List.replicate_succ, List.set_cons_zero, List.range_succ, List.map_append, List.append_assoc]
  rfl
theorem rwB_skip (p n : List Nat) (i k : Nat) (h : k < n.length + 1) (hl : lk p n i k = false) : rwB p n i k = rwB p n i (k + 1) := by
  rw [← rwB_next p n i k h, hl]
  unfold rwB
  rw [List.set_append_right _ _ (by simp), List.length_map, List.length_range, Nat.sub_self, show n.length + 1 - k = (n.length + 1 - (k + 1)) + 1 from by omega, List.replicate_succ, List.set_cons_zero]
theorem rwB_zero (p n : List Nat) (i : Nat) : rwB p n i 0 = List.replicate (n.length + 1) false := by simp [rwB]
theorem rwB_first (p n : List Nat) : (List.replicate (n.length + 1) false).set 0 true = rwB p n 0 (n.length + 1) := by
  apply List.ext_getElem?
  intro j
  by_cases hj : j < n.length + 1
  · rw [rwB_get p n 0 _ j hj, lk_start p n j (by omega), List.getElem?_set]
    by_cases e : 0 = j
    · subst e; simp
    · rw [if_neg e, List.getElem?_replicate, if_pos hj]
      simp; omega
  · rw [List.getElem?_eq_none (by simp; omega), List.getElem?_eq_none (by rw [rwB_len p n 0 _ (by omega)]; omega)]
end Go.Proofs.YtobecfeelamlmaaDoor
