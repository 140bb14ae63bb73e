/- Rows taken from one another, as package field does it, plainly. -/
import Derived.Test.YtblmblbkfdcbjabF17
namespace Go.Proofs.Ytblmblbkfdcbjab
open Go.RowKit
set_option linter.unusedSimpArgs false
set_option linter.unusedVariables false
/-- Each row beside the unit's. -/
def staP (A : List (List UInt8)) : List (List UInt8) := A.mapIdx fun i r => r ++ ur i
theorem staP_len (A : List (List UInt8)) : (staP A).length = A.length := by simp [staP]
theorem staP_at (A : List (List UInt8)) (i : Nat) (r : List UInt8) (h : A[i]? = some r) : (staP A)[i]? = some (r ++ ur i) := by
  simp [staP, List.getElem?_mapIdx, h]
theorem staP_wide (A : List (List UInt8)) (hA : ∀ r ∈ A, r.length = 64) : ∀ r ∈ staP A, r.length = 128 := by
  intro x hx
  obtain ⟨i, hi, rfl⟩ := List.mem_iff_getElem.1 hx
  simp only [staP, List.getElem_mapIdx, List.length_append, ur_len]
  rw [hA _ (List.getElem_mem _)]
/-- The first k pairs laid. -/
def filP (F : List (List UInt8)) (k : Nat) : List (List UInt8) := F.take k ++ List.replicate (F.length - k) zp
theorem filP_len (F : List (List UInt8)) (k : Nat) (h : k ≤ F.length) : (filP F k).length = F.length := by simp [filP]; omega
theorem filP_wide (F : List (List UInt8)) (hF : ∀ r ∈ F, r.length = 128) (k : Nat) : ∀ r ∈ filP F k, r.length = 128 := by
  intro r hr
  rcases List.mem_append.1 hr with h1 | h1
  · exact hF r (List.mem_of_mem_take h1)
  · rw [(List.mem_replicate.1 h1).2]; exact zp_len
theorem filP_next (F : List (List UInt8)) (k : Nat) (r : List UInt8) (hr : F[k]? = some r) : (filP F k).set k r = filP F (k + 1) := by
  have hk := (List.getElem?_eq_some_iff.1 hr).1
  unfold filP
  rw [List.set_append_right _ _ (by simp; omega), List.length_take, Nat.min_eq_left (Nat.le_of_lt hk), Nat.sub_self, show F.length - k = (F.length - (k + 1)) + 1 from by omega, List.replicate_succ, List.set_cons_zero]
  rw [List.take_succ_eq_append_getElem hk, List.append_assoc, (List.getElem?_eq_some_iff.1 hr).2]; rfl
theorem filP_all (F : List (List UInt8)) : filP F F.length = F := by
  unfold filP
  rw [Nat.sub_self, List.replicate_zero, List.append_nil, List.take_length]
theorem filP_zero (F : List (List UInt8)) : filP F 0 = List.replicate F.length zp := by simp [filP]
/-- The row q taken from all others but number i so that they are 0 at c; the first k of them. -/
def elP (X : List (List UInt8)) (i : Nat) (q : List UInt8) (c k : Nat) : List (List UInt8) := X.mapIdx fun j r => if j = i ∨ k ≤ j then r else addR r q (r.getD c 0)
theorem elP_len (X : List (List UInt8)) (i : Nat) (q : List UInt8) (c k : Nat) : (elP X i q c k).length = X.length := by simp [elP]
theorem elP_at (X : List (List UInt8)) (i : Nat) (q : List UInt8) (c k j : Nat) (r : List UInt8) (h : X[j]? = some r) : (elP X i q c k)[j]? = some (if j = i ∨ k ≤ j then r else addR r q (r.getD c 0)) := by
  simp [elP, List.getElem?_mapIdx, h]
theorem elP_wide (X : List (List UInt8)) (hX : ∀ r ∈ X, r.length = 128) (i : Nat) (q : List UInt8) (hq : q.length = 128) (c k : Nat) : ∀ r ∈ elP X i q c k, r.length = 128 := by
  intro x hx
  obtain ⟨j, hj, rfl⟩ := List.mem_iff_getElem.1 hx
  simp only [elP, List.getElem_mapIdx]
  split
  · exact hX _ (List.getElem_mem _)
  · exact addR_len2 _ _ _ (hX _ (List.getElem_mem _)) hq
theorem elP_zero (X : List (List UInt8)) (i : Nat) (q : List UInt8) (c : Nat) : elP X i q c 0 = X := by
  apply List.ext_getElem?
  intro j
  cases h : X[j]? with
  | none => rw [List.getElem?_eq_none (by rw [elP_len]; exact List.getElem?_eq_none_iff.1 h)]
  | some r => rw [elP_at X i q c 0 j r h, if_pos (by omega)]
theorem elP_skip (X : List (List UInt8)) (i : Nat) (q : List UInt8) (c : Nat) : elP X i q c (i + 1) = elP X i q c i := by
  apply List.ext_getElem?
  intro j
  cases h : X[j]? with
  | none => rw [List.getElem?_eq_none (by rw [elP_len]; exact List.getElem?_eq_none_iff.1 h), List.getElem?_eq_none (by rw [elP_len]; exact List.getElem?_eq_none_iff.1 h)]
  | some r =>
    rw [elP_at X i q c _ j r h, elP_at X i q c _ j r h]
    by_cases e : j = i
    · rw [if_pos (.inl e), if_pos (.inl e)]
    · by_cases e2 : i ≤ j
      · rw [if_pos (by omega), if_pos (by omega)]
      · rw [if_neg (by omega), if_neg (by omega)]
theorem elP_next (X : List (List UInt8)) (i : Nat) (q : List UInt8) (c k : Nat) (r : List UInt8) (hr : X[k]? = some r) (hk : k ≠ i) : (elP X i q c k).set k (addR r q (r.getD c 0)) = elP X i q c (k + 1) := by
  apply List.ext_getElem?
  intro j
  rw [List.getElem?_set, elP_len]
  cases h : X[j]? with
  | none =>
    rw [List.getElem?_eq_none (by rw [elP_len]; exact List.getElem?_eq_none_iff.1 h), List.getElem?_eq_none (by rw [elP_len]; exact List.getElem?_eq_none_iff.1 h)]
    by_cases e : k = j
    · subst e; rw [hr] at h; cases h
    · rw [if_neg e]
  | some s =>
    have hj := (List.getElem?_eq_some_iff.1 h).1
    rw [elP_at X i q c _ j s h, elP_at X i q c _ j s h]
    by_cases e : k = j
    · subst e
      rw [hr] at h
      cases h
      rw [if_pos rfl, if_pos hj, if_neg (by omega)]
    · rw [if_neg e]
      by_cases e2 : j = i ∨ k ≤ j
      · rw [if_pos e2, if_pos (by omega)]
      · rw [if_neg e2, if_neg (by omega)]
/-- One row's turn. -/
def stp (X : List (List UInt8)) (i : Nat) : List (List UInt8) :=
  if lf (X.getD i zp) = zr then X
  else elP (X.set i (addR zp (X.getD i zp) (inv ((X.getD i zp).getD (fst (lf (X.getD i zp))) 0)))) i (addR zp (X.getD i zp) (inv ((X.getD i zp).getD (fst (lf (X.getD i zp))) 0))) (fst (lf (X.getD i zp))) X.length
theorem stp_len (X : List (List UInt8)) (i : Nat) : (stp X i).length = X.length := by
  unfold stp
  split
  · rfl
  · rw [elP_len, List.length_set]
theorem getD_wide2 (X : List (List UInt8)) (hX : ∀ r ∈ X, r.length = 128) (k : Nat) : (X.getD k zp).length = 128 := by
  rw [List.getD]
  cases h : X[k]? with
  | none => exact zp_len
  | some x => exact hX x (List.mem_of_getElem? h)
theorem stp_wide (X : List (List UInt8)) (hX : ∀ r ∈ X, r.length = 128) (i : Nat) : ∀ r ∈ stp X i, r.length = 128 := by
  unfold stp
  split
  · exact hX
  · have hq := addR_len2 zp (X.getD i zp) (inv ((X.getD i zp).getD (fst (lf (X.getD i zp))) 0)) zp_len (getD_wide2 X hX i)
    exact elP_wide _ (set_wide 128 X hX i _ hq) i _ hq _ _
def redK (X : List (List UInt8)) : Nat → List (List UInt8)
  | 0 => X
  | k + 1 => stp (redK X k) k
theorem redK_len (X : List (List UInt8)) : ∀ k, (redK X k).length = X.length
  | 0 => rfl
  | k + 1 => by rw [redK, stp_len, redK_len X k]
theorem redK_wide (X : List (List UInt8)) (hX : ∀ r ∈ X, r.length = 128) : ∀ k, ∀ r ∈ redK X k, r.length = 128
  | 0 => hX
  | k + 1 => stp_wide _ (redK_wide X hX k) k
/-- What reduced tells. -/
def redP (A : List (List UInt8)) : List (List UInt8) := redK (staP A) A.length
theorem fst_lt (r : List UInt8) (h : r.length = 64) : fst r < 64 := by
  unfold fst
  split
  · omega
  · rename_i h1
    have : ∃ x ∈ r, (x != 0) = true := by
      have h2 : ¬ ∀ x ∈ r, (x == 0) = true := by rw [List.all_eq_true] at h1; exact h1
      have h3 := Classical.not_forall.1 h2
      obtain ⟨x, hx⟩ := h3
      have h4 := Classical.not_imp.1 hx
      exact ⟨x, h4.1, by simpa using h4.2⟩
    have := List.findIdx_lt_length_of_exists this
    omega
end Go.Proofs.Ytblmblbkfdcbjab
