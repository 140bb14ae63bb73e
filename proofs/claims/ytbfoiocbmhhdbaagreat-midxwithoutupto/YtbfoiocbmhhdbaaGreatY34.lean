import Derived.Test.YtbfoiocbmhhdbaaGreatY28
/- MidxWithout, its mathematics: one index left out. -/
namespace Go.Proofs.YtbfoiocbmhhdbaaGreat
open Go.RowKit
set_option linter.unusedSimpArgs false
set_option linter.unusedVariables false
section
variable {α : Type}
theorem erase_snoc (l : List α) (a : α) (j : Nat) : (l ++ [a]).eraseIdx j = if j = l.length then l.eraseIdx j else l.eraseIdx j ++ [a] := by
  split
  · rename_i h
    subst h
    rw [List.eraseIdx_append_of_length_le (Nat.le_refl _), Nat.sub_self, List.eraseIdx_of_length_le (Nat.le_refl _)]
    simp
  · rename_i h
    by_cases hj : j < l.length
    · rw [List.eraseIdx_append_of_lt_length hj]
    · rw [List.eraseIdx_append_of_length_le (by omega), List.eraseIdx_of_length_le (l := l) (by omega), List.eraseIdx_of_length_le (by simp; omega)]
theorem erase_two {l : List α} {j : Nat} {q : α} (h : l[j]? = some q) : l = l.take j ++ q :: l.drop (j + 1) ∧ l.eraseIdx j = l.take j ++ l.drop (j + 1) := by
  obtain ⟨hl, rfl⟩ := List.getElem?_eq_some_iff.1 h
  exact ⟨by rw [← List.drop_eq_getElem_cons hl, List.take_append_drop], List.eraseIdx_eq_take_drop_succ ..⟩
end
theorem Ixs.erase {R : List ByteArray} {xs : List (ByteArray × List Xe)} (h : Ixs R xs) (j : Nat) : Ixs (R.eraseIdx j) (xs.eraseIdx j) := by
  refine ⟨by rw [List.length_eraseIdx, List.length_eraseIdx, h.len], fun i t q ht hq => ?_⟩
  rw [List.getElem?_eraseIdx] at ht hq
  split at ht
  · rename_i hi
    rw [if_pos hi] at hq
    exact h.ix i t q ht hq
  · rename_i hi
    rw [if_neg hi] at hq
    exact h.ix _ t q ht hq
theorem Unl.erase {xs : List (ByteArray × List Xe)} (h : Unl xs) (j : Nat) : Unl (xs.eraseIdx j) := List.Pairwise.sublist (List.eraseIdx_sublist ..) h
theorem rwA_erase {xs : List (ByteArray × List Xe)} {j : Nat} {q : ByteArray × List Xe} (h : xs[j]? = some q) : (rwA (xs.eraseIdx j)).length ≤ (rwA xs).length := by
  obtain ⟨h1, h2⟩ := erase_two h
  rw [h2]
  conv => rhs; rw [h1]
  simp [rwA]
/-- Those that stay. -/
theorem stay {xs : List (ByteArray × List Xe)} {j : Nat} {q : ByteArray × List Xe} (h : xs[j]? = some q) (hu : Unl xs) : ∀ p, p ∈ xs.eraseIdx j ↔ p ∈ xs ∧ p.1 ≠ q.1 := fun p => by
  obtain ⟨h1, h2⟩ := erase_two h
  unfold Unl at hu
  rw [h1, List.pairwise_append, List.pairwise_cons] at hu
  obtain ⟨_, ⟨h3, _⟩, h4⟩ := hu
  rw [h2]
  constructor
  · intro hp
    rcases List.mem_append.1 hp with k | k
    · exact ⟨List.mem_of_mem_take k, h4 p k q (List.mem_cons_self ..)⟩
    · exact ⟨List.mem_of_mem_drop k, fun e => h3 p k e.symm⟩
  · rintro ⟨hp, hne⟩
    rw [h1] at hp
    rcases List.mem_append.1 hp with k | k
    · exact List.mem_append_left _ k
    · rcases List.mem_cons.1 k with e | e
      · exact absurd (by rw [e]) hne
      · exact List.mem_append_right _ e
/-- What is found without it, of a row. -/
theorem wo_first {xs ys : List (ByteArray × List Xe)} {ps ps' : List ByteArray} {l l' : List Mr} (hm : Mgd xs ps l) (hm' : Mgd ys ps' l') (hs : ∀ p ∈ ys, p ∈ xs) {r r' : Mr} (hr : r ∈ l) (hr' : r' ∈ l') (e : r'.e.id = r.e.id) : ltN r'.p r.p = false := by
  obtain ⟨p', a, b, c⟩ := hm'.src r' hr'
  obtain ⟨r2, a2, b2, c2⟩ := hm.all p' (hs p' a) r'.e c
  have h1 := fdM_mem hm.ri.ap a2
  have h2 := fdM_mem hm.ri.ap hr
  rw [b2, e, h2] at h1
  injection h1 with h1
  subst h1
  rw [← b]
  exact c2
theorem wo_keep {xs : List (ByteArray × List Xe)} {j : Nat} {q : ByteArray × List Xe} (hq : xs[j]? = some q) (hu : Unl xs) (ha : ∀ q ∈ xs, Aprt q.2) {ps ps' : List ByteArray} {l l' : List Mr} (hm : Mgd xs ps l) (hm' : Mgd (xs.eraseIdx j) ps' l') {r : Mr} (hr : r ∈ l) (hne : r.p ≠ q.1) : mfnd l' r.e.id = some r := by
  have hst := stay hq hu
  obtain ⟨p, a, b, c⟩ := hm.src r hr
  obtain ⟨r', a', b', c'⟩ := hm'.all p ((hst p).2 ⟨a, by rw [b]; exact hne⟩) r.e c
  obtain ⟨p', a2, b2, c2⟩ := hm'.src r' a'
  have h1 := wo_first hm hm' (fun p hp => ((hst p).1 hp).1) hr a' b'
  rw [b] at c'
  have e3 : r.p = r'.p := ltN_tri c' h1
  obtain rfl := unl_one hu p a p' ((hst p').1 a2).1 (by rw [b, b2, e3])
  have e4 := aprt_one (ha p a) c c2 b'.symm
  have e5 : r = r' := by
    obtain ⟨x, y⟩ := r
    obtain ⟨x', y'⟩ := r'
    simp only at e3 e4
    rw [e3, e4]
  rw [mfnd_fd hm'.ri, e5]
  exact fdM_mem hm'.ri.ap a'
theorem wo_later {xs : List (ByteArray × List Xe)} {j : Nat} {q : ByteArray × List Xe} (hq : xs[j]? = some q) (hu : Unl xs) {ps ps' : List ByteArray} {l l' : List Mr} (hm : Mgd xs ps l) (hm' : Mgd (xs.eraseIdx j) ps' l') {r r' : Mr} (hr : r ∈ l) (he : r.p = q.1) (hf : mfnd l' r.e.id = some r') : ltN r.p r'.p = true := by
  have hst := stay hq hu
  rw [mfnd_fd hm'.ri] at hf
  obtain ⟨h1, h2⟩ := fdM_some hf
  have h3 := wo_first hm hm' (fun p hp => ((hst p).1 hp).1) hr h1 h2
  obtain ⟨p', a, b, _⟩ := hm'.src r' h1
  cases hc : ltN r.p r'.p with
  | true => rfl
  | false => exact absurd (b.trans ((ltN_tri hc h3).symm.trans he)) ((hst p').1 a).2
/-- How many rows are found. -/
def fndC (l' : List Mr) (r : Mr) : Bool := (mfnd l' r.e.id).isSome
def cntC (l' l : List Mr) : Nat := (l.filter (fndC l')).length
theorem cntC_snoc (l' l : List Mr) (r : Mr) : cntC l' (l ++ [r]) = if fndC l' r = true then cntC l' l + 1 else cntC l' l := by
  unfold cntC
  rw [List.filter_append, List.length_append]
  split
  · rename_i h; rw [List.filter_cons_of_pos h]; rfl
  · rename_i h; rw [List.filter_cons_of_neg h]; rfl
theorem cntC_le (l' l : List Mr) : cntC l' l ≤ l.length := List.length_filter_le _ _
theorem wo_count {xs : List (ByteArray × List Xe)} {j : Nat} {q : ByteArray × List Xe} (hq : xs[j]? = some q) (hu : Unl xs) {ps ps' : List ByteArray} {l l' : List Mr} (hm : Mgd xs ps l) (hm' : Mgd (xs.eraseIdx j) ps' l') : l'.length = cntC l' l := by
  have hst := stay hq hu
  have hA : ((l.filter (fndC l')).map (fun r => r.e.id)).Nodup := by
    rw [List.Nodup, List.pairwise_map]
    exact (hm.ri.ap.sublist List.filter_sublist).imp (fun {a b} q e => q e)
  have hB : (l'.map (fun r => r.e.id)).Nodup := by
    rw [List.Nodup, List.pairwise_map]
    exact hm'.ri.ap.imp (fun {a b} q e => q e)
  have := (perm_of_mem hB hA (fun x => by
    simp only [List.mem_map, List.mem_filter]
    constructor
    · rintro ⟨r', h1, h2⟩
      obtain ⟨p', a, b, c⟩ := hm'.src r' h1
      obtain ⟨r, k1, k2, _⟩ := hm.all p' ((hst p').1 a).1 r'.e c
      refine ⟨r, ⟨k1, ?_⟩, k2.trans h2⟩
      unfold fndC
      rw [mfnd_fd hm'.ri, k2, fdM_mem hm'.ri.ap h1]
      rfl
    · rintro ⟨r, ⟨h1, h2⟩, h3⟩
      unfold fndC at h2
      rw [mfnd_fd hm'.ri] at h2
      cases hf : fdM l' r.e.id with
      | none => rw [hf] at h2; cases h2
      | some r' =>
        obtain ⟨k1, k2⟩ := fdM_some hf
        exact ⟨r', k1, k2.trans h3⟩)).length_eq
  simpa [cntC] using this
end Go.Proofs.YtbfoiocbmhhdbaaGreat
