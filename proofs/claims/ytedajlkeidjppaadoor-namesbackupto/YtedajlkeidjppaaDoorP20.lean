/- Paths there and back. -/
import Derived.Test.YtedajlkeidjppaaDoorP14
import Derived.Test.YtedajlkeidjppaaDoorP15
namespace Go.Proofs.YtedajlkeidjppaaDoor
open Go.Lib
set_option linter.unusedSimpArgs false
set_option linter.unusedVariables false
theorem enc_low (r : Nat) (hs : scal r) (c : UInt8) (hc : c ∈ encR r) (h : c.toNat < 128) : r = c.toNat := by
  by_cases h1 : r < 128
  · rw [encR_1 h1, List.mem_singleton] at hc
    subst hc
    rw [u8n r (by omega)]
  · exfalso
    have big : ∀ n, 128 ≤ n → n < 256 → ¬ (n.toUInt8).toNat < 128 := fun n a b => by rw [u8n n b]; omega
    by_cases h2 : r < 2048
    · rw [encR_2 (by omega) h2] at hc
      simp only [List.mem_cons, List.not_mem_nil, or_false] at hc
      rcases hc with rfl | rfl
      · exact big _ (by omega) (by omega) h
      · exact big _ (by omega) (by omega) h
    · by_cases h3 : r < 65536
      · rw [encR_3 (by omega) h3 hs] at hc
        simp only [List.mem_cons, List.not_mem_nil, or_false] at hc
        rcases hc with rfl | rfl | rfl
        · exact big _ (by omega) (by omega) h
        · exact big _ (by omega) (by omega) h
        · exact big _ (by omega) (by omega) h
      · have hr : r ≤ 1114111 := by unfold scal at hs; omega
        rw [encR_4 (by omega) hr] at hc
        simp only [List.mem_cons, List.not_mem_nil, or_false] at hc
        rcases hc with rfl | rfl | rfl | rfl
        · exact big _ (by omega) (by omega) h
        · exact big _ (by omega) (by omega) h
        · exact big _ (by omega) (by omega) h
        · exact big _ (by omega) (by omega) h
/-- No slash stands in a name. -/
theorem okN_47 (l : List UInt8) (h : okN l = true) : (47 : UInt8) ∉ l := by
  obtain ⟨_, hv, _, _, hg, h1, _⟩ := okN_split h
  intro hm
  rw [← encs_rn l l.length (Nat.le_refl _) hv] at hm
  unfold encs at hm
  obtain ⟨r, hr, hc⟩ := List.mem_flatMap.1 hm
  have := enc_low r (rn_scal l l.length (Nat.le_refl _) r hr) 47 hc (by decide)
  have hgr := hg r hr
  rw [this] at hgr
  exact absurd hgr (by decide)
theorem okN_ne (l : List UInt8) (h : okN l = true) : l ≠ [] := by
  obtain ⟨_, _, _, _, _, h1, _⟩ := okN_split h
  intro e
  subst e
  simp [rn, rnG] at h1
theorem sp_no : ∀ (l : List UInt8), (47 : UInt8) ∉ l → sp l = [l]
  | [], _ => rfl
  | c :: t, h => by
    simp only [List.mem_cons, not_or] at h
    rw [sp, if_neg (fun e => h.1 e.symm), sp_no t h.2]
    rfl
theorem sp_app : ∀ (x t : List UInt8), (47 : UInt8) ∉ x → sp (x ++ 47 :: t) = x :: sp t
  | [], t, _ => by simp [sp]
  | c :: x, t, h => by
    simp only [List.mem_cons, not_or] at h
    rw [List.cons_append, sp, if_neg (fun e => h.1 e.symm), sp_app x t h.2]
    rfl
theorem join_two (x y : List UInt8) (xs : List (List UInt8)) : join (x :: y :: xs) [47] = x ++ 47 :: join (y :: xs) [47] := by
  simp [join, List.intercalate, List.intersperse]
theorem sp_join : ∀ (xs : List (List UInt8)), xs ≠ [] → (∀ x ∈ xs, (47 : UInt8) ∉ x) → sp (join xs [47]) = xs
  | [], h, _ => absurd rfl h
  | [x], _, h => by rw [join_one]; exact sp_no x (h x (by simp))
  | x :: y :: xs, _, h => by
    rw [join_two, sp_app x _ (h x (by simp)), sp_join (y :: xs) (by simp) (fun z hz => h z (by simp [hz]))]
theorem join_sp : ∀ (t : List UInt8), join (sp t) [47] = t
  | [] => by simp [sp, join, List.intercalate]
  | c :: t => by
    have ih := join_sp t
    have hne := sp_ne t
    unfold sp
    split
    · rename_i hc
      subst hc
      cases hs : sp t with
      | nil => exact absurd hs hne
      | cons y ys =>
        rw [join_two, ← hs, ih]; rfl
    · cases hs : sp t with
      | nil => exact absurd hs hne
      | cons y ys =>
        rw [hs] at ih
        cases ys with
        | nil =>
          rw [join_one] at ih
          rw [show consH c [y] = [c :: y] from rfl, join_one, ih]
        | cons z zs =>
          rw [join_two] at ih
          rw [show consH c (y :: z :: zs) = (c :: y) :: z :: zs from rfl, join_two, List.cons_append, ih]
/-- A path that was joined comes apart into its names. -/
theorem path_back (xs : List ByteArray) (h : jnE xs = 0) : pthX (jnS xs).data.toList = xs ∧ pthE (jnS xs).data.toList = 0 := by
  have hok : okP xs = true := by
    unfold jnE at h
    split at h
    · assumption
    · omega
  have hq : okQ (xs.map (·.data.toList)) = true := by rw [← okP_okQ]; exact hok
  have hJ : (jnS xs).data.toList = 47 :: join (xs.map (·.data.toList)) [47] := by
    unfold jnS; rw [hok]; rfl
  rw [hJ]
  cases xs with
  | nil => exact ⟨by simp [pthX, pth, join, List.intercalate], by simp [pthE, pth, join, List.intercalate]⟩
  | cons x xs =>
    have hall : ∀ l ∈ (x :: xs).map (·.data.toList), okN l = true := by
      unfold okQ at hq
      simp only [Bool.and_eq_true, List.all_eq_true] at hq
      exact hq.2
    have hs := sp_join ((x :: xs).map (·.data.toList)) (by simp) (fun l hl => okN_47 l (hall l hl))
    have hne : join ((x :: xs).map (·.data.toList)) [47] ≠ [] := by
      intro e
      rw [e] at hs
      simp only [sp] at hs
      have := hall [] (by rw [← hs]; simp)
      exact okN_ne [] this rfl
    generalize hM : (x :: xs).map (·.data.toList) = M at hs hne hq
    have h2 : pth (47 :: join M [47]) = some M := by
      simp only [pth, if_true, if_neg hne, hs, hq]
    refine ⟨?_, by simp [pthE, h2]⟩
    rw [pthX, h2, ← hM]
    exact mkB_map _
/-- A path that came apart is joined again. -/
theorem join_back (s : ByteArray) (h : pthE s.data.toList = 0) : jnS (pthX s.data.toList) = s ∧ jnE (pthX s.data.toList) = 0 := by
  have hsome : (pth s.data.toList).isSome = true := by
    unfold pthE at h
    split at h
    · assumption
    · omega
  have hb := mkB_of s
  generalize hl : s.data.toList = l at hsome hb h
  cases l with
  | nil => simp [pth] at hsome
  | cons c t =>
    by_cases hc : c = 47
    · subst hc
      by_cases ht : t = []
      · subst ht
        have hp : pthX [47] = [] := by simp [pthX, pth]
        rw [hp]
        refine ⟨?_, rfl⟩
        rw [← hb]; rfl
      · have hq : okQ (sp t) = true := by
          simp only [pth, if_true, if_neg ht] at hsome
          split at hsome
          · assumption
          · cases hsome
        have hp : pthX (47 :: t) = (sp t).map mkB := by simp [pthX, pth, ht, hq]
        have hm : ((sp t).map mkB).map (·.data.toList) = sp t := by
          rw [List.map_map]
          exact List.map_id' _
        have hok : okP ((sp t).map mkB) = true := by rw [okP_okQ, hm]; exact hq
        rw [hp]
        refine ⟨?_, by simp [jnE, hok]⟩
        rw [← hb, jnS, hok, if_pos rfl, hm, join_sp]
    · simp [pth, hc] at hsome
end Go.Proofs.YtedajlkeidjppaaDoor
