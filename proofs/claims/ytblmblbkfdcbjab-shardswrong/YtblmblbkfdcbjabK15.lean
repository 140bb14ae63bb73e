/- Shards as sums of shards: sums of sums, the unit, and that any k of all rows have an inverse. -/
import Derived.Test.YtblmblbkfdcbjabJ6
import Derived.Test.YtblmblbkfdcbjabK8
import Derived.Test.YtblmblbkfdcbjabK12
import Derived.Test.YtblmblbkfdcbjabK12P
import Derived.Test.YtblmblbkfdcbjabF20
namespace Go.Proofs.Ytblmblbkfdcbjab
open Go.RowKit
set_option linter.unusedSimpArgs false
set_option linter.unusedVariables false
theorem dm_mat (xs : List ByteArray) (i j : Nat) (hi : i < xs.length) (hs : ∀ x ∈ xs, x.size ≤ 64) : dm xs i j = mat (arrL xs) i j := by
  obtain ⟨x, hx⟩ : ∃ x, xs[i]? = some x := ⟨_, List.getElem?_eq_getElem hi⟩
  have hxs := hs x (List.mem_of_getElem? hx)
  rw [dm_at xs i j x hx]
  unfold mat
  rw [show (arrL xs).getD i zr = rowOf x from by rw [arrL, List.getD, List.getElem?_map, hx]; rfl]
  by_cases hj : j < x.size
  · rw [bt, List.getD, List.getD, rowOf_get x hxs j hj]
  · rw [bt_out x j (by omega)]
    by_cases h64 : j < 64
    · exact (rowOf_zc x x.size (Nat.le_refl _) hxs j (by omega) h64).symm
    · rw [List.getD, List.getElem?_eq_none (by rw [rowOf_len x hxs]; omega)]; rfl
theorem bt_mk (l : List UInt8) (j : Nat) : bt (mkT l) j = l.getD j 0 := by rw [bt, mkT_data]
theorem fl_getD (n : Nat) (f : Nat → UInt8) (p : Nat) (h : p < n) : (fl n f).getD p 0 = f p := by rw [List.getD, fl_get n f p h]; rfl
theorem mk_bt (x : ByteArray) (d : Nat) (h : x.size = d) : mkT (fl d (bt x)) = x := by
  have e : fl d (bt x) = x.data.toList := by
    apply List.ext_getElem?
    intro p
    by_cases hp : p < d
    · rw [fl_get d _ p hp, bt, List.getD]
      have : p < x.data.toList.length := by rw [Array.length_toList]; show p < x.size; omega
      rw [List.getElem?_eq_getElem this]; rfl
    · rw [List.getElem?_eq_none (by rw [fl_len]; omega), List.getElem?_eq_none (by rw [Array.length_toList]; show x.size ≤ p; omega)]
  rw [e]
  cases x; simp [mkT]
theorem mixL_at (rs xs : List ByteArray) (d i : Nat) (r : ByteArray) (h : rs[i]? = some r) : (mixL rs xs d)[i]? = some (mixT r xs d) := by rw [mixL, List.getElem?_map, h]; rfl
theorem dm_mix (rs xs : List ByteArray) (d i p : Nat) (hi : i < rs.length) (hp : p < d) : dm (mixL rs xs d) i p = Sx xs.length (fun j => mul (dm rs i j) (dm xs j p)) := by
  obtain ⟨r, hr⟩ : ∃ r, rs[i]? = some r := ⟨_, List.getElem?_eq_getElem hi⟩
  rw [dm_at _ i p _ (mixL_at rs xs d i r hr), mixT, bt_mk, fl_getD d _ p hp]
  show Sx _ _ = _
  apply Sx_congr
  intro j hj
  rw [dm_at rs i j r hr]
theorem mixL_ext (L M : List ByteArray) (d : Nat) (hl : L.length = M.length) (sL : ∀ x ∈ L, x.size = d) (sM : ∀ x ∈ M, x.size = d) (h : ∀ i p, i < L.length → p < d → dm L i p = dm M i p) : L = M := by
  apply List.ext_getElem hl
  intro i h1 h2
  have e1 := mk_bt L[i] d (sL _ (List.getElem_mem h1))
  have e2 := mk_bt M[i] d (sM _ (List.getElem_mem h2))
  rw [← e1, ← e2, fl_congr d (bt L[i]) (bt M[i]) (fun p hp => by
    have := h i p h1 hp
    rw [dm_at L i p L[i] (List.getElem?_eq_getElem h1), dm_at M i p M[i] (List.getElem?_eq_getElem h2)] at this
    exact this)]
theorem mixL_size (rs xs : List ByteArray) (d : Nat) : ∀ x ∈ mixL rs xs d, x.size = d := by
  intro x hx
  obtain ⟨r, _, rfl⟩ := List.mem_map.1 hx
  exact mixT_size _ _ _
/-- The product's numbers. -/
theorem dm_prod (A B : List ByteArray) (i j : Nat) (hi : i < A.length) (hj : j < wid B) (hA : isM A = true) (hB : isM B = true) (hw : wid A = B.length) : dm (pdX A B) i j = Sx B.length (fun l => mul (dm A i l) (dm B l j)) := by
  obtain ⟨a1, a2⟩ := isM_small A hA
  obtain ⟨b1, b2⟩ := isM_small B hB
  obtain ⟨_, q2, q3⟩ := isM_parts B hB
  have hbw := arrL_wide B b2
  have hbl : (arrL B).length = B.length := by simp [arrL]
  have hal : (arrL A).length = A.length := by simp [arrL]
  have e : pdX A B = txtL (wid B) (prodL (arrL A) (arrL B)) := if_pos ⟨hA, hB, hw⟩
  have hm := mat_prod (arrL A) (arrL B) hbw i j (by omega) (by omega)
  rw [hbl] at hm
  obtain ⟨r, hr⟩ : ∃ r, (prodL (arrL A) (arrL B))[i]? = some r := ⟨_, List.getElem?_eq_getElem (by rw [prodL_len]; omega)⟩
  have e2 : (pdX A B)[i]? = some (mkT (r.take (wid B))) := by rw [e, txtL, List.getElem?_map, hr]; rfl
  rw [dm_at _ i j _ e2, bt_mk, List.getD, List.getElem?_take, if_pos hj]
  have e3 : mat (prodL (arrL A) (arrL B)) i j = (r[j]?).getD 0 := by unfold mat; rw [List.getD, List.getD, hr]; rfl
  rw [← e3, hm]
  apply Sx_congr
  intro l hl
  rw [dm_mat A i l hi a2, dm_mat B l j hl b2]
/-- Sums of sums. -/
theorem mix_mix (A B X : List ByteArray) (d : Nat) (hA : isM A = true) (hB : isM B = true) (hw : wid A = B.length) (hX : wid B = X.length) : mixL (pdX A B) X d = mixL A (mixL B X d) d := by
  have e : pdX A B = txtL (wid B) (prodL (arrL A) (arrL B)) := if_pos ⟨hA, hB, hw⟩
  have hl : (pdX A B).length = A.length := by rw [e, txtL_len, prodL_len, arrL, List.length_map]
  apply mixL_ext _ _ d (by rw [mixL_len, mixL_len, hl]) (mixL_size _ _ _) (mixL_size _ _ _)
  intro i p hi hp
  rw [mixL_len, hl] at hi
  rw [dm_mix _ _ d i p (by rw [hl]; exact hi) hp, dm_mix _ _ d i p hi hp, mixL_len]
  have e1 : Sx X.length (fun j => mul (dm (pdX A B) i j) (dm X j p)) = Sx X.length (fun j => Sx B.length (fun l => mul (mul (dm A i l) (dm B l j)) (dm X j p))) := by
    apply Sx_congr
    intro j hj
    rw [dm_prod A B i j hi (by omega) hA hB hw, ← Sx_mul]
  have e2 : Sx B.length (fun l => mul (dm A i l) (dm (mixL B X d) l p)) = Sx B.length (fun l => Sx X.length (fun j => mul (mul (dm A i l) (dm B l j)) (dm X j p))) := by
    apply Sx_congr
    intro l hl
    rw [dm_mix B X d l p hl hp, mul_comm, ← Sx_mul]
    apply Sx_congr
    intro j hj
    rw [mul_comm, mul_assoc]
  rw [e1, e2, Sx_swap]
theorem mix_unit (X : List ByteArray) (k d : Nat) (hX : X.length = k) (h1 : 1 ≤ k) (h2 : k ≤ 64) (sX : ∀ x ∈ X, x.size = d) : mixL (txtL k (unL k)) X d = X := by
  have hl : (txtL k (unL k)).length = k := by rw [txtL_len, unL_len]
  apply mixL_ext _ _ d (by rw [mixL_len, hl, hX]) (mixL_size _ _ _) sX
  intro i p hi hp
  rw [mixL_len, hl] at hi
  rw [dm_mix _ _ d i p (by rw [hl]; exact hi) hp, hX]
  have hu : ∀ j, j < k → dm (txtL k (unL k)) i j = if j = i then 1 else 0 := fun j hj => by
    have e : (txtL k (unL k))[i]? = some (mkT ((ur i).take k)) := by rw [txtL, List.getElem?_map, unL_at k i hi]; rfl
    rw [dm_at _ i j _ e, bt_mk, List.getD, List.getElem?_take, if_pos hj]
    have := ur_getD i j (by omega) (by omega)
    rw [List.getD] at this
    exact this
  rw [Sx_one k _ i hi (fun j hj hne => by rw [hu j hj, if_neg hne, zero_mul]), hu i hi, if_pos rfl, one_mul]
/-- All rows: the unit's, then the parity's. -/
def ofD (n k : Nat) : List ByteArray := txtL k (unL k) ++ cyX (n - k) k
theorem ofD_len (n k : Nat) (h1 : 1 ≤ k) (h2 : k ≤ n) (h3 : n ≤ 64) : (ofD n k).length = n := by
  rw [ofD, List.length_append, txtL_len, unL_len, cyX_len _ _ (by omega) h1 (by omega)]; omega
theorem ofD_size (n k : Nat) (h1 : 1 ≤ k) (h2 : k ≤ n) (h3 : n ≤ 64) : ∀ r ∈ ofD n k, r.size = k := by
  intro r hr
  rw [ofD, List.mem_append] at hr
  rcases hr with h | h
  · obtain ⟨l, hl, rfl⟩ := List.mem_map.1 h
    rw [mkT_size, List.length_take, unL_wide k l hl]; omega
  · exact cyX_size _ _ (by omega) h1 (by omega) r h
theorem ofD_at (n k i j : Nat) (h1 : 1 ≤ k) (h2 : k ≤ n) (h3 : n ≤ 64) (hi : i < n) (hj : j < k) : dm (ofD n k) i j = if i < k then (if j = i then 1 else 0) else caV (i - k) j := by
  have hl : (txtL k (unL k)).length = k := by rw [txtL_len, unL_len]
  by_cases hik : i < k
  · rw [if_pos hik]
    have e : (ofD n k)[i]? = some (mkT ((ur i).take k)) := by rw [ofD, List.getElem?_append_left (by rw [hl]; exact hik), txtL, List.getElem?_map, unL_at k i hik]; rfl
    rw [dm_at _ i j _ e, bt_mk, List.getD, List.getElem?_take, if_pos hj]
    have := ur_getD i j (by omega) (by omega)
    rw [List.getD] at this
    exact this
  · rw [if_neg hik]
    have e : (ofD n k)[i]? = some (mkT ((caR k (i - k)).take k)) := by
      rw [ofD, List.getElem?_append_right (by rw [hl]; omega), hl, cyX_yes _ _ (by omega) (by omega) h1 (by omega), txtL, List.getElem?_map, caL_at _ _ _ (by omega)]; rfl
    rw [dm_at _ i j _ e, bt_mk, List.getD, List.getElem?_take, if_pos hj, caR, List.getElem?_map, List.getElem?_range (by omega), Option.map_some, Option.getD_some, if_pos hj]
theorem Sx_split (f : Nat → UInt8) (t : Nat) : ∀ m, Sx (t + m) f = Sx t f ^^^ Sx m (fun i => f (t + i))
  | 0 => by rw [Nat.add_zero, Sx, UInt8.xor_zero]
  | m + 1 => by rw [← Nat.add_assoc, Sx, Sx_split f t m, Sx, UInt8.xor_assoc]
/-- Rising numbers: those below k, then the others. -/
theorem ris_cut (k : Nat) : ∀ l : List Nat, l.Pairwise (· < ·) → ∃ A B, l = A ++ B ∧ (∀ a ∈ A, a < k) ∧ ∀ b ∈ B, k ≤ b
  | [], _ => ⟨[], [], rfl, fun a h => (by cases h), fun b h => (by cases h)⟩
  | x :: l, h => by
    rw [List.pairwise_cons] at h
    by_cases hx : x < k
    · obtain ⟨A, B, rfl, hA, hB⟩ := ris_cut k l h.2
      exact ⟨x :: A, B, rfl, fun a ha => by
        rcases List.mem_cons.1 ha with rfl | ha
        · exact hx
        · exact hA a ha, hB⟩
    · refine ⟨[], x :: l, rfl, fun a h => (by cases h), fun b hb => ?_⟩
      rcases List.mem_cons.1 hb with rfl | hb
      · omega
      · have := h.1 b hb; omega
theorem less_one (a : Nat) : ∀ l : List Nat, l.Pairwise (· < ·) → l.length ≤ (l.filter fun x => decide (x ≠ a)).length + 1
  | [], _ => by simp
  | b :: l, h => by
    rw [List.pairwise_cons] at h
    by_cases e : b = a
    · subst e
      have : (l.filter fun x => decide (x ≠ b)) = l := List.filter_eq_self.2 (fun x hx => by have := h.1 x hx; simp; omega)
      rw [List.filter_cons_of_neg (by simp), this, List.length_cons]
      omega
    · rw [List.filter_cons_of_pos (by simpa using e), List.length_cons, List.length_cons]
      have := less_one a l h.2
      omega
theorem rest_len (k : Nat) : ∀ A : List Nat, k ≤ ((List.range k).filter fun j => decide (j ∉ A)).length + A.length
  | [] => by
    rw [List.filter_eq_self.2 (fun x _ => by simp), List.length_range]; simp
  | a :: A => by
    have ih := rest_len k A
    have e : ((List.range k).filter fun j => decide (j ∉ a :: A)) = (((List.range k).filter fun j => decide (j ∉ A)).filter fun x => decide (x ≠ a)) := by
      rw [List.filter_filter]
      apply List.filter_congr
      intro x _
      simp [List.mem_cons, not_or]
    rw [e, List.length_cons]
    have := less_one a ((List.range k).filter fun j => decide (j ∉ A)) (List.Pairwise.filter _ List.pairwise_lt_range)
    omega
/-- Any k of all rows have an inverse. -/
def usd (n k : Nat) (idx : List Nat) : List ByteArray := idx.map fun i => (ofD n k).getD i (mkT [])
theorem usd_sq (n k : Nat) (idx : List Nat) (h1 : 1 ≤ k) (h2 : k ≤ n) (h3 : n ≤ 64) (hr : Ris n idx) (hl : idx.length = k) : SqM k (usd n k idx) := by
  refine ⟨by rw [usd, List.length_map, hl], fun x hx => ?_⟩
  obtain ⟨i, hi, rfl⟩ := List.mem_map.1 hx
  have hin := hr.2 i hi
  rw [List.getD, List.getElem?_eq_getElem (by rw [ofD_len n k h1 h2 h3]; exact hin)]
  exact ofD_size n k h1 h2 h3 _ (List.getElem_mem _)
theorem usd_at (n k : Nat) (idx : List Nat) (i j : Nat) (hi : i < idx.length) : dm (usd n k idx) i j = dm (ofD n k) (idx.getD i 0) j := by
  have e : idx.getD i 0 = idx[i] := by rw [List.getD, List.getElem?_eq_getElem hi]; rfl
  rw [dm, usd, List.getD, List.getElem?_map, List.getElem?_eq_getElem hi, e]
  rfl
theorem usd_ok (n k : Nat) (idx : List Nat) (h1 : 1 ≤ k) (h2 : k ≤ n) (h3 : n ≤ 64) (hr : Ris n idx) (hl : idx.length = k) : sng (redP (arrL (usd n k idx))) = false := by
  have hsq := usd_sq n k idx h1 h2 h3 hr hl
  have hk64 : k ≤ 64 := by omega
  cases hsg : sng (redP (arrL (usd n k idx))) with
  | false => rfl
  | true =>
    exfalso
    have hal : (arrL (usd n k idx)).length = k := hsq.len
    obtain ⟨v, ⟨i0, hi0, hvi⟩, hk⟩ := sng_ker _ (hsq.wide hk64) (by rw [hal]; exact hk64) hsg
    rw [hal] at hi0 hk
    have hk' : ∀ j, j < k → Sx k (fun i => mul (v i) (dm (ofD n k) (idx.getD i 0) j)) = 0 := fun j hj => by
      rw [← hk j (by omega)]
      apply Sx_congr
      intro i hi
      rw [← usd_at n k idx i j (by omega), dm_mat (usd n k idx) i j (by rw [hsq.1]; exact hi) (fun x hx => by rw [hsq.2 x hx]; exact hk64)]
    obtain ⟨A, B, hAB, hA, hB⟩ := ris_cut k idx hr.1
    have hlen : A.length + B.length = k := by rw [← hl, hAB, List.length_append]
    have hpw := hr.1
    rw [hAB, List.pairwise_append] at hpw
    have hgA : ∀ i, i < A.length → idx.getD i 0 = A.getD i 0 := fun i hi => by rw [hAB, List.getD, List.getElem?_append_left hi]; rfl
    have hgB : ∀ i, idx.getD (A.length + i) 0 = B.getD i 0 := fun i => by rw [hAB, List.getD, List.getElem?_append_right (by omega), Nat.add_sub_cancel_left]; rfl
    have hAr : Ris k A := ⟨hpw.1, hA⟩
    have hBr : Ris n B := ⟨hpw.2.1, fun x hx => hr.2 x (by rw [hAB]; exact List.mem_append_right _ hx)⟩
    obtain ⟨qs, hqs⟩ : ∃ qs, ((List.range k).filter fun j => decide (j ∉ A)) = qs := ⟨_, rfl⟩
    have hql := rest_len k A
    rw [hqs] at hql
    have hqr : Ris k qs := by
      rw [← hqs]
      exact ⟨List.Pairwise.filter _ List.pairwise_lt_range, fun x hx => by simpa using (List.mem_filter.1 hx).1⟩
    have hqA : ∀ j, j < qs.length → qs.getD j 0 ∉ A := fun j hj => by
      have hm : qs.getD j 0 ∈ qs := by rw [List.getD, List.getElem?_eq_getElem hj]; exact List.getElem_mem hj
      generalize qs.getD j 0 = q at hm ⊢
      rw [← hqs] at hm
      simpa using (List.mem_filter.1 hm).2
    have hAm : ∀ i, i < A.length → A.getD i 0 ∈ A := fun i hi => by rw [List.getD, List.getElem?_eq_getElem hi]; exact List.getElem_mem hi
    have hBm : ∀ i, i < B.length → B.getD i 0 ∈ B := fun i hi => by rw [List.getD, List.getElem?_eq_getElem hi]; exact List.getElem_mem hi
    have hvB : ∀ i, i < B.length → v (A.length + i) = 0 := by
      refine cauchy_ker B.length (fun i => UInt8.ofNat (128 + (B.getD i 0 - k))) (fun j => UInt8.ofNat (qs.getD j 0)) (fun i => v (A.length + i)) (fun i j h1 h2 => ?_) (fun i j h1 h2 h3 => ?_) (fun i j h1 h2 h3 => ?_) (fun j hj => ?_)
      · have a := ris_lt hBr i h1
        have b := ris_lt hqr j (by omega)
        exact ofNat_ne _ _ (by omega) (by omega) (by omega)
      · have a := ris_lt hBr i h1
        have b := ris_lt hBr j h2
        have c := hB _ (hBm i h1)
        have e := hB _ (hBm j h2)
        have d := ris_ne hBr i j h1 h2 h3
        exact ofNat_ne _ _ (by omega) (by omega) (by omega)
      · have a := ris_lt hqr i (by omega)
        have b := ris_lt hqr j (by omega)
        have d := ris_ne hqr i j (by omega) (by omega) h3
        exact ofNat_ne _ _ (by omega) (by omega) d
      · have hq := ris_lt hqr j (by omega)
        have hs := hk' (qs.getD j 0) hq
        have hsp := Sx_split (fun i => mul (v i) (dm (ofD n k) (idx.getD i 0) (qs.getD j 0))) A.length B.length
        rw [hlen, hs] at hsp
        replace hs := hsp.symm
        have e0 : Sx A.length (fun i => mul (v i) (dm (ofD n k) (idx.getD i 0) (qs.getD j 0))) = 0 := Sx_nil _ _ (fun i hi => by
          have hai := hA _ (hAm i hi)
          rw [hgA i hi, ofD_at n k _ _ h1 h2 h3 (by omega) hq, if_pos hai, if_neg (fun e => hqA j (by omega) (by rw [e]; exact hAm i hi)), mul_comm, zero_mul])
        rw [e0, UInt8.zero_xor] at hs
        rw [← hs]
        apply Sx_congr
        intro i hi
        have hbi := hB _ (hBm i hi)
        rw [hgB i, ofD_at n k _ _ h1 h2 h3 (ris_lt hBr i hi) hq, if_neg (by omega)]
        rfl
    apply hvi
    by_cases hiA : i0 < A.length
    · have hai := hA _ (hAm i0 hiA)
      have hs := hk' (A.getD i0 0) hai
      rw [Sx_one k _ i0 hi0 (fun i hi hne => ?_)] at hs
      · rw [hgA i0 hiA, ofD_at n k _ _ h1 h2 h3 (by omega) hai, if_pos hai, if_pos rfl, mul_one] at hs
        exact hs
      · by_cases hia : i < A.length
        · have hai2 := hA _ (hAm i hia)
          rw [hgA i hia, ofD_at n k _ _ h1 h2 h3 (by omega) hai, if_pos hai2, if_neg (ris_ne hAr i0 i hiA hia (fun e => hne e.symm)), mul_comm, zero_mul]
        · have := hvB (i - A.length) (by omega)
          rw [show A.length + (i - A.length) = i by omega] at this
          rw [this, zero_mul]
    · have := hvB (i0 - A.length) (by omega)
      rwa [show A.length + (i0 - A.length) = i0 by omega] at this
end Go.Proofs.Ytblmblbkfdcbjab
