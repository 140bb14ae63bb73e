import Derived.Test.YtblmblbkfdcbjaaY6
import Derived.Test.YtblmblbkfdcbjaaY9
import Derived.Test.YtblmblbkfdcbjaaY10
import Derived.Test.YtblmblbkfdcbjaaY3
import Derived.Deep.Upon
import Derived.ArgAppend
/- Shards as sums of shards: sums of sums, the unit, and that any k of all rows have an inverse. -/
namespace Go.Proofs.Ytblmblbkfdcbjaa
open Go.RowKit
set_option linter.unusedSimpArgs false
set_option linter.unusedVariables false
theorem dm_mat (xs : List ByteArray) (i j : Nat) (hi : i < xs.length) (hs : ∀ x ∈ xs, x.size ≤ 64) : dm xs i j = mat (arrL xs) i j := by
  obtain ⟨x, hx⟩ : ∃ x, xs[i]? = some x := ⟨_, List.getElem?_eq_getElem hi⟩
  have hxs := hs x (List.mem_of_getElem? hx)
  rw [dm_at xs i j x hx]
  unfold mat
  rw [show (arrL xs).getD i zr = rowOf x from by rw [arrL, List.getD, List.getElem?_map, hx]; rfl]
  by_cases hj : j < x.size
  · rw [bt, List.getD, List.getD, rowOf_get x hxs j hj]
  · rw [bt_out x j (by omega)]
    by_cases h64 : j < 64
    · exact (rowOf_zc x x.size (Nat.le_refl _) hxs j (by omega) h64).symm
    · rw [List.getD, List.getElem?_eq_none (by rw [rowOf_len x hxs]; omega)]; rfl
theorem bt_mk (l : List UInt8) (j : Nat) : bt (mkT l) j = l.getD j 0 := by rw [bt, mkT_data]
theorem fl_getD (n : Nat) (f : Nat → UInt8) (p : Nat) (h : p < n) : (fl n f).getD p 0 = f p := by rw [List.getD, fl_get n f p h]; rfl
theorem mk_bt (x : ByteArray) (d : Nat) (h : x.size = d) : mkT (fl d (bt x)) = x := by
  have e : fl d (bt x) = x.data.toList := by
    apply List.ext_getElem?
    intro p
    by_cases hp : p < d
    · rw [fl_get d _ p hp, bt, List.getD]
      have : p < x.data.toList.length := by rw [Array.length_toList]; show p < x.size; omega
      rw [List.getElem?_eq_getElem this]; rfl
    · rw [List.getElem?_eq_none (by rw [fl_len]; omega), List.getElem?_eq_none (by rw [Array.length_toList]; show x.size ≤ p; omega)]
  rw [e]
  cases x; simp [mkT]
theorem mixL_at (rs xs : List ByteArray) (d i : Nat) (r : ByteArray) (h : rs[i]? = some r) : (mixL rs xs d)[i]? = some (mixT r xs d) := by rw [mixL, List.getElem?_map, h]; rfl
theorem dm_mix (rs xs : List ByteArray) (d i p : Nat) (hi : i < rs.length) (hp : p < d) : dm (mixL rs xs d) i p = Sx xs.length (fun j => mul (dm rs i j) (dm xs j p)) := by
  obtain ⟨r, hr⟩ : ∃ r, rs[i]? = some r := ⟨_, List.getElem?_eq_getElem hi⟩
  rw [dm_at _ i p _ (mixL_at rs xs d i r hr), mixT, bt_mk, fl_getD d _ p hp]
  show Sx _ _ = _
  apply Sx_congr
  intro j hj
  rw [dm_at rs i j r hr]
theorem mixL_ext (L M : List ByteArray) (d : Nat) (hl : L.length = M.length) (sL : ∀ x ∈ L, x.size = d) (sM : ∀ x ∈ M, x.size = d) (h : ∀ i p, i < L.length → p < d → dm L i p = dm M i p) : L = M := by
  apply List.ext_getElem hl
  intro i h1 h2
  have e1 := mk_bt L[i] d (sL _ (List.getElem_mem h1))
  have e2 := mk_bt M[i] d (sM _ (List.getElem_mem h2))
  rw [← e1, ← e2, fl_congr d (bt L[i]) (bt M[i]) (fun p hp => by
    have := h i p h1 hp
    rw [dm_at L i p L[i] (List.getElem?_eq_getElem h1), dm_at M i p M[i] (List.getElem?_eq_getElem h2)] at this
    exact this)]
theorem mixL_size (rs xs : List ByteArray) (d : Nat) : ∀ x ∈ mixL rs xs d, x.size = d := by
  intro x hx
  obtain ⟨r, _, rfl⟩ := List.mem_map.1 hx
  exact mixT_size _ _ _
/-- The product's numbers. -/
theorem dm_prod (A B : List ByteArray) (i j : Nat) (hi : i < A.length) (hj : j < wid B) (hA : isM A = true) (hB : isM B = true) (hw : wid A = B.length) : dm (pdX A B) i j = Sx B.length (fun l => mul (dm A i l) (dm B l j)) := by
  obtain ⟨a1, a2⟩ := isM_small A hA
  obtain ⟨b1, b2⟩ := isM_small B hB
  obtain ⟨_, q2, q3⟩ := isM_parts B hB
  have hbw := arrL_wide B b2
  have hbl : (arrL B).length = B.length := by simp [arrL]
  have hal : (arrL A).length = A.length := by simp [arrL]
  have e : pdX A B = txtL (wid B) (prodL (arrL A) (arrL B)) := if_pos ⟨hA, hB, hw⟩
  have hm := mat_prod (arrL A) (arrL B) hbw i j (by omega) (by omega)
  rw [hbl] at hm
  obtain ⟨r, hr⟩ : ∃ r, (prodL (arrL A) (arrL B))[i]? = some r := ⟨_, List.getElem?_eq_getElem (by rw [prodL_len]; omega)⟩
  have e2 : (pdX A B)[i]? = some (mkT (r.take (wid B))) := by rw [e, txtL, List.getElem?_map, hr]; rfl
  rw [dm_at _ i j _ e2, bt_mk, List.getD, List.getElem?_take, if_pos hj]
  have e3 : mat (prodL (arrL A) (arrL B)) i j = (r[j]?).getD 0 := by unfold mat; rw [List.getD, List.getD, hr]; rfl
  rw [← e3, hm]
  apply Sx_congr
  intro l hl
  rw [dm_mat A i l hi a2, dm_mat B l j hl b2]
/-- Sums of sums. -/
theorem mix_mix (A B X : List ByteArray) (d : Nat) (hA : isM A = true) (hB : isM B = true) (hw : wid A = B.length) (hX : wid B = X.length) : mixL (pdX A B) X d = mixL A (mixL B X d) d := by
  have e : pdX A B = txtL (wid B) (prodL (arrL A) (arrL B)) := if_pos ⟨hA, hB, hw⟩
  have hl : (pdX A B).length = A.length := by rw [e, txtL_len, prodL_len, arrL, List.length_map]
  apply mixL_ext _ _ d (by rw [mixL_len, mixL_len, hl]) (mixL_size _ _ _) (mixL_size _ _ _)
  intro i p hi hp
  rw [mixL_len, hl] at hi
  rw [dm_mix _ _ d i p (by rw [hl]; exact hi) hp, dm_mix _ _ d i p hi hp, mixL_len]
  have e1 : Sx X.length (fun j => mul (dm (pdX A B) i j) (dm X j p)) = Sx X.length (fun j => Sx B.length (fun l => mul (mul (dm A i l) (dm B l j)) (dm X j p))) := by
    apply Sx_congr
    intro j hj
    rw [dm_prod A B i j hi (by omega) hA hB hw, ← Sx_mul]
  have e2 : Sx B.length (fun l => mul (dm A i l) (dm (mixL B X d) l p)) = Sx B.length (fun l => Sx X.length (fun j => mul (mul (dm A i l) (dm B l j)) (dm X j p))) := by
    apply Sx_congr
    intro l hl
    rw [dm_mix B X d l p hl hp, mul_comm, ← Sx_mul]
    apply Sx_congr
    intro j hj
    rw [mul_comm, mul_assoc]
  rw [e1, e2, Sx_swap]
theorem mix_unit (X : List ByteArray) (k d : Nat) (hX : X.length = k) (h1 : 1 ≤ k) (h2 : k ≤ 64) (sX : ∀ x ∈ X, x.size = d) : mixL (txtL k (unL k)) X d = X := by
  have hl : (txtL k (unL k)).length = k := by rw [txtL_len, unL_len]
  apply mixL_ext _ _ d (by rw [mixL_len, hl, hX]) (mixL_size _ _ _) sX
  intro i p hi hp
  rw [mixL_len, hl] at hi
  rw [dm_mix _ _ d i p (by rw [hl]; exact hi) hp, hX]
  have hu : ∀ j, j < k → dm (txtL k (unL k)) i j = if j = i then 1 else 0 := fun j hj => by
    have e : (txtL k (unL k))[i]? = some (mkT ((ur i).take k)) := by rw [txtL, List.getElem?_map, unL_at k i hi]; rfl
    rw [dm_at _ i j _ e, bt_mk, List.getD, List.getElem?_take, if_pos hj]
    have := ur_getD i j (by omega) (by omega)
    rw [List.getD] at this
    exact this
  rw [Sx_one k _ i hi (fun j hj hne => by rw [hu j hj, if_neg hne, zero_mul]), hu i hi, if_pos rfl, one_mul]
/-- All rows: the unit's, then the parity's. -/
def ofD (n k : Nat) : List ByteArray := txtL k (unL k) ++ cyX (n - k) k
theorem ofD_len (n k : Nat) (h1 : 1 ≤ k) (h2 : k ≤ n) (h3 : n ≤ 64) : (ofD n k).length = n := by
  rw [ofD, List.length_append, txtL_len, unL_len, cyX_len _ _ (by omega) h1 (by omega)]; omega
theorem ofD_size (n k : Nat) (h1 : 1 ≤ k) (h2 : k ≤ n) (h3 : n ≤ 64) : ∀ r ∈ ofD n k, r.size = k := by
  intro r hr
  rw [ofD, List.mem_append] at hr
  rcases hr with h | h
  · obtain ⟨l, hl, rfl⟩ := List.mem_map.1 h
    rw [mkT_size, List.length_take, unL_wide k l hl]; omega
  · exact cyX_size _ _ (by omega) h1 (by omega) r h
theorem ofD_at (n k i j : Nat) (h1 : 1 ≤ k) (h2 : k ≤ n) (h3 : n ≤ 64) (hi : i < n) (hj : j < k) : dm (ofD n k) i j = if i < k then (if j = i then 1 else 0) else caV (i - k) j := by
  have hl : (txtL k (unL k)).length = k := by rw [txtL_len, unL_len]
  by_cases hik : i < k
  · rw [if_pos hik]
    have e : (ofD n k)[i]? = some (mkT ((ur i).take k)) := by rw [ofD, List.getElem?_append_left (by rw [hl]; exact hik), txtL, List.getElem?_map, unL_at k i hik]; rfl
    rw [dm_at _ i j _ e, bt_mk, List.getD, List.getElem?_take, if_pos hj]
    have := ur_getD i j (by omega) (by omega)
    rw [List.getD] at this
    exact this
  · rw [if_neg hik]
    have e : (ofD n k)[i]? = some (mkT ((caR k (i - k)).take k)) := by
      rw [ofD, List.getElem?_append_right (by rw [hl]; omega), hl, cyX_yes _ _ (by omega) (by omega) h1 (by omega), txtL, List.getElem?_map, caL_at _ _ _ (by omega)]; rfl
    rw [dm_at _ i j _ e, bt_mk, List.getD, List.getElem?_take, if_pos hj, caR, List.getElem?_map, List.getElem?_range (by omega), Option.map_some, Option.getD_some, if_pos hj]
theorem Sx_split (f : Nat → UInt8) (t : Nat) : ∀ m, Sx (t + m) f = Sx t f ^^^ Sx m (fun i => f (t + i))
  | 0 => by rw [Nat.add_zero, Sx, UInt8.xor_zero]
  | m + 1 => by rw [← Nat.add_assoc, Sx, Sx_split f t m, Sx, UInt8.xor_assoc]
/-- Rising numbers: those below k, then the others. -/
theorem ris_cut (k : Nat) : ∀ l : List Nat, l.Pairwise (· < ·) → ∃ A B, l = A ++ B ∧ (∀ a ∈ A, a < k) ∧ ∀ b ∈ B, k ≤ b
  | [], _ => ⟨[], [], rfl, fun a h => (by cases h), fun b h => (by cases h)⟩
  | x :: l, h => by
    rw [List.pairwise_cons] at h
    by_cases hx : x < k
    · obtain ⟨A, B, rfl, hA, hB⟩ := ris_cut k l h.2
      exact ⟨x :: A, B, rfl, fun a ha => by
        rcases List.mem_cons.1 ha with rfl | ha
        · exact hx
        · exact hA a ha, hB⟩
    · refine ⟨[], x :: l, rfl, fun a h => (by cases h), fun b hb => ?_⟩
      rcases List.mem_cons.1 hb with rfl | hb
      · omega
      · have := h.1 b hb; omega
theorem less_one (a : Nat) : ∀ l : List Nat, l.Pairwise (· < ·) → l.length ≤ (l.filter fun x => decide (x ≠ a)).length + 1
  | [], _ => by simp
  | b :: l, h => by
    rw [List.pairwise_cons] at h
    by_cases e : b = a
    · subst e
      have : (l.filter fun x => decide (x ≠ b)) = l := List.filter_eq_self.2 (fun x hx => by have := h.1 x hx; simp; omega)
      rw [List.filter_cons_of_neg (by simp), this, List.length_cons]
      omega
    · rw [List.filter_cons_of_pos (by simpa using e), List.length_cons, List.length_cons]
      have := less_one a l h.2
      omega
theorem rest_len (k : Nat) : ∀ A : List Nat, k ≤ ((List.range k).filter fun j => decide (j ∉ A)).length + A.length
  | [] => by
    rw [List.filter_eq_self.2 (fun x _ => by simp), List.length_range]; simp
  | a :: A => by
    have ih := rest_len k A
    have e : ((List.range k).filter fun j => decide (j ∉ a :: A)) = (((List.range k).filter fun j => decide (j ∉ A)).filter fun x => decide (x ≠ a)) := by
      rw [List.filter_filter]
      apply List.filter_congr
      intro x _
      simp [List.mem_cons, not_or]
    rw [e, List.length_cons]
    have := less_one a ((List.range k).filter fun j => decide (j ∉ A)) (List.Pairwise.filter _ List.pairwise_lt_range)
    omega
/-- Any k of all rows have an inverse. -/
def usd (n k : Nat) (idx : List Nat) : List ByteArray := idx.map fun i => (ofD n k).getD i (mkT [])
theorem usd_sq (n k : Nat) (idx : List Nat) (h1 : 1 ≤ k) (h2 : k ≤ n) (h3 : n ≤ 64) (hr : Ris n idx) (hl : idx.length = k) : SqM k (usd n k idx) := by
  refine ⟨by rw [usd, List.length_map, hl], fun x hx => ?_⟩
  obtain ⟨i, hi, rfl⟩ := List.mem_map.1 hx
  have hin := hr.2 i hi
  rw [List.getD, List.getElem?_eq_getElem (by rw [ofD_len n k h1 h2 h3]; exact hin)]
  exact ofD_size n k h1 h2 h3 _ (List.getElem_mem _)
theorem usd_at (n k : Nat) (idx : List Nat) (i j : Nat) (hi : i < idx.length) : dm (usd n k idx) i j = dm (ofD n k) (idx.getD i 0) j := by
  have e : idx.getD i 0 = idx[i] := by rw [List.getD, List.getElem?_eq_getElem hi]; rfl
  rw [dm, usd, List.getD, List.getElem?_map, List.getElem?_eq_getElem hi, e]
  rfl
theorem usd_ok (n k : Nat) (idx : List Nat) (h1 : 1 ≤ k) (h2 : k ≤ n) (h3 : n ≤ 64) (hr : Ris n idx) (hl : idx.length = k) : sng (redP (arrL (usd n k idx))) = false := by
  have hsq := usd_sq n k idx h1 h2 h3 hr hl
  have hk64 : k ≤ 64 := by omega
  cases hsg : sng (redP (arrL (usd n k idx))) with
  | false => rfl
  | true =>
    exfalso
    have hal : (arrL (usd n k idx)).length = k := hsq.len
    obtain ⟨v, ⟨i0, hi0, hvi⟩, hk⟩ := sng_ker _ (hsq.wide hk64) (by rw [hal]; exact hk64) hsg
    rw [hal] at hi0 hk
    have hk' : ∀ j, j < k → Sx k (fun i => mul (v i) (dm (ofD n k) (idx.getD i 0) j)) = 0 := fun j hj => by
      rw [← hk j (by omega)]
      apply Sx_congr
      intro i hi
      rw [← usd_at n k idx i j (by omega), dm_mat (usd n k idx) i j (by rw [hsq.1]; exact hi) (fun x hx => by rw [hsq.2 x hx]; exact hk64)]
    obtain ⟨A, B, hAB, hA, hB⟩ := ris_cut k idx hr.1
    have hlen : A.length + B.length = k := by rw [← hl, hAB, List.length_append]
    have hpw := hr.1
    rw [hAB, List.pairwise_append] at hpw
    have hgA : ∀ i, i < A.length → idx.getD i 0 = A.getD i 0 := fun i hi => by rw [hAB, List.getD, List.getElem?_append_left hi]; rfl
    have hgB : ∀ i, idx.getD (A.length + i) 0 = B.getD i 0 := fun i => by rw [hAB, List.getD, List.getElem?_append_right (by omega), Nat.add_sub_cancel_left]; rfl
    have hAr : Ris k A := ⟨hpw.1, hA⟩
    have hBr : Ris n B := ⟨hpw.2.1, fun x hx => hr.2 x (by rw [hAB]; exact List.mem_append_right _ hx)⟩
    obtain ⟨qs, hqs⟩ : ∃ qs, ((List.range k).filter fun j => decide (j ∉ A)) = qs := ⟨_, rfl⟩
    have hql := rest_len k A
    rw [hqs] at hql
    have hqr : Ris k qs := by
      rw [← hqs]
      exact ⟨List.Pairwise.filter _ List.pairwise_lt_range, fun x hx => by simpa using (List.mem_filter.1 hx).1⟩
    have hqA : ∀ j, j < qs.length → qs.getD j 0 ∉ A := fun j hj => by
      have hm : qs.getD j 0 ∈ qs := by rw [List.getD, List.getElem?_eq_getElem hj]; exact List.getElem_mem hj
      generalize qs.getD j 0 = q at hm ⊢
      rw [← hqs] at hm
      simpa using (List.mem_filter.1 hm).2
    have hAm : ∀ i, i < A.length → A.getD i 0 ∈ A := fun i hi => by rw [List.getD, List.getElem?_eq_getElem hi]; exact List.getElem_mem hi
    have hBm : ∀ i, i < B.length → B.getD i 0 ∈ B := fun i hi => by rw [List.getD, List.getElem?_eq_getElem hi]; exact List.getElem_mem hi
    have hvB : ∀ i, i < B.length → v (A.length + i) = 0 := by
      refine cauchy_ker B.length (fun i => UInt8.ofNat (128 + (B.getD i 0 - k))) (fun j => UInt8.ofNat (qs.getD j 0)) (fun i => v (A.length + i)) (fun i j h1 h2 => ?_) (fun i j h1 h2 h3 => ?_) (fun i j h1 h2 h3 => ?_) (fun j hj => ?_)
      · have a := ris_lt hBr i h1
        have b := ris_lt hqr j (by omega)
        exact ofNat_ne _ _ (by omega) (by omega) (by omega)
      · have a := ris_lt hBr i h1
        have b := ris_lt hBr j h2
        have c := hB _ (hBm i h1)
        have e := hB _ (hBm j h2)
        have d := ris_ne hBr i j h1 h2 h3
        exact ofNat_ne _ _ (by omega) (by omega) (by omega)
      · have a := ris_lt hqr i (by omega)
        have b := ris_lt hqr j (by omega)
        have d := ris_ne hqr i j (by omega) (by omega) h3
        exact ofNat_ne _ _ (by omega) (by omega) d
      · have hq := ris_lt hqr j (by omega)
        have hs := hk' (qs.getD j 0) hq
        have hsp := Sx_split (fun i => mul (v i) (dm (ofD n k) (idx.getD i 0) (qs.getD j 0))) A.length B.length
        rw [hlen, hs] at hsp
        replace hs := hsp.symm
        have e0 : Sx A.length (fun i => mul (v i) (dm (ofD n k) (idx.getD i 0) (qs.getD j 0))) = 0 := Sx_nil _ _ (fun i hi => by
          have hai := hA _ (hAm i hi)
          rw [hgA i hi, ofD_at n k _ _ h1 h2 h3 (by omega) hq, if_pos hai, if_neg (fun e => hqA j (by omega) (by rw [e]; exact hAm i hi)), mul_comm, zero_mul])
        rw [e0, UInt8.zero_xor] at hs
        rw [← hs]
        apply Sx_congr
        intro i hi
        have hbi := hB _ (hBm i hi)
        rw [hgB i, ofD_at n k _ _ h1 h2 h3 (ris_lt hBr i hi) hq, if_neg (by omega)]
        rfl
    apply hvi
    by_cases hiA : i0 < A.length
    · have hai := hA _ (hAm i0 hiA)
      have hs := hk' (A.getD i0 0) hai
      rw [Sx_one k _ i0 hi0 (fun i hi hne => ?_)] at hs
      · rw [hgA i0 hiA, ofD_at n k _ _ h1 h2 h3 (by omega) hai, if_pos hai, if_pos rfl, mul_one] at hs
        exact hs
      · by_cases hia : i < A.length
        · have hai2 := hA _ (hAm i hia)
          rw [hgA i hia, ofD_at n k _ _ h1 h2 h3 (by omega) hai, if_pos hai2, if_neg (ris_ne hAr i0 i hiA hia (fun e => hne e.symm)), mul_comm, zero_mul]
        · have := hvB (i - A.length) (by omega)
          rw [show A.length + (i - A.length) = i by omega] at this
          rw [this, zero_mul]
    · have := hvB (i0 - A.length) (by omega)
      rwa [show A.length + (i0 - A.length) = i0 by omega] at this
end Go.Proofs.Ytblmblbkfdcbjaa
/- Which shards are used; the shards made again. -/
namespace Go.Proofs.Ytblmblbkfdcbjaa
open Go.RowKit
set_option linter.unusedSimpArgs false
set_option linter.unusedVariables false
/-- Those of a list for whose numbers p says so; how many of the first e. -/
def pkd (p : Nat → Bool) (X : List ByteArray) : List ByteArray := ((List.range X.length).filter p).map fun i => X.getD i (mkT [])
def cnt (p : Nat → Bool) (e : Nat) : Nat := ((List.range e).filter p).length
theorem pkd_len (p : Nat → Bool) (X : List ByteArray) : (pkd p X).length = cnt p X.length := by rw [pkd, List.length_map, cnt]
theorem cnt_next (p : Nat → Bool) (e : Nat) : cnt p (e + 1) = cnt p e + if p e then 1 else 0 := by
  rw [cnt, cnt, List.range_succ, List.filter_append, List.length_append]
  cases h : p e <;> simp [h]
theorem cnt_le (p : Nat → Bool) (e : Nat) : cnt p e ≤ e := by
  have := List.length_filter_le p (List.range e)
  rwa [List.length_range] at this
theorem cnt_mono (p : Nat → Bool) (e : Nat) : ∀ m, cnt p e ≤ cnt p (e + m)
  | 0 => Nat.le_refl _
  | m + 1 => by
    rw [← Nat.add_assoc, cnt_next]
    have := cnt_mono p e m
    omega
/-- The first i numbers' part of what is picked. -/
def pkK (p : Nat → Bool) (X : List ByteArray) (i : Nat) : List ByteArray := ((List.range i).filter p).map fun j => X.getD j (mkT [])
theorem pkK_len (p : Nat → Bool) (X : List ByteArray) (i : Nat) : (pkK p X i).length = cnt p i := by rw [pkK, List.length_map, cnt]
theorem pkK_yes (p : Nat → Bool) (X : List ByteArray) (i : Nat) (x : ByteArray) (hx : X[i]? = some x) (h : p i = true) : pkK p X (i + 1) = pkK p X i ++ [x] := by
  rw [pkK, pkK, List.range_succ, List.filter_append, List.map_append]
  congr 1
  simp [h, hx]
theorem pkK_no (p : Nat → Bool) (X : List ByteArray) (i : Nat) (h : p i = false) : pkK p X (i + 1) = pkK p X i := by
  rw [pkK, pkK, List.range_succ, List.filter_append, List.map_append]
  simp [h]
theorem pkK_all (p : Nat → Bool) (X : List ByteArray) : pkK p X X.length = pkd p X := rfl
/-- The numbers that are used. -/
def idxU (p : Nat → Bool) (n k : Nat) : List Nat := ((List.range n).filter p).take k
theorem idx_ris (p : Nat → Bool) (n k : Nat) : Ris n (idxU p n k) := by
  refine ⟨List.Pairwise.sublist (List.take_sublist _ _) (List.Pairwise.filter _ List.pairwise_lt_range), fun x hx => ?_⟩
  have := (List.mem_filter.1 (List.mem_of_mem_take hx)).1
  simpa using this
theorem idx_len (p : Nat → Bool) (n k : Nat) (h : k ≤ cnt p n) : (idxU p n k).length = k := by
  rw [idxU, List.length_take]; unfold cnt at h; omega
theorem used_take (p : Nat → Bool) (e n k : Nat) (he : cnt p e = k) (hn : k ≤ cnt p n) : ((List.range n).filter fun i => decide (i < e) && p i) = idxU p n k := by
  unfold idxU
  by_cases hen : e ≤ n
  · obtain ⟨m, rfl⟩ : ∃ m, n = e + m := ⟨n - e, by omega⟩
    rw [List.range_add, List.filter_append, List.filter_append]
    have e1 : ((List.range e).filter fun i => decide (i < e) && p i) = (List.range e).filter p := List.filter_congr (fun x hx => by
      have : x < e := by simpa using hx
      simp [this])
    have e2 : (((List.range m).map fun x => e + x).filter fun i => decide (i < e) && p i) = [] := List.filter_eq_nil_iff.2 (fun x hx => by
      obtain ⟨y, _, rfl⟩ := List.mem_map.1 hx
      have : ¬ e + y < e := by omega
      simp [this])
    rw [e1, e2, List.append_nil]
    unfold cnt at he
    rw [List.take_left' he]
  · obtain ⟨m, hm⟩ : ∃ m, e = n + m := ⟨e - n, by omega⟩
    have h1 := cnt_mono p n m
    rw [← hm, he] at h1
    have e1 : ((List.range n).filter fun i => decide (i < e) && p i) = (List.range n).filter p := List.filter_congr (fun x hx => by
      have h2 : x < n := by simpa using hx
      have h3 : x < e := by omega
      simp [h3])
    rw [e1, List.take_of_length_le]
    unfold cnt at h1
    exact h1
theorem pkd_used (p : Nat → Bool) (e n k : Nat) (h1 : 1 ≤ k) (h2 : k ≤ n) (h3 : n ≤ 64) (he : cnt p e = k) (hn : k ≤ cnt p n) : pkd (fun i => decide (i < e) && p i) (ofD n k) = usd n k (idxU p n k) := by
  rw [pkd, ofD_len n k h1 h2 h3, used_take p e n k he hn, usd]
theorem pkd_take (p : Nat → Bool) (X : List ByteArray) (k : Nat) : (pkd p X).take k = (idxU p X.length k).map fun i => X.getD i (mkT []) := by
  rw [pkd, idxU, List.map_take]
/-- The data that go with k shards; all shards. -/
def daX (p : Nat → Bool) (X : List ByteArray) (k d : Nat) : List ByteArray := mixL (ivX (usd X.length k (idxU p X.length k))) ((pkd p X).take k) d
def reX (p : Nat → Bool) (X : List ByteArray) (k d : Nat) : List ByteArray := daX p X k d ++ mixL (cyX (X.length - k) k) (daX p X k d) d
theorem ofD_isM (n k : Nat) (h1 : 1 ≤ k) (h2 : k ≤ n) (h3 : n ≤ 64) : isM (ofD n k) = true ∧ wid (ofD n k) = k := by
  have hl := ofD_len n k h1 h2 h3
  have hs := ofD_size n k h1 h2 h3
  have hw : wid (ofD n k) = k := by
    rw [wid, List.getElem?_eq_getElem (by rw [hl]; omega)]
    exact hs _ (List.getElem_mem _)
  exact ⟨isM_yes _ (by rw [hl]; omega) (by rw [hw]; omega) (fun i x hx => by rw [hw]; exact hs x (List.mem_of_getElem? hx)), hw⟩
theorem used_inv (p : Nat → Bool) (n k : Nat) (h1 : 1 ≤ k) (h2 : k ≤ n) (h3 : n ≤ 64) (hn : k ≤ cnt p n) :
    SqM k (ivX (usd n k (idxU p n k))) ∧ ivE (usd n k (idxU p n k)) = 0 := by
  have hsq := usd_sq n k _ h1 h2 h3 (idx_ris p n k) (idx_len p n k hn)
  have hs := usd_ok n k _ h1 h2 h3 (idx_ris p n k) (idx_len p n k hn)
  refine ⟨(undo _ k hsq h1 (by omega) hs).1, ?_⟩
  obtain ⟨hm, hw⟩ := hsq.isM h1 (by omega)
  unfold ivE
  rw [hm, hw, hsq.1, decide_eq_true rfl, hs]; rfl
theorem reX_prod (p : Nat → Bool) (X : List ByteArray) (n k d : Nat) (hX : X.length = n) (h1 : 1 ≤ k) (h2 : k ≤ n) (h3 : n ≤ 64) (hn : k ≤ cnt p n) :
    mixL (pdX (ofD n k) (ivX (usd n k (idxU p n k)))) ((pkd p X).take k) d = reX p X k d := by
  obtain ⟨hsq, _⟩ := used_inv p n k h1 h2 h3 hn
  obtain ⟨hm, hw⟩ := hsq.isM h1 (by omega)
  obtain ⟨om, ow⟩ := ofD_isM n k h1 h2 h3
  have hS : ((pkd p X).take k).length = k := by rw [List.length_take, pkd_len, hX]; omega
  rw [mix_mix _ _ _ d om hm (by rw [ow, hsq.1]) (by rw [hw, hS]), reX, daX, hX]
  have hu := mix_unit (mixL (ivX (usd n k (idxU p n k))) ((pkd p X).take k) d) k d (by rw [mixL_len, hsq.1]) h1 (by omega) (mixL_size _ _ _)
  rw [ofD]
  unfold mixL at hu ⊢
  rw [List.map_append]
  congr 1
end Go.Proofs.Ytblmblbkfdcbjaa
/- A list of texts appended to a row of texts of the call's own; such a row as a block. -/
namespace Go.Proofs.Ytblmblbkfdcbjaa
open Go.RowKit Go.Deep
set_option linter.unusedSimpArgs false
set_option linter.unusedVariables false
theorem one_sv (l : List ByteArray) : ∀ u ∈ sv l, u.oneCell' = true := by
  intro u hu
  obtain ⟨x, _, rfl⟩ := List.mem_map.1 hu
  rfl
theorem gr_refl (w : World) (r : Option Nat) : w.grownBy w r := ⟨rfl, rfl, rfl, Nat.le_refl _, fun _ _ _ => rfl⟩
theorem app_txts (w : World) (B : Nat) (v : Value) (ks xs : List ByteArray) (k n c : Nat) (hk : ks.length = k) (hn : xs.length = n) (hown : w.ownsRow B 9 1 v k (sv ks)) (hB : B ≤ w.heap.size)
    (ad : Option Addr) (ht : TxL w ad xs) (hb : (k + n) * 16 ≤ 140737488355328) (ty : TypeId) :
    ∃ v' w', (Builtin.append_ #[22, 22] ty #[v, .slice ad n c]).run Try.prog w = .ok v' w' ∧ w'.ownsRow B 9 1 v' (k + n) (sv (ks ++ xs)) ∧ w.grownBy w' v.ownBlock := by
  obtain ⟨i0, hi, hz0, hz1, hz2⟩ := info_parts inf_str
  cases xs with
  | nil =>
    obtain rfl : n = 0 := by simpa using hn.symm
    obtain ⟨a, cp, rfl, hle⟩ : ∃ a cp, v = .slice a k cp ∧ k ≤ cp := by
      rcases hown.2 with ⟨rfl, h0⟩ | ⟨g, cap, cur, rfl, _, _, h, _⟩
      · exact ⟨none, 0, by rw [h0], by omega⟩
      · exact ⟨_, _, rfl, h⟩
    have hsrc : Src Try.prog i0.size 22 (.slice ad 0 c) 0 [] w := by
      cases ad with
      | none => exact Src.ofNil w Try.underlying22 c
      | some q => exact Src.ofSlice w Try.underlying22 q 0 c [] (by simp) (fun j u h => by simp at h) (fun _ h => by cases h)
    have h := run_append_nothing (P := Try.prog) w 22 22 ty 9 i0 Try.underlying22 hi a k cp hle (.slice ad 0 c) hsrc
    exact ⟨_, _, h, by rw [List.append_nil]; exact hown, gr_refl _ _⟩
  | cons x0 xs0 =>
    obtain ⟨g, o, rfl, hlt, _⟩ := ht 0 x0 rfl
    have hnews : ∀ j u, (sv (x0 :: xs0))[j]? = some u → w.cell? ((⟨g, o, none⟩ : Addr).add j) = some u := by
      intro j u hj
      rw [sv, List.getElem?_map] at hj
      obtain ⟨x, hx, rfl⟩ := Option.map_eq_some_iff.1 hj
      obtain ⟨g', o', e, _, hc⟩ := ht j x hx
      cases e
      rw [WideShapes.add_plain]
      exact hc
    obtain ⟨v', w', h1, h2, h3, _⟩ := run_append_own (P := Try.prog) (w := w) B 22 ty 9 i0 (.string ⟨#[]⟩) 1 16 Try.underlying22 hi hz0 hz1 hz2 rfl (by decide) v k (sv ks) hown ⟨g, o, none⟩ n c (sv (x0 :: xs0)) (by rw [sv, List.length_map, hn, Nat.mul_one]) hnews (one_sv _) (by unfold maxLen; omega) hb hB
    exact ⟨v', w', h1, by rw [sv_append]; exact h2, h3⟩
theorem wpList_append_txts {ops : Array Oper} {rest : List Oper} {o : Oper} {a : Act} {Q : Exit → Act → World → Prop} (w : World)
    (hg : o.guard = none) (s x : Operand) (hop : o.op = Op.call { callee := Callee.builtin Builtin.append, args := #[s, x], argTypes := #[22, 22] })
    (B : Nat) (v : Value) (ks xs : List ByteArray) (k n c : Nat) (hs : a.eval s = v) (hk : ks.length = k) (hn : xs.length = n) (hown : w.ownsRow B 9 1 v k (sv ks)) (hB : B ≤ w.heap.size)
    (ad : Option Addr) (hx : a.eval x = .slice ad n c) (ht : TxL w ad xs) (hb : (k + n) * 16 ≤ 140737488355328)
    (hK : ∀ v' w', w'.ownsRow B 9 1 v' (k + n) (sv (ks ++ xs)) → w.grownBy w' v.ownBlock → wpList Try.prog ops Q rest (a.put o.dst v') w') :
    wpList Try.prog ops Q (o :: rest) a w := by
  refine wpList_plain hg fun K hK' => ?_
  obtain ⟨v', w', hrun, r1, r2⟩ := app_txts w B v ks xs k n c hk hn hown hB ad ht hb o.type
  unfold Oper.wp
  simp [execOp, hop, resolve, invoke, builtin, hs, hx, hrun, Result.andThen]
  exact hK' _ _ (hK v' w' r1 r2)
/-- A row of texts of the call's own, once one lies in it. -/
theorem own_block_at {w : World} {B k : Nat} {v : Value} {xs : List ByteArray} (h : w.ownsRow B 9 1 v (k + 1) (sv xs)) :
    ∃ g cap cur, v = .slice (some ⟨g, 0, none⟩) (k + 1) cap ∧ B ≤ g ∧ Bk w g cur 9 ∧ k + 1 ≤ cap ∧ cap ≤ maxLen ∧ ∀ (j : Nat) (x : ByteArray), xs[j]? = some x → cur[j]? = some (.string x) := by
  rcases h.2 with ⟨_, h0⟩ | ⟨g, cap, cur, rfl, hle, hgc, h1, h2, h3, h4⟩
  · omega
  · refine ⟨g, cap, cur, rfl, hle, hgc, h1, h2, fun j x hx => ?_⟩
    have hl := h.1
    rw [sv, List.length_map] at hl
    have hj : j < k + 1 := by have := (List.getElem?_eq_some_iff.1 hx).1; omega
    have e := congrArg (·[j]?) h4
    rw [Nat.mul_one] at e
    simp only [List.getElem?_take, if_pos hj, sv, List.getElem?_map, hx, Option.map_some] at e
    rw [← Array.getElem?_toList]; exact e
end Go.Proofs.Ytblmblbkfdcbjaa
/- Which shards are there, and which are used: the closures, shards.picked. -/
namespace Go.Proofs.Ytblmblbkfdcbjaa
open Go.RowKit
set_option linter.unusedSimpArgs false
set_option linter.unusedVariables false
/-- Truths as cells. -/
def bs (l : List Bool) : Array Value := (l.map fun x => Value.bool x).toArray
theorem bs_get (l : List Bool) (j : Nat) : (bs l)[j]? = (l[j]?).map fun x => Value.bool x := by simp [bs]
theorem bs_size (l : List Bool) : (bs l).size = l.length := by simp [bs]
theorem bs_set (l : List Bool) (j : Nat) (x : Bool) : (bs l).setIfInBounds j (.bool x) = bs (l.set j x) := by
  simp only [bs, List.setIfInBounds_toArray, List.map_set]
theorem bs_one (l : List Bool) : (bs l).all (·.oneCell') = true := by simp [bs, List.all_eq_true, Value.oneCell']
def nt (l : List Bool) (i : Nat) : Bool := !(l.getD i false)
theorem bs_cell {w : World} {g : Nat} {l : List Bool} {T : TypeId} (h : Bk w g (bs l) T) (hl : l.length = 64) (i : Nat) (hi : i < 64) : w.cell? ⟨g, i, none⟩ = some (.bool (!(nt l i))) := by
  rw [h.cell, bs_get, List.getElem?_eq_getElem (by omega), nt, List.getD, List.getElem?_eq_getElem (by omega)]
  simp
theorem there_any (g i : Nat) (l : List Bool) (T : TypeId) (w : World) (hB : Bk w g (bs l) T) (hl : l.length = 64) (hi : i < 64) :
    Calls Try.prog 52 #[.int .i64 i, .pointer (some ⟨g, 0, none⟩)] w fun e w' => e = .returned (.bool (nt l i)) ∧ w' = w := by
  have hc := bs_cell hB hl i hi
  obtain ⟨b, hb⟩ : ∃ b, nt l i = b := ⟨_, rfl⟩
  rw [hb] at hc ⊢
  clear hB hl hb
  go_enter Try.func52, Try.ntmps52
  go_wp2
  go_ret
  exact ⟨by simp, rfl⟩
theorem used_any (g ge i e : Nat) (l : List Bool) (T : TypeId) (w : World) (hB : Bk w g (bs l) T) (hl : l.length = 64) (hi : i < 64) (he : w.cell? ⟨ge, 0, none⟩ = some (.int .i64 e)) (heb : e ≤ 64) :
    Calls Try.prog 64 #[.int .i64 i, .pointer (some ⟨ge, 0, none⟩), .pointer (some ⟨g, 0, none⟩)] w fun e2 w' => e2 = .returned (.bool (decide (i < e) && nt l i)) ∧ w' = w := by
  have hc := bs_cell hB hl i hi
  obtain ⟨b, hb⟩ : ∃ b, nt l i = b := ⟨_, rfl⟩
  rw [hb] at hc ⊢
  clear hB hl hb
  by_cases h : i < e
  · rw [decide_eq_true h]
    have hz : (i : Int) < (e : Nat) := by omega
    go_enter Try.func64, Try.ntmps64
    go_wp2
    go_ret
    exact ⟨by simp, rfl⟩
  · rw [decide_eq_false h]
    have hz : ¬ (i : Int) < (e : Nat) := by omega
    go_enter Try.func64, Try.ntmps64
    go_wp2
    go_ret
    exact ⟨by simp, rfl⟩
theorem make_cap (n : Nat) (hn : n ≤ 64) (u : World) : (Instr.makeSlice 22 (.int .i64 0) (.int .i64 n)).run Try.prog u =
    .ok (.slice (some ⟨u.heap.size, 0, none⟩) 0 n) (u.alloc (.cells (txc (List.replicate n (mkT []))) 9)) := by
  obtain ⟨i0, hi, hz0, hz1, hz2⟩ := info_parts infoS
  have h := run_make (P := Try.prog) u 22 9 i0 (.string (mkT [])) Try.underlying22 hi hz0 .i64 .i64 (0 : Int) (n : Int) (by omega) (by omega) (by rw [hz2]; omega) (by omega)
  rw [Int.toNat_natCast, hz1, Nat.mul_one] at h
  rw [h, ← made_txt]; rfl
set_option maxHeartbeats 1000000 in
set_option maxRecDepth 100000 in
theorem picked1_any (a : Option Addr) (c n : Nat) (xs : List ByteArray) (p : Nat → Bool) (g1 : Nat) (w : World) (hx : TxL w a xs) (nx : xs.length = n) (hn : n ≤ 64)
    (hf : ∀ W, Below w.heap.size w W → ∀ i : Nat, i < n → Calls Try.prog 52 #[.int .i64 i, .pointer (some ⟨g1, 0, none⟩)] W fun e w' => e = .returned (.bool (p i)) ∧ w' = W) :
    Calls Try.prog 51 #[.slice a n c, .func (.func 52) #[] #[.pointer (some ⟨g1, 0, none⟩)]] w fun e w' => ∃ v, e = .returned v ∧ w'.ownsRow w.heap.size 9 1 v (pkd p xs).length (sv (pkd p xs)) ∧ Below w.heap.size w w' := by
  have HX : Hid (TxL w a xs) := hx
  have NX : Hid (xs.length = n) := nx
  have HF : Hid _ := hf
  have hmk := make_cap n hn
  obtain ⟨i0, hi, hz0, hz1, hz2⟩ := info_parts inf_str
  clear hx nx hf
  have HO0 : Hid ((w.alloc (.cells (txc (List.replicate n (mkT []))) 9)).ownsRow w.heap.size 9 1 (.slice (some ⟨w.heap.size, 0, none⟩) 0 n) 0 []) := World.ownsRow_made (size := 1) w _ n (Nat.le_refl _) (by unfold maxLen; omega) (by rw [txc_size, List.length_replicate, Nat.mul_one])
  go_enter Try.func51, Try.ntmps51
  go_wp2_with fail
  go_loopw [5, 13] (fun v t wr => ∃ i m : Nat, i ≤ n ∧ t = .int .i64 i ∧ m ≤ 64 ∧ Hid ((pkK p xs i).length = m) ∧ Hid (wr.ownsRow w.heap.size 9 1 v m (sv (pkK p xs i))) ∧ Hid (Below w.heap.size w wr)) (fun _ t _ => n - (intOf t).toNat)
  case atStart => exact ⟨0, 0, by omega, rfl, by omega, rfl, HO0.out, (Below.refl _ _).alloc (Nat.le_refl _) _⟩
  case round =>
    clear HO0
    obtain ⟨i, m, hin, rfl, hm, HL, HO, HB⟩ := hrel
    have hzr : w.heap.size ≤ wr.heap.size := HB.out.size
    by_cases hlt : i < n
    · have hiz : (i : Int) < (n : Nat) := by omega
      obtain ⟨x, hx⟩ : ∃ x, xs[i]? = some x := ⟨_, List.getElem?_eq_getElem (by rw [NX.out]; exact hlt)⟩
      have HXI : Hid (xs[i]? = some x) := hx
      obtain ⟨ga, oa, rfl, hga, hc⟩ := (HX.out.below HB.out) i x hx
      clear hx
      go_wp2_with fail
      refine Calls.mono (HF.out wr HB.out i hlt) ?_
      rintro e w1 ⟨rfl, hw⟩
      subst hw
      have hcl := pkK_len p xs i
      have hcn := pkK_len p xs (i + 1)
      have hcb := cnt_le p (i + 1)
      rw [HL.out] at hcl
      cases hp : p i with
      | true =>
        have HN : Hid (sv (pkK p xs (i + 1)) = sv (pkK p xs i) ++ [.string x]) := by show _ = _; rw [pkK_yes p xs i x HXI.out hp, sv_append]; rfl
        have HLn : Hid ((pkK p xs (i + 1)).length = m + 1) := by show _ = m + 1; rw [pkK_yes p xs i x HXI.out hp, List.length_append, HL.out]; rfl
        have hm1 : m + 1 ≤ 64 := by have := HLn.out; omega
        clear hcl hcn hcb hp
        go_wp2_with (at_builtin; refine wpList_append_own _ rfl _ _ 22 rfl w.heap.size 9 i0 (.string ⟨#[]⟩) 1 16 Try.underlying22 hi hz0 hz1 hz2 rfl (by decide) _ _ _ rfl (HO.out.alloc _) ⟨w1.heap.size, 0, none⟩ 1 1 [.string x] rfl rfl (news_one _ _ _) (one_str _) (by unfold maxLen; omega) (by omega) (by simp; omega) ?_)
        intro v' w7 hown1 hgrow _
        have HO7 : Hid (w7.ownsRow w.heap.size 9 1 v' (m + 1) (sv (pkK p xs (i + 1)))) := by
          show World.ownsRow _ _ _ _ _ _ _
          rw [HN.out]; exact hown1
        have HB7 : Hid (Below w.heap.size w w7) := apn_bel HB.out hzr HO.out hgrow
        clear hown1 hgrow HO HB
        go_wp2
        go_roundw
        case rel => exact ⟨i + 1, m + 1, by omega, by go_num, hm1, HLn.out, HO7.out, HB7.out⟩
        case measure => simp [intOf]; omega
      | false =>
        have HN : Hid (pkK p xs (i + 1) = pkK p xs i) := pkK_no p xs i hp
        have HO7 : Hid (w1.ownsRow w.heap.size 9 1 u5 m (sv (pkK p xs (i + 1)))) := by
          show World.ownsRow _ _ _ _ _ _ _
          rw [HN.out]; exact HO.out
        have HLn : Hid ((pkK p xs (i + 1)).length = m) := by show _ = m; rw [HN.out, HL.out]
        clear hcl hcn hcb hp
        go_wp2
        go_roundw
        case rel => exact ⟨i + 1, m, by omega, by go_num, hm, HLn.out, HO7.out, HB.out⟩
        case measure => simp [intOf]; omega
    · have hiz : ¬ (i : Int) < (n : Nat) := by omega
      have hin2 : i = n := by omega
      have HOn : Hid (wr.ownsRow w.heap.size 9 1 u5 (pkd p xs).length (sv (pkd p xs))) := by
        have h := HO.out
        rw [← HL.out, hin2, ← NX.out, pkK_all] at h
        exact h
      clear hin2
      go_wp2
      go_ret
      exact ⟨_, rfl, HOn.out, HB.out⟩
set_option maxHeartbeats 1000000 in
set_option maxRecDepth 100000 in
theorem picked2_any (a : Option Addr) (c n : Nat) (xs : List ByteArray) (p : Nat → Bool) (g1 g2 : Nat) (w : World) (hx : TxL w a xs) (nx : xs.length = n) (hn : n ≤ 64)
    (hf : ∀ W, Below w.heap.size w W → ∀ i : Nat, i < n → Calls Try.prog 64 #[.int .i64 i, .pointer (some ⟨g1, 0, none⟩), .pointer (some ⟨g2, 0, none⟩)] W fun e w' => e = .returned (.bool (p i)) ∧ w' = W) :
    Calls Try.prog 51 #[.slice a n c, .func (.func 64) #[] #[.pointer (some ⟨g1, 0, none⟩), .pointer (some ⟨g2, 0, none⟩)]] w fun e w' => ∃ v, e = .returned v ∧ w'.ownsRow w.heap.size 9 1 v (pkd p xs).length (sv (pkd p xs)) ∧ Below w.heap.size w w' := by
  have HX : Hid (TxL w a xs) := hx
  have NX : Hid (xs.length = n) := nx
  have HF : Hid _ := hf
  have hmk := make_cap n hn
  obtain ⟨i0, hi, hz0, hz1, hz2⟩ := info_parts inf_str
  clear hx nx hf
  have HO0 : Hid ((w.alloc (.cells (txc (List.replicate n (mkT []))) 9)).ownsRow w.heap.size 9 1 (.slice (some ⟨w.heap.size, 0, none⟩) 0 n) 0 []) := World.ownsRow_made (size := 1) w _ n (Nat.le_refl _) (by unfold maxLen; omega) (by rw [txc_size, List.length_replicate, Nat.mul_one])
  go_enter Try.func51, Try.ntmps51
  go_wp2_with fail
  go_loopw [5, 13] (fun v t wr => ∃ i m : Nat, i ≤ n ∧ t = .int .i64 i ∧ m ≤ 64 ∧ Hid ((pkK p xs i).length = m) ∧ Hid (wr.ownsRow w.heap.size 9 1 v m (sv (pkK p xs i))) ∧ Hid (Below w.heap.size w wr)) (fun _ t _ => n - (intOf t).toNat)
  case atStart => exact ⟨0, 0, by omega, rfl, by omega, rfl, HO0.out, (Below.refl _ _).alloc (Nat.le_refl _) _⟩
  case round =>
    clear HO0
    obtain ⟨i, m, hin, rfl, hm, HL, HO, HB⟩ := hrel
    have hzr : w.heap.size ≤ wr.heap.size := HB.out.size
    by_cases hlt : i < n
    · have hiz : (i : Int) < (n : Nat) := by omega
      obtain ⟨x, hx⟩ : ∃ x, xs[i]? = some x := ⟨_, List.getElem?_eq_getElem (by rw [NX.out]; exact hlt)⟩
      have HXI : Hid (xs[i]? = some x) := hx
      obtain ⟨ga, oa, rfl, hga, hc⟩ := (HX.out.below HB.out) i x hx
      clear hx
      go_wp2_with fail
      refine Calls.mono (HF.out wr HB.out i hlt) ?_
      rintro e w1 ⟨rfl, hw⟩
      subst hw
      have hcl := pkK_len p xs i
      have hcn := pkK_len p xs (i + 1)
      have hcb := cnt_le p (i + 1)
      rw [HL.out] at hcl
      cases hp : p i with
      | true =>
        have HN : Hid (sv (pkK p xs (i + 1)) = sv (pkK p xs i) ++ [.string x]) := by show _ = _; rw [pkK_yes p xs i x HXI.out hp, sv_append]; rfl
        have HLn : Hid ((pkK p xs (i + 1)).length = m + 1) := by show _ = m + 1; rw [pkK_yes p xs i x HXI.out hp, List.length_append, HL.out]; rfl
        have hm1 : m + 1 ≤ 64 := by have := HLn.out; omega
        clear hcl hcn hcb hp
        go_wp2_with (at_builtin; refine wpList_append_own _ rfl _ _ 22 rfl w.heap.size 9 i0 (.string ⟨#[]⟩) 1 16 Try.underlying22 hi hz0 hz1 hz2 rfl (by decide) _ _ _ rfl (HO.out.alloc _) ⟨w1.heap.size, 0, none⟩ 1 1 [.string x] rfl rfl (news_one _ _ _) (one_str _) (by unfold maxLen; omega) (by omega) (by simp; omega) ?_)
        intro v' w7 hown1 hgrow _
        have HO7 : Hid (w7.ownsRow w.heap.size 9 1 v' (m + 1) (sv (pkK p xs (i + 1)))) := by
          show World.ownsRow _ _ _ _ _ _ _
          rw [HN.out]; exact hown1
        have HB7 : Hid (Below w.heap.size w w7) := apn_bel HB.out hzr HO.out hgrow
        clear hown1 hgrow HO HB
        go_wp2
        go_roundw
        case rel => exact ⟨i + 1, m + 1, by omega, by go_num, hm1, HLn.out, HO7.out, HB7.out⟩
        case measure => simp [intOf]; omega
      | false =>
        have HN : Hid (pkK p xs (i + 1) = pkK p xs i) := pkK_no p xs i hp
        have HO7 : Hid (w1.ownsRow w.heap.size 9 1 u5 m (sv (pkK p xs (i + 1)))) := by
          show World.ownsRow _ _ _ _ _ _ _
          rw [HN.out]; exact HO.out
        have HLn : Hid ((pkK p xs (i + 1)).length = m) := by show _ = m; rw [HN.out, HL.out]
        clear hcl hcn hcb hp
        go_wp2
        go_roundw
        case rel => exact ⟨i + 1, m, by omega, by go_num, hm, HLn.out, HO7.out, HB.out⟩
        case measure => simp [intOf]; omega
    · have hiz : ¬ (i : Int) < (n : Nat) := by omega
      have hin2 : i = n := by omega
      have HOn : Hid (wr.ownsRow w.heap.size 9 1 u5 (pkd p xs).length (sv (pkd p xs))) := by
        have h := HO.out
        rw [← HL.out, hin2, ← NX.out, pkK_all] at h
        exact h
      clear hin2
      go_wp2
      go_ret
      exact ⟨_, rfl, HOn.out, HB.out⟩
end Go.Proofs.Ytblmblbkfdcbjaa
/- shards.firstOf: the first k that are not missing. -/
namespace Go.Proofs.Ytblmblbkfdcbjaa
open Go.RowKit
set_option linter.unusedSimpArgs false
set_option linter.unusedVariables false
structure Fo (w : World) (l : List Bool) (e : Nat) (wr : World) : Prop where
  t : Bk wr w.heap.size (bs l) 74
  c : Bk wr (w.heap.size + 1) #[.int .i64 (e : Int)] 3
  b : Below w.heap.size w wr
theorem Fo.step {w wr : World} {l : List Bool} {e : Nat} (h : Fo w l e wr) : Fo w l (e + 1) (wr.setCell ⟨w.heap.size + 1, 0, none⟩ (.int .i64 ((e : Int) + 1))) := by
  refine ⟨h.t.grown (Lib.grownBy_setB (World.grownBy.refl _ _) 0 _) (by simp), ?_, below_own h.b h.b.size (Lib.grownBy_setB (World.grownBy.refl _ _) _ _) (by omega)⟩
  have := h.c.set 0 (.int .i64 ((e : Int) + 1))
  exact this
set_option maxHeartbeats 1000000 in
set_option maxRecDepth 100000 in
theorem firstOf_any (l : List Bool) (k : Nat) (w : World) (hl : l.length = 64) (hk : k ≤ 64) :
    Calls Try.prog 54 #[.agg (bs l), .int .i64 k] w fun e2 w' => ∃ e : Nat, e2 = .returned (.func (.func 64) #[] #[.pointer (some ⟨w.heap.size + 1, 0, none⟩), .pointer (some ⟨w.heap.size, 0, none⟩)]) ∧ Fo w l e w' ∧ e ≤ 64 ∧ (k ≤ cnt (nt l) 64 → cnt (nt l) e = k) := by
  have HL : Hid (l.length = 64) := hl
  clear hl
  have HF0 : Hid (Fo w l 0 ((w.alloc (.cells (bs l) 74)).alloc (.cells #[.int .i64 0] 3))) := by
    refine ⟨(bk_new w _ _).alloc _, ?_, ((Below.refl _ _).alloc (Nat.le_refl _) _).alloc (by simp) _⟩
    have := bk_new (w.alloc (.cells (bs l) 74)) #[.int .i64 0] 3
    rw [al_size] at this
    exact this
  go_enter Try.func54, Try.ntmps54
  go_wp2_with fail
  go_loopw [6] (fun t wr => ∃ e m : Nat, e ≤ 64 ∧ m ≤ 64 ∧ t = .int .i64 m ∧ Hid (cnt (nt l) e + m = k) ∧ Hid (Fo w l e wr)) (fun t wr => (intOf t).toNat + (64 - (match wr.cell? ⟨w.heap.size + 1, 0, none⟩ with | some v => (intOf v).toNat | none => 0)))
  case atStart => exact ⟨0, k, by omega, hk, rfl, by show cnt (nt l) 0 + k = k; simp [cnt], HF0.out⟩
  case round =>
    clear HF0
    obtain ⟨e, m, he, hm, rfl, HC, HF⟩ := hrel
    have hce : wr.cell? ⟨w.heap.size + 1, 0, none⟩ = some (.int .i64 (e : Int)) := by rw [HF.out.c.cell]; rfl
    have hfe := HF.out.c.frozen 0
    by_cases hm0 : 0 < m
    · have hmz : (m : Int) > 0 := by omega
      by_cases he6 : e < 64
      · have hez : (e : Int) < 64 := by omega
        have hct := bs_cell HF.out.t HL.out e he6
        have hcn := cnt_next (nt l) e
        have hce2 : (wr.setCell ⟨w.heap.size + 1, 0, none⟩ (.int .i64 ((e : Int) + 1))).cell? ⟨w.heap.size + 1, 0, none⟩ = some (.int .i64 ((e : Int) + 1)) := by rw [HF.out.step.c.cell]; rfl
        have HFn : Hid _ := HF.out.step
        cases hb : nt l e with
        | true =>
          rw [hb] at hct hcn
          have HCn : Hid (cnt (nt l) (e + 1) + (m - 1) = k) := by
            have := HC.out
            show _ = k
            rw [hcn]
            simp
            omega
          have hm1z : (m : Int) - 1 = ((m - 1 : Nat) : Int) := by omega
          clear hb hcn HF HC
          go_wp2
          go_roundw
          case rel => exact ⟨e + 1, m - 1, by omega, by omega, rfl, HCn.out, HFn.out⟩
          case measure => rw [hce, hce2]; simp [intOf]; omega
        | false =>
          rw [hb] at hct hcn
          have HCn : Hid (cnt (nt l) (e + 1) + m = k) := by
            have := HC.out
            show _ = k
            rw [hcn]
            simp
            omega
          clear hb hcn HF HC
          go_wp2
          go_roundw
          case rel => exact ⟨e + 1, m, by omega, by omega, rfl, HCn.out, HFn.out⟩
          case measure => rw [hce, hce2]; simp [intOf]; omega
      · have hez : ¬ (e : Int) < 64 := by omega
        have HE : Hid (k ≤ cnt (nt l) 64 → cnt (nt l) e = k) := fun h => by
          have := HC.out
          rw [show e = 64 by omega] at this ⊢
          omega
        go_wp2
        go_ret
        exact ⟨rfl, e, HF.out, he, HE.out⟩
    · have hmz : ¬ (m : Int) > 0 := by omega
      have HE : Hid (k ≤ cnt (nt l) 64 → cnt (nt l) e = k) := fun h => by
        have := HC.out
        omega
      go_wp2
      go_ret
      exact ⟨rfl, e, HF.out, he, HE.out⟩
end Go.Proofs.Ytblmblbkfdcbjaa
