/- Which shards are used; the shards made again. -/
import Derived.Test.YtblmblbkfdcbjabK15
namespace Go.Proofs.Ytblmblbkfdcbjab
open Go.RowKit
set_option linter.unusedSimpArgs false
set_option linter.unusedVariables false
/-- Those of a list for whose numbers p says so; how many of the first e. -/
def pkd (p : Nat → Bool) (X : List ByteArray) : List ByteArray := ((List.range X.length).filter p).map fun i => X.getD i (mkT [])
def cnt (p : Nat → Bool) (e : Nat) : Nat := ((List.range e).filter p).length
theorem pkd_len (p : Nat → Bool) (X : List ByteArray) : (pkd p X).length = cnt p X.length := by rw [pkd, List.length_map, cnt]
theorem cnt_next (p : Nat → Bool) (e : Nat) : cnt p (e + 1) = cnt p e + if p e then 1 else 0 := by
  rw [cnt, cnt, List.range_succ, List.filter_append, List.length_append]
  cases h : p e <;> simp [h]
theorem cnt_le (p : Nat → Bool) (e : Nat) : cnt p e ≤ e := by
  have := List.length_filter_le p (List.range e)
  rwa [List.length_range] at this
theorem cnt_mono (p : Nat → Bool) (e : Nat) : ∀ m, cnt p e ≤ cnt p (e + m)
  | 0 => Nat.le_refl _
  | m + 1 => by
    rw [← Nat.add_assoc, cnt_next]
    have := cnt_mono p e m
    omega
/-- The first i numbers' part of what is picked. -/
def pkK (p : Nat → Bool) (X : List ByteArray) (i : Nat) : List ByteArray := ((List.range i).filter p).map fun j => X.getD j (mkT [])
theorem pkK_len (p : Nat → Bool) (X : List ByteArray) (i : Nat) : (pkK p X i).length = cnt p i := by rw [pkK, List.length_map, cnt]
theorem pkK_yes (p : Nat → Bool) (X : List ByteArray) (i : Nat) (x : ByteArray) (hx : X[i]? = some x) (h : p i = true) : pkK p X (i + 1) = pkK p X i ++ [x] := by
  rw [pkK, pkK, List.range_succ, List.filter_append, List.map_append]
  congr 1
  simp [h, hx]
theorem pkK_no (p : Nat → Bool) (X : List ByteArray) (i : Nat) (h : p i = false) : pkK p X (i + 1) = pkK p X i := by
  rw [pkK, pkK, List.range_succ, List.filter_append, List.map_append]
  simp [h]
theorem pkK_all (p : Nat → Bool) (X : List ByteArray) : pkK p X X.length = pkd p X := rfl
/-- The numbers that are used. -/
def idxU (p : Nat → Bool) (n k : Nat) : List Nat := ((List.range n).filter p).take k
theorem idx_ris (p : Nat → Bool) (n k : Nat) : Ris n (idxU p n k) := by
  refine ⟨List.Pairwise.sublist (List.take_sublist _ _) (List.Pairwise.filter _ List.pairwise_lt_range), fun x hx => ?_⟩
  have := (List.mem_filter.1 (List.mem_of_mem_take hx)).1
  simpa using this
theorem idx_len (p : Nat → Bool) (n k : Nat) (h : k ≤ cnt p n) : (idxU p n k).length = k := by
  rw [idxU, List.length_take]; unfold cnt at h; omega
theorem used_take (p : Nat → Bool) (e n k : Nat) (he : cnt p e = k) (hn : k ≤ cnt p n) : ((List.range n).filter fun i => decide (i < e) && p i) = idxU p n k := by
  unfold idxU
  by_cases hen : e ≤ n
  · obtain ⟨m, rfl⟩ : ∃ m, n = e + m := ⟨n - e, by omega⟩
    rw [List.range_add, List.filter_append, List.filter_append]
    have e1 : ((List.range e).filter fun i => decide (i < e) && p i) = (List.range e).filter p := List.filter_congr (fun x hx => by
      have : x < e := by simpa using hx
      simp [this])
    have e2 : (((List.range m).map fun x => e + x).filter fun i => decide (i < e) && p i) = [] := List.filter_eq_nil_iff.2 (fun x hx => by
      obtain ⟨y, _, rfl⟩ := List.mem_map.1 hx
      have : ¬ e + y < e := by omega
      simp [this])
    rw [e1, e2, List.append_nil]
    unfold cnt at he
    rw [List.take_left' he]
  · obtain ⟨m, hm⟩ : ∃ m, e = n + m := ⟨e - n, by omega⟩
    have h1 := cnt_mono p n m
    rw [← hm, he] at h1
    have e1 : ((List.range n).filter fun i => decide (i < e) && p i) = (List.range n).filter p := List.filter_congr (fun x hx => by
      have h2 : x < n := by simpa using hx
      have h3 : x < e := by omega
      simp [h3])
    rw [e1, List.take_of_length_le]
    unfold cnt at h1
    exact h1
theorem pkd_used (p : Nat → Bool) (e n k : Nat) (h1 : 1 ≤ k) (h2 : k ≤ n) (h3 : n ≤ 64) (he : cnt p e = k) (hn : k ≤ cnt p n) : pkd (fun i => decide (i < e) && p i) (ofD n k) = usd n k (idxU p n k) := by
  rw [pkd, ofD_len n k h1 h2 h3, used_take p e n k he hn, usd]
theorem pkd_take (p : Nat → Bool) (X : List ByteArray) (k : Nat) : (pkd p X).take k = (idxU p X.length k).map fun i => X.getD i (mkT []) := by
  rw [pkd, idxU, List.map_take]
/-- The data that go with k shards; all shards. -/
def daX (p : Nat → Bool) (X : List ByteArray) (k d : Nat) : List ByteArray := mixL (ivX (usd X.length k (idxU p X.length k))) ((pkd p X).take k) d
def reX (p : Nat → Bool) (X : List ByteArray) (k d : Nat) : List ByteArray := daX p X k d ++ mixL (cyX (X.length - k) k) (daX p X k d) d
theorem ofD_isM (n k : Nat) (h1 : 1 ≤ k) (h2 : k ≤ n) (h3 : n ≤ 64) : isM (ofD n k) = true ∧ wid (ofD n k) = k := by
  have hl := ofD_len n k h1 h2 h3
  have hs := ofD_size n k h1 h2 h3
  have hw : wid (ofD n k) = k := by
    rw [wid, List.getElem?_eq_getElem (by rw [hl]; omega)]
    exact hs _ (List.getElem_mem _)
  exact ⟨isM_yes _ (by rw [hl]; omega) (by rw [hw]; omega) (fun i x hx => by rw [hw]; exact hs x (List.mem_of_getElem? hx)), hw⟩
theorem used_inv (p : Nat → Bool) (n k : Nat) (h1 : 1 ≤ k) (h2 : k ≤ n) (h3 : n ≤ 64) (hn : k ≤ cnt p n) :
    SqM k (ivX (usd n k (idxU p n k))) ∧ ivE (usd n k (idxU p n k)) = 0 := by
  have hsq := usd_sq n k _ h1 h2 h3 (idx_ris p n k) (idx_len p n k hn)
  have hs := usd_ok n k _ h1 h2 h3 (idx_ris p n k) (idx_len p n k hn)
  refine ⟨(undo _ k hsq h1 (by omega) hs).1, ?_⟩
  obtain ⟨hm, hw⟩ := hsq.isM h1 (by omega)
  unfold ivE
  rw [hm, hw, hsq.1, decide_eq_true rfl, hs]; rfl
theorem reX_prod (p : Nat → Bool) (X : List ByteArray) (n k d : Nat) (hX : X.length = n) (h1 : 1 ≤ k) (h2 : k ≤ n) (h3 : n ≤ 64) (hn : k ≤ cnt p n) :
    mixL (pdX (ofD n k) (ivX (usd n k (idxU p n k)))) ((pkd p X).take k) d = reX p X k d := by
  obtain ⟨hsq, _⟩ := used_inv p n k h1 h2 h3 hn
  obtain ⟨hm, hw⟩ := hsq.isM h1 (by omega)
  obtain ⟨om, ow⟩ := ofD_isM n k h1 h2 h3
  have hS : ((pkd p X).take k).length = k := by rw [List.length_take, pkd_len, hX]; omega
  rw [mix_mix _ _ _ d om hm (by rw [ow, hsq.1]) (by rw [hw, hS]), reX, daX, hX]
  have hu := mix_unit (mixL (ivX (usd n k (idxU p n k))) ((pkd p X).take k) d) k d (by rw [mixL_len, hsq.1]) h1 (by omega) (mixL_size _ _ _)
  rw [ofD]
  unfold mixL at hu ⊢
  rw [List.map_append]
  congr 1
end Go.Proofs.Ytblmblbkfdcbjab
