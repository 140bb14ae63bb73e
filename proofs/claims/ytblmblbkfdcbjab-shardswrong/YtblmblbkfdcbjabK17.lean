/- All shards come back. -/
import Derived.Test.YtblmblbkfdcbjabJ16
import Derived.Test.YtblmblbkfdcbjabJ8
namespace Go.Proofs.Ytblmblbkfdcbjab
open Go.RowKit
set_option linter.unusedSimpArgs false
set_option linter.unusedVariables false
/-- Data and their parity. -/
def alX (D : List ByteArray) (n d : Nat) : List ByteArray := D ++ mixL (cyX (n - D.length) D.length) D d
theorem alX_mix (D : List ByteArray) (n k d : Nat) (hD : D.length = k) (h1 : 1 ≤ k) (h2 : k ≤ 64) (sD : ∀ x ∈ D, x.size = d) : alX D n d = mixL (ofD n k) D d := by
  have hu := mix_unit D k d hD h1 h2 sD
  rw [alX, hD, ofD]
  unfold mixL at hu ⊢
  rw [List.map_append, hu]
theorem alX_len (D : List ByteArray) (n k d : Nat) (hD : D.length = k) (h1 : 1 ≤ k) (h2 : k ≤ n) (h3 : n ≤ 64) : (alX D n d).length = n := by
  rw [alX, List.length_append, mixL_len, hD, cyX_len _ _ (by omega) h1 (by omega)]; omega
theorem alX_size (D : List ByteArray) (n d : Nat) (sD : ∀ x ∈ D, x.size = d) : ∀ x ∈ alX D n d, x.size = d := by
  intro x hx
  rcases List.mem_append.1 hx with h | h
  · exact sD x h
  · exact mixL_size _ _ _ x h
theorem sub_mix (R D : List ByteArray) (d : Nat) (idx : List Nat) (h : ∀ i ∈ idx, i < R.length) : (idx.map fun i => (mixL R D d).getD i (mkT [])) = mixL (idx.map fun i => R.getD i (mkT [])) D d := by
  rw [mixL, mixL, List.map_map]
  apply List.map_congr_left
  intro i hi
  have := h i hi
  simp only [Function.comp]
  rw [List.getD, List.getElem?_map, List.getElem?_eq_getElem this, List.getD, List.getElem?_eq_getElem this]
  rfl
theorem da_back (p : Nat → Bool) (D : List ByteArray) (n k d : Nat) (hD : D.length = k) (h1 : 1 ≤ k) (h2 : k ≤ n) (h3 : n ≤ 64) (sD : ∀ x ∈ D, x.size = d) (hn : k ≤ cnt p n) : daX p (alX D n d) k d = D := by
  have hl := alX_len D n k d hD h1 h2 h3
  have hr := idx_ris p n k
  have hil := idx_len p n k hn
  have hsq := usd_sq n k _ h1 h2 h3 hr hil
  have hs := usd_ok n k _ h1 h2 h3 hr hil
  obtain ⟨vsq, hvu, _⟩ := undo _ k hsq h1 (by omega) hs
  rw [daX, hl, pkd_take, hl, alX_mix D n k d hD h1 (by omega) sD, sub_mix _ _ _ _ (fun i hi => by rw [ofD_len n k h1 h2 h3]; exact hr.2 i hi)]
  show mixL (ivX (usd n k (idxU p n k))) (mixL (usd n k (idxU p n k)) D d) d = D
  obtain ⟨um, uw⟩ := hsq.isM h1 (by omega)
  obtain ⟨vm, vw⟩ := vsq.isM h1 (by omega)
  rw [← mix_mix _ _ _ d vm um (by rw [vw, hsq.1]) (by rw [uw, hD])]
  have e : pdX (ivX (usd n k (idxU p n k))) (usd n k (idxU p n k)) = txtL k (unL k) := by
    unfold pdX
    rw [if_pos ⟨vm, um, by rw [vw, hsq.1]⟩, uw, hvu]
  rw [e, mix_unit D k d hD h1 (by omega) sD]
theorem re_back (p : Nat → Bool) (D : List ByteArray) (n k d : Nat) (hD : D.length = k) (h1 : 1 ≤ k) (h2 : k ≤ n) (h3 : n ≤ 64) (sD : ∀ x ∈ D, x.size = d) (hn : k ≤ cnt p n) : reX p (alX D n d) k d = alX D n d := by
  rw [reX, da_back p D n k d hD h1 h2 h3 sD hn, alX_len D n k d hD h1 h2 h3, alX, hD]
/-- What is missing is not looked at. -/
theorem pkd_same (p : Nat → Bool) (X Y : List ByteArray) (hl : X.length = Y.length) (h : ∀ i, i < X.length → p i = true → X[i]? = Y[i]?) : pkd p X = pkd p Y := by
  rw [pkd, pkd, ← hl]
  apply List.map_congr_left
  intro i hi
  have h2 := List.mem_filter.1 hi
  have hil : i < X.length := by simpa using h2.1
  rw [List.getD, List.getD, h i hil h2.2]
theorem re_same (p : Nat → Bool) (X Y : List ByteArray) (k d : Nat) (hl : X.length = Y.length) (h : ∀ i, i < X.length → p i = true → X[i]? = Y[i]?) : reX p X k d = reX p Y k d := by
  rw [reX, reX, daX, daX, pkd_same p X Y hl h, hl]
/-- One less. -/
theorem cnt_same (p q : Nat → Bool) : ∀ n, (∀ j, j < n → p j = q j) → cnt p n = cnt q n
  | 0, _ => rfl
  | n + 1, h => by rw [cnt_next, cnt_next, cnt_same p q n (fun j hj => h j (by omega)), h n (by omega)]
theorem cnt_less (p q : Nat → Bool) (i : Nat) (hp : p i = true) (hq : q i = false) : ∀ n, i < n → (∀ j, j < n → j ≠ i → p j = q j) → cnt q n + 1 = cnt p n
  | 0, h, _ => by omega
  | n + 1, h, hj => by
    rw [cnt_next, cnt_next]
    by_cases e : i = n
    · subst e
      rw [cnt_same p q i (fun j hj2 => hj j (by omega) (by omega)), hp, hq]
      simp
    · have ih := cnt_less p q i hp hq n (by omega) (fun j h1 h2 => hj j (by omega) h2)
      rw [hj n (by omega) (fun e2 => e e2.symm)]
      omega
theorem cnt_none (p : Nat → Bool) : ∀ n, (∀ j, j < n → p j = false) → cnt p n = 0
  | 0, _ => rfl
  | n + 1, h => by rw [cnt_next, cnt_none p n (fun j hj => h j (by omega)), h n (by omega)]; rfl
theorem cnt_full (p : Nat → Bool) : ∀ n, (∀ j, j < n → p j = true) → cnt p n = n
  | 0, _ => rfl
  | n + 1, h => by rw [cnt_next, cnt_full p n (fun j hj => h j (by omega)), h n (by omega)]; rfl
theorem thr_get (ts : List Bool) (i : Nat) (h : i < ts.length) (hi : i < 64) : thr ts i = ts.getD i true := by
  rw [thr, nt, mis, List.getD, misK_get ts ts.length i hi, if_pos h]
  simp
theorem thr_val (ts : List Bool) (i : Nat) (t : Bool) (h : ts[i]? = some t) (hi : i < 64) : thr ts i = t := by
  rw [thr_get ts i (List.getElem?_eq_some_iff.1 h).1 hi, List.getD, h]; rfl
theorem thr_set (ts : List Bool) (i j : Nat) (hi : i < ts.length) (hj : j < ts.length) (h64 : ts.length ≤ 64) : thr (ts.set i false) j = if j = i then false else thr ts j := by
  rw [thr_get _ j (by rw [List.length_set]; exact hj) (by omega), thr_get ts j hj (by omega), List.getD, List.getElem?_set]
  by_cases e : i = j
  · subst e; rw [if_pos rfl, if_pos hi, if_pos rfl]; rfl
  · rw [if_neg e, if_neg (fun h => e h.symm)]; rfl
theorem cnt_set (ts : List Bool) (i n : Nat) (hn : ts.length = n) (h64 : n ≤ 64) (h : ts[i]? = some true) : cnt (thr (ts.set i false)) n + 1 = cnt (thr ts) n := by
  have hi : i < ts.length := (List.getElem?_eq_some_iff.1 h).1
  refine cnt_less (thr ts) (thr (ts.set i false)) i (thr_val ts i true h (by omega)) (by rw [thr_set ts i i hi hi (by omega), if_pos rfl]) n (by omega) (fun j hj hne => ?_)
  rw [thr_set ts i j hi (by omega) (by omega), if_neg hne]
theorem cutL_size (s : ByteArray) (k : Nat) : ∀ x ∈ cutL s k, x.size = cw s.size k := by
  intro x hx
  obtain ⟨i, _, rfl⟩ := List.mem_map.1 hx
  rw [mkT_size, fl_len]
end Go.Proofs.Ytblmblbkfdcbjab
