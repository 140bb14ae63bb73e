/- Every square part of a Cauchy matrix has an inverse. -/
import Derived.Test.YtblmblbkfdcbjabK7
import Derived.Test.YtblmblbkfdcbjabF13
import Derived.Test.YtblmblbkfdcbjabF20
import Derived.Test.YtblmblbkfdcbjabK8R
namespace Go.Proofs.Ytblmblbkfdcbjab
open Go.RowKit
set_option linter.unusedSimpArgs false
set_option linter.unusedVariables false
/-- A row of the part, the part. -/
def prR (qs : List Nat) (n x : Nat) : List UInt8 := (List.range n).map fun j => caV x (qs.getD j 0)
def prX (ps qs : List Nat) (n : Nat) : List ByteArray := (List.range n).map fun i => mkT (prR qs n (ps.getD i 0))
theorem prX_len (ps qs : List Nat) (n : Nat) : (prX ps qs n).length = n := by simp [prX]
theorem prR_len (qs : List Nat) (n x : Nat) : (prR qs n x).length = n := by simp [prR]
theorem prX_at (ps qs : List Nat) (n i : Nat) (h : i < n) : (prX ps qs n)[i]? = some (mkT (prR qs n (ps.getD i 0))) := by
  rw [prX, List.getElem?_map, List.getElem?_range h]; rfl
theorem prX_size (ps qs : List Nat) (n : Nat) : ∀ x ∈ prX ps qs n, x.size = n := by
  intro x hx
  obtain ⟨i, _, rfl⟩ := List.mem_map.1 hx
  rw [mkT_size, prR_len]
theorem prX_wid (ps qs : List Nat) (n : Nat) (h : 1 ≤ n) : wid (prX ps qs n) = n := by
  unfold wid
  rw [prX_at ps qs n 0 (by omega)]
  show (mkT (prR qs n (ps.getD 0 0))).size = n
  rw [mkT_size, prR_len]
theorem prX_isM (ps qs : List Nat) (n : Nat) (h : 1 ≤ n) (h2 : n ≤ 64) : isM (prX ps qs n) = true := by
  refine isM_yes _ (by rw [prX_len]; exact ⟨h, h2⟩) (by rw [prX_wid ps qs n h]; exact ⟨h, h2⟩) (fun k x hk => ?_)
  rw [prX_wid ps qs n h]
  exact prX_size ps qs n x (List.mem_of_getElem? hk)
theorem prX_mat (ps qs : List Nat) (n i j : Nat) (h : i < n) (hj : j < n) (h2 : n ≤ 64) : mat (arrL (prX ps qs n)) i j = caV (ps.getD i 0) (qs.getD j 0) := by
  unfold mat
  have e : (arrL (prX ps qs n)).getD i zr = rowOf (mkT (prR qs n (ps.getD i 0))) := by
    rw [List.getD, arrL, List.getElem?_map, prX_at ps qs n i h]; rfl
  rw [e, List.getD, rowOf, mkT_data, putB_get _ _ _ (by rw [zr_len, prR_len]; omega), if_pos ⟨by omega, by rw [prR_len]; omega⟩, Nat.sub_zero, prR, List.getElem?_map, List.getElem?_range hj]
  rfl
theorem ris_lt {n : Nat} {ps : List Nat} (h : Ris n ps) (i : Nat) (hi : i < ps.length) : ps.getD i 0 < n := by
  rw [List.getD, List.getElem?_eq_getElem hi]
  exact h.2 _ (List.getElem_mem hi)
theorem ris_ne {n : Nat} {ps : List Nat} (h : Ris n ps) (i j : Nat) (hi : i < ps.length) (hj : j < ps.length) (hij : i ≠ j) : ps.getD i 0 ≠ ps.getD j 0 := by
  have key : ∀ a b, a < b → (hb : b < ps.length) → ps.getD a 0 < ps.getD b 0 := by
    intro a b hab hb
    rw [List.getD, List.getD, List.getElem?_eq_getElem (by omega), List.getElem?_eq_getElem hb]
    exact List.pairwise_iff_getElem.1 h.1 a b (by omega) hb hab
  rcases Nat.lt_or_ge i j with h1 | h1
  · have := key i j h1 hj; omega
  · have := key j i (by omega) hi; omega
theorem ofNat_ne (a b : Nat) (ha : a < 256) (hb : b < 256) (h : a ≠ b) : UInt8.ofNat a ≠ UInt8.ofNat b := by
  intro e
  have := congrArg UInt8.toNat e
  simp at this
  omega
theorem part_ok (ps qs : List Nat) (r c n : Nat) (hp : Ris r ps) (hq : Ris c qs) (hr : r ≤ 64) (hc : c ≤ 64) (h1 : 1 ≤ n) (np : n ≤ ps.length) (nq : n ≤ qs.length) : ivE (prX ps qs n) = 0 := by
  have hn : n ≤ 64 := by have := hp.len; omega
  have hm := prX_isM ps qs n h1 hn
  have hs : sng (redP (arrL (prX ps qs n))) = false := by
    cases hsg : sng (redP (arrL (prX ps qs n))) with
    | false => rfl
    | true =>
      exfalso
      have hal : (arrL (prX ps qs n)).length = n := by simp [arrL, prX_len]
      obtain ⟨v, ⟨i, hi, hvi⟩, hk⟩ := sng_ker _ (arrL_wide _ (fun x hx => by rw [prX_size ps qs n x hx]; exact hn)) (by rw [hal]; exact hn) hsg
      rw [hal] at hi hk
      refine hvi (cauchy_ker n (fun i => UInt8.ofNat (128 + ps.getD i 0)) (fun j => UInt8.ofNat (qs.getD j 0)) v (fun i j h1 h2 => ?_) (fun i j h1 h2 h3 => ?_) (fun i j h1 h2 h3 => ?_) (fun j hj => ?_) i hi)
      · have a := ris_lt hp i (by omega)
        have b := ris_lt hq j (by omega)
        exact ofNat_ne _ _ (by omega) (by omega) (by omega)
      · have a := ris_lt hp i (by omega)
        have b := ris_lt hp j (by omega)
        have d := ris_ne hp i j (by omega) (by omega) h3
        exact ofNat_ne _ _ (by omega) (by omega) (by omega)
      · have a := ris_lt hq i (by omega)
        have b := ris_lt hq j (by omega)
        have d := ris_ne hq i j (by omega) (by omega) h3
        exact ofNat_ne _ _ (by omega) (by omega) d
      · rw [← hk j (by omega)]
        apply Sx_congr
        intro i hi
        rw [prX_mat ps qs n i j hi hj hn]; rfl
  unfold ivE
  rw [hm, prX_wid ps qs n h1, prX_len, decide_eq_true rfl, hs]
  rfl
theorem prR_take (qs : List Nat) (n x k : Nat) (h : k < n) : (prR qs n x).take (k + 1) = (prR qs n x).take k ++ [caV x (qs.getD k 0)] := by
  rw [List.take_succ_eq_append_getElem (by rw [prR_len]; exact h)]
  congr 2
  simp [prR]
theorem prX_take (ps qs : List Nat) (n k : Nat) (h : k < n) : (prX ps qs n).take (k + 1) = (prX ps qs n).take k ++ [mkT (prR qs n (ps.getD k 0))] := by
  rw [List.take_succ_eq_append_getElem (by rw [prX_len]; exact h)]
  congr 2
  simp [prX]
theorem index_txt (l : List UInt8) (j : Nat) (x : UInt8) (h : l[j]? = some x) (w : World) : (Instr.index 9 (.string (mkT l)) (.int .i64 j)).run Try.prog w = .ok (c8 x) w := by
  have hj := (List.getElem?_eq_some_iff.1 h).1
  have e : (mkT l)[((j : Int)).toNat]? = some x := by
    rw [Int.toNat_natCast]
    have : j < (mkT l).size := by rw [mkT_size]; exact hj
    rw [getElem?_pos (mkT l) j this]
    show some ((l.toArray)[j]'(by simpa using hj)) = some x
    rw [List.getElem_toArray, (List.getElem?_eq_some_iff.1 h).2]
  simp only [Instr.index, asIntOf, Sem.run_bind, Sem.run_pure, Result.andThen_ok, run_underlying Try.underlying9 w]
  rw [if_pos (by omega), e]
  rfl
end Go.Proofs.Ytblmblbkfdcbjab
