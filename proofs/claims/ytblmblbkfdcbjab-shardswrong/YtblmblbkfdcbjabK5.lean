/- What reduced leaves at 0; ranks and inverses as package field tells them, plainly. -/
import Derived.Test.YtblmblbkfdcbjabK4
namespace Go.Proofs.Ytblmblbkfdcbjab
open Go.RowKit
set_option linter.unusedSimpArgs false
set_option linter.unusedVariables false
/-- 0 from column n on. -/
def zb (n : Nat) (p : List UInt8) : Prop := ∀ j, n ≤ j → j < 64 → p[j]? = some 0
theorem zb_add {n : Nat} {a b : List UInt8} (t : UInt8) (ha : zb n a) (hb : zb n b) : zb n (addR a b t) := by
  intro j h1 h2
  unfold addR
  rw [List.getElem?_zipWith, ha j h1 h2, hb j h1 h2]
  simp [zero_mul]
theorem zb_zp (n : Nat) : zb n zp := by
  intro j _ h2
  rw [zp, List.getElem?_replicate, if_pos (by omega)]
theorem zb_sta (n : Nat) (x : ByteArray) (i : Nat) (h : x.size ≤ n) (hn : n ≤ 64) : zb n (rowOf x ++ ur i) := by
  intro j h1 h2
  have hl := rowOf_len x (by omega)
  rw [List.getElem?_append_left (by omega)]
  unfold rowOf
  rw [putB_get _ _ _ (by rw [zr_len, dlen]; omega), if_neg (by rw [dlen]; omega), zr, List.getElem?_replicate, if_pos h2]
theorem zb_stp {n : Nat} {X : List (List UInt8)} (hX : ∀ p ∈ X, zb n p) (i : Nat) : ∀ p ∈ stp X i, zb n p := by
  have hg : zb n (X.getD i zp) := by
    rw [List.getD]
    cases h : X[i]? with
    | none => exact zb_zp n
    | some p => exact hX p (List.mem_of_getElem? h)
  unfold stp
  split
  · exact hX
  · intro p hp
    have hq := zb_add (inv ((X.getD i zp).getD (fst (lf (X.getD i zp))) 0)) (zb_zp n) hg
    have hs : ∀ r ∈ X.set i (addR zp (X.getD i zp) (inv ((X.getD i zp).getD (fst (lf (X.getD i zp))) 0))), zb n r := by
      intro r hr
      rcases List.mem_or_eq_of_mem_set hr with h1 | h1
      · exact hX r h1
      · rw [h1]; exact hq
    obtain ⟨j, hj, rfl⟩ := List.mem_iff_getElem.1 hp
    simp only [elP, List.getElem_mapIdx]
    split
    · exact hs _ (List.getElem_mem _)
    · exact zb_add _ (hs _ (List.getElem_mem _)) hq
theorem zb_redK {n : Nat} {X : List (List UInt8)} (hX : ∀ p ∈ X, zb n p) : ∀ k, ∀ p ∈ redK X k, zb n p
  | 0 => hX
  | k + 1 => zb_stp (zb_redK hX k) k
theorem zb_red (n : Nat) (xs : List ByteArray) (h : ∀ x ∈ xs, x.size ≤ n) (hn : n ≤ 64) : ∀ p ∈ redP (arrL xs), zb n p := by
  refine zb_redK ?_ _
  intro p hp
  obtain ⟨j, hj, rfl⟩ := List.mem_iff_getElem.1 hp
  simp only [staP, List.getElem_mapIdx, arrL, List.getElem_map]
  exact zb_sta n _ j (h _ (List.getElem_mem _)) hn
theorem fst_zb {n : Nat} {p : List UInt8} (hp : p.length = 128) (hz : zb n p) (h0 : lf p ≠ zr) : fst (lf p) < n := by
  have hl := lf_len p hp
  have hlt := fst_lt (lf p) hl
  by_cases h : fst (lf p) < n
  · exact h
  · exfalso
    have hne : ¬ (lf p).all (· == 0) = true := by
      intro ha
      apply h0
      apply List.ext_getElem (by rw [hl, zr_len])
      intro i h1 h2
      rw [List.all_eq_true] at ha
      have := ha _ (List.getElem_mem h1)
      simp only [beq_iff_eq] at this
      rw [this]
      have hz : ∀ (m : Nat) (hm : m < zr.length), zr[m] = 0 := fun m hm => List.getElem_replicate hm
      exact (hz i h2).symm
    have hf : fst (lf p) = (lf p).findIdx (· != 0) := by unfold fst; rw [if_neg hne]
    have h1 : (lf p).findIdx (· != 0) < (lf p).length := by rw [← hf, hl]; exact hlt
    have h2 := List.findIdx_getElem (w := h1)
    have h3 := hz (fst (lf p)) (by omega) hlt
    have h4 : (lf p)[(lf p).findIdx (· != 0)]? = some 0 := by
      rw [← hf]
      generalize fst (lf p) = j at *
      rw [lf, List.getElem?_take, if_pos hlt]
      exact h3
    rw [List.getElem?_eq_getElem h1] at h4
    rw [Option.some.inj h4] at h2
    simp at h2
/-- How many of the first k rows are not 0. -/
def rkK (X : List (List UInt8)) (k : Nat) : Nat := ((X.take k).filter fun p => lf p != zr).length
theorem rkK_next (X : List (List UInt8)) (k : Nat) (p : List UInt8) (h : X[k]? = some p) : rkK X (k + 1) = rkK X k + if lf p = zr then 0 else 1 := by
  obtain ⟨hk, e⟩ := List.getElem?_eq_some_iff.1 h
  unfold rkK
  rw [List.take_succ_eq_append_getElem hk, List.filter_append, List.length_append, e]
  congr 1
  by_cases hz : lf p = zr
  · simp [List.filter_cons, hz]
  · simp [List.filter_cons, hz]
theorem rkK_le (X : List (List UInt8)) (k : Nat) : rkK X k ≤ k := by
  unfold rkK
  exact Nat.le_trans (List.length_filter_le _ _) (List.length_take_le _ _)
/-- The rows of the inverse, the first k pairs laid. -/
def ivK (X : List (List UInt8)) (n : Nat) : Nat → List (List UInt8)
  | 0 => List.replicate n zr
  | k + 1 => (ivK X n k).set (fst (lf (X.getD k zp))) (rt (X.getD k zp))
theorem ivK_len (X : List (List UInt8)) (n : Nat) : ∀ k, (ivK X n k).length = n
  | 0 => by simp [ivK]
  | k + 1 => by rw [ivK, List.length_set, ivK_len X n k]
theorem ivK_wide (X : List (List UInt8)) (hX : ∀ p ∈ X, p.length = 128) (n : Nat) : ∀ k, ∀ r ∈ ivK X n k, r.length = 64
  | 0 => by
    intro r hr
    rw [ivK] at hr
    rw [(List.mem_replicate.1 hr).2]; exact zr_len
  | k + 1 => by
    rw [ivK]
    exact set_wide 64 _ (ivK_wide X hX n k) _ _ (rt_len _ (getD_wide2 X hX k))
/-- Whether one of the rows is 0. -/
def sng (X : List (List UInt8)) : Bool := X.any fun p => lf p == zr
end Go.Proofs.Ytblmblbkfdcbjab
