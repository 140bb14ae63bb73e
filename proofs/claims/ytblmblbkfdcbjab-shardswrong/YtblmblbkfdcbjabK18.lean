/- One wrong shard is noticed, and it is known which. -/
import Derived.Test.YtblmblbkfdcbjabL30A
namespace Go.Proofs.Ytblmblbkfdcbjab
open Go.RowKit
set_option linter.unusedSimpArgs false
set_option linter.unusedVariables false
/-- Shards that go together and are alike at k places are alike. -/
theorem cod_eq (D E : List ByteArray) (n k d : Nat) (hD : D.length = k) (hE : E.length = k) (h1 : 1 ≤ k) (h2 : k ≤ n) (h3 : n ≤ 64) (sD : ∀ x ∈ D, x.size = d) (sE : ∀ x ∈ E, x.size = d) (p : Nat → Bool) (hn : k ≤ cnt p n)
    (h : ∀ i, i < n → p i = true → (alX D n d)[i]? = (alX E n d)[i]?) : alX D n d = alX E n d := by
  have lD := alX_len D n k d hD h1 h2 h3
  have lE := alX_len E n k d hE h1 h2 h3
  rw [← re_back p D n k d hD h1 h2 h3 sD hn, ← re_back p E n k d hE h1 h2 h3 sE hn]
  exact re_same p _ _ k d (by rw [lD, lE]) (fun i hi hp => h i (by omega) hp)
theorem cnt_but (i n : Nat) (h : i < n) : cnt (fun j => decide (j ≠ i)) n + 1 = n := by
  have := cnt_less (fun _ => true) (fun j => decide (j ≠ i)) i rfl (by simp) n h (fun j _ hne => by simp [hne])
  rw [this, cnt_full _ n (fun _ _ => rfl)]
theorem cnt_but2 (i l n : Nat) (h : i < n) (hl : l < n) (hne : i ≠ l) : cnt (fun j => decide (j ≠ i) && decide (j ≠ l)) n + 2 = n := by
  have h1 := cnt_but i n h
  have h2 := cnt_less (fun j => decide (j ≠ i)) (fun j => decide (j ≠ i) && decide (j ≠ l)) l (by simp; omega) (by simp) n hl (fun j _ hj => by simp [hj])
  omega
/-- The shards with one of them another one. -/
structure Wrg (D X' : List ByteArray) (n k d l : Nat) : Prop where
  hD : D.length = k
  h1 : 1 ≤ k
  h32 : k ≤ 32
  h2 : k + 1 ≤ n
  h3 : n ≤ 64
  sD : ∀ x ∈ D, x.size = d
  hX : X'.length = n
  sX : ∀ x ∈ X', x.size = d
  hl : l < n
  at_ : ∀ i, i < n → i ≠ l → X'[i]? = (alX D n d)[i]?
  ne : X'[l]? ≠ (alX D n d)[l]?
theorem Wrg.fits {D X' : List ByteArray} {n k d l : Nat} (h : Wrg D X' n k d l) : ftB X' (k : Int) = false ∧ ftE X' (k : Int) = 0 := by
  have hok : ftOk X' (k : Int) := ⟨by rw [h.hX]; have := h.h1; have := h.h32; have := h.h2; have := h.h3; omega, evn_eq d h.sX⟩
  refine ⟨?_, if_pos hok⟩
  have h1 := h.h1
  have h2 := h.h2
  unfold ftB
  rw [if_pos hok, Int.toNat_natCast, h.hX, wid_eq (by rw [h.hX]; omega) d h.sX, decide_eq_false_iff_not]
  intro e
  have hE : (X'.take k).length = k := by rw [List.length_take, h.hX]; omega
  have sE : ∀ x ∈ X'.take k, x.size = d := fun x hx => h.sX x (List.mem_of_mem_take hx)
  have hX : X' = alX (X'.take k) n d := by
    rw [alX, hE, e, List.take_append_drop]
  have hc := cnt_but l n h.hl
  have heq := cod_eq D (X'.take k) n k d h.hD hE h1 (by omega) h.h3 h.sD sE (fun j => decide (j ≠ l)) (by omega) (fun i hi hp => by
    rw [← hX]
    exact (h.at_ i hi (by simpa using hp)).symm)
  exact h.ne (by rw [heq, ← hX])
theorem Wrg.rebuilt {D X' : List ByteArray} {n k d l : Nat} (h : Wrg D X' n k d l) (ts : List Bool) (i : Nat) (hi : i < n) (ht : ts.length = n) (hts : ∀ j, j < n → thr ts j = decide (j ≠ i)) :
    rbE X' ts (k : Int) = 0 ∧ (rbX X' ts (k : Int)).length = n ∧ (k + 2 ≤ n → ((∀ j, j < n → j ≠ i → (rbX X' ts (k : Int))[j]? = X'[j]?) ↔ i = l)) := by
  have h1 := h.h1
  have h2 := h.h2
  have h3 := h.h3
  have h32 := h.h32
  have hc : cnt (thr ts) n + 1 = n := by rw [cnt_same (thr ts) (fun j => decide (j ≠ i)) n hts]; exact cnt_but i n hi
  have hok : rbOk X' ts (k : Int) := ⟨by rw [h.hX]; omega, by rw [ht, h.hX]⟩
  have hps : ∀ x ∈ pkd (thr ts) X', x.size = d := fun x hx => h.sX x (pkd_mem _ _ x hx)
  have hpl : (pkd (thr ts) X').length = cnt (thr ts) n := by rw [pkd_len, h.hX]
  have hev := evn_eq d hps
  have hw : wid (pkd (thr ts) X') = d := wid_eq (by omega) d hps
  have e1 : rbX X' ts (k : Int) = reX (thr ts) X' k d := by
    unfold rbX
    rw [if_pos ⟨hok, hev, by rw [hpl]; omega⟩, Int.toNat_natCast, hw]
  have e2 : rbE X' ts (k : Int) = 0 := by
    unfold rbE
    rw [if_pos ⟨hok, hev⟩, if_pos (by rw [hpl]; omega)]
  have hlen := reX_len (thr ts) X' n k d h.hX h1 (by omega) h3 (by omega)
  refine ⟨e2, by rw [e1]; exact hlen, fun hk2 => ?_⟩
  rw [e1]
  obtain ⟨vsq, _⟩ := used_inv (thr ts) n k h1 (by omega) h3 (by omega)
  have dl : (daX (thr ts) X' k d).length = k := by rw [daX, mixL_len, h.hX]; exact vsq.1
  have sd : ∀ x ∈ daX (thr ts) X' k d, x.size = d := mixL_size _ _ _
  have eG : reX (thr ts) X' k d = alX (daX (thr ts) X' k d) n d := by rw [reX, alX, dl, h.hX]
  constructor
  · intro hall
    by_cases e : i = l
    · exact e
    · exfalso
      have hc2 := cnt_but2 i l n hi h.hl e
      have heq := cod_eq D (daX (thr ts) X' k d) n k d h.hD dl h1 (by omega) h3 h.sD sd (fun j => decide (j ≠ i) && decide (j ≠ l)) (by omega) (fun j hj hp => by
        have hp2 : j ≠ i ∧ j ≠ l := by simpa using hp
        rw [← eG, hall j hj hp2.1, h.at_ j hj hp2.2])
      have := hall l h.hl (fun e2 => e e2.symm)
      rw [eG, ← heq] at this
      exact h.ne this.symm
  · intro e j hj hji
    subst e
    have hs : reX (thr ts) X' k d = reX (thr ts) (alX D n d) k d := re_same _ _ _ k d (by rw [h.hX, alX_len D n k d h.hD h1 (by omega) h3]) (fun j hj hp => by
      rw [h.hX] at hj
      rw [hts j hj] at hp
      exact h.at_ j hj (by simpa using hp))
    rw [hs, re_back (thr ts) D n k d h.hD h1 (by omega) h3 h.sD (by omega)]
    exact (h.at_ j hj hji).symm
end Go.Proofs.Ytblmblbkfdcbjab
