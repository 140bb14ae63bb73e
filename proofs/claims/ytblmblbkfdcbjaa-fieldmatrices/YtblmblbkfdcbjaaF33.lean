/- The document's Inverse: the rows with the unit beside them. -/
import Derived.Test.YtblmblbkfdcbjaaF31
import Derived.Test.YtblmblbkfdcbjaaF32
import Derived.Test.YtblmblbkfdcbjaaF14
import Derived.Test.YtblmblbkfdcbjaaF20
namespace Go.Proofs.Ytblmblbkfdcbjaa
open Go.RowKit
set_option linter.unusedSimpArgs false
set_option linter.unusedVariables false
/-- The rows, i of them with the unit's row behind. -/
structure Ri (B gm R n : Nat) (A : Nat → Nat → UInt8) (h : Nat → Nat × Nat) (i : Nat) (W : World) : Prop where
  tc : ∀ k, k < R → W.cell? ⟨gm, k, none⟩ = some (.slice (some ⟨(h k).1, 0, none⟩) (if k < i then n + n else n) (h k).2)
  tf : ∀ k, k < R → W.frozen? ⟨gm, k, none⟩ = false
  rc : ∀ k j, k < i → j < n + n → W.cell? ⟨(h k).1, j, none⟩ = some (.int .u8 ((bes n A k j).toNat : Int))
  rf : ∀ k j, k < i → j < n + n → W.frozen? ⟨(h k).1, j, none⟩ = false
  ro : ∀ k, i ≤ k → k < R → ∃ C, Cvr W (h k).1 C ∧ (C.size = (h k).2 ∧ n ≤ (h k).2) ∧ ∀ j, j < n → C[j]? = some (.int .u8 ((A k j).toNat : Int))
  ap : ∀ k l, k < R → l < R → k ≠ l → (h k).1 ≠ (h l).1
  tp : ∀ k, k < R → gm ≠ (h k).1
  lo : B ≤ gm ∧ gm < W.heap.size
  lr : ∀ k, k < R → B ≤ (h k).1 ∧ (h k).1 < W.heap.size
  cp : ∀ k, k < R → (if k < i then n + n else n) ≤ (h k).2
theorem Ri.start {B gm R n : Nat} {A : Nat → Nat → UInt8} {h : Nat → Nat × Nat} {W : World} (h1 : Rws B gm R h n A W) (h2 : Rb B n A h R W) : Ri B gm R n A h 0 W :=
  ⟨fun k hk => by rw [if_neg (by omega)]; exact h1.tc k hk, h1.tf, fun k j hk => by omega, fun k j hk => by omega, fun k _ hk => h2.row k hk, h1.ap, h1.tp, h1.lo, h1.lr, fun k hk => by rw [if_neg (by omega)]; exact h1.cp k hk⟩
theorem Ri.done {B gm R n : Nat} {A : Nat → Nat → UInt8} {h : Nat → Nat × Nat} {W : World} (h1 : Ri B gm R n A h R W) : Rws B gm R h (n + n) (bes n A) W :=
  ⟨fun k hk => by have := h1.tc k hk; rw [if_pos hk] at this; exact this, h1.tf, fun k j hk hj => h1.rc k j hk hj, fun k j hk hj => h1.rf k j hk hj, h1.ap, h1.tp, h1.lo, h1.lr, fun k hk => by have := h1.cp k hk; rw [if_pos hk] at this; exact this⟩
theorem Ri.next {B gm R n i g' cap' : Nat} {A : Nat → Nat → UInt8} {h : Nat → Nat × Nat} {W W' : World} (hr : Ri B gm R n A h i W) (hi : i < R) (hB : B ≤ W.heap.size) (hg : W.grownBy W' (some (h i).1)) (he : g' = (h i).1 ∨ g' = W.heap.size) (hlt : g' < W'.heap.size)
    (hc : ∀ j, j < n + n → W'.cell? ⟨g', j, none⟩ = some (.int .u8 ((bes n A i j).toNat : Int))) (hf : ∀ j, j < n + n → W'.frozen? ⟨g', j, none⟩ = false) (hcp : n + n ≤ cap') :
    Ri B gm R n A (fun k => if k = i then (g', cap') else h k) (i + 1) (W'.setCell ⟨gm, i, none⟩ (.slice (some ⟨g', 0, none⟩) (n + n) cap')) := by
  have hgi := hr.lr i hi
  have hgm : gm ≠ g' := by
    rcases he with rfl | rfl
    · exact hr.tp i hi
    · have := hr.lo.2; omega
  have hap : ∀ k, k < R → k ≠ i → (h k).1 ≠ g' := by
    intro k hk hki
    rcases he with rfl | rfl
    · exact hr.ap k i hk hi hki
    · have := (hr.lr k hk).2; omega
  have hbk : ∀ k, k < R → k ≠ i → W'.heap[(h k).1]? = W.heap[(h k).1]? := fun k hk hki => hg.block _ (hr.lr k hk).2 (fun e => hr.ap k i hk hi hki (by simpa using e))
  have hbm : W'.heap[gm]? = W.heap[gm]? := hg.block _ hr.lo.2 (fun e => hr.tp i hi (by simpa using e))
  have hcm : ∀ k, W'.cell? ⟨gm, k, none⟩ = W.cell? ⟨gm, k, none⟩ := fun k => World.cell?_of_block (w := W) (a := ⟨gm, k, none⟩) hbm
  have hck : ∀ k j, k < R → k ≠ i → W'.cell? ⟨(h k).1, j, none⟩ = W.cell? ⟨(h k).1, j, none⟩ := fun k j hk hki => World.cell?_of_block (w := W) (a := ⟨(h k).1, j, none⟩) (hbk k hk hki)
  have hfk : ∀ k j, k < R → k ≠ i → W'.frozen? ⟨(h k).1, j, none⟩ = W.frozen? ⟨(h k).1, j, none⟩ := fun k j hk hki => World.frozen?_of_block (w := W) (a := ⟨(h k).1, j, none⟩) (hbk k hk hki)
  refine ⟨fun k hk => ?_, fun k hk => ?_, fun k j hk hj => ?_, fun k j hk hj => ?_, fun k hik hk => ?_, fun k l hk hl hkl => ?_, fun k hk => ?_, ⟨hr.lo.1, by have := hr.lo.2; have := hg.size; simp [World.setCell]; omega⟩, fun k hk => ?_, fun k hk => ?_⟩
  · by_cases e : k = i
    · subst e
      simp only [if_pos, Nat.lt_succ_self]
      exact cel_same (by rw [hcm]; exact hr.tc k hk)
    · rw [cel_other (by intro e2; exact e (Addr.mk.inj e2).2.1.symm), hcm]
      simp only [if_neg e]
      have : (k < i + 1) = (k < i) := by apply propext; omega
      simp only [this]
      exact hr.tc k hk
  · rw [World.frozen?_setCell, World.frozen?_of_block (w := W) (a := ⟨gm, k, none⟩) hbm]; exact hr.tf k hk
  · by_cases e : k = i
    · subst e
      simp only [if_pos]
      rw [cel_other (by intro e2; exact hgm (Addr.mk.inj e2).1)]
      exact hc j hj
    · simp only [if_neg e]
      rw [cel_other (by intro e2; exact hr.tp k (by omega) (Addr.mk.inj e2).1), hck k j (by omega) e]
      exact hr.rc k j (by omega) hj
  · by_cases e : k = i
    · subst e
      simp only [if_pos]
      rw [World.frozen?_setCell]; exact hf j hj
    · simp only [if_neg e]
      rw [World.frozen?_setCell, hfk k j (by omega) e]
      exact hr.rf k j (by omega) hj
  · obtain ⟨C, h1, h2⟩ := hr.ro k (by omega) hk
    simp only [if_neg (show ¬ k = i by omega)]
    refine ⟨C, ?_, h2⟩
    show (W'.setCell _ _).heap[(h k).1]? = _
    rw [Below.heap_setCell _ _ _ _ (fun e => hr.tp k hk e.symm), hbk k hk (by omega)]
    exact h1
  · by_cases e : k = i
    · simp only [if_pos e, if_neg (show ¬ l = i by omega)]
      exact fun e2 => hap l hl (by omega) e2.symm
    · simp only [if_neg e]
      by_cases e2 : l = i
      · simp only [if_pos e2]; exact hap k hk e
      · simp only [if_neg e2]; exact hr.ap k l hk hl hkl
  · by_cases e : k = i
    · simp only [if_pos e]; exact hgm
    · simp only [if_neg e]; exact hr.tp k hk
  · have hz := hg.size
    by_cases e : k = i
    · simp only [if_pos e]
      refine ⟨?_, by simpa [World.setCell] using hlt⟩
      rcases he with rfl | rfl
      · exact hgi.1
      · exact hB
    · simp only [if_neg e]
      exact ⟨(hr.lr k hk).1, by have := (hr.lr k hk).2; simp [World.setCell]; omega⟩
  · by_cases e : k = i
    · simp only [if_pos e, if_pos (show k < i + 1 by omega)]; exact hcp
    · simp only [if_neg e]
      have : (k < i + 1) = (k < i) := by apply propext; omega
      simp only [this]
      exact hr.cp k hk
end Go.Proofs.Ytblmblbkfdcbjaa
