/- Elimination with rows exchanged, column by column (the document's): what it keeps, and what it tells. -/
import Derived.Test.YtblmblbkfdcbjaaK12
namespace Go.Proofs.Ytblmblbkfdcbjaa
open Go.RowKit
set_option linter.unusedSimpArgs false
set_option linter.unusedVariables false
/-- A row that is made of rows. -/
def Spn (R : Nat) (A : Nat → Nat → UInt8) (L : Nat) (v : Nat → UInt8) : Prop := ∃ c : Nat → UInt8, ∀ j, j < L → v j = Sx R (fun l => mul (c l) (A l j))
theorem Spn.row {R L : Nat} {A : Nat → Nat → UInt8} (i : Nat) (hi : i < R) : Spn R A L (A i) := by
  refine ⟨fun l => if l = i then 1 else 0, fun j _ => ?_⟩
  rw [Sx_one R _ i hi (fun l _ h => by simp only [if_neg h]; exact zero_mul _)]
  simp only [if_pos rfl]
  exact (one_mul _).symm
theorem Spn.add {R L : Nat} {A : Nat → Nat → UInt8} {u v : Nat → UInt8} (hu : Spn R A L u) (hv : Spn R A L v) : Spn R A L (fun j => u j ^^^ v j) := by
  obtain ⟨c, hc⟩ := hu
  obtain ⟨d, hd⟩ := hv
  refine ⟨fun l => c l ^^^ d l, fun j hj => ?_⟩
  show u j ^^^ v j = _
  rw [hc j hj, hd j hj, ← Sx_add]
  apply Sx_congr
  intro l _
  rw [mul_xor_left]
theorem Spn.mul {R L : Nat} {A : Nat → Nat → UInt8} {u : Nat → UInt8} (t : UInt8) (hu : Spn R A L u) : Spn R A L (fun j => Go.Proofs.Ytblmblbkfdcbjaa.mul t (u j)) := by
  obtain ⟨c, hc⟩ := hu
  refine ⟨fun l => Go.Proofs.Ytblmblbkfdcbjaa.mul t (c l), fun j hj => ?_⟩
  show Go.Proofs.Ytblmblbkfdcbjaa.mul t (u j) = _
  rw [hc j hj, mul_comm, ← Sx_mul]
  apply Sx_congr
  intro l _
  rw [mul_comm (Go.Proofs.Ytblmblbkfdcbjaa.mul (c l) (A l j)), mul_assoc]
theorem Spn.congr {R L : Nat} {A : Nat → Nat → UInt8} {u v : Nat → UInt8} (hu : Spn R A L u) (h : ∀ j, j < L → v j = u j) : Spn R A L v := by
  obtain ⟨c, hc⟩ := hu
  exact ⟨c, fun j hj => by rw [h j hj, hc j hj]⟩
theorem Spn.trans {R S L : Nat} {A B : Nat → Nat → UInt8} {v : Nat → UInt8} (h : ∀ i, i < S → Spn R A L (B i)) (hv : Spn S B L v) : Spn R A L v := by
  obtain ⟨c, hc⟩ := hv
  refine ⟨fun l => Sx S (fun i => if h' : i < S then Go.Proofs.Ytblmblbkfdcbjaa.mul (c i) (Classical.choose (h i h') l) else 0), fun j hj => ?_⟩
  rw [hc j hj]
  rw [Sx_congr S _ (fun i => Sx R (fun l => Go.Proofs.Ytblmblbkfdcbjaa.mul (if h' : i < S then Go.Proofs.Ytblmblbkfdcbjaa.mul (c i) (Classical.choose (h i h') l) else 0) (A l j))) (fun i hi => by
    have e := Classical.choose_spec (h i hi) j hj
    rw [e, mul_comm, ← Sx_mul]
    apply Sx_congr
    intro l _
    simp only [dif_pos hi]
    rw [mul_comm (Go.Proofs.Ytblmblbkfdcbjaa.mul _ (A l j)), mul_assoc]), Sx_swap]
  apply Sx_congr
  intro l _
  rw [Sx_mul]
/-- Where an elimination is: c columns done, t rows have one. -/
structure El (A : Nat → Nat → UInt8) (R L n c t : Nat) (pv : Nat → Nat) (M : Nat → Nat → UInt8) : Prop where
  up : ∀ i, i < R → Spn R A L (M i)
  dn : ∀ i, i < R → Spn R M L (A i)
  tr : t ≤ R
  cn : c ≤ n
  nl : n ≤ L
  lt : ∀ k, k < t → pv k < c
  mo : ∀ k l, k < l → l < t → pv k < pv l
  pu : ∀ k i, k < t → i < R → M i (pv k) = if i = k then 1 else 0
  ze : ∀ i j, t ≤ i → i < R → j < c → M i j = 0
theorem El.start (A M : Nat → Nat → UInt8) (R L n : Nat) (h : n ≤ L) (hM : ∀ i j, i < R → j < L → M i j = A i j) : El A R L n 0 0 (fun _ => 0) M where
  up i hi := (Spn.row i hi).congr (fun j hj => hM i j hi hj)
  dn i hi := (Spn.row i hi).congr (fun j hj => (hM i j hi hj).symm)
  tr := Nat.zero_le _
  cn := Nat.zero_le _
  nl := h
  lt k hk := by omega
  mo k l _ hl := by omega
  pu k i hk := by omega
  ze i j _ _ hj := by omega
theorem El.none {A M : Nat → Nat → UInt8} {R L n c t : Nat} {pv : Nat → Nat} (h : El A R L n c t pv M) (hc : c < n) (hz : ∀ i, t ≤ i → i < R → M i c = 0) : El A R L n (c + 1) t pv M where
  up := h.up
  dn := h.dn
  tr := h.tr
  cn := hc
  nl := h.nl
  lt k hk := by have := h.lt k hk; omega
  mo := h.mo
  pu := h.pu
  ze i j hi hr hj := by
    by_cases e : j = c
    · subst e; exact hz i hi hr
    · exact h.ze i j hi hr (by omega)
theorem El.some {A M N : Nat → Nat → UInt8} {R L n c t p : Nat} {pv : Nat → Nat} (h : El A R L n c t pv M) (hc : c < n) (htp : t ≤ p) (hp : p < R) (hne : M p c ≠ 0)
    (hN : ∀ i j, i < R → j < L → N i j = if i = t then mul (M p j) (inv (M p c)) else (if i = p then M t j else M i j) ^^^ mul (if i = p then M t c else M i c) (mul (M p j) (inv (M p c)))) :
    El A R L n (c + 1) (t + 1) (fun k => if k = t then c else pv k) N where
  up i hi := by
    have ht : t < R := by omega
    by_cases e : i = t
    · refine (Spn.mul (inv (M p c)) (h.up p hp)).congr (fun j hj => ?_)
      rw [hN i j hi hj, if_pos e, mul_comm]
    · by_cases e2 : i = p
      · refine ((h.up t ht).add (Spn.mul (mul (M t c) (inv (M p c))) (h.up p hp))).congr (fun j hj => ?_)
        rw [hN i j hi hj, if_neg e, if_pos e2, if_pos e2, mul_comm (M p j), mul_assoc]
      · refine ((h.up i hi).add (Spn.mul (mul (M i c) (inv (M p c))) (h.up p hp))).congr (fun j hj => ?_)
        rw [hN i j hi hj, if_neg e, if_neg e2, if_neg e2, mul_comm (M p j), mul_assoc]
  dn i hi := by
    have ht : t < R := by omega
    refine Spn.trans (fun k hk => ?_) (h.dn i hi)
    have hpt : ∀ j, j < L → M p j = mul (M p c) (N t j) := fun j hj => by
      rw [hN t j ht hj, if_pos rfl, mul_comm (M p j), ← mul_assoc, inv_mul _ hne, one_mul]
    have hP : Spn R N L (M p) := (Spn.mul (M p c) (Spn.row t ht)).congr hpt
    by_cases e1 : k = p
    · rw [e1]; exact hP
    · by_cases e2 : k = t
      · subst e2
        refine ((Spn.row p hp).add (Spn.mul (mul (M k c) (inv (M p c))) hP)).congr (fun j hj => ?_)
        rw [hN p j hp hj, if_neg (fun e => e1 e.symm), if_pos rfl, if_pos rfl, mul_comm (M p j), mul_assoc, UInt8.xor_assoc, UInt8.xor_self, UInt8.xor_zero]
      · refine ((Spn.row k hk).add (Spn.mul (mul (M k c) (inv (M p c))) hP)).congr (fun j hj => ?_)
        rw [hN k j hk hj, if_neg e2, if_neg e1, if_neg e1, mul_comm (M p j), mul_assoc, UInt8.xor_assoc, UInt8.xor_self, UInt8.xor_zero]
  tr := by omega
  cn := hc
  nl := h.nl
  lt k hk := by
    by_cases e : k = t
    · simp only [if_pos e]; omega
    · simp only [if_neg e]; have := h.lt k (by omega); omega
  mo k l hkl hl := by
    simp only [if_neg (show ¬ k = t by omega)]
    by_cases e : l = t
    · simp only [if_pos e]; exact h.lt k (by omega)
    · simp only [if_neg e]; exact h.mo k l hkl (by omega)
  pu k i hk hi := by
    have hcl : c < L := by have := h.nl; omega
    by_cases e : k = t
    · simp only [if_pos e]
      rw [hN i c hi hcl, inv_mul _ hne, mul_one, e]
      by_cases e2 : i = t
      · simp only [if_pos e2]
      · simp only [if_neg e2]
        by_cases e3 : i = p
        · simp only [if_pos e3]; exact UInt8.xor_self
        · simp only [if_neg e3]; exact UInt8.xor_self
    · simp only [if_neg e]
      have hk' : k < t := by omega
      have hpl : pv k < L := by have := h.lt k hk'; omega
      have hz : M p (pv k) = 0 := by rw [h.pu k p hk' hp, if_neg (by omega)]
      have hzt : M t (pv k) = 0 := by rw [h.pu k t hk' (by omega), if_neg (by omega)]
      rw [hN i (pv k) hi hpl, hz, zero_mul, mul_zero_right, UInt8.xor_zero, hzt]
      by_cases e2 : i = t
      · rw [if_pos e2, if_neg (by omega)]
      · rw [if_neg e2]
        by_cases e3 : i = p
        · rw [if_pos e3, if_neg (by omega)]
        · rw [if_neg e3, h.pu k i hk' hi]
  ze i j hti hi hj := by
    have hcl : c < L := by have := h.nl; omega
    have hjl : j < L := by omega
    rw [hN i j hi hjl, if_neg (by omega)]
    by_cases e : j = c
    · subst e
      rw [inv_mul _ hne, mul_one]
      by_cases e3 : i = p
      · simp only [if_pos e3]; exact UInt8.xor_self
      · simp only [if_neg e3]; exact UInt8.xor_self
    · rw [h.ze p j htp hp (by omega), zero_mul, mul_zero_right, UInt8.xor_zero]
      by_cases e3 : i = p
      · rw [if_pos e3]; exact h.ze t j (Nat.le_refl _) (by omega) (by omega)
      · rw [if_neg e3]; exact h.ze i j (by omega) hi (by omega)
end Go.Proofs.Ytblmblbkfdcbjaa
