/- Rows of bytes, each in a block of its own, and the slice of them. No program is named here. -/
import Derived.Test.YtblmblbkfdcbjaaM3
namespace Go.Proofs.Ytblmblbkfdcbjaa
open Go.RowKit
set_option linter.unusedSimpArgs false
set_option linter.unusedVariables false
theorem frozen_below {w w' : World} {p : Addr} (hb : Below w.heap.size w w') (hp : p.block < w.heap.size) : w'.frozen? p = w.frozen? p := by
  simp only [World.frozen?, hb.block p.block hp]
theorem cel_same {W : World} {p : Addr} {u v : Value} (h : W.cell? p = some u) : (W.setCell p v).cell? p = some v := World.cell?_setCell_same' W p v (by rw [h]; rfl)
theorem cel_other {W : World} {p q : Addr} {v : Value} (h : p ≠ q) : (W.setCell p v).cell? q = W.cell? q := by
  first | exact World.cell?_setCell_other _ _ _ _ h | exact World.cell?_setCell_other W p q v h | exact World.cell?_setCell_other (h := h)
/-- The rows of a matrix as they lie in memory: B is what the call found. -/
structure Rws (B gm R : Nat) (hs : Nat → Nat × Nat) (L : Nat) (M : Nat → Nat → UInt8) (W : World) : Prop where
  tc : ∀ i, i < R → W.cell? ⟨gm, i, none⟩ = some (.slice (some ⟨(hs i).1, 0, none⟩) L (hs i).2)
  tf : ∀ i, i < R → W.frozen? ⟨gm, i, none⟩ = false
  rc : ∀ i k, i < R → k < L → W.cell? ⟨(hs i).1, k, none⟩ = some (.int .u8 ((M i k).toNat : Int))
  rf : ∀ i k, i < R → k < L → W.frozen? ⟨(hs i).1, k, none⟩ = false
  ap : ∀ i j, i < R → j < R → i ≠ j → (hs i).1 ≠ (hs j).1
  tp : ∀ i, i < R → gm ≠ (hs i).1
  lo : B ≤ gm ∧ gm < W.heap.size
  lr : ∀ i, i < R → B ≤ (hs i).1 ∧ (hs i).1 < W.heap.size
  cp : ∀ i, i < R → L ≤ (hs i).2
theorem Rws.below {B gm R L : Nat} {hs : Nat → Nat × Nat} {M : Nat → Nat → UInt8} {W W' : World} (h : Rws B gm R hs L M W) (hb : Below W.heap.size W W') : Rws B gm R hs L M W' where
  tc i hi := by rw [hb.cell (p := ⟨gm, i, none⟩) h.lo.2]; exact h.tc i hi
  tf i hi := by rw [frozen_below hb (p := ⟨gm, i, none⟩) h.lo.2]; exact h.tf i hi
  rc i k hi hk := by rw [hb.cell (p := ⟨(hs i).1, k, none⟩) (h.lr i hi).2]; exact h.rc i k hi hk
  rf i k hi hk := by rw [frozen_below hb (p := ⟨(hs i).1, k, none⟩) (h.lr i hi).2]; exact h.rf i k hi hk
  ap := h.ap
  tp := h.tp
  lo := ⟨h.lo.1, Nat.lt_of_lt_of_le h.lo.2 hb.size⟩
  lr i hi := ⟨(h.lr i hi).1, Nat.lt_of_lt_of_le (h.lr i hi).2 hb.size⟩
  cp := h.cp
theorem Rws.drew {B gm R L : Nat} {hs : Nat → Nat × Nat} {M : Nat → Nat → UInt8} {W : World} (h : Rws B gm R hs L M W) : Rws B gm R hs L M W.drew := h.below (Below.refl _ _).drew
/-- One byte laid anew. -/
def upd (M : Nat → Nat → UInt8) (i k : Nat) (v : UInt8) (a b : Nat) : UInt8 := if a = i ∧ b = k then v else M a b
theorem Rws.byte {B gm R L : Nat} {hs : Nat → Nat × Nat} {M : Nat → Nat → UInt8} {W : World} (h : Rws B gm R hs L M W) (i k : Nat) (hi : i < R) (hk : k < L) (v : UInt8) : Rws B gm R hs L (upd M i k v) (W.setCell ⟨(hs i).1, k, none⟩ (.int .u8 (v.toNat : Int))) where
  tc a ha := by rw [cel_other (by intro e; exact h.tp i hi (Addr.mk.inj e).1.symm)]; exact h.tc a ha
  tf a ha := by rw [World.frozen?_setCell]; exact h.tf a ha
  rc a b ha hb := by
    unfold upd
    by_cases e : a = i ∧ b = k
    · rw [if_pos e, e.1, e.2]; exact cel_same (h.rc i k hi hk)
    · rw [if_neg e, cel_other (by
        intro e2
        obtain ⟨e3, e4, _⟩ := Addr.mk.inj e2
        by_cases e5 : a = i
        · exact e ⟨e5, e4.symm⟩
        · exact h.ap a i ha hi e5 e3.symm)]
      exact h.rc a b ha hb
  rf a b ha hb := by rw [World.frozen?_setCell]; exact h.rf a b ha hb
  ap := h.ap
  tp := h.tp
  lo := ⟨h.lo.1, by simpa [World.setCell] using h.lo.2⟩
  lr a ha := ⟨(h.lr a ha).1, by simpa [World.setCell] using (h.lr a ha).2⟩
  cp := h.cp
def swp {α : Type} (f : Nat → α) (p t i : Nat) : α := if i = t then f p else if i = p then f t else f i
theorem Rws.swap {B gm R L : Nat} {hs : Nat → Nat × Nat} {M : Nat → Nat → UInt8} {W : World} (h : Rws B gm R hs L M W) (p t : Nat) (hp : p < R) (ht : t < R) :
    Rws B gm R (swp hs p t) L (swp M p t) ((W.setCell ⟨gm, p, none⟩ (.slice (some ⟨(hs t).1, 0, none⟩) L (hs t).2)).setCell ⟨gm, t, none⟩ (.slice (some ⟨(hs p).1, 0, none⟩) L (hs p).2)) := by
  have hx : ∀ i, i < R → ∃ j, j < R ∧ swp hs p t i = hs j ∧ swp M p t i = M j := by
    intro i hi
    unfold swp
    by_cases e1 : i = t
    · exact ⟨p, hp, by rw [if_pos e1], by rw [if_pos e1]⟩
    · by_cases e2 : i = p
      · exact ⟨t, ht, by rw [if_neg e1, if_pos e2], by rw [if_neg e1, if_pos e2]⟩
      · exact ⟨i, hi, by rw [if_neg e1, if_neg e2], by rw [if_neg e1, if_neg e2]⟩
  refine ⟨fun i hi => ?_, fun i hi => ?_, fun i k hi hk => ?_, fun i k hi hk => ?_, fun i j hi hj hij => ?_, fun i hi => ?_, ⟨h.lo.1, by simpa [World.setCell] using h.lo.2⟩, fun i hi => ?_, fun i hi => ?_⟩
  · unfold swp
    by_cases e1 : i = t
    · simp only [if_pos e1]
      rw [e1]
      by_cases e3 : p = t
      · rw [e3]; exact cel_same (cel_same (h.tc t ht))
      · exact cel_same (by rw [cel_other (by intro e; exact e3 (Addr.mk.inj e).2.1)]; exact h.tc t ht)
    · simp only [if_neg e1]
      rw [cel_other (by intro e; exact e1 (Addr.mk.inj e).2.1.symm)]
      by_cases e2 : i = p
      · simp only [if_pos e2]
        rw [e2]
        exact cel_same (h.tc p hp)
      · simp only [if_neg e2]
        rw [cel_other (by intro e; exact e2 (Addr.mk.inj e).2.1.symm)]
        exact h.tc i hi
  · rw [World.frozen?_setCell, World.frozen?_setCell]; exact h.tf i hi
  · obtain ⟨j, hj, e1, e2⟩ := hx i hi
    rw [e1, e2, cel_other (by intro e; exact h.tp j hj (Addr.mk.inj e).1), cel_other (by intro e; exact h.tp j hj (Addr.mk.inj e).1)]
    exact h.rc j k hj hk
  · obtain ⟨j, hj, e1, e2⟩ := hx i hi
    rw [e1, World.frozen?_setCell, World.frozen?_setCell]; exact h.rf j k hj hk
  · unfold swp
    by_cases a1 : i = t
    · simp only [if_pos a1]
      by_cases b1 : j = t
      · omega
      · simp only [if_neg b1]
        by_cases b2 : j = p
        · simp only [if_pos b2]
          exact h.ap p t hp ht (by omega)
        · simp only [if_neg b2]
          exact h.ap p j hp hj (by omega)
    · simp only [if_neg a1]
      by_cases a2 : i = p
      · simp only [if_pos a2]
        by_cases b1 : j = t
        · simp only [if_pos b1]
          exact h.ap t p ht hp (by omega)
        · simp only [if_neg b1]
          by_cases b2 : j = p
          · omega
          · simp only [if_neg b2]
            exact h.ap t j ht hj (by omega)
      · simp only [if_neg a2]
        by_cases b1 : j = t
        · simp only [if_pos b1]
          exact h.ap i p hi hp (by omega)
        · simp only [if_neg b1]
          by_cases b2 : j = p
          · simp only [if_pos b2]
            exact h.ap i t hi ht (by omega)
          · simp only [if_neg b2]
            exact h.ap i j hi hj hij
  · obtain ⟨j, hj, e1, _⟩ := hx i hi
    rw [e1]; exact h.tp j hj
  · obtain ⟨j, hj, e1, _⟩ := hx i hi
    rw [e1]
    exact ⟨(h.lr j hj).1, by simpa [World.setCell] using (h.lr j hj).2⟩
  · obtain ⟨j, hj, e1, _⟩ := hx i hi
    rw [e1]; exact h.cp j hj
theorem Rws.eqv {B gm R L : Nat} {hs : Nat → Nat × Nat} {M N : Nat → Nat → UInt8} {W : World} (h : Rws B gm R hs L M W) (e : ∀ i k, i < R → k < L → N i k = M i k) : Rws B gm R hs L N W :=
  ⟨h.tc, h.tf, fun i k hi hk => by rw [e i k hi hk]; exact h.rc i k hi hk, h.rf, h.ap, h.tp, h.lo, h.lr, h.cp⟩
end Go.Proofs.Ytblmblbkfdcbjaa
