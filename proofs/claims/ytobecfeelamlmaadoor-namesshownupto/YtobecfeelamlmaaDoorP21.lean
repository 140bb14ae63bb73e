/- What the document's Read tells, as plain facts. -/
import Derived.Test.YtobecfeelamlmaaDoorP19
namespace Go.Proofs.YtobecfeelamlmaaDoor
open Go.Lib
set_option linter.unusedSimpArgs false
set_option linter.unusedVariables false
/-- A digit's number, as the document has it; 16: it is none. -/
def dgt (c : Nat) : Nat := if 48 ≤ c ∧ c ≤ 57 then c - 48 else if 97 ≤ c ∧ c ≤ 102 then c - 87 else 16
theorem dgt_le (c : Nat) : dgt c ≤ 16 := by (unfold dgt; repeat' split) <;> omega
theorem dgt_hxd (d : Nat) (h : d < 16) : dgt (hxd d).toNat = d := by
  have e : ∀ j : Fin 16, dgt (hxd j.val).toNat = j.val := by decide +kernel
  exact e ⟨d, h⟩
/-- The digits at the front, as far as they go: what they say, and how many they are. -/
def dgl : Nat → List UInt8 → Nat × Nat
  | n, [] => (n, 0)
  | n, c :: t => if dgt c.toNat < 16 ∧ n ≤ 1114111 then ((dgl (16 * n + dgt c.toNat) t).1, (dgl (16 * n + dgt c.toNat) t).2 + 1) else (n, 0)
theorem dgl_yes (n : Nat) (c : UInt8) (t : List UInt8) (h1 : dgt c.toNat < 16) (h2 : n ≤ 1114111) : dgl n (c :: t) = ((dgl (16 * n + dgt c.toNat) t).1, (dgl (16 * n + dgt c.toNat) t).2 + 1) := by
  rw [dgl, if_pos ⟨h1, h2⟩]
theorem dgl_no (n : Nat) (c : UInt8) (t : List UInt8) (h : ¬(dgt c.toNat < 16 ∧ n ≤ 1114111)) : dgl n (c :: t) = (n, 0) := by
  rw [dgl, if_neg h]
theorem dgl_hx : ∀ (f m : Nat) (t : List UInt8), m ≤ f → m ≤ 1114111 → dgl 0 (hx m ++ t) = ((dgl m t).1, (dgl m t).2 + (hx m).length)
  | 0, m, t, hf, hm => by
    obtain rfl : m = 0 := by omega
    rw [hx_small (by omega)]
    show dgl 0 (hxd 0 :: t) = _
    rw [dgl_yes 0 _ t (by rw [dgt_hxd 0 (by omega)]; omega) (by omega), dgt_hxd 0 (by omega)]
    rfl
  | f + 1, m, t, hf, hm => by
    by_cases h : m < 16
    · rw [hx_small h]
      show dgl 0 (hxd m :: t) = _
      rw [dgl_yes 0 _ t (by rw [dgt_hxd m h]; exact h) (by omega), dgt_hxd m h, show 16 * 0 + m = m from by omega]
      rfl
    · rw [hx_big h, List.append_assoc, dgl_hx f (m / 16) _ (by omega) (by omega)]
      rw [show [hxd (m % 16)] ++ t = hxd (m % 16) :: t from rfl, dgl_yes (m / 16) _ t (by rw [dgt_hxd _ (by omega)]; omega) (by omega), dgt_hxd _ (by omega), show 16 * (m / 16) + m % 16 = m from by omega, List.length_append]
      simp only [List.length_cons, List.length_nil, Prod.mk.injEq, true_and]
      omega
theorem tak_true {s p b : List UInt8} {ok : Bool} (h : Tak s p b ok) : Tak s p b true := fun x hne hx => ⟨rfl, (h x hne hx).2⟩
theorem tak_ru (u : List UInt8) : Tak (92 :: 117 :: u) (encR (dgl 0 u).1) (u.drop ((dgl 0 u).2 + 1)) true := by
  intro x hne hxx
  have hb := sh_beg x hne
  rw [← hxx] at hb
  cases hb with
  | plain c' h1 h2 h3 h4 h5 => simp only [List.cons.injEq] at h5; exact absurd h5.1.symm h1
  | bs h4 h5 => simp only [List.cons.injEq] at h5; exact absurd h5.2.1 (by decide)
  | byte b h1 h4 h5 => simp only [List.cons.injEq] at h5; exact absurd h5.2.1 (by decide)
  | rune r h1 h2 h4 h5 =>
    simp only [List.cons.injEq, true_and] at h5
    have hd : dgl 0 u = (r, (hx r).length) := by
      rw [h5, dgl_hx r r _ (Nat.le_refl _) h1, dgl_no r 59 _ (by intro h; exact absurd h.1 (by decide))]
      simp
    rw [hd]
    refine ⟨rfl, h4.symm, ?_⟩
    rw [h5]
    show List.drop ((hx r).length + 1) (hx r ++ 59 :: sh (x.drop (fwd x))) = _
    rw [← List.drop_drop, List.drop_left]; rfl
theorem tak_rx (d1 d2 : UInt8) (t : List UInt8) : Tak (92 :: 120 :: d1 :: d2 :: t) [(16 * dgt d1.toNat + dgt d2.toNat).toUInt8] t true := by
  intro x hne hx
  have hb := sh_beg x hne
  rw [← hx] at hb
  cases hb with
  | plain c' h1 h2 h3 h4 h5 => simp only [List.cons.injEq] at h5; exact absurd h5.1.symm h1
  | bs h4 h5 => simp only [List.cons.injEq] at h5; exact absurd h5.2.1 (by decide)
  | byte b h1 h4 h5 =>
    simp only [List.cons.injEq, true_and] at h5
    obtain ⟨rfl, rfl, rfl⟩ := h5
    have hb256 := b.toNat_lt
    rw [dgt_hxd _ (by omega), dgt_hxd _ (by omega), show 16 * (b.toNat / 16) + b.toNat % 16 = b.toNat from by omega]
    exact ⟨rfl, by rw [h4]; simp [Nat.toUInt8], rfl⟩
  | rune r h1 h2 h4 h5 => simp only [List.cons.injEq] at h5; exact absurd h5.2.1 (by decide)
theorem tak_rxn (d1 d2 : UInt8) (t p b : List UInt8) (ok : Bool) (h : 15 < dgt d1.toNat ∨ 15 < dgt d2.toNat) : Tak (92 :: 120 :: d1 :: d2 :: t) p b ok := by
  intro x hne hx
  have hb := sh_beg x hne
  rw [← hx] at hb
  cases hb with
  | plain c' h1 h2 h3 h4 h5 => simp only [List.cons.injEq] at h5; exact absurd h5.1.symm h1
  | bs h4 h5 => simp only [List.cons.injEq] at h5; exact absurd h5.2.1 (by decide)
  | byte b h1 h4 h5 =>
    simp only [List.cons.injEq, true_and] at h5
    obtain ⟨rfl, rfl, rfl⟩ := h5
    have hb256 := b.toNat_lt
    rw [dgt_hxd _ (by omega), dgt_hxd _ (by omega)] at h
    omega
  | rune r h1 h2 h4 h5 => simp only [List.cons.injEq] at h5; exact absurd h5.2.1 (by decide)
end Go.Proofs.YtobecfeelamlmaaDoor
