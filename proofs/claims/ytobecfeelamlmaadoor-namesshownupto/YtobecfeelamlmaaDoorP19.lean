/- What takeShown tells, as plain facts. -/
import Derived.Test.YtobecfeelamlmaaDoorP18
import Derived.Test.YtobecfeelamlmaaDoorN20
namespace Go.Proofs.YtobecfeelamlmaaDoor
open Go.Lib
set_option linter.unusedSimpArgs false
set_option linter.unusedVariables false
theorem hxd_2 (b : UInt8) (h : 128 ≤ b.toNat) : hexP 255 0 [hxd (b.toNat / 16), hxd (b.toNat % 16)] = some b.toNat := by
  rw [← hx_2 b.toNat (by omega) b.toNat_lt]
  exact hexP_of_hx _ _ (by have := b.toNat_lt; omega)
theorem first_59 : ∀ (a b t u : List UInt8), (59 : UInt8) ∉ a → (59 : UInt8) ∉ b → a ++ 59 :: t = b ++ 59 :: u → a = b ∧ t = u
  | [], [], t, u, _, _, h => by simpa using h
  | [], d :: b, t, u, _, hb, h => by
    simp only [List.nil_append, List.cons_append, List.cons.injEq] at h
    exact absurd (by rw [← h.1]; simp) hb
  | c :: a, [], t, u, ha, _, h => by
    simp only [List.nil_append, List.cons_append, List.cons.injEq] at h
    exact absurd (by rw [h.1]; simp) ha
  | c :: a, d :: b, t, u, ha, hb, h => by
    simp only [List.cons_append, List.cons.injEq] at h
    obtain ⟨h1, h2⟩ := first_59 a b t u (fun x => ha (by simp [x])) (fun x => hb (by simp [x])) h.2
    exact ⟨by rw [h.1, h1], h2⟩
theorem hx_59 (r : Nat) : (59 : UInt8) ∉ hx r := fun h => (hx_mem r r (Nat.le_refl _) 59 h).1 rfl
theorem tak_plain (c : UInt8) (t : List UInt8) (hc : c ≠ 92) : Tak (c :: t) [c] t (decide (32 ≤ c.toNat ∧ c.toNat ≤ 126)) := by
  intro x hne hx
  have hb := sh_beg x hne
  rw [← hx] at hb
  cases hb with
  | plain c' h1 h2 h3 h4 h5 =>
    simp only [List.cons.injEq] at h5
    obtain ⟨rfl, rfl⟩ := h5
    exact ⟨by simp [h2, h3], h4.symm, rfl⟩
  | bs h4 h5 => simp only [List.cons.injEq] at h5; exact absurd h5.1 hc
  | byte b h1 h4 h5 => simp only [List.cons.injEq] at h5; exact absurd h5.1 hc
  | rune r h1 h2 h4 h5 => simp only [List.cons.injEq] at h5; exact absurd h5.1 hc
theorem tak_bs (t : List UInt8) : Tak (92 :: 92 :: t) [92] t true := by
  intro x hne hx
  have hb := sh_beg x hne
  rw [← hx] at hb
  cases hb with
  | plain c' h1 h2 h3 h4 h5 => simp only [List.cons.injEq] at h5; exact absurd h5.1.symm h1
  | bs h4 h5 => simp only [List.cons.injEq, true_and] at h5; subst h5; exact ⟨rfl, h4.symm, rfl⟩
  | byte b h1 h4 h5 => simp only [List.cons.injEq] at h5; exact absurd h5.2.1 (by decide)
  | rune r h1 h2 h4 h5 => simp only [List.cons.injEq] at h5; exact absurd h5.2.1 (by decide)
theorem tak_x (d1 d2 : UInt8) (t : List UInt8) (n : Nat) (h : hexP 255 0 [d1, d2] = some n) : Tak (92 :: 120 :: d1 :: d2 :: t) [n.toUInt8] t true := by
  intro x hne hx
  have hb := sh_beg x hne
  rw [← hx] at hb
  cases hb with
  | plain c' h1 h2 h3 h4 h5 => simp only [List.cons.injEq] at h5; exact absurd h5.1.symm h1
  | bs h4 h5 => simp only [List.cons.injEq] at h5; exact absurd h5.2.1 (by decide)
  | byte b h1 h4 h5 =>
    simp only [List.cons.injEq, true_and] at h5
    obtain ⟨rfl, rfl, rfl⟩ := h5
    rw [hxd_2 b h1] at h
    simp only [Option.some.injEq] at h
    subst h
    exact ⟨rfl, by rw [h4]; simp [Nat.toUInt8], rfl⟩
  | rune r h1 h2 h4 h5 => simp only [List.cons.injEq] at h5; exact absurd h5.2.1 (by decide)
theorem tak_xn (d1 d2 : UInt8) (t p b : List UInt8) (ok : Bool) (h : hexP 255 0 [d1, d2] = none) : Tak (92 :: 120 :: d1 :: d2 :: t) p b ok := by
  intro x hne hx
  have hb := sh_beg x hne
  rw [← hx] at hb
  cases hb with
  | plain c' h1 h2 h3 h4 h5 => simp only [List.cons.injEq] at h5; exact absurd h5.1.symm h1
  | bs h4 h5 => simp only [List.cons.injEq] at h5; exact absurd h5.2.1 (by decide)
  | byte b h1 h4 h5 =>
    simp only [List.cons.injEq, true_and] at h5
    obtain ⟨rfl, rfl, rfl⟩ := h5
    rw [hxd_2 b h1] at h
    cases h
  | rune r h1 h2 h4 h5 => simp only [List.cons.injEq] at h5; exact absurd h5.2.1 (by decide)
theorem tak_xs (t p b : List UInt8) (ok : Bool) (h : t.length < 2) : Tak (92 :: 120 :: t) p b ok := by
  intro x hne hx
  have hb := sh_beg x hne
  rw [← hx] at hb
  cases hb with
  | plain c' h1 h2 h3 h4 h5 => simp only [List.cons.injEq] at h5; exact absurd h5.1.symm h1
  | bs h4 h5 => simp only [List.cons.injEq] at h5; exact absurd h5.2.1 (by decide)
  | byte b h1 h4 h5 =>
    simp only [List.cons.injEq, true_and] at h5
    rw [h5] at h
    simp at h
    omega
  | rune r h1 h2 h4 h5 => simp only [List.cons.injEq] at h5; exact absurd h5.2.1 (by decide)
theorem tak_u (d t p : List UInt8) (n : Nat) (hd : (59 : UInt8) ∉ d) (h : hexP 4294967295 0 d = some n) (hp : scal n → p = encR n) : Tak (92 :: 117 :: (d ++ 59 :: t)) p t true := by
  intro x hne hx
  have hb := sh_beg x hne
  rw [← hx] at hb
  cases hb with
  | plain c' h1 h2 h3 h4 h5 => simp only [List.cons.injEq] at h5; exact absurd h5.1.symm h1
  | bs h4 h5 => simp only [List.cons.injEq] at h5; exact absurd h5.2.1 (by decide)
  | byte b h1 h4 h5 => simp only [List.cons.injEq] at h5; exact absurd h5.2.1 (by decide)
  | rune r h1 h2 h4 h5 =>
    simp only [List.cons.injEq, true_and] at h5
    obtain ⟨rfl, rfl⟩ := first_59 _ _ _ _ hd (hx_59 r) h5
    rw [hexP_of_hx r _ (by omega)] at h
    simp only [Option.some.injEq] at h
    subst h
    exact ⟨rfl, by rw [hp h2]; exact h4.symm, rfl⟩
theorem tak_un (d t p b : List UInt8) (ok : Bool) (hd : (59 : UInt8) ∉ d) (h : d = [] ∨ hexP 4294967295 0 d = none) : Tak (92 :: 117 :: (d ++ 59 :: t)) p b ok := by
  intro x hne hx
  have hb := sh_beg x hne
  rw [← hx] at hb
  cases hb with
  | plain c' h1 h2 h3 h4 h5 => simp only [List.cons.injEq] at h5; exact absurd h5.1.symm h1
  | bs h4 h5 => simp only [List.cons.injEq] at h5; exact absurd h5.2.1 (by decide)
  | byte b h1 h4 h5 => simp only [List.cons.injEq] at h5; exact absurd h5.2.1 (by decide)
  | rune r h1 h2 h4 h5 =>
    simp only [List.cons.injEq, true_and] at h5
    obtain ⟨rfl, rfl⟩ := first_59 _ _ _ _ hd (hx_59 r) h5
    rcases h with h | h
    · have := (hx_len 5 r (by omega)).1
      rw [h] at this
      simp at this
    · rw [hexP_of_hx r _ (by omega)] at h
      cases h
theorem tak_ue (u p b : List UInt8) (ok : Bool) (hd : (59 : UInt8) ∉ u) : Tak (92 :: 117 :: u) p b ok := by
  intro x hne hx
  have hb := sh_beg x hne
  rw [← hx] at hb
  cases hb with
  | plain c' h1 h2 h3 h4 h5 => simp only [List.cons.injEq] at h5; exact absurd h5.1.symm h1
  | bs h4 h5 => simp only [List.cons.injEq] at h5; exact absurd h5.2.1 (by decide)
  | byte b h1 h4 h5 => simp only [List.cons.injEq] at h5; exact absurd h5.2.1 (by decide)
  | rune r h1 h2 h4 h5 =>
    simp only [List.cons.injEq, true_and] at h5
    exact absurd (by rw [h5]; simp) hd
theorem tak_one (p b : List UInt8) (ok : Bool) : Tak [92] p b ok := by
  intro x hne hx
  have hb := sh_beg x hne
  rw [← hx] at hb
  cases hb with
  | plain c' h1 h2 h3 h4 h5 => simp only [List.cons.injEq] at h5; exact absurd h5.1.symm h1
  | bs h4 h5 => simp at h5
  | byte b h1 h4 h5 => simp at h5
  | rune r h1 h2 h4 h5 => simp at h5
theorem tak_other (c : UInt8) (t p b : List UInt8) (ok : Bool) (h1 : c ≠ 92) (h2 : c ≠ 120) (h3 : c ≠ 117) : Tak (92 :: c :: t) p b ok := by
  intro x hne hx
  have hb := sh_beg x hne
  rw [← hx] at hb
  cases hb with
  | plain c' g1 g2 g3 h4 h5 => simp only [List.cons.injEq] at h5; exact absurd h5.1.symm g1
  | bs h4 h5 => simp only [List.cons.injEq] at h5; exact absurd h5.2.1 h1
  | byte b g1 h4 h5 => simp only [List.cons.injEq] at h5; exact absurd h5.2.1 h2
  | rune r g1 g2 h4 h5 => simp only [List.cons.injEq] at h5; exact absurd h5.2.1 h3
end Go.Proofs.YtobecfeelamlmaaDoor
