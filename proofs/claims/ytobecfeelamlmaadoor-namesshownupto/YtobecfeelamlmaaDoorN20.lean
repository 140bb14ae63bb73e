/- What ParseUint reads of digits that FormatUint wrote; how the front of a shown text looks. -/
import Derived.Test.YtobecfeelamlmaaDoorN18
namespace Go.Proofs.YtobecfeelamlmaaDoor
open Go.RowKit
set_option linter.unusedSimpArgs false
set_option linter.unusedVariables false
theorem dgv_hxd (d : Nat) (h : d < 16) : dgv (hxd d).toNat = some d := by
  have e : ∀ j : Fin 16, dgv (hxd j.val).toNat = some j.val := by decide +kernel
  exact e ⟨d, h⟩
theorem hexP_hx : ∀ (f m M : Nat) (t : List UInt8), m ≤ f → m ≤ M → hexP M 0 (hx m ++ t) = hexP M m t
  | 0, m, M, t, hf, hm => by
    obtain rfl : m = 0 := by omega
    rw [hx_small (by omega)]
    show hexP M 0 (hxd 0 :: t) = _
    simp only [hexP, dgv_hxd 0 (by omega)]
    rw [if_pos (by omega)]
  | f + 1, m, M, t, hf, hm => by
    by_cases h : m < 16
    · rw [hx_small h]
      show hexP M 0 (hxd m :: t) = _
      simp only [hexP, dgv_hxd m h]
      rw [if_pos (by omega), show 16 * 0 + m = m from by omega]
    · rw [hx_big h, List.append_assoc, hexP_hx f (m / 16) M _ (by omega) (by omega)]
      show hexP M (m / 16) (hxd (m % 16) :: t) = _
      simp only [hexP, dgv_hxd (m % 16) (by omega)]
      rw [if_pos (by omega), show 16 * (m / 16) + m % 16 = m from by omega]
/-- What was written is read. -/
theorem hexP_of_hx (m M : Nat) (h : m ≤ M) : hexP M 0 (hx m) = some m := by
  have := hexP_hx m m M [] (Nat.le_refl _) h
  rw [List.append_nil] at this
  rw [this]; rfl
/-- No digit is a semicolon or a backslash. -/
theorem hxd_ne (d : Nat) (h : d < 16) : hxd d ≠ 59 ∧ hxd d ≠ 92 ∧ 32 ≤ (hxd d).toNat ∧ (hxd d).toNat ≤ 126 := by
  have e : ∀ j : Fin 16, hxd j.val ≠ 59 ∧ hxd j.val ≠ 92 ∧ 32 ≤ (hxd j.val).toNat ∧ (hxd j.val).toNat ≤ 126 := by decide +kernel
  exact e ⟨d, h⟩
theorem hx_mem : ∀ (f m : Nat), m ≤ f → ∀ c ∈ hx m, c ≠ 59 ∧ c ≠ 92 ∧ 32 ≤ c.toNat ∧ c.toNat ≤ 126
  | 0, m, hf, c, hc => by
    obtain rfl : m = 0 := by omega
    rw [hx_small (by omega), List.mem_singleton] at hc
    subst hc; exact hxd_ne 0 (by omega)
  | f + 1, m, hf, c, hc => by
    by_cases h : m < 16
    · rw [hx_small h, List.mem_singleton] at hc
      subst hc; exact hxd_ne m h
    · rw [hx_big h, List.mem_append, List.mem_singleton] at hc
      rcases hc with hc | rfl
      · exact hx_mem f (m / 16) (by omega) c hc
      · exact hxd_ne (m % 16) (by omega)
/-- A front is shown in plain letters. -/
theorem shF_plain (l : List UInt8) : ∀ c ∈ shF l, 32 ≤ c.toNat ∧ c.toNat ≤ 126 := by
  intro c hc
  unfold shF shR at hc
  split at hc
  · rw [List.mem_append] at hc
    rcases hc with hc | hc
    · simp at hc; rcases hc with rfl | rfl <;> decide
    · exact (hx_mem _ _ (Nat.le_refl _) c hc).2.2
  · split at hc
    · simp at hc; subst hc; decide
    · split at hc
      · rename_i h
        simp at hc; subst hc
        rw [u8n _ (by omega)]; exact h
      · rw [List.mem_append, List.mem_append] at hc
        rcases hc with (hc | hc) | hc
        · simp at hc; rcases hc with rfl | rfl <;> decide
        · exact (hx_mem _ _ (Nat.le_refl _) c hc).2.2
        · simp at hc; subst hc; decide
/-- A text is shown in bytes from 20 to 7E. -/
theorem sh_plain : ∀ (n : Nat) (l : List UInt8), l.length ≤ n → ∀ c ∈ sh l, 32 ≤ c.toNat ∧ c.toNat ≤ 126
  | 0, l, h, c, hc => by
    obtain rfl : l = [] := List.eq_nil_of_length_eq_zero (by omega)
    cases hc
  | n + 1, l, h, c, hc => by
    by_cases hne : l = []
    · subst hne; cases hc
    · have hw := Lib.decodeL_width l
      have hl := Lib.decodeL_le l hne
      rw [sh_step l hne, List.mem_append] at hc
      rcases hc with hc | hc
      · exact shF_plain l c hc
      · exact sh_plain n _ (by rw [List.length_drop]; omega) c hc
end Go.Proofs.YtobecfeelamlmaaDoor
