/- Texts as they are shown. -/
import Derived.Test.YtobecfeelamlmaaDoorP15
namespace Go.Proofs.YtobecfeelamlmaaDoor
open Go.Lib
set_option linter.unusedSimpArgs false
set_option linter.unusedVariables false
/-- The digit that stands for a number. -/
def hxd (n : Nat) : UInt8 := UInt8.ofNat (if n < 10 then 48 + n else 87 + n)
/-- A number's digits to the base 16. -/
def hx (n : Nat) : List UInt8 := if h : n < 16 then [hxd n] else hx (n / 16) ++ [hxd (n % 16)]
termination_by n
theorem hx_small {n : Nat} (h : n < 16) : hx n = [hxd n] := by rw [hx, dif_pos h]
theorem hx_big {n : Nat} (h : ¬n < 16) : hx n = hx (n / 16) ++ [hxd (n % 16)] := by rw [hx, dif_neg h]
theorem hx_len : ∀ (k n : Nat), n < 16 ^ (k + 1) → 1 ≤ (hx n).length ∧ (hx n).length ≤ k + 1
  | 0, n, h => by rw [hx_small (by omega)]; simp
  | k + 1, n, h => by
    by_cases hs : n < 16
    · rw [hx_small hs]; simp
    · rw [hx_big hs, List.length_append]
      have := hx_len k (n / 16) (by rw [Nat.div_lt_iff_lt_mul (by omega), ← Nat.pow_succ]; exact h)
      simp; omega
/-- No whole rune stands at the front. -/
def badF (l : List UInt8) : Bool := decide ((decodeL l).1 = 65533 ∧ (decodeL l).2 = 1)
/-- A rune, as it is shown. -/
def shR (r : Nat) : List UInt8 := if r = 92 then [92, 92] else if 32 ≤ r ∧ r ≤ 126 then [r.toUInt8] else [92, 117] ++ hx r ++ [59]
/-- The front, as it is shown. -/
def shF (l : List UInt8) : List UInt8 := if badF l then [92, 120] ++ hx (l.headD 0).toNat else shR (decodeL l).1
def shG : Nat → List UInt8 → List UInt8
  | 0, _ => []
  | n + 1, l => if l = [] then [] else shF l ++ shG n (l.drop (decodeL l).2)
/-- A text, as it is shown. -/
def sh (l : List UInt8) : List UInt8 := shG l.length l
theorem shG_nil : ∀ n, shG n [] = []
  | 0 => rfl
  | _ + 1 => by simp [shG]
theorem shG_fuel : ∀ (n m : Nat) (l : List UInt8), l.length ≤ n → l.length ≤ m → shG n l = shG m l
  | 0, m, l, hn, _ => by
    obtain rfl : l = [] := List.eq_nil_of_length_eq_zero (by omega)
    rw [shG_nil, shG_nil]
  | n + 1, 0, l, _, hm => by
    obtain rfl : l = [] := List.eq_nil_of_length_eq_zero (by omega)
    rw [shG_nil, shG_nil]
  | n + 1, m + 1, l, hn, hm => by
    unfold shG
    by_cases hne : l = []
    · simp [hne]
    · have hw := decodeL_width l
      have hl : 0 < l.length := List.length_pos_iff.2 hne
      rw [if_neg hne, if_neg hne, shG_fuel n m (l.drop (decodeL l).2) (by rw [List.length_drop]; omega) (by rw [List.length_drop]; omega)]
theorem sh_nil : sh [] = [] := rfl
theorem sh_step (l : List UInt8) (hne : l ≠ []) : sh l = shF l ++ sh (l.drop (decodeL l).2) := by
  have hl : 0 < l.length := List.length_pos_iff.2 hne
  have hw := decodeL_width l
  obtain ⟨n, hn⟩ : ∃ n, l.length = n + 1 := ⟨l.length - 1, by omega⟩
  unfold sh
  rw [hn]
  show (if l = [] then [] else _) = _
  rw [if_neg hne, shG_fuel n (l.drop (decodeL l).2).length _ (by rw [List.length_drop]; omega) (Nat.le_refl _)]
theorem shF_len (l : List UInt8) : (shF l).length ≤ 9 := by
  unfold shF shR
  have h1 := hx_len 1 (l.headD 0).toNat (by have := (l.headD 0).toNat_lt; omega)
  have h2 := hx_len 5 (decodeL l).1 (by have := decodeL_rune l; omega)
  split
  · rw [List.length_append]; simp only [List.length_cons, List.length_nil]; omega
  · split
    · simp
    · split
      · simp
      · simp; omega
theorem sh_len (l : List UInt8) : ∀ n, l.length ≤ n → (sh l).length ≤ 9 * l.length := by
  intro n
  induction n generalizing l with
  | zero => intro h; obtain rfl : l = [] := List.eq_nil_of_length_eq_zero (by omega); exact Nat.le_refl _
  | succ n ih =>
    intro h
    by_cases hne : l = []
    · subst hne; exact Nat.le_refl _
    · have hw := decodeL_width l
      have hl := decodeL_le l hne
      have hF := shF_len l
      rw [sh_step l hne, List.length_append]
      have := ih (l.drop (decodeL l).2) (by rw [List.length_drop]; omega)
      rw [List.length_drop] at this
      omega
/-- FFFD is told from a byte that is no rune by the text itself. -/
theorem bad_pre (l : List UInt8) (hne : l ≠ []) (hr : (decodeL l).1 = 65533) : badF l = !hasPrefix l [239, 191, 189] := by
  have e : encR 65533 = [239, 191, 189] := by decide +kernel
  by_cases hb : (decodeL l).2 = 1
  · have h1 : badF l = true := by unfold badF; simp [hr, hb]
    rw [h1]
    cases hp : hasPrefix l [239, 191, 189] with
    | false => rfl
    | true =>
      exfalso
      obtain ⟨t, rfl⟩ : ∃ t, l = [239, 191, 189] ++ t := by
        unfold hasPrefix at hp
        have := (List.isPrefixOf_iff_prefix.1 hp)
        obtain ⟨t, ht⟩ := this
        exact ⟨t, ht.symm⟩
      rw [← e, dec_enc 65533 (by unfold scal; omega)] at hb
      rw [e] at hb
      simp at hb
  · have h1 : badF l = false := by unfold badF; simp [hb]
    rw [h1]
    have h2 := enc_dec l hne (fun h => hb h.2)
    rw [hr, e] at h2
    have : hasPrefix l [239, 191, 189] = true := by
      unfold hasPrefix
      exact List.isPrefixOf_iff_prefix.2 ⟨l.drop (decodeL l).2, by rw [h2]; exact List.take_append_drop _ _⟩
    rw [this]; rfl
/-- A byte that is no rune is 80 or more. -/
theorem bad_big (b : UInt8) (l : List UInt8) (h : badF (b :: l) = true) : 128 ≤ b.toNat ∧ (decodeL (b :: l)).1 = 65533 := by
  unfold badF at h
  simp only [decide_eq_true_eq] at h
  refine ⟨?_, h.1⟩
  rcases Nat.lt_or_ge b.toNat 128 with hb | hb
  · exfalso
    have := h.1
    rw [decodeL_N] at this
    simp only [List.getD_cons_zero] at this
    rw [decodeN_ascii _ _ _ _ _ hb] at this
    simp at this
    omega
  · exact hb
end Go.Proofs.YtobecfeelamlmaaDoor
