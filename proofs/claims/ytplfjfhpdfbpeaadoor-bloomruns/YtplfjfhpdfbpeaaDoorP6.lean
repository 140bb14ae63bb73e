/- Plain facts: what a reader took, put again, is the bytes that it took. -/
import Derived.Test.YtplfjfhpdfbpeaaDoorP4
namespace Go.Proofs.YtplfjfhpdfbpeaaDoor
set_option linter.unusedSimpArgs false
set_option linter.unusedVariables false
open Go
theorem slen_unique (n k : Nat) (h : n < 2 ^ 64) (hk : 1 ≤ k) (h1 : n < 128 ^ k) (h2 : 1 < k → 128 ^ (k - 1) ≤ n) : slen n = k := by
  have a := slen_pos n
  have b := slen_hi n h
  rcases Nat.lt_trichotomy (slen n) k with c | c | c
  · have d := h2 (by omega)
    have e : 128 ^ slen n ≤ 128 ^ (k - 1) := Nat.pow_le_pow_right (by omega) (by omega)
    omega
  · exact c
  · have d := slen_lo n h (by omega)
    have e : 128 ^ k ≤ 128 ^ (slen n - 1) := Nat.pow_le_pow_right (by omega) (by omega)
    omega
theorem enc_dec : ∀ (l : List UInt8) (i acc n k : Nat), dec i acc l = some (n, k) →
    ∃ v, n = acc + v * 128 ^ i ∧ i + 1 ≤ k ∧ by8 (encN (k - i - 1) v) = l.take (k - i) ∧ v < 128 ^ (k - i) ∧ (0 < i → 0 < v) ∧ (i + 1 < k → 128 ^ (k - i - 1) ≤ v)
  | [], i, acc, n, k, h => by simp [dec] at h
  | b :: r, i, acc, n, k, h => by
    rw [dec] at h
    split at h
    · simp at h
    · split at h
      · rename_i hb
        obtain ⟨v, e1, e2, e3, e4, e5, e6⟩ := enc_dec r (i + 1) _ n k h
        have hv := e5 (by omega)
        have hb2 := b.toNat_lt
        have hk : k - i = (k - (i + 1)) + 1 := by omega
        have hk1 : k - i - 1 = (k - (i + 1) - 1) + 1 := by omega
        refine ⟨b.toNat % 128 + 128 * v, ?_, by omega, ?_, ?_, fun _ => by omega, fun _ => ?_⟩
        · rw [e1, Nat.pow_succ, Nat.add_mul]
          have : v * (128 ^ i * 128) = 128 * v * 128 ^ i := by rw [Nat.mul_comm (128 ^ i) 128, ← Nat.mul_assoc, Nat.mul_comm v 128]
          omega
        · rw [hk1, hk, encN, List.take_succ_cons, ← e3]
          have q1 : (b.toNat % 128 + 128 * v) % 128 + 128 = b.toNat := by omega
          have q2 : (b.toNat % 128 + 128 * v) / 128 = v := by omega
          rw [q1, q2]
          show UInt8.ofNat b.toNat :: by8 (encN (k - (i + 1) - 1) v) = _
          simp
        · rw [hk, Nat.pow_succ]; omega
        · rcases Nat.lt_or_ge (i + 1 + 1) k with g | g
          · have := e6 g
            rw [hk1, Nat.pow_succ]; omega
          · have : k - i - 1 = 1 := by omega
            rw [this]; omega
      · rename_i hb
        split at h
        · simp at h
        · rename_i hc
          simp only [Option.some.injEq, Prod.mk.injEq] at h
          obtain ⟨rfl, rfl⟩ := h
          refine ⟨b.toNat, rfl, by omega, ?_, ?_, fun hi => by omega, fun g => by omega⟩
          · rw [show i + 1 - i - 1 = 0 from by omega, show i + 1 - i = 1 from by omega]
            show [UInt8.ofNat b.toNat] = [b]
            simp
          · rw [show i + 1 - i = 1 from by omega]; omega
/-- A short number that was read, put again, is the bytes that were read. -/
theorem sh_again (s : ByteArray) (h : shK s ≠ 0) : sb (encS (shN s)) = s.extract 0 (shK s) := by
  unfold shK shN at *
  cases e : decS (bl s) with
  | none => rw [e] at h; simp at h
  | some p =>
    obtain ⟨v, e1, e2, e3, e4, e5, e6⟩ := enc_dec (bl s) 0 0 p.1 p.2 e
    have bnd := dec_bounds (bl s) 0 0 p.1 p.2 e (by omega)
    simp only [Option.getD_some]
    have hv : p.1 = v := by simpa using e1
    have hs : slen p.1 = p.2 := slen_unique p.1 p.2 bnd.2.2.2 (by omega) (by rw [hv]; simpa using e4) (fun g => by rw [hv]; simpa using e6 (by omega))
    apply bl_inj
    rw [bl_sb, extract_take s p.2 (by rw [← bl_length]; omega), encS, hs, hv]
    simpa using e3
theorem fixN_fixV : ∀ (d : Nat) (l : List UInt8), l.length = d → by8 (fixN d (fixV l)) = l
  | 0, l, h => by have : l = [] := by cases l with | nil => rfl | cons a b => simp at h
                  subst this; rfl
  | d + 1, l, h => by
    obtain ⟨l', c, rfl⟩ : ∃ l' c, l = l' ++ [c] := ⟨l.dropLast, l.getLast (by intro e; subst e; simp at h), (List.dropLast_concat_getLast _).symm⟩
    have hc := c.toNat_lt
    have hl : l'.length = d := by simpa using h
    have e : by8 (fixN (d + 1) (fixV (l' ++ [c]))) = by8 (fixN d (fixV (l' ++ [c]) / 256)) ++ [UInt8.ofNat (fixV (l' ++ [c]) % 256)] := by simp [by8, fixN]
    rw [e, fixV_snoc, show (fixV l' * 256 + c.toNat) / 256 = fixV l' from by omega, show (fixV l' * 256 + c.toNat) % 256 = c.toNat from by omega, fixN_fixV d l' hl]
    simp
theorem fix_again (s : ByteArray) (d : Nat) (h : d ≤ s.size) : sb (fixN d (fixV ((bl s).take d))) = s.extract 0 d := by
  apply bl_inj
  rw [bl_sb, extract_take s d h]
  exact fixN_fixV d _ (by rw [List.length_take, bl_length]; omega)
theorem fix_lt (s : ByteArray) (d : Nat) (h : d ≤ s.size) : fixV ((bl s).take d) < 256 ^ d := by
  have := fixV_lt ((bl s).take d)
  rwa [List.length_take, bl_length, Nat.min_eq_left h] at this
theorem take_all (s : ByteArray) : (bl s).take s.size = bl s := List.take_of_length_le (by rw [bl_length]; exact Nat.le_refl _)
/-- Taken off the front: the two parts make the whole. -/
theorem split_at (s : ByteArray) (k : Nat) (h : k ≤ s.size) : s.extract 0 k ++ s.extract k s.size = s := by
  apply bl_inj
  rw [bl_append, extract_take s k h, bl_extract, take_all, List.take_append_drop]
theorem split_mid (s : ByteArray) (j k : Nat) (h : j ≤ k) (hk : k ≤ s.size) : s.extract 0 j ++ s.extract j k ++ s.extract k s.size = s := by
  apply bl_inj
  rw [bl_append, bl_append, extract_take s j (by omega), bl_extract, bl_extract, take_all]
  have e : (bl s).take j = ((bl s).take k).take j := by rw [List.take_take, Nat.min_eq_left h]
  rw [e, List.take_append_drop, List.take_append_drop]
theorem front_of (s a r : ByteArray) (h : s = a ++ r) : s.extract 0 (s.size - r.size) = a := by
  have hz : s.size = a.size + r.size := by subst h; simp
  apply bl_inj
  rw [extract_take s _ (by omega), show s.size - r.size = a.size from by omega]
  subst h
  rw [bl_append, List.take_append_of_le_length (by rw [bl_length]; exact Nat.le_refl _), List.take_of_length_le (by rw [bl_length]; exact Nat.le_refl _)]
theorem next_of (s a r p r' : ByteArray) (h : s = a ++ r) (hr : p ++ r' = r) : s = a ++ p ++ r' := by
  rw [h, ← hr]; apply bl_inj; simp [bl_append]
end Go.Proofs.YtplfjfhpdfbpeaaDoor
