/- Plain facts: what was put is read back; what was read, put again, is what was read. -/
import Derived.Test.YtplfjfhpdfbpeaaDoorP3
namespace Go.Proofs.YtplfjfhpdfbpeaaDoor
set_option linter.unusedSimpArgs false
set_option linter.unusedVariables false
open Go
/-- Numbers below 256 as bytes. -/
def by8 (l : List Nat) : List UInt8 := l.map UInt8.ofNat
theorem bl_sb (l : List Nat) : bl (sb l) = by8 l := rfl
theorem bl_append (a b : ByteArray) : bl (a ++ b) = bl a ++ bl b := by simp [bl]
theorem bl_inj {a b : ByteArray} (h : bl a = bl b) : a = b := by
  cases a; cases b; simp only [bl] at h; congr; exact Array.toList_inj.1 h
theorem bl_extract (s : ByteArray) (i j : Nat) : bl (s.extract i j) = ((bl s).take j).drop i := by
  simp [bl, ByteArray.data_extract, List.drop_take]
theorem toNat_ofNat8 (n : Nat) (h : n < 256) : (UInt8.ofNat n).toNat = n := by simp [Nat.mod_eq_of_lt h]
theorem dec_enc : ∀ (k n i acc : Nat) (r : List UInt8), i + k ≤ 9 → n < 128 ^ (k + 1) → (0 < k → 128 ^ k ≤ n) → (i + k = 9 → n / 128 ^ k ≤ 1) → (0 < i → 0 < n) →
    dec i acc (by8 (encN k n) ++ r) = some (acc + n * 128 ^ i, i + k + 1)
  | 0, n, i, acc, r, hi, hn, _, h9, h0 => by
    have hn' : n < 128 := by simpa using hn
    show dec i acc (UInt8.ofNat n :: r) = _
    rw [dec, toNat_ofNat8 n (by omega), if_neg (by omega), if_neg (by omega), if_neg]
    have h9' : i = 9 → n ≤ 1 := by intro e; have := h9 (by omega); simpa using this
    omega
  | k + 1, n, i, acc, r, hi, hn, hlo, h9, h0 => by
    have hlo' := hlo (by omega)
    have hp : 0 < 128 ^ k := Nat.pow_pos (by omega)
    have hq : 128 ^ k ≤ n / 128 := by rw [Nat.le_div_iff_mul_le (by omega)]; rw [Nat.pow_succ] at hlo'; exact hlo'
    show dec i acc (UInt8.ofNat (n % 128 + 128) :: (by8 (encN k (n / 128)) ++ r)) = _
    rw [dec, toNat_ofNat8 _ (by omega), if_neg (by omega), if_pos (by omega),
      dec_enc k (n / 128) (i + 1) _ r (by omega) (by rw [Nat.div_lt_iff_lt_mul (by omega)]; rw [Nat.pow_succ] at hn; exact hn) (fun _ => hq)
        (fun e => by rw [Nat.div_div_eq_div_mul, Nat.mul_comm, ← Nat.pow_succ]; exact h9 (by omega)) (fun _ => by omega)]
    have e1 : (n % 128 + 128) % 128 = n % 128 := by omega
    rw [e1, Nat.pow_succ]
    have e2 : n / 128 * (128 ^ i * 128) = (n / 128 * 128) * 128 ^ i := by rw [Nat.mul_comm (128 ^ i) 128, Nat.mul_assoc]
    rw [e2, Nat.add_assoc, ← Nat.add_mul, show n % 128 + n / 128 * 128 = n from by omega]
    rw [show i + 1 + k + 1 = i + (k + 1) + 1 from by omega]
theorem decS_enc (n : Nat) (r : List UInt8) (h : n < 2 ^ 64) : decS (by8 (encS n) ++ r) = some (n, slen n) := by
  have h1 := slen_pos n
  have h2 := slen_le n h
  have h3 := slen_hi n h
  have e := dec_enc (slen n - 1) n 0 0 r (by omega) (by rw [show slen n - 1 + 1 = slen n from by omega]; exact h3) (fun hk => slen_lo n h (by omega))
    (fun e => by rw [show slen n - 1 = 9 from by omega]; omega) (fun h => by omega)
  unfold decS encS
  rw [e]
  simp; omega
theorem sh_enc (n : Nat) (s r : ByteArray) (h : n < 2 ^ 64) (hs : s = sb (encS n) ++ r) : shN s = n ∧ shK s = slen n := by
  subst hs
  unfold shN shK
  rw [bl_append, bl_sb, decS_enc n _ h]
  exact ⟨rfl, rfl⟩
theorem fixV_fixN : ∀ (d n : Nat), n < 256 ^ d → fixV (by8 (fixN d n)) = n
  | 0, n, h => by simp at h; subst h; rfl
  | d + 1, n, h => by
    have e : by8 (fixN (d + 1) n) = by8 (fixN d (n / 256)) ++ [UInt8.ofNat (n % 256)] := by simp [by8, fixN]
    rw [e, fixV_snoc, fixV_fixN d (n / 256) (by rw [Nat.div_lt_iff_lt_mul (by omega)]; rw [Nat.pow_succ] at h; exact h), toNat_ofNat8 _ (by omega)]
    omega
theorem by8_length (l : List Nat) : (by8 l).length = l.length := by simp [by8]
theorem drop_front (s a r : ByteArray) (k : Nat) (hs : s = a ++ r) (hk : k = a.size) : s.extract k s.size = r := by
  apply bl_inj
  subst hs
  rw [bl_extract, bl_append, List.take_of_length_le (by rw [List.length_append, bl_length, bl_length]; simp), hk, List.drop_append_of_le_length (by rw [bl_length]; exact Nat.le_refl _), List.drop_of_length_le (by rw [bl_length]; exact Nat.le_refl _)]
  rfl
end Go.Proofs.YtplfjfhpdfbpeaaDoor
