/- Plain facts on short numbers and fixed numbers in bytes: no program is named here. -/
import Derived.Lib.BitFns
import Derived.Laws.BytesArg
import Derived.Laws.BitsAllLaws
namespace Go.Proofs.YtplfjfhpdfbpeaaDoor
set_option linter.unusedSimpArgs false
set_option linter.unusedVariables false
open Go
theorem bitLen_zero : Lib.bitLen 0 = 0 := by decide
theorem bitLen_bounds : ∀ (k n : Nat), n < 2 ^ k → k ≤ 64 → n < 2 ^ Lib.bitLen n ∧ (0 < n → 1 ≤ Lib.bitLen n ∧ 2 ^ (Lib.bitLen n - 1) ≤ n)
  | 0, n, h, _ => by
    have : n = 0 := by simpa using h
    subst this
    rw [bitLen_zero]; simp
  | k + 1, n, h, hk => by
    by_cases hn : n = 0
    · subst hn; rw [bitLen_zero]; simp
    · have hlt : n < 2 ^ 64 := Nat.lt_of_lt_of_le h (Nat.pow_le_pow_right (by omega) hk)
      have e := Lib.bitLen_half n hn hlt
      obtain ⟨a, b⟩ := bitLen_bounds k (n / 2) (by rw [Nat.pow_succ] at h; omega) (by omega)
      rw [e]
      have e2 : 2 ^ (1 + Lib.bitLen (n / 2)) = 2 * 2 ^ Lib.bitLen (n / 2) := by rw [Nat.add_comm, Nat.pow_succ, Nat.mul_comm]
      refine ⟨by omega, fun _ => ⟨by omega, ?_⟩⟩
      have e3 : 1 + Lib.bitLen (n / 2) - 1 = Lib.bitLen (n / 2) := by omega
      rw [e3]
      by_cases h2 : n / 2 = 0
      · rw [h2, bitLen_zero]; omega
      · obtain ⟨c, d⟩ := b (by omega)
        have e4 : 2 ^ Lib.bitLen (n / 2) = 2 * 2 ^ (Lib.bitLen (n / 2) - 1) := by
          rw [show Lib.bitLen (n / 2) = (Lib.bitLen (n / 2) - 1) + 1 from by omega, Nat.pow_succ, Nat.mul_comm]; rfl
        omega
/-- How many bytes a short number has. -/
def slen (n : Nat) : Nat := max 1 ((Lib.bitLen n + 6) / 7)
theorem bitLen_le64 (n : Nat) (h : n < 2 ^ 64) : Lib.bitLen n ≤ 64 := Lib.bitLen_le n 64 (by omega) h
theorem slen_pos (n : Nat) : 1 ≤ slen n := by unfold slen; omega
theorem slen_le (n : Nat) (h : n < 2 ^ 64) : slen n ≤ 10 := by have := bitLen_le64 n h; unfold slen; omega
theorem pow128 (k : Nat) : 128 ^ k = 2 ^ (7 * k) := by rw [Nat.pow_mul]
theorem slen_hi (n : Nat) (h : n < 2 ^ 64) : n < 128 ^ slen n := by
  rw [pow128]
  refine Nat.lt_of_lt_of_le (bitLen_bounds 64 n h (Nat.le_refl _)).1 (Nat.pow_le_pow_right (by omega) ?_)
  unfold slen; omega
theorem slen_lo (n : Nat) (h : n < 2 ^ 64) (h1 : 1 < slen n) : 128 ^ (slen n - 1) ≤ n := by
  have hb : 7 < Lib.bitLen n := by unfold slen at h1; omega
  have hn : 0 < n := by
    rcases Nat.eq_zero_or_pos n with e | e
    · subst e; rw [bitLen_zero] at hb; omega
    · exact e
  rw [pow128]
  refine Nat.le_trans (Nat.pow_le_pow_right (by omega) ?_) ((bitLen_bounds 64 n h (Nat.le_refl _)).2 hn).2
  unfold slen; omega
/-- A short number's bytes: k that say that more follow, then the last. -/
def encN : Nat → Nat → List Nat
  | 0, n => [n]
  | k + 1, n => (n % 128 + 128) :: encN k (n / 128)
def encS (n : Nat) : List Nat := encN (slen n - 1) n
/-- Bytes as a string. -/
def sb (l : List Nat) : ByteArray := ⟨(l.map UInt8.ofNat).toArray⟩
theorem encN_length : ∀ k n, (encN k n).length = k + 1
  | 0, _ => rfl
  | k + 1, n => by rw [encN, List.length_cons, encN_length k]
theorem encS_length (n : Nat) : (encS n).length = slen n := by have := slen_pos n; rw [encS, encN_length]; omega
theorem encN_get : ∀ k n j, j < k → (encN k n)[j]? = some (n / 128 ^ j % 128 + 128)
  | 0, _, _, h => by omega
  | k + 1, n, 0, _ => by simp [encN]
  | k + 1, n, j + 1, h => by
    rw [encN, List.getElem?_cons_succ, encN_get k (n / 128) j (by omega), Nat.div_div_eq_div_mul, Nat.pow_succ, Nat.mul_comm]
theorem encN_last : ∀ k n, (encN k n)[k]? = some (n / 128 ^ k)
  | 0, n => by simp [encN]
  | k + 1, n => by rw [encN, List.getElem?_cons_succ, encN_last k, Nat.div_div_eq_div_mul, Nat.pow_succ, Nat.mul_comm]
theorem sb_size (l : List Nat) : (sb l).size = l.length := by simp [sb, ByteArray.size]
theorem sb_nums (l : List Nat) : strOfNums (l.map Int.ofNat) = sb l := by
  unfold strOfNums sb; rw [List.map_map]; rfl
theorem u8_or_128 (y : Nat) : bits .or .u8 ((y : Int) % 256) 128 = ((y % 128 + 128 : Nat) : Int) := by
  have h : ∀ a : Fin 256, bits .or .u8 (a.val : Int) 128 = ((a.val % 128 + 128 : Nat) : Int) := by decide +kernel
  have e := h ⟨y % 256, Nat.mod_lt _ (by omega)⟩
  simp only at e
  rw [show ((y : Int) % 256) = ((y % 256 : Nat) : Int) from by omega, e]
  omega
/-- A number of k bytes, the highest first. -/
def fixN : Nat → Nat → List Nat
  | 0, _ => []
  | k + 1, n => fixN k (n / 256) ++ [n % 256]
theorem fixN_length : ∀ k n, (fixN k n).length = k
  | 0, _ => rfl
  | k + 1, n => by rw [fixN, List.length_append, fixN_length k]; rfl
theorem fixN_get : ∀ k n j, j < k → (fixN k n)[k - 1 - j]? = some (n / 256 ^ j % 256)
  | 0, _, _, h => by omega
  | k + 1, n, 0, _ => by
    rw [fixN, List.getElem?_append_right (by rw [fixN_length]; omega), fixN_length]; simp
  | k + 1, n, j + 1, h => by
    rw [fixN, List.getElem?_append_left (by rw [fixN_length]; omega), show k + 1 - 1 - (j + 1) = k - 1 - j from by omega, fixN_get k (n / 256) j (by omega),
      Nat.div_div_eq_div_mul, Nat.pow_succ, Nat.mul_comm]
theorem pow256 (k : Nat) : 256 ^ k = 2 ^ (8 * k) := by rw [Nat.pow_mul]
theorem bitLen_fits (n k : Nat) (h : n < 2 ^ 64) : Lib.bitLen n ≤ 8 * k ↔ n < 256 ^ k := by
  have b := bitLen_bounds 64 n h (Nat.le_refl _)
  rw [pow256]
  constructor
  · intro hk
    exact Nat.lt_of_lt_of_le b.1 (Nat.pow_le_pow_right (by omega) hk)
  · intro hk
    rcases Nat.eq_zero_or_pos n with e | e
    · subst e; rw [bitLen_zero]; omega
    · obtain ⟨c, d⟩ := b.2 e
      rcases Nat.lt_or_ge (8 * k) (Lib.bitLen n) with g | g
      · have := Nat.pow_le_pow_right (n := 2) (by omega) (show 8 * k ≤ Lib.bitLen n - 1 by omega)
        omega
      · exact g
end Go.Proofs.YtplfjfhpdfbpeaaDoor
