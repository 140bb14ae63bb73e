import Derived.Lib.BitFns
import Derived.Laws.BytesArg
import Derived.Laws.BitsAllLaws
import Derived.Lib.Bytealg
/- Plain facts on short numbers and fixed numbers in bytes: no program is named here. -/
namespace Go.Proofs.YtbfoiocbmhhdbaaGreat
set_option linter.unusedSimpArgs false
set_option linter.unusedVariables false
open Go
theorem bitLen_zero : Lib.bitLen 0 = 0 := by decide
theorem bitLen_bounds : ∀ (k n : Nat), n < 2 ^ k → k ≤ 64 → n < 2 ^ Lib.bitLen n ∧ (0 < n → 1 ≤ Lib.bitLen n ∧ 2 ^ (Lib.bitLen n - 1) ≤ n)
  | 0, n, h, _ => by
    have : n = 0 := by simpa using h
    subst this
    rw [bitLen_zero]; simp
  | k + 1, n, h, hk => by
    by_cases hn : n = 0
    · subst hn; rw [bitLen_zero]; simp
    · have hlt : n < 2 ^ 64 := Nat.lt_of_lt_of_le h (Nat.pow_le_pow_right (by omega) hk)
      have e := Lib.bitLen_half n hn hlt
      obtain ⟨a, b⟩ := bitLen_bounds k (n / 2) (by rw [Nat.pow_succ] at h; omega) (by omega)
      rw [e]
      have e2 : 2 ^ (1 + Lib.bitLen (n / 2)) = 2 * 2 ^ Lib.bitLen (n / 2) := by rw [Nat.add_comm, Nat.pow_succ, Nat.mul_comm]
      refine ⟨by omega, fun _ => ⟨by omega, ?_⟩⟩
      have e3 : 1 + Lib.bitLen (n / 2) - 1 = Lib.bitLen (n / 2) := by omega
      rw [e3]
      by_cases h2 : n / 2 = 0
      · rw [h2, bitLen_zero]; omega
      · obtain ⟨c, d⟩ := b (by omega)
        have e4 : 2 ^ Lib.bitLen (n / 2) = 2 * 2 ^ (Lib.bitLen (n / 2) - 1) := by
          rw [show Lib.bitLen (n / 2) = (Lib.bitLen (n / 2) - 1) + 1 from by omega, Nat.pow_succ, Nat.mul_comm]; rfl
        omega
/-- How many bytes a short number has. -/
def slen (n : Nat) : Nat := max 1 ((Lib.bitLen n + 6) / 7)
theorem bitLen_le64 (n : Nat) (h : n < 2 ^ 64) : Lib.bitLen n ≤ 64 := Lib.bitLen_le n 64 (by omega) h
theorem slen_pos (n : Nat) : 1 ≤ slen n := by unfold slen; omega
theorem slen_le (n : Nat) (h : n < 2 ^ 64) : slen n ≤ 10 := by have := bitLen_le64 n h; unfold slen; omega
theorem pow128 (k : Nat) : 128 ^ k = 2 ^ (7 * k) := by rw [Nat.pow_mul]
theorem slen_hi (n : Nat) (h : n < 2 ^ 64) : n < 128 ^ slen n := by
  rw [pow128]
  refine Nat.lt_of_lt_of_le (bitLen_bounds 64 n h (Nat.le_refl _)).1 (Nat.pow_le_pow_right (by omega) ?_)
  unfold slen; omega
theorem slen_lo (n : Nat) (h : n < 2 ^ 64) (h1 : 1 < slen n) : 128 ^ (slen n - 1) ≤ n := by
  have hb : 7 < Lib.bitLen n := by unfold slen at h1; omega
  have hn : 0 < n := by
    rcases Nat.eq_zero_or_pos n with e | e
    · subst e; rw [bitLen_zero] at hb; omega
    · exact e
  rw [pow128]
  refine Nat.le_trans (Nat.pow_le_pow_right (by omega) ?_) ((bitLen_bounds 64 n h (Nat.le_refl _)).2 hn).2
  unfold slen; omega
/-- A short number's bytes: k that say that more follow, then the last. -/
def encN : Nat → Nat → List Nat
  | 0, n => [n]
  | k + 1, n => (n % 128 + 128) :: encN k (n / 128)
def encS (n : Nat) : List Nat := encN (slen n - 1) n
/-- Bytes as a string. -/
def sb (l : List Nat) : ByteArray := ⟨(l.map UInt8.ofNat).toArray⟩
theorem encN_length : ∀ k n, (encN k n).length = k + 1
  | 0, _ => rfl
  | k + 1, n => by rw [encN, List.length_cons, encN_length k]
theorem encS_length (n : Nat) : (encS n).length = slen n := by have := slen_pos n; rw [encS, encN_length]; omega
theorem encN_get : ∀ k n j, j < k → (encN k n)[j]? = some (n / 128 ^ j % 128 + 128)
  | 0, _, _, h => by omega
  | k + 1, n, 0, _ => by simp [encN]
  | k + 1, n, j + 1, h => by
    rw [encN, List.getElem?_cons_succ, encN_get k (n / 128) j (by omega), Nat.div_div_eq_div_mul, Nat.pow_succ, Nat.mul_comm]
theorem encN_last : ∀ k n, (encN k n)[k]? = some (n / 128 ^ k)
  | 0, n => by simp [encN]
  | k + 1, n => by rw [encN, List.getElem?_cons_succ, encN_last k, Nat.div_div_eq_div_mul, Nat.pow_succ, Nat.mul_comm]
theorem sb_size (l : List Nat) : (sb l).size = l.length := by simp [sb, ByteArray.size]
theorem sb_nums (l : List Nat) : strOfNums (l.map Int.ofNat) = sb l := by
  unfold strOfNums sb; rw [List.map_map]; rfl
theorem u8_or_128 (y : Nat) : bits .or .u8 ((y : Int) % 256) 128 = ((y % 128 + 128 : Nat) : Int) := by
  have h : ∀ a : Fin 256, bits .or .u8 (a.val : Int) 128 = ((a.val % 128 + 128 : Nat) : Int) := by decide +kernel
  have e := h ⟨y % 256, Nat.mod_lt _ (by omega)⟩
  simp only at e
  rw [show ((y : Int) % 256) = ((y % 256 : Nat) : Int) from by omega, e]
  omega
/-- A number of k bytes, the highest first. -/
def fixN : Nat → Nat → List Nat
  | 0, _ => []
  | k + 1, n => fixN k (n / 256) ++ [n % 256]
theorem fixN_length : ∀ k n, (fixN k n).length = k
  | 0, _ => rfl
  | k + 1, n => by rw [fixN, List.length_append, fixN_length k]; rfl
theorem fixN_get : ∀ k n j, j < k → (fixN k n)[k - 1 - j]? = some (n / 256 ^ j % 256)
  | 0, _, _, h => by omega
  | k + 1, n, 0, _ => by
    rw [fixN, List.getElem?_append_right (by rw [fixN_length]; omega), fixN_length]; simp
  | k + 1, n, j + 1, h => by
    rw [fixN, List.getElem?_append_left (by rw [fixN_length]; omega), show k + 1 - 1 - (j + 1) = k - 1 - j from by omega, fixN_get k (n / 256) j (by omega),
      Nat.div_div_eq_div_mul, Nat.pow_succ, Nat.mul_comm]
theorem pow256 (k : Nat) : 256 ^ k = 2 ^ (8 * k) := by rw [Nat.pow_mul]
theorem bitLen_fits (n k : Nat) (h : n < 2 ^ 64) : Lib.bitLen n ≤ 8 * k ↔ n < 256 ^ k := by
  have b := bitLen_bounds 64 n h (Nat.le_refl _)
  rw [pow256]
  constructor
  · intro hk
    exact Nat.lt_of_lt_of_le b.1 (Nat.pow_le_pow_right (by omega) hk)
  · intro hk
    rcases Nat.eq_zero_or_pos n with e | e
    · subst e; rw [bitLen_zero]; omega
    · obtain ⟨c, d⟩ := b.2 e
      rcases Nat.lt_or_ge (8 * k) (Lib.bitLen n) with g | g
      · have := Nat.pow_le_pow_right (n := 2) (by omega) (show 8 * k ≤ Lib.bitLen n - 1 by omega)
        omega
      · exact g
end Go.Proofs.YtbfoiocbmhhdbaaGreat
/- Plain facts on reading a short number from the front of bytes. -/
namespace Go.Proofs.YtbfoiocbmhhdbaaGreat
set_option linter.unusedSimpArgs false
set_option linter.unusedVariables false
open Go
/-- The short number at the front of bytes, and how many bytes it has; i bytes have been read, they say acc. -/
def dec : Nat → Nat → List UInt8 → Option (Nat × Nat)
  | _, _, [] => none
  | i, acc, b :: r => if 10 ≤ i then none else if 128 ≤ b.toNat then dec (i + 1) (acc + b.toNat % 128 * 128 ^ i) r
      else if (b.toNat = 0 ∧ 0 < i) ∨ (1 < b.toNat ∧ i = 9) then none else some (acc + b.toNat * 128 ^ i, i + 1)
def decS (l : List UInt8) : Option (Nat × Nat) := dec 0 0 l
def bl (s : ByteArray) : List UInt8 := s.data.toList
theorem bl_length (s : ByteArray) : (bl s).length = s.size := Array.length_toList
theorem dec_ten (i acc : Nat) (l : List UInt8) (h : 10 ≤ i) : dec i acc l = none := by
  cases l with
  | nil => rfl
  | cons b r => rw [dec, if_pos h]
theorem drop_at (s : ByteArray) (k : Nat) (h : k < s.size) : (bl s).drop k = s[k] :: (bl s).drop (k + 1) := by
  rw [List.drop_eq_getElem_cons (by rw [bl_length]; exact h)]; rfl
theorem or_add (acc v k : Nat) (h : acc < 2 ^ k) : acc ||| v * 2 ^ k = acc + v * 2 ^ k := by
  rw [Nat.or_comm, Nat.mul_comm, ← Nat.two_pow_add_eq_or_of_lt h, Nat.add_comm]
theorem u8_and_127 (b : Nat) (hb : b < 256) : bits .and .u8 (b : Int) 127 = ((b % 128 : Nat) : Int) := by
  have h : ∀ a : Fin 256, bits .and .u8 (a.val : Int) 127 = ((a.val % 128 : Nat) : Int) := by decide +kernel
  exact h ⟨b, hb⟩
/-- What the program makes of one more byte. -/
theorem accStep (acc b k : Nat) (hb : b < 256) (hacc : acc < 128 ^ k) (hk : k ≤ 8 ∨ (k = 9 ∧ b % 128 ≤ 1)) :
    bits .or .u64 (acc : Int) (IntKind.u64.wrap (IntKind.u64.wrap (bits .and .u8 (b : Int) 127) * 2 ^ (7 * k))) = ((acc + b % 128 * 128 ^ k : Nat) : Int) ∧ acc + b % 128 * 128 ^ k < 2 ^ 64 := by
  have hb2 : b % 128 < 128 := Nat.mod_lt _ (by omega)
  have hp : b % 128 * 2 ^ (7 * k) + 2 ^ (7 * k) ≤ 2 ^ 64 := by
    rcases hk with h | ⟨h, h2⟩
    · have e1 : 2 ^ (7 * k) ≤ 2 ^ 56 := Nat.pow_le_pow_right (by omega) (by omega)
      have e2 : b % 128 * 2 ^ (7 * k) ≤ 127 * 2 ^ (7 * k) := Nat.mul_le_mul_right _ (by omega)
      omega
    · have e0 : 7 * k = 63 := by omega
      rw [e0]
      omega
  rw [pow128] at hacc ⊢
  rw [u8_and_127 b hb, IntKind.wrap_u64, IntKind.wrap_u64]
  have e1 : ((b % 128 : Nat) : Int) % 18446744073709551616 = ((b % 128 : Nat) : Int) := by omega
  rw [e1]
  have e2 : ((b % 128 : Nat) : Int) * 2 ^ (7 * k) = ((b % 128 * 2 ^ (7 * k) : Nat) : Int) := by rw [Int.natCast_mul, Int.natCast_pow]; rfl
  rw [e2]
  have e3 : ((b % 128 * 2 ^ (7 * k) : Nat) : Int) % 18446744073709551616 = ((b % 128 * 2 ^ (7 * k) : Nat) : Int) := by
    have : 0 < 2 ^ (7 * k) := Nat.two_pow_pos _
    omega
  rw [e3, u64_or_nat _ _ (by omega) (by have : 0 < 2 ^ (7 * k) := Nat.two_pow_pos _; omega), or_add _ _ _ hacc]
  exact ⟨rfl, by omega⟩
theorem accNext (acc b k : Nat) (hacc : acc < 128 ^ k) : acc + b % 128 * 128 ^ k < 128 ^ (k + 1) := by
  have : b % 128 * 128 ^ k ≤ 127 * 128 ^ k := Nat.mul_le_mul_right _ (by omega)
  rw [Nat.pow_succ]; omega
theorem bits_or_lt (x y : Int) : ∃ m : Nat, bits .or .u64 x y = (m : Int) ∧ m < 2 ^ 64 := by
  have h : 0 ≤ bits .or .u64 x y ∧ bits .or .u64 x y < 18446744073709551616 := by
    unfold bits
    simp only [IntKind.wrap_u64]
    omega
  exact ⟨(bits .or .u64 x y).toNat, by omega, by omega⟩
theorem dec_more (s : ByteArray) (k acc : Nat) (h : k < s.size) (hk : k < 10) (hb : 128 ≤ s[k].toNat) :
    dec k acc ((bl s).drop k) = dec (k + 1) (acc + s[k].toNat % 128 * 128 ^ k) ((bl s).drop (k + 1)) := by
  rw [drop_at s k h, dec, if_neg (by omega), if_pos hb]
theorem dec_bad (s : ByteArray) (k acc : Nat) (h : k < s.size) (hk : k < 10) (hb : s[k].toNat < 128) (hc : (s[k].toNat = 0 ∧ 0 < k) ∨ (1 < s[k].toNat ∧ k = 9)) :
    dec k acc ((bl s).drop k) = none := by
  rw [drop_at s k h, dec, if_neg (by omega), if_neg (by omega), if_pos hc]
theorem dec_good (s : ByteArray) (k acc : Nat) (h : k < s.size) (hk : k < 10) (hb : s[k].toNat < 128) (hc : ¬ ((s[k].toNat = 0 ∧ 0 < k) ∨ (1 < s[k].toNat ∧ k = 9))) :
    dec k acc ((bl s).drop k) = some (acc + s[k].toNat * 128 ^ k, k + 1) := by
  rw [drop_at s k h, dec, if_neg (by omega), if_neg (by omega), if_neg hc]
def shN (s : ByteArray) : Nat := ((decS (bl s)).getD (0, 0)).1
def shK (s : ByteArray) : Nat := ((decS (bl s)).getD (0, 0)).2
end Go.Proofs.YtbfoiocbmhhdbaaGreat
/- Plain facts: what was put is read, what is read was put. -/
namespace Go.Proofs.YtbfoiocbmhhdbaaGreat
set_option linter.unusedSimpArgs false
set_option linter.unusedVariables false
open Go
theorem dec_bounds : ∀ (l : List UInt8) (i acc n k : Nat), dec i acc l = some (n, k) → acc < 128 ^ i → i + 1 ≤ k ∧ k ≤ i + l.length ∧ k ≤ 10 ∧ n < 2 ^ 64
  | [], i, acc, n, k, h, _ => by simp [dec] at h
  | b :: r, i, acc, n, k, h, ha => by
    rw [dec] at h
    split at h
    · simp at h
    · rename_i hi
      split at h
      · have := dec_bounds r (i + 1) _ n k h (accNext _ _ _ ha)
        simp only [List.length_cons]
        omega
      · rename_i hb
        split at h
        · simp at h
        · rename_i hc
          simp only [Option.some.injEq, Prod.mk.injEq] at h
          obtain ⟨rfl, rfl⟩ := h
          refine ⟨by omega, by simp only [List.length_cons]; omega, by omega, ?_⟩
          have e := (accStep acc b.toNat i (by omega) ha (by omega)).2
          rwa [Nat.mod_eq_of_lt (by omega)] at e
theorem shK_le (s : ByteArray) : shK s ≤ s.size := by
  unfold shK
  cases h : decS (bl s) with
  | none => simp
  | some p =>
    have := dec_bounds (bl s) 0 0 p.1 p.2 h (by omega)
    rw [bl_length] at this
    simp only [Option.getD_some]
    omega
theorem shN_lt (s : ByteArray) : shN s < 18446744073709551616 := by
  unfold shN
  cases h : decS (bl s) with
  | none => simp
  | some p =>
    have := dec_bounds (bl s) 0 0 p.1 p.2 h (by omega)
    simp only [Option.getD_some]
    omega
theorem extract_take (s : ByteArray) (d : Nat) (h : d ≤ s.size) : bl (s.extract 0 d) = (bl s).take d := by
  simp [bl, ByteArray.data_extract]
/-- What bytes say as a number, the highest first. -/
def fixV (l : List UInt8) : Nat := l.foldl (fun a c => a * 256 + c.toNat) 0
theorem fixV_snoc (l : List UInt8) (c : UInt8) : fixV (l ++ [c]) = fixV l * 256 + c.toNat := by simp [fixV]
theorem fixV_lt (l : List UInt8) : fixV l < 256 ^ l.length := by
  obtain ⟨n, hn⟩ : ∃ n, n = l.length := ⟨_, rfl⟩
  rw [← hn]
  induction n generalizing l with
  | zero => have : l = [] := by cases l with | nil => rfl | cons a b => simp at hn
            subst this; simp [fixV]
  | succ n ih =>
    obtain ⟨l', c, rfl⟩ : ∃ l' c, l = l' ++ [c] := ⟨l.dropLast, l.getLast (by intro e; subst e; simp at hn), (List.dropLast_concat_getLast _).symm⟩
    have := ih l' (by simp at hn; omega)
    have hc := c.toNat_lt
    rw [fixV_snoc, Nat.pow_succ]
    omega
theorem take_snoc (s : ByteArray) (k : Nat) (h : k < s.size) : (bl s).take (k + 1) = (bl s).take k ++ [s[k]] := by
  rw [List.take_succ_eq_append_getElem (by rw [bl_length]; exact h)]; rfl
theorem fixStep (acc c k : Nat) (hc : c < 256) (hk : k ≤ 7) (ha : acc < 256 ^ k) :
    bits .or .u64 (IntKind.u64.wrap ((acc : Int) * 256)) (c : Int) = ((acc * 256 + c : Nat) : Int) ∧ acc * 256 + c < 2 ^ 64 := by
  have h7 : 256 ^ k ≤ 256 ^ 7 := Nat.pow_le_pow_right (by omega) hk
  have e1 : IntKind.u64.wrap ((acc : Int) * 256) = ((acc * 256 : Nat) : Int) := by rw [IntKind.wrap_u64]; omega
  rw [e1, u64_or_nat _ _ (by omega) (by omega), Nat.or_comm]
  have := or_add c acc 8 (by omega)
  rw [show (2 : Nat) ^ 8 = 256 from rfl] at this
  rw [this]
  exact ⟨by rw [Nat.add_comm], by omega⟩
end Go.Proofs.YtbfoiocbmhhdbaaGreat
/- Plain facts: what was put is read back; what was read, put again, is what was read. -/
namespace Go.Proofs.YtbfoiocbmhhdbaaGreat
set_option linter.unusedSimpArgs false
set_option linter.unusedVariables false
open Go
/-- Numbers below 256 as bytes. -/
def by8 (l : List Nat) : List UInt8 := l.map UInt8.ofNat
theorem bl_sb (l : List Nat) : bl (sb l) = by8 l := rfl
theorem bl_append (a b : ByteArray) : bl (a ++ b) = bl a ++ bl b := by simp [bl]
theorem bl_inj {a b : ByteArray} (h : bl a = bl b) : a = b := by
  cases a; cases b; simp only [bl] at h; congr; exact Array.toList_inj.1 h
theorem bl_extract (s : ByteArray) (i j : Nat) : bl (s.extract i j) = ((bl s).take j).drop i := by
  simp [bl, ByteArray.data_extract, List.drop_take]
theorem toNat_ofNat8 (n : Nat) (h : n < 256) : (UInt8.ofNat n).toNat = n := by simp [Nat.mod_eq_of_lt h]
theorem dec_enc : ∀ (k n i acc : Nat) (r : List UInt8), i + k ≤ 9 → n < 128 ^ (k + 1) → (0 < k → 128 ^ k ≤ n) → (i + k = 9 → n / 128 ^ k ≤ 1) → (0 < i → 0 < n) →
    dec i acc (by8 (encN k n) ++ r) = some (acc + n * 128 ^ i, i + k + 1)
  | 0, n, i, acc, r, hi, hn, _, h9, h0 => by
    have hn' : n < 128 := by simpa using hn
    show dec i acc (UInt8.ofNat n :: r) = _
    rw [dec, toNat_ofNat8 n (by omega), if_neg (by omega), if_neg (by omega), if_neg]
    have h9' : i = 9 → n ≤ 1 := by intro e; have := h9 (by omega); simpa using this
    omega
  | k + 1, n, i, acc, r, hi, hn, hlo, h9, h0 => by
    have hlo' := hlo (by omega)
    have hp : 0 < 128 ^ k := Nat.pow_pos (by omega)
    have hq : 128 ^ k ≤ n / 128 := by rw [Nat.le_div_iff_mul_le (by omega)]; rw [Nat.pow_succ] at hlo'; exact hlo'
    show dec i acc (UInt8.ofNat (n % 128 + 128) :: (by8 (encN k (n / 128)) ++ r)) = _
    rw [dec, toNat_ofNat8 _ (by omega), if_neg (by omega), if_pos (by omega),
      dec_enc k (n / 128) (i + 1) _ r (by omega) (by rw [Nat.div_lt_iff_lt_mul (by omega)]; rw [Nat.pow_succ] at hn; exact hn) (fun _ => hq)
        (fun e => by rw [Nat.div_div_eq_div_mul, Nat.mul_comm, ← Nat.pow_succ]; exact h9 (by omega)) (fun _ => by omega)]
    have e1 : (n % 128 + 128) % 128 = n % 128 := by omega
    rw [e1, Nat.pow_succ]
    have e2 : n / 128 * (128 ^ i * 128) = (n / 128 * 128) * 128 ^ i := by rw [Nat.mul_comm (128 ^ i) 128, Nat.mul_assoc]
    rw [e2, Nat.add_assoc, ← Nat.add_mul, show n % 128 + n / 128 * 128 = n from by omega]
    rw [show i + 1 + k + 1 = i + (k + 1) + 1 from by omega]
theorem decS_enc (n : Nat) (r : List UInt8) (h : n < 2 ^ 64) : decS (by8 (encS n) ++ r) = some (n, slen n) := by
  have h1 := slen_pos n
  have h2 := slen_le n h
  have h3 := slen_hi n h
  have e := dec_enc (slen n - 1) n 0 0 r (by omega) (by rw [show slen n - 1 + 1 = slen n from by omega]; exact h3) (fun hk => slen_lo n h (by omega))
    (fun e => by rw [show slen n - 1 = 9 from by omega]; omega) (fun h => by omega)
  unfold decS encS
  rw [e]
  simp; omega
theorem sh_enc (n : Nat) (s r : ByteArray) (h : n < 2 ^ 64) (hs : s = sb (encS n) ++ r) : shN s = n ∧ shK s = slen n := by
  subst hs
  unfold shN shK
  rw [bl_append, bl_sb, decS_enc n _ h]
  exact ⟨rfl, rfl⟩
theorem fixV_fixN : ∀ (d n : Nat), n < 256 ^ d → fixV (by8 (fixN d n)) = n
  | 0, n, h => by simp at h; subst h; rfl
  | d + 1, n, h => by
    have e : by8 (fixN (d + 1) n) = by8 (fixN d (n / 256)) ++ [UInt8.ofNat (n % 256)] := by simp [by8, fixN]
    rw [e, fixV_snoc, fixV_fixN d (n / 256) (by rw [Nat.div_lt_iff_lt_mul (by omega)]; rw [Nat.pow_succ] at h; exact h), toNat_ofNat8 _ (by omega)]
    omega
theorem by8_length (l : List Nat) : (by8 l).length = l.length := by simp [by8]
theorem drop_front (s a r : ByteArray) (k : Nat) (hs : s = a ++ r) (hk : k = a.size) : s.extract k s.size = r := by
  apply bl_inj
  subst hs
  rw [bl_extract, bl_append, List.take_of_length_le (by rw [List.length_append, bl_length, bl_length]; simp), hk, List.drop_append_of_le_length (by rw [bl_length]; exact Nat.le_refl _), List.drop_of_length_le (by rw [bl_length]; exact Nat.le_refl _)]
  rfl
end Go.Proofs.YtbfoiocbmhhdbaaGreat
/- Plain facts: what a reader took, put again, is the bytes that it took. -/
namespace Go.Proofs.YtbfoiocbmhhdbaaGreat
set_option linter.unusedSimpArgs false
set_option linter.unusedVariables false
open Go
theorem slen_unique (n k : Nat) (h : n < 2 ^ 64) (hk : 1 ≤ k) (h1 : n < 128 ^ k) (h2 : 1 < k → 128 ^ (k - 1) ≤ n) : slen n = k := by
  have a := slen_pos n
  have b := slen_hi n h
  rcases Nat.lt_trichotomy (slen n) k with c | c | c
  · have d := h2 (by omega)
    have e : 128 ^ slen n ≤ 128 ^ (k - 1) := Nat.pow_le_pow_right (by omega) (by omega)
    omega
  · exact c
  · have d := slen_lo n h (by omega)
    have e : 128 ^ k ≤ 128 ^ (slen n - 1) := Nat.pow_le_pow_right (by omega) (by omega)
    omega
theorem enc_dec : ∀ (l : List UInt8) (i acc n k : Nat), dec i acc l = some (n, k) →
    ∃ v, n = acc + v * 128 ^ i ∧ i + 1 ≤ k ∧ by8 (encN (k - i - 1) v) = l.take (k - i) ∧ v < 128 ^ (k - i) ∧ (0 < i → 0 < v) ∧ (i + 1 < k → 128 ^ (k - i - 1) ≤ v)
  | [], i, acc, n, k, h => by simp [dec] at h
  | b :: r, i, acc, n, k, h => by
    rw [dec] at h
    split at h
    · simp at h
    · split at h
      · rename_i hb
        obtain ⟨v, e1, e2, e3, e4, e5, e6⟩ := enc_dec r (i + 1) _ n k h
        have hv := e5 (by omega)
        have hb2 := b.toNat_lt
        have hk : k - i = (k - (i + 1)) + 1 := by omega
        have hk1 : k - i - 1 = (k - (i + 1) - 1) + 1 := by omega
        refine ⟨b.toNat % 128 + 128 * v, ?_, by omega, ?_, ?_, fun _ => by omega, fun _ => ?_⟩
        · rw [e1, Nat.pow_succ, Nat.add_mul]
          have : v * (128 ^ i * 128) = 128 * v * 128 ^ i := by rw [Nat.mul_comm (128 ^ i) 128, ← Nat.mul_assoc, Nat.mul_comm v 128]
          omega
        · rw [hk1, hk, encN, List.take_succ_cons, ← e3]
          have q1 : (b.toNat % 128 + 128 * v) % 128 + 128 = b.toNat := by omega
          have q2 : (b.toNat % 128 + 128 * v) / 128 = v := by omega
          rw [q1, q2]
          show UInt8.ofNat b.toNat :: by8 (encN (k - (i + 1) - 1) v) = _
          simp
        · rw [hk, Nat.pow_succ]; omega
        · rcases Nat.lt_or_ge (i + 1 + 1) k with g | g
          · have := e6 g
            rw [hk1, Nat.pow_succ]; omega
          · have : k - i - 1 = 1 := by omega
            rw [this]; omega
      · rename_i hb
        split at h
        · simp at h
        · rename_i hc
          simp only [Option.some.injEq, Prod.mk.injEq] at h
          obtain ⟨rfl, rfl⟩ := h
          refine ⟨b.toNat, rfl, by omega, ?_, ?_, fun hi => by omega, fun g => by omega⟩
          · rw [show i + 1 - i - 1 = 0 from by omega, show i + 1 - i = 1 from by omega]
            show [UInt8.ofNat b.toNat] = [b]
            simp
          · rw [show i + 1 - i = 1 from by omega]; omega
/-- A short number that was read, put again, is the bytes that were read. -/
theorem sh_again (s : ByteArray) (h : shK s ≠ 0) : sb (encS (shN s)) = s.extract 0 (shK s) := by
  unfold shK shN at *
  cases e : decS (bl s) with
  | none => rw [e] at h; simp at h
  | some p =>
    obtain ⟨v, e1, e2, e3, e4, e5, e6⟩ := enc_dec (bl s) 0 0 p.1 p.2 e
    have bnd := dec_bounds (bl s) 0 0 p.1 p.2 e (by omega)
    simp only [Option.getD_some]
    have hv : p.1 = v := by simpa using e1
    have hs : slen p.1 = p.2 := slen_unique p.1 p.2 bnd.2.2.2 (by omega) (by rw [hv]; simpa using e4) (fun g => by rw [hv]; simpa using e6 (by omega))
    apply bl_inj
    rw [bl_sb, extract_take s p.2 (by rw [← bl_length]; omega), encS, hs, hv]
    simpa using e3
theorem fixN_fixV : ∀ (d : Nat) (l : List UInt8), l.length = d → by8 (fixN d (fixV l)) = l
  | 0, l, h => by have : l = [] := by cases l with | nil => rfl | cons a b => simp at h
                  subst this; rfl
  | d + 1, l, h => by
    obtain ⟨l', c, rfl⟩ : ∃ l' c, l = l' ++ [c] := ⟨l.dropLast, l.getLast (by intro e; subst e; simp at h), (List.dropLast_concat_getLast _).symm⟩
    have hc := c.toNat_lt
    have hl : l'.length = d := by simpa using h
    have e : by8 (fixN (d + 1) (fixV (l' ++ [c]))) = by8 (fixN d (fixV (l' ++ [c]) / 256)) ++ [UInt8.ofNat (fixV (l' ++ [c]) % 256)] := by simp [by8, fixN]
    rw [e, fixV_snoc, show (fixV l' * 256 + c.toNat) / 256 = fixV l' from by omega, show (fixV l' * 256 + c.toNat) % 256 = c.toNat from by omega, fixN_fixV d l' hl]
    simp
theorem fix_again (s : ByteArray) (d : Nat) (h : d ≤ s.size) : sb (fixN d (fixV ((bl s).take d))) = s.extract 0 d := by
  apply bl_inj
  rw [bl_sb, extract_take s d h]
  exact fixN_fixV d _ (by rw [List.length_take, bl_length]; omega)
theorem fix_lt (s : ByteArray) (d : Nat) (h : d ≤ s.size) : fixV ((bl s).take d) < 256 ^ d := by
  have := fixV_lt ((bl s).take d)
  rwa [List.length_take, bl_length, Nat.min_eq_left h] at this
theorem take_all (s : ByteArray) : (bl s).take s.size = bl s := List.take_of_length_le (by rw [bl_length]; exact Nat.le_refl _)
/-- Taken off the front: the two parts make the whole. -/
theorem split_at (s : ByteArray) (k : Nat) (h : k ≤ s.size) : s.extract 0 k ++ s.extract k s.size = s := by
  apply bl_inj
  rw [bl_append, extract_take s k h, bl_extract, take_all, List.take_append_drop]
theorem split_mid (s : ByteArray) (j k : Nat) (h : j ≤ k) (hk : k ≤ s.size) : s.extract 0 j ++ s.extract j k ++ s.extract k s.size = s := by
  apply bl_inj
  rw [bl_append, bl_append, extract_take s j (by omega), bl_extract, bl_extract, take_all]
  have e : (bl s).take j = ((bl s).take k).take j := by rw [List.take_take, Nat.min_eq_left h]
  rw [e, List.take_append_drop, List.take_append_drop]
theorem front_of (s a r : ByteArray) (h : s = a ++ r) : s.extract 0 (s.size - r.size) = a := by
  have hz : s.size = a.size + r.size := by subst h; simp
  apply bl_inj
  rw [extract_take s _ (by omega), show s.size - r.size = a.size from by omega]
  subst h
  rw [bl_append, List.take_append_of_le_length (by rw [bl_length]; exact Nat.le_refl _), List.take_of_length_le (by rw [bl_length]; exact Nat.le_refl _)]
theorem next_of (s a r p r' : ByteArray) (h : s = a ++ r) (hr : p ++ r' = r) : s = a ++ p ++ r' := by
  rw [h, ← hr]; apply bl_inj; simp [bl_append]
end Go.Proofs.YtbfoiocbmhhdbaaGreat
/- Plain facts on digits: bytes as digits and back. -/
namespace Go.Proofs.YtbfoiocbmhhdbaaGreat
set_option linter.unusedSimpArgs false
set_option linter.unusedVariables false
open Go
/-- The digit that stands for a number below 16. -/
def dg (v : Nat) : Nat := if v < 10 then 48 + v else 87 + v
/-- What a digit says. -/
def dvl (c : Nat) : Option Nat := if 48 ≤ c ∧ c ≤ 57 then some (c - 48) else if 97 ≤ c ∧ c ≤ 102 then some (c - 87) else none
theorem dg_lt (v : Nat) (h : v < 16) : dg v < 256 := by unfold dg; split <;> omega
theorem dvl_dg (v : Nat) (h : v < 16) : dvl (dg v) = some v := by
  have : ∀ v : Fin 16, dvl (dg v.val) = some v.val := by decide
  exact this ⟨v, h⟩
theorem dvl_some {c v : Nat} (h : dvl c = some v) : v < 16 ∧ dg v = c := by
  unfold dvl at h
  split at h
  · simp only [Option.some.injEq] at h; unfold dg; rw [if_pos (by omega)]; omega
  · split at h
    · simp only [Option.some.injEq] at h; unfold dg; rw [if_neg (by omega)]; omega
    · simp at h
theorem dvl_none {c : Nat} (h : dvl c = none) : ∀ v, v < 16 → dg v ≠ c := by
  intro v hv e
  rw [← e, dvl_dg v hv] at h
  simp at h
/-- Bytes as digits. -/
def hexL : List UInt8 → List Nat
  | [] => []
  | c :: r => dg (c.toNat / 16) :: dg (c.toNat % 16) :: hexL r
/-- Digits as bytes. -/
def unhexL : List UInt8 → Option (List Nat)
  | [] => some []
  | [_] => none
  | a :: b :: r => match dvl a.toNat, dvl b.toNat, unhexL r with
    | some x, some y, some m => some ((x * 16 + y) :: m)
    | _, _, _ => none
theorem hexL_append : ∀ (a b : List UInt8), hexL (a ++ b) = hexL a ++ hexL b
  | [], b => rfl
  | c :: r, b => by simp [hexL, hexL_append r b]
theorem hexL_length : ∀ l : List UInt8, (hexL l).length = 2 * l.length
  | [] => rfl
  | c :: r => by simp [hexL, hexL_length r]; omega
theorem unhex_hex : ∀ l : List UInt8, unhexL (by8 (hexL l)) = some (l.map UInt8.toNat)
  | [] => rfl
  | c :: r => by
    have hc := c.toNat_lt
    have e : by8 (hexL (c :: r)) = UInt8.ofNat (dg (c.toNat / 16)) :: UInt8.ofNat (dg (c.toNat % 16)) :: by8 (hexL r) := rfl
    rw [e, unhexL, toNat_ofNat8 _ (dg_lt _ (by omega)), toNat_ofNat8 _ (dg_lt _ (by omega)), dvl_dg _ (by omega), dvl_dg _ (by omega), unhex_hex r]
    simp only [List.map_cons]
    congr 2
    omega
theorem ofNat_toNat8 (c : UInt8) : UInt8.ofNat c.toNat = c := by simp
theorem by8_toNat : ∀ l : List UInt8, by8 (l.map UInt8.toNat) = l
  | [] => rfl
  | c :: r => by
    have e : by8 ((c :: r).map UInt8.toNat) = UInt8.ofNat c.toNat :: by8 (r.map UInt8.toNat) := rfl
    rw [e, ofNat_toNat8, by8_toNat r]
theorem hex_unhex : ∀ (n : Nat) (l : List UInt8), l.length ≤ n → ∀ m, unhexL l = some m → by8 (hexL (by8 m)) = l ∧ 2 * m.length = l.length
  | _, [], _, m, h => by simp [unhexL] at h; subst h; exact ⟨rfl, rfl⟩
  | _, [_], _, m, h => by simp [unhexL] at h
  | 0, a :: b :: r, hl, m, h => by simp at hl
  | n + 1, a :: b :: r, hl, m, h => by
    rw [unhexL] at h
    split at h
    · rename_i x y m' hx hy hm
      simp only [Option.some.injEq] at h
      subst h
      obtain ⟨i1, i2⟩ := hex_unhex n r (by simp at hl; omega) m' hm
      obtain ⟨x1, x2⟩ := dvl_some hx
      obtain ⟨y1, y2⟩ := dvl_some hy
      have e : by8 (hexL (by8 ((x * 16 + y) :: m'))) = UInt8.ofNat (dg ((UInt8.ofNat (x * 16 + y)).toNat / 16)) :: UInt8.ofNat (dg ((UInt8.ofNat (x * 16 + y)).toNat % 16)) :: by8 (hexL (by8 m')) := rfl
      rw [e, toNat_ofNat8 _ (by omega), show (x * 16 + y) / 16 = x from by omega, show (x * 16 + y) % 16 = y from by omega, x2, y2, i1, ofNat_toNat8, ofNat_toNat8]
      exact ⟨rfl, by simp; omega⟩
    · simp at h
/-- What Unhex answers. -/
def uhS (s : ByteArray) : ByteArray := ((unhexL (bl s)).map sb).getD ⟨#[]⟩
def uhE (s : ByteArray) : Int := if (unhexL (bl s)).isSome then 0 else 4
theorem unhexL_odd : ∀ (n : Nat) (l : List UInt8), l.length ≤ n → l.length % 2 = 1 → unhexL l = none
  | _, [], _, h => by simp at h
  | _, [_], _, _ => rfl
  | 0, a :: b :: r, hl, _ => by simp at hl
  | n + 1, a :: b :: r, hl, h => by
    rw [unhexL, unhexL_odd n r (by simp at hl; omega) (by simp at h; omega)]
    split <;> simp_all
theorem drop_two (s : ByteArray) (k : Nat) (h : k + 1 < s.size) : (bl s).drop k = s[k] :: s[k + 1] :: (bl s).drop (k + 2) := by
  rw [drop_at s k (by omega), drop_at s (k + 1) h]
/-- One more pair is read. -/
theorem unhex_step (s : ByteArray) (k : Nat) (m : List Nat) (x y : Nat) (h : k + 1 < s.size) (hm : unhexL (bl s) = (unhexL ((bl s).drop k)).map (m ++ ·)) (hx : dvl s[k].toNat = some x) (hy : dvl s[k + 1].toNat = some y) :
    unhexL (bl s) = (unhexL ((bl s).drop (k + 2))).map (m ++ [x * 16 + y] ++ ·) := by
  rw [hm, drop_two s k h, unhexL, hx, hy]
  cases unhexL ((bl s).drop (k + 2)) with
  | none => rfl
  | some r => simp
theorem unhex_bad (s : ByteArray) (k : Nat) (m : List Nat) (h : k + 1 < s.size) (hm : unhexL (bl s) = (unhexL ((bl s).drop k)).map (m ++ ·)) (hx : dvl s[k].toNat = none ∨ dvl s[k + 1].toNat = none) :
    unhexL (bl s) = none := by
  rw [hm, drop_two s k h, unhexL]
  rcases hx with e | e
  · rw [e]; rfl
  · rw [e]; split <;> simp_all
theorem unhex_all (s : ByteArray) (k : Nat) (m : List Nat) (h : s.size ≤ k) (hm : unhexL (bl s) = (unhexL ((bl s).drop k)).map (m ++ ·)) : unhexL (bl s) = some m := by
  rw [hm, List.drop_of_length_le (by rw [bl_length]; exact h)]; simp [unhexL]
theorem uh_some {s : ByteArray} {m : List Nat} (h : unhexL (bl s) = some m) : uhS s = sb m ∧ uhE s = 0 := by simp [uhS, uhE, h]
theorem uh_none {s : ByteArray} (h : unhexL (bl s) = none) : uhS s = ⟨#[]⟩ ∧ uhE s = 4 := by simp [uhS, uhE, h]
/-- Digits there and back. -/
theorem uh_hex (s : ByteArray) : uhS (sb (hexL (bl s))) = s ∧ uhE (sb (hexL (bl s))) = 0 := by
  have e : unhexL (bl (sb (hexL (bl s)))) = some ((bl s).map UInt8.toNat) := by rw [bl_sb]; exact unhex_hex _
  obtain ⟨a, b⟩ := uh_some e
  refine ⟨?_, b⟩
  rw [a]
  apply bl_inj
  rw [bl_sb, by8_toNat]
theorem hex_uh (s : ByteArray) (h : uhE s = 0) : sb (hexL (bl (uhS s))) = s := by
  cases e : unhexL (bl s) with
  | none => rw [(uh_none e).2] at h; cases h
  | some m =>
    rw [(uh_some e).1]
    apply bl_inj
    rw [bl_sb, bl_sb]
    exact (hex_unhex _ _ (Nat.le_refl _) m e).1
theorem uhE_cases (s : ByteArray) : uhE s = 0 ∨ uhE s = 4 := by unfold uhE; split <;> simp
theorem u8_shl4_or (x y : Nat) (hx : x < 16) (hy : y < 16) : bits .or .u8 (IntKind.u8.wrap ((x : Int) * 16)) (y : Int) = ((x * 16 + y : Nat) : Int) := by
  have h : ∀ x y : Fin 16, bits .or .u8 (IntKind.u8.wrap ((x.val : Int) * 16)) (y.val : Int) = ((x.val * 16 + y.val : Nat) : Int) := by decide +kernel
  exact h ⟨x, hx⟩ ⟨y, hy⟩
theorem u8_and_15 (b : Nat) (hb : b < 256) : bits .and .u8 (b : Int) 15 = ((b % 16 : Nat) : Int) := by
  have h : ∀ a : Fin 256, bits .and .u8 (a.val : Int) 15 = ((a.val % 16 : Nat) : Int) := by decide +kernel
  exact h ⟨b, hb⟩
end Go.Proofs.YtbfoiocbmhhdbaaGreat
/- Plain facts: the order of names. -/
namespace Go.Proofs.YtbfoiocbmhhdbaaGreat
set_option linter.unusedSimpArgs false
set_option linter.unusedVariables false
theorem cmpB_refl : ∀ a : List UInt8, Lib.compareBytes a a = 0
  | [] => rfl
  | x :: l => by
    have h : ¬ x < x := UInt8.lt_irrefl x
    rw [Lib.compareBytes, if_neg h, if_neg h, cmpB_refl l]
theorem cmpB_zero : ∀ a b : List UInt8, Lib.compareBytes a b = 0 → a = b
  | [], [], _ => rfl
  | [], _ :: _, h => by simp [Lib.compareBytes] at h
  | _ :: _, [], h => by simp [Lib.compareBytes] at h
  | x :: a, y :: b, h => by
    rw [Lib.compareBytes] at h
    split at h
    · cases h
    · split at h
      · cases h
      · rename_i h1 h2
        have e : x = y := by
          rw [UInt8.lt_iff_toNat_lt] at h1 h2
          apply UInt8.toNat_inj.1
          omega
        rw [e, cmpB_zero a b h]
theorem cmpB_swap : ∀ a b : List UInt8, Lib.compareBytes b a = - Lib.compareBytes a b
  | [], [] => rfl
  | [], _ :: _ => rfl
  | _ :: _, [] => rfl
  | x :: a, y :: b => by
    rw [Lib.compareBytes, Lib.compareBytes]
    by_cases h1 : x < y
    · have h2 : ¬ y < x := by rw [UInt8.lt_iff_toNat_lt] at *; omega
      rw [if_pos h1, if_neg h2, if_pos h1]; rfl
    · by_cases h2 : y < x
      · rw [if_pos h2, if_neg h1, if_pos h2]
      · rw [if_neg h1, if_neg h2, if_neg h2, if_neg h1, cmpB_swap a b]
theorem cmpB_range : ∀ a b : List UInt8, -1 ≤ Lib.compareBytes a b ∧ Lib.compareBytes a b ≤ 1
  | [], [] => by simp [Lib.compareBytes]
  | [], _ :: _ => by simp [Lib.compareBytes]
  | _ :: _, [] => by simp [Lib.compareBytes]
  | x :: a, y :: b => by
    rw [Lib.compareBytes]
    split
    · omega
    · split
      · omega
      · exact cmpB_range a b
end Go.Proofs.YtbfoiocbmhhdbaaGreat
/- Plain facts of indexes: entries, their order, the bytes; no program in sight. -/
namespace Go.Proofs.YtbfoiocbmhhdbaaGreat
set_option linter.unusedSimpArgs false
set_option linter.unusedVariables false
/-- An entry as it may come in. -/
structure Xe where
  id : ByteArray
  k : UInt8
  off : Int
  sz : Int
/-- May it be indexed? -/
def okX (e : Xe) : Bool := decide (1 ≤ e.k.toNat ∧ e.k.toNat ≤ 5 ∧ 4 ≤ e.off ∧ e.off ≤ 67108864 ∧ 0 ≤ e.sz ∧ e.sz ≤ 2097152)
theorem okX_iff (e : Xe) : okX e = true ↔ 1 ≤ e.k.toNat ∧ e.k.toNat ≤ 5 ∧ 4 ≤ e.off ∧ e.off ≤ 67108864 ∧ 0 ≤ e.sz ∧ e.sz ≤ 2097152 := by simp [okX]
/-- The order of names. -/
def ltN (a b : ByteArray) : Bool := decide (Lib.compareBytes (bl a) (bl b) < 0)
theorem cmpB_trans : ∀ a b c : List UInt8, Lib.compareBytes a b < 0 → Lib.compareBytes b c < 0 → Lib.compareBytes a c < 0
  | [], [], _, h, _ => by simp [Lib.compareBytes] at h
  | [], _ :: _, [], _, h => by simp [Lib.compareBytes] at h
  | [], _ :: _, _ :: _, _, _ => by simp [Lib.compareBytes]
  | _ :: _, [], _, h, _ => by simp [Lib.compareBytes] at h
  | _ :: _, _ :: _, [], _, h => by simp [Lib.compareBytes] at h
  | x :: a, y :: b, z :: c, h, g => by
    rw [Lib.compareBytes] at h g ⊢
    by_cases h1 : x < y
    · by_cases g1 : y < z
      · have : x < z := by rw [UInt8.lt_iff_toNat_lt] at *; omega
        rw [if_pos this]; omega
      · rw [if_neg g1] at g
        by_cases g2 : z < y
        · rw [if_pos g2] at g; omega
        · have : x < z := by rw [UInt8.lt_iff_toNat_lt] at *; omega
          rw [if_pos this]; omega
    · rw [if_neg h1] at h
      by_cases h2 : y < x
      · rw [if_pos h2] at h; omega
      · rw [if_neg h2] at h
        have e : x = y := by
          rw [UInt8.lt_iff_toNat_lt] at h1 h2
          apply UInt8.toNat_inj.1
          omega
        subst e
        by_cases g1 : x < z
        · rw [if_pos g1]; omega
        · rw [if_neg g1] at g ⊢
          by_cases g2 : z < x
          · rw [if_pos g2] at g; omega
          · rw [if_neg g2] at g ⊢
            exact cmpB_trans a b c h g
theorem ltN_trans {a b c : ByteArray} (h : ltN a b = true) (g : ltN b c = true) : ltN a c = true :=
  decide_eq_true (cmpB_trans _ _ _ (of_decide_eq_true h) (of_decide_eq_true g))
theorem ltN_irr (a : ByteArray) : ltN a a = false := by
  unfold ltN; rw [cmpB_refl]; rfl
theorem ltN_asym {a b : ByteArray} (h : ltN a b = true) : ltN b a = false := by
  rw [Bool.eq_false_iff]
  intro g
  have := ltN_trans h g
  rw [ltN_irr] at this
  cases this
theorem ltN_tri {a b : ByteArray} (h : ltN a b = false) (g : ltN b a = false) : a = b := by
  have h1 := of_decide_eq_false h
  have g1 := of_decide_eq_false g
  rw [cmpB_swap (bl a) (bl b)] at g1
  exact bl_inj (cmpB_zero _ _ (by omega))
theorem ltN_ne {a b : ByteArray} (h : a ≠ b) (g : ltN b a = false) : ltN a b = true := by
  cases q : ltN a b with
  | true => rfl
  | false => exact absurd (ltN_tri q g) h
/-- Names rise. -/
def Rise (l : List Xe) : Prop := l.Pairwise (fun a b => ltN a.id b.id = true)
/-- Names are apart. -/
def Aprt (l : List Xe) : Prop := l.Pairwise (fun a b => a.id ≠ b.id)
theorem Rise.apart {l : List Xe} (h : Rise l) : Aprt l := h.imp (fun {a b} q e => by rw [e, ltN_irr] at q; cases q)
theorem Aprt.perm {l l' : List Xe} (h : Aprt l) (p : l.Perm l') : Aprt l' := List.Pairwise.perm h p (fun {x y} q => Ne.symm q)
theorem rise_one {l l' : List Xe} (p : l.Perm l') (h : Rise l) (h' : Rise l') : l = l' :=
  List.Perm.eq_of_pairwise (fun a b _ _ q1 q2 => by rw [ltN_asym q1] at q2; cases q2) h h' p
theorem apart_one {l : List Xe} (h : Aprt l) : ∀ {i j : Nat} {a b : Xe}, l[i]? = some a → l[j]? = some b → a.id = b.id → i = j := by
  intro i j a b ha hb he
  obtain ⟨hi, rfl⟩ := List.getElem?_eq_some_iff.1 ha
  obtain ⟨hj, rfl⟩ := List.getElem?_eq_some_iff.1 hb
  rw [Aprt, List.pairwise_iff_getElem] at h
  rcases Nat.lt_trichotomy i j with q | q | q
  · exact absurd he (h i j hi hj q)
  · exact q
  · exact absurd he.symm (h j i hj hi q)
/-- A list that may be an index's. -/
structure OkL (l : List Xe) : Prop where
  ok : ∀ e ∈ l, okX e = true
  id : ∀ e ∈ l, e.id.size = 32
  ri : Rise l
  len : l.length ≤ 65536
/-- A number in four bytes. -/
def f4 (n : Nat) : List UInt8 := by8 (fixN 4 n)
theorem f4_len (n : Nat) : (f4 n).length = 4 := by rw [f4, by8_length, fixN_length]
theorem f4_fixV (l : List UInt8) (h : l.length = 4) : f4 (fixV l) = l := fixN_fixV 4 l h
theorem fixV_f4 (n : Nat) (h : n < 4294967296) : fixV (f4 n) = n := by
  have h1 : fixN 4 n = [n / 256 / 256 / 256 % 256, n / 256 / 256 % 256, n / 256 % 256, n % 256] := rfl
  rw [f4, h1]
  simp only [by8, List.map_cons, List.map_nil, fixV, List.foldl_cons, List.foldl_nil, UInt8.toNat_ofNat']
  omega
theorem f4_inj {m n : Nat} (hm : m < 4294967296) (hn : n < 4294967296) (h : f4 m = f4 n) : m = n := by
  rw [← fixV_f4 m hm, ← fixV_f4 n hn, h]
/-- A name's first byte; how many names' are not above, below. -/
def fst8 (e : Xe) : Nat := ((bl e.id).headD 0).toNat
def fanL (l : List Xe) (b : Nat) : Nat := l.countP (fun e => decide (fst8 e ≤ b))
def fanB (l : List Xe) (b : Nat) : Nat := l.countP (fun e => decide (fst8 e < b))
theorem fst8_lt (e : Xe) : fst8 e < 256 := UInt8.toNat_lt _
theorem fanL_le (l : List Xe) (b : Nat) : fanL l b ≤ l.length := List.countP_le_length
/-- An entry's bytes, an index's. -/
def enB (e : Xe) : List UInt8 := bl e.id ++ ([e.k] ++ (f4 e.off.toNat ++ f4 e.sz.toNat))
def fanT (l : List Xe) (n : Nat) : List UInt8 := (List.range n).flatMap (fun b => f4 (fanL l b))
def ensB (l : List Xe) : List UInt8 := l.flatMap enB
def hdB (s : ByteArray) (l : List Xe) : List UInt8 := [109, 105, 120, 49] ++ (bl s ++ (f4 l.length ++ fanT l 256))
def ixB (s : ByteArray) (l : List Xe) : List UInt8 := hdB s l ++ ensB l
theorem enB_len {e : Xe} (h : e.id.size = 32) : (enB e).length = 41 := by simp [enB, bl_length, f4_len, h]
theorem fanT_succ (l : List Xe) (n : Nat) : fanT l (n + 1) = fanT l n ++ f4 (fanL l n) := by simp [fanT, List.range_succ]
theorem fanT_len (l : List Xe) : ∀ n, (fanT l n).length = 4 * n
  | 0 => rfl
  | n + 1 => by rw [fanT_succ, List.length_append, fanT_len l n, f4_len]; omega
theorem hdB_len {s : ByteArray} (l : List Xe) (h : s.size = 32) : (hdB s l).length = 1064 := by simp [hdB, bl_length, f4_len, fanT_len, h]
theorem ensB_snoc (l : List Xe) (e : Xe) : ensB (l ++ [e]) = ensB l ++ enB e := by simp [ensB]
theorem ensB_len : ∀ {l : List Xe}, (∀ e ∈ l, e.id.size = 32) → (ensB l).length = 41 * l.length
  | [], _ => rfl
  | e :: l, h => by
    have ih := ensB_len (l := l) (fun x hx => h x (List.mem_cons_of_mem _ hx))
    show (enB e ++ ensB l).length = _
    rw [List.length_append, ih, enB_len (h e (List.mem_cons_self ..)), List.length_cons]; omega
theorem ixB_len {s : ByteArray} {l : List Xe} (h : s.size = 32) (hl : ∀ e ∈ l, e.id.size = 32) : (ixB s l).length = 1064 + 41 * l.length := by
  rw [ixB, List.length_append, hdB_len l h, ensB_len hl]
/-- What is taken from 41 bytes. -/
def rdXe (t : List UInt8) : Xe := ⟨⟨(t.take 32).toArray⟩, (t.drop 32).headD 0, (fixV ((t.drop 33).take 4) : Int), (fixV ((t.drop 37).take 4) : Int)⟩
theorem rdXe_enB {e : Xe} (h : e.id.size = 32) (ho : okX e = true) (r : List UInt8) : rdXe (enB e ++ r) = e := by
  obtain ⟨_, _, o1, o2, o3, o4⟩ := (okX_iff e).1 ho
  have hl : (bl e.id).length = 32 := by rw [bl_length, h]
  have a1 : (enB e ++ r).take 32 = bl e.id := by
    rw [enB, List.append_assoc, List.take_left' hl]
  have a2 : (enB e ++ r).drop 32 = [e.k] ++ (f4 e.off.toNat ++ f4 e.sz.toNat) ++ r := by
    rw [enB, List.append_assoc, List.drop_left' hl]
  have a3 : (enB e ++ r).drop 33 = f4 e.off.toNat ++ (f4 e.sz.toNat ++ r) := by
    rw [show 33 = 32 + 1 from rfl, ← List.drop_drop, a2]; simp
  have a4 : (enB e ++ r).drop 37 = f4 e.sz.toNat ++ r := by
    rw [show 37 = 33 + 4 from rfl, ← List.drop_drop, a3, List.drop_left' (f4_len _)]
  unfold rdXe
  rw [a1, a2, a3, a4, List.take_left' (f4_len _), List.take_left' (f4_len _), fixV_f4 _ (by omega), fixV_f4 _ (by omega)]
  obtain ⟨i, k, o, z⟩ := e
  simp only at o1 o3 ⊢
  have e1 : (⟨(bl i).toArray⟩ : ByteArray) = i := bl_inj rfl
  rw [e1, Int.toNat_of_nonneg (by omega), Int.toNat_of_nonneg o3]
  rfl
/-- As many entries as there are bytes for. -/
def rdL : Nat → List UInt8 → List Xe
  | 0, _ => []
  | n + 1, t => rdXe t :: rdL n (t.drop 41)
theorem rdL_len : ∀ n t, (rdL n t).length = n
  | 0, _ => rfl
  | n + 1, t => by rw [rdL, List.length_cons, rdL_len n]
theorem rdL_get : ∀ (n : Nat) (t : List UInt8) (i : Nat), i < n → (rdL n t)[i]? = some (rdXe (t.drop (41 * i)))
  | 0, _, _, h => by omega
  | n + 1, t, 0, _ => by simp [rdL]
  | n + 1, t, i + 1, h => by
    rw [rdL, List.getElem?_cons_succ, rdL_get n _ i (by omega), List.drop_drop]
    congr 3
    omega
theorem rdL_ensB : ∀ {l : List Xe} (r : List UInt8), (∀ e ∈ l, e.id.size = 32) → (∀ e ∈ l, okX e = true) → rdL l.length (ensB l ++ r) = l
  | [], r, _, _ => rfl
  | e :: l, r, h, ho => by
    have ih := rdL_ensB (l := l) r (fun x hx => h x (List.mem_cons_of_mem _ hx)) (fun x hx => ho x (List.mem_cons_of_mem _ hx))
    have q : ensB (e :: l) ++ r = enB e ++ (ensB l ++ r) := by show enB e ++ ensB l ++ r = _; rw [List.append_assoc]
    rw [List.length_cons, rdL, q, rdXe_enB (h e (List.mem_cons_self ..)) (ho e (List.mem_cons_self ..)), List.drop_left' (enB_len (h e (List.mem_cons_self ..))), ih]
/-- What is taken from an index's bytes. -/
def rdS (s : List UInt8) : ByteArray := ⟨((s.drop 4).take 32).toArray⟩
def rdA (s : List UInt8) : List Xe := rdL ((s.length - 1064) / 41) (s.drop 1064)
theorem rd_ix {s : ByteArray} {l : List Xe} (hs : s.size = 32) (h : OkL l) : rdS (ixB s l) = s ∧ rdA (ixB s l) = l := by
  constructor
  · unfold rdS
    apply bl_inj
    show ((ixB s l).drop 4).take 32 = bl s
    have q : ixB s l = [109, 105, 120, 49] ++ (bl s ++ (f4 l.length ++ fanT l 256 ++ ensB l)) := by simp [ixB, hdB]
    rw [q]
    show (bl s ++ (f4 l.length ++ fanT l 256 ++ ensB l)).take 32 = bl s
    rw [List.take_left' (by rw [bl_length, hs])]
  · unfold rdA
    rw [ixB_len hs h.id, show 1064 + 41 * l.length - 1064 = l.length * 41 from by omega, Nat.mul_div_cancel _ (by decide), ixB, List.drop_left' (hdB_len l hs)]
    have := rdL_ensB (l := l) [] h.id h.ok
    rwa [List.append_nil] at this
theorem ix_inj {s s' : ByteArray} {l l' : List Xe} (hs : s.size = 32) (hs' : s'.size = 32) (h : OkL l) (h' : OkL l') (e : ixB s l = ixB s' l') : s = s' ∧ l = l' := by
  have a := rd_ix hs h
  have b := rd_ix hs' h'
  rw [e] at a
  exact ⟨a.1.symm.trans b.1, a.2.symm.trans b.2⟩
end Go.Proofs.YtbfoiocbmhhdbaaGreat
