import Derived.Test.YtpfknjnigcefgaaGreatDoorY1
import Derived.Test.YtpfknjnigcefgaaGreatDoorY3
import Derived.Lib.LaidTab
/- Plain facts on reading a short number from the front of bytes. -/
namespace Go.Proofs.YtpfknjnigcefgaaGreatDoor
set_option linter.unusedSimpArgs false
set_option linter.unusedVariables false
open Go
/-- The short number at the front of bytes, and how many bytes it has; i bytes have been read, they say acc. -/
def dec : Nat → Nat → List UInt8 → Option (Nat × Nat)
  | _, _, [] => none
  | i, acc, b :: r => if 10 ≤ i then none else if 128 ≤ b.toNat then dec (i + 1) (acc + b.toNat % 128 * 128 ^ i) r
      else if (b.toNat = 0 ∧ 0 < i) ∨ (1 < b.toNat ∧ i = 9) then none else some (acc + b.toNat * 128 ^ i, i + 1)
def decS (l : List UInt8) : Option (Nat × Nat) := dec 0 0 l
def bl (s : ByteArray) : List UInt8 := s.data.toList
theorem bl_length (s : ByteArray) : (bl s).length = s.size := Array.length_toList
theorem dec_ten (i acc : Nat) (l : List UInt8) (h : 10 ≤ i) : dec i acc l = none := by
  cases l with
  | nil => rfl
  | cons b r => rw [dec, if_pos h]
theorem drop_at (s : ByteArray) (k : Nat) (h : k < s.size) : (bl s).drop k = s[k] :: (bl s).drop (k + 1) := by
  rw [List.drop_eq_getElem_cons (by rw [bl_length]; exact h)]; rfl
theorem or_add (acc v k : Nat) (h : acc < 2 ^ k) : acc ||| v * 2 ^ k = acc + v * 2 ^ k := by
  rw [Nat.or_comm, Nat.mul_comm, ← Nat.two_pow_add_eq_or_of_lt h, Nat.add_comm]
theorem u8_and_127 (b : Nat) (hb : b < 256) : bits .and .u8 (b : Int) 127 = ((b % 128 : Nat) : Int) := by
  have h : ∀ a : Fin 256, bits .and .u8 (a.val : Int) 127 = ((a.val % 128 : Nat) : Int) := by decide +kernel
  exact h ⟨b, hb⟩
/-- What the program makes of one more byte. -/
theorem accStep (acc b k : Nat) (hb : b < 256) (hacc : acc < 128 ^ k) (hk : k ≤ 8 ∨ (k = 9 ∧ b % 128 ≤ 1)) :
    bits .or .u64 (acc : Int) (IntKind.u64.wrap (IntKind.u64.wrap (bits .and .u8 (b : Int) 127) * 2 ^ (7 * k))) = ((acc + b % 128 * 128 ^ k : Nat) : Int) ∧ acc + b % 128 * 128 ^ k < 2 ^ 64 := by
  have hb2 : b % 128 < 128 := Nat.mod_lt _ (by omega)
  have hp : b % 128 * 2 ^ (7 * k) + 2 ^ (7 * k) ≤ 2 ^ 64 := by
    rcases hk with h | ⟨h, h2⟩
    · have e1 : 2 ^ (7 * k) ≤ 2 ^ 56 := Nat.pow_le_pow_right (by omega) (by omega)
      have e2 : b % 128 * 2 ^ (7 * k) ≤ 127 * 2 ^ (7 * k) := Nat.mul_le_mul_right _ (by omega)
      omega
    · have e0 : 7 * k = 63 := by omega
      rw [e0]
      omega
  rw [pow128] at hacc ⊢
  rw [u8_and_127 b hb, IntKind.wrap_u64, IntKind.wrap_u64]
  have e1 : ((b % 128 : Nat) : Int) % 18446744073709551616 = ((b % 128 : Nat) : Int) := by omega
  rw [e1]
  have e2 : ((b % 128 : Nat) : Int) * 2 ^ (7 * k) = ((b % 128 * 2 ^ (7 * k) : Nat) : Int) := by rw [Int.natCast_mul, Int.natCast_pow]; rfl
  rw [e2]
  have e3 : ((b % 128 * 2 ^ (7 * k) : Nat) : Int) % 18446744073709551616 = ((b % 128 * 2 ^ (7 * k) : Nat) : Int) := by
    have : 0 < 2 ^ (7 * k) := Nat.two_pow_pos _
    omega
  rw [e3, u64_or_nat _ _ (by omega) (by have : 0 < 2 ^ (7 * k) := Nat.two_pow_pos _; omega), or_add _ _ _ hacc]
  exact ⟨rfl, by omega⟩
theorem accNext (acc b k : Nat) (hacc : acc < 128 ^ k) : acc + b % 128 * 128 ^ k < 128 ^ (k + 1) := by
  have : b % 128 * 128 ^ k ≤ 127 * 128 ^ k := Nat.mul_le_mul_right _ (by omega)
  rw [Nat.pow_succ]; omega
theorem bits_or_lt (x y : Int) : ∃ m : Nat, bits .or .u64 x y = (m : Int) ∧ m < 2 ^ 64 := by
  have h : 0 ≤ bits .or .u64 x y ∧ bits .or .u64 x y < 18446744073709551616 := by
    unfold bits
    simp only [IntKind.wrap_u64]
    omega
  exact ⟨(bits .or .u64 x y).toNat, by omega, by omega⟩
theorem dec_more (s : ByteArray) (k acc : Nat) (h : k < s.size) (hk : k < 10) (hb : 128 ≤ s[k].toNat) :
    dec k acc ((bl s).drop k) = dec (k + 1) (acc + s[k].toNat % 128 * 128 ^ k) ((bl s).drop (k + 1)) := by
  rw [drop_at s k h, dec, if_neg (by omega), if_pos hb]
theorem dec_bad (s : ByteArray) (k acc : Nat) (h : k < s.size) (hk : k < 10) (hb : s[k].toNat < 128) (hc : (s[k].toNat = 0 ∧ 0 < k) ∨ (1 < s[k].toNat ∧ k = 9)) :
    dec k acc ((bl s).drop k) = none := by
  rw [drop_at s k h, dec, if_neg (by omega), if_neg (by omega), if_pos hc]
theorem dec_good (s : ByteArray) (k acc : Nat) (h : k < s.size) (hk : k < 10) (hb : s[k].toNat < 128) (hc : ¬ ((s[k].toNat = 0 ∧ 0 < k) ∨ (1 < s[k].toNat ∧ k = 9))) :
    dec k acc ((bl s).drop k) = some (acc + s[k].toNat * 128 ^ k, k + 1) := by
  rw [drop_at s k h, dec, if_neg (by omega), if_neg (by omega), if_neg hc]
def shN (s : ByteArray) : Nat := ((decS (bl s)).getD (0, 0)).1
def shK (s : ByteArray) : Nat := ((decS (bl s)).getD (0, 0)).2
end Go.Proofs.YtpfknjnigcefgaaGreatDoor
/- Plain facts: what was put is read, what is read was put. -/
namespace Go.Proofs.YtpfknjnigcefgaaGreatDoor
set_option linter.unusedSimpArgs false
set_option linter.unusedVariables false
open Go
theorem dec_bounds : ∀ (l : List UInt8) (i acc n k : Nat), dec i acc l = some (n, k) → acc < 128 ^ i → i + 1 ≤ k ∧ k ≤ i + l.length ∧ k ≤ 10 ∧ n < 2 ^ 64
  | [], i, acc, n, k, h, _ => by simp [dec] at h
  | b :: r, i, acc, n, k, h, ha => by
    rw [dec] at h
    split at h
    · simp at h
    · rename_i hi
      split at h
      · have := dec_bounds r (i + 1) _ n k h (accNext _ _ _ ha)
        simp only [List.length_cons]
        omega
      · rename_i hb
        split at h
        · simp at h
        · rename_i hc
          simp only [Option.some.injEq, Prod.mk.injEq] at h
          obtain ⟨rfl, rfl⟩ := h
          refine ⟨by omega, by simp only [List.length_cons]; omega, by omega, ?_⟩
          have e := (accStep acc b.toNat i (by omega) ha (by omega)).2
          rwa [Nat.mod_eq_of_lt (by omega)] at e
theorem shK_le (s : ByteArray) : shK s ≤ s.size := by
  unfold shK
  cases h : decS (bl s) with
  | none => simp
  | some p =>
    have := dec_bounds (bl s) 0 0 p.1 p.2 h (by omega)
    rw [bl_length] at this
    simp only [Option.getD_some]
    omega
theorem shN_lt (s : ByteArray) : shN s < 18446744073709551616 := by
  unfold shN
  cases h : decS (bl s) with
  | none => simp
  | some p =>
    have := dec_bounds (bl s) 0 0 p.1 p.2 h (by omega)
    simp only [Option.getD_some]
    omega
theorem extract_take (s : ByteArray) (d : Nat) (h : d ≤ s.size) : bl (s.extract 0 d) = (bl s).take d := by
  simp [bl, ByteArray.data_extract]
/-- What bytes say as a number, the highest first. -/
def fixV (l : List UInt8) : Nat := l.foldl (fun a c => a * 256 + c.toNat) 0
theorem fixV_snoc (l : List UInt8) (c : UInt8) : fixV (l ++ [c]) = fixV l * 256 + c.toNat := by simp [fixV]
theorem fixV_lt (l : List UInt8) : fixV l < 256 ^ l.length := by
  obtain ⟨n, hn⟩ : ∃ n, n = l.length := ⟨_, rfl⟩
  rw [← hn]
  induction n generalizing l with
  | zero => have : l = [] := by cases l with | nil => rfl | cons a b => simp at hn
            subst this; simp [fixV]
  | succ n ih =>
    obtain ⟨l', c, rfl⟩ : ∃ l' c, l = l' ++ [c] := ⟨l.dropLast, l.getLast (by intro e; subst e; simp at hn), (List.dropLast_concat_getLast _).symm⟩
    have := ih l' (by simp at hn; omega)
    have hc := c.toNat_lt
    rw [fixV_snoc, Nat.pow_succ]
    omega
theorem take_snoc (s : ByteArray) (k : Nat) (h : k < s.size) : (bl s).take (k + 1) = (bl s).take k ++ [s[k]] := by
  rw [List.take_succ_eq_append_getElem (by rw [bl_length]; exact h)]; rfl
theorem fixStep (acc c k : Nat) (hc : c < 256) (hk : k ≤ 7) (ha : acc < 256 ^ k) :
    bits .or .u64 (IntKind.u64.wrap ((acc : Int) * 256)) (c : Int) = ((acc * 256 + c : Nat) : Int) ∧ acc * 256 + c < 2 ^ 64 := by
  have h7 : 256 ^ k ≤ 256 ^ 7 := Nat.pow_le_pow_right (by omega) hk
  have e1 : IntKind.u64.wrap ((acc : Int) * 256) = ((acc * 256 : Nat) : Int) := by rw [IntKind.wrap_u64]; omega
  rw [e1, u64_or_nat _ _ (by omega) (by omega), Nat.or_comm]
  have := or_add c acc 8 (by omega)
  rw [show (2 : Nat) ^ 8 = 256 from rfl] at this
  rw [this]
  exact ⟨by rw [Nat.add_comm], by omega⟩
end Go.Proofs.YtpfknjnigcefgaaGreatDoor
/- Plain facts: what was put is read back; what was read, put again, is what was read. -/
namespace Go.Proofs.YtpfknjnigcefgaaGreatDoor
set_option linter.unusedSimpArgs false
set_option linter.unusedVariables false
open Go
/-- Numbers below 256 as bytes. -/
def by8 (l : List Nat) : List UInt8 := l.map UInt8.ofNat
theorem bl_sb (l : List Nat) : bl (sb l) = by8 l := rfl
theorem bl_append (a b : ByteArray) : bl (a ++ b) = bl a ++ bl b := by simp [bl]
theorem bl_inj {a b : ByteArray} (h : bl a = bl b) : a = b := by
  cases a; cases b; simp only [bl] at h; congr; exact Array.toList_inj.1 h
theorem bl_extract (s : ByteArray) (i j : Nat) : bl (s.extract i j) = ((bl s).take j).drop i := by
  simp [bl, ByteArray.data_extract, List.drop_take]
theorem toNat_ofNat8 (n : Nat) (h : n < 256) : (UInt8.ofNat n).toNat = n := by simp [Nat.mod_eq_of_lt h]
theorem dec_enc : ∀ (k n i acc : Nat) (r : List UInt8), i + k ≤ 9 → n < 128 ^ (k + 1) → (0 < k → 128 ^ k ≤ n) → (i + k = 9 → n / 128 ^ k ≤ 1) → (0 < i → 0 < n) →
    dec i acc (by8 (encN k n) ++ r) = some (acc + n * 128 ^ i, i + k + 1)
  | 0, n, i, acc, r, hi, hn, _, h9, h0 => by
    have hn' : n < 128 := by simpa using hn
    show dec i acc (UInt8.ofNat n :: r) = _
    rw [dec, toNat_ofNat8 n (by omega), if_neg (by omega), if_neg (by omega), if_neg]
    have h9' : i = 9 → n ≤ 1 := by intro e; have := h9 (by omega); simpa using this
    omega
  | k + 1, n, i, acc, r, hi, hn, hlo, h9, h0 => by
    have hlo' := hlo (by omega)
    have hp : 0 < 128 ^ k := Nat.pow_pos (by omega)
    have hq : 128 ^ k ≤ n / 128 := by rw [Nat.le_div_iff_mul_le (by omega)]; rw [Nat.pow_succ] at hlo'; exact hlo'
    show dec i acc (UInt8.ofNat (n % 128 + 128) :: (by8 (encN k (n / 128)) ++ r)) = _
    rw [dec, toNat_ofNat8 _ (by omega), if_neg (by omega), if_pos (by omega),
      dec_enc k (n / 128) (i + 1) _ r (by omega) (by rw [Nat.div_lt_iff_lt_mul (by omega)]; rw [Nat.pow_succ] at hn; exact hn) (fun _ => hq)
        (fun e => by rw [Nat.div_div_eq_div_mul, Nat.mul_comm, ← Nat.pow_succ]; exact h9 (by omega)) (fun _ => by omega)]
    have e1 : (n % 128 + 128) % 128 = n % 128 := by omega
    rw [e1, Nat.pow_succ]
    have e2 : n / 128 * (128 ^ i * 128) = (n / 128 * 128) * 128 ^ i := by rw [Nat.mul_comm (128 ^ i) 128, Nat.mul_assoc]
    rw [e2, Nat.add_assoc, ← Nat.add_mul, show n % 128 + n / 128 * 128 = n from by omega]
    rw [show i + 1 + k + 1 = i + (k + 1) + 1 from by omega]
theorem decS_enc (n : Nat) (r : List UInt8) (h : n < 2 ^ 64) : decS (by8 (encS n) ++ r) = some (n, slen n) := by
  have h1 := slen_pos n
  have h2 := slen_le n h
  have h3 := slen_hi n h
  have e := dec_enc (slen n - 1) n 0 0 r (by omega) (by rw [show slen n - 1 + 1 = slen n from by omega]; exact h3) (fun hk => slen_lo n h (by omega))
    (fun e => by rw [show slen n - 1 = 9 from by omega]; omega) (fun h => by omega)
  unfold decS encS
  rw [e]
  simp; omega
theorem sh_enc (n : Nat) (s r : ByteArray) (h : n < 2 ^ 64) (hs : s = sb (encS n) ++ r) : shN s = n ∧ shK s = slen n := by
  subst hs
  unfold shN shK
  rw [bl_append, bl_sb, decS_enc n _ h]
  exact ⟨rfl, rfl⟩
theorem fixV_fixN : ∀ (d n : Nat), n < 256 ^ d → fixV (by8 (fixN d n)) = n
  | 0, n, h => by simp at h; subst h; rfl
  | d + 1, n, h => by
    have e : by8 (fixN (d + 1) n) = by8 (fixN d (n / 256)) ++ [UInt8.ofNat (n % 256)] := by simp [by8, fixN]
    rw [e, fixV_snoc, fixV_fixN d (n / 256) (by rw [Nat.div_lt_iff_lt_mul (by omega)]; rw [Nat.pow_succ] at h; exact h), toNat_ofNat8 _ (by omega)]
    omega
theorem by8_length (l : List Nat) : (by8 l).length = l.length := by simp [by8]
theorem drop_front (s a r : ByteArray) (k : Nat) (hs : s = a ++ r) (hk : k = a.size) : s.extract k s.size = r := by
  apply bl_inj
  subst hs
  rw [bl_extract, bl_append, List.take_of_length_le (by rw [List.length_append, bl_length, bl_length]; simp), hk, List.drop_append_of_le_length (by rw [bl_length]; exact Nat.le_refl _), List.drop_of_length_le (by rw [bl_length]; exact Nat.le_refl _)]
  rfl
end Go.Proofs.YtpfknjnigcefgaaGreatDoor
/- Plain facts on digits: bytes as digits and back. -/
namespace Go.Proofs.YtpfknjnigcefgaaGreatDoor
set_option linter.unusedSimpArgs false
set_option linter.unusedVariables false
open Go
/-- The digit that stands for a number below 16. -/
def dg (v : Nat) : Nat := if v < 10 then 48 + v else 87 + v
/-- What a digit says. -/
def dvl (c : Nat) : Option Nat := if 48 ≤ c ∧ c ≤ 57 then some (c - 48) else if 97 ≤ c ∧ c ≤ 102 then some (c - 87) else none
theorem dg_lt (v : Nat) (h : v < 16) : dg v < 256 := by unfold dg; split <;> omega
theorem dvl_dg (v : Nat) (h : v < 16) : dvl (dg v) = some v := by
  have : ∀ v : Fin 16, dvl (dg v.val) = some v.val := by decide
  exact this ⟨v, h⟩
theorem dvl_some {c v : Nat} (h : dvl c = some v) : v < 16 ∧ dg v = c := by
  unfold dvl at h
  split at h
  · simp only [Option.some.injEq] at h; unfold dg; rw [if_pos (by omega)]; omega
  · split at h
    · simp only [Option.some.injEq] at h; unfold dg; rw [if_neg (by omega)]; omega
    · simp at h
theorem dvl_none {c : Nat} (h : dvl c = none) : ∀ v, v < 16 → dg v ≠ c := by
  intro v hv e
  rw [← e, dvl_dg v hv] at h
  simp at h
/-- Bytes as digits. -/
def hexL : List UInt8 → List Nat
  | [] => []
  | c :: r => dg (c.toNat / 16) :: dg (c.toNat % 16) :: hexL r
/-- Digits as bytes. -/
def unhexL : List UInt8 → Option (List Nat)
  | [] => some []
  | [_] => none
  | a :: b :: r => match dvl a.toNat, dvl b.toNat, unhexL r with
    | some x, some y, some m => some ((x * 16 + y) :: m)
    | _, _, _ => none
theorem hexL_append : ∀ (a b : List UInt8), hexL (a ++ b) = hexL a ++ hexL b
  | [], b => rfl
  | c :: r, b => by simp [hexL, hexL_append r b]
theorem hexL_length : ∀ l : List UInt8, (hexL l).length = 2 * l.length
  | [] => rfl
  | c :: r => by simp [hexL, hexL_length r]; omega
theorem unhex_hex : ∀ l : List UInt8, unhexL (by8 (hexL l)) = some (l.map UInt8.toNat)
  | [] => rfl
  | c :: r => by
    have hc := c.toNat_lt
    have e : by8 (hexL (c :: r)) = UInt8.ofNat (dg (c.toNat / 16)) :: UInt8.ofNat (dg (c.toNat % 16)) :: by8 (hexL r) := rfl
    rw [e, unhexL, toNat_ofNat8 _ (dg_lt _ (by omega)), toNat_ofNat8 _ (dg_lt _ (by omega)), dvl_dg _ (by omega), dvl_dg _ (by omega), unhex_hex r]
    simp only [List.map_cons]
    congr 2
    omega
theorem ofNat_toNat8 (c : UInt8) : UInt8.ofNat c.toNat = c := by simp
theorem by8_toNat : ∀ l : List UInt8, by8 (l.map UInt8.toNat) = l
  | [] => rfl
  | c :: r => by
    have e : by8 ((c :: r).map UInt8.toNat) = UInt8.ofNat c.toNat :: by8 (r.map UInt8.toNat) := rfl
    rw [e, ofNat_toNat8, by8_toNat r]
theorem hex_unhex : ∀ (n : Nat) (l : List UInt8), l.length ≤ n → ∀ m, unhexL l = some m → by8 (hexL (by8 m)) = l ∧ 2 * m.length = l.length
  | _, [], _, m, h => by simp [unhexL] at h; subst h; exact ⟨rfl, rfl⟩
  | _, [_], _, m, h => by simp [unhexL] at h
  | 0, a :: b :: r, hl, m, h => by simp at hl
  | n + 1, a :: b :: r, hl, m, h => by
    rw [unhexL] at h
    split at h
    · rename_i x y m' hx hy hm
      simp only [Option.some.injEq] at h
      subst h
      obtain ⟨i1, i2⟩ := hex_unhex n r (by simp at hl; omega) m' hm
      obtain ⟨x1, x2⟩ := dvl_some hx
      obtain ⟨y1, y2⟩ := dvl_some hy
      have e : by8 (hexL (by8 ((x * 16 + y) :: m'))) = UInt8.ofNat (dg ((UInt8.ofNat (x * 16 + y)).toNat / 16)) :: UInt8.ofNat (dg ((UInt8.ofNat (x * 16 + y)).toNat % 16)) :: by8 (hexL (by8 m')) := rfl
      rw [e, toNat_ofNat8 _ (by omega), show (x * 16 + y) / 16 = x from by omega, show (x * 16 + y) % 16 = y from by omega, x2, y2, i1, ofNat_toNat8, ofNat_toNat8]
      exact ⟨rfl, by simp; omega⟩
    · simp at h
/-- What Unhex answers. -/
def uhS (s : ByteArray) : ByteArray := ((unhexL (bl s)).map sb).getD ⟨#[]⟩
def uhE (s : ByteArray) : Int := if (unhexL (bl s)).isSome then 0 else 4
theorem unhexL_odd : ∀ (n : Nat) (l : List UInt8), l.length ≤ n → l.length % 2 = 1 → unhexL l = none
  | _, [], _, h => by simp at h
  | _, [_], _, _ => rfl
  | 0, a :: b :: r, hl, _ => by simp at hl
  | n + 1, a :: b :: r, hl, h => by
    rw [unhexL, unhexL_odd n r (by simp at hl; omega) (by simp at h; omega)]
    split <;> simp_all
theorem drop_two (s : ByteArray) (k : Nat) (h : k + 1 < s.size) : (bl s).drop k = s[k] :: s[k + 1] :: (bl s).drop (k + 2) := by
  rw [drop_at s k (by omega), drop_at s (k + 1) h]
/-- One more pair is read. -/
theorem unhex_step (s : ByteArray) (k : Nat) (m : List Nat) (x y : Nat) (h : k + 1 < s.size) (hm : unhexL (bl s) = (unhexL ((bl s).drop k)).map (m ++ ·)) (hx : dvl s[k].toNat = some x) (hy : dvl s[k + 1].toNat = some y) :
    unhexL (bl s) = (unhexL ((bl s).drop (k + 2))).map (m ++ [x * 16 + y] ++ ·) := by
  rw [hm, drop_two s k h, unhexL, hx, hy]
  cases unhexL ((bl s).drop (k + 2)) with
  | none => rfl
  | some r => simp
theorem unhex_bad (s : ByteArray) (k : Nat) (m : List Nat) (h : k + 1 < s.size) (hm : unhexL (bl s) = (unhexL ((bl s).drop k)).map (m ++ ·)) (hx : dvl s[k].toNat = none ∨ dvl s[k + 1].toNat = none) :
    unhexL (bl s) = none := by
  rw [hm, drop_two s k h, unhexL]
  rcases hx with e | e
  · rw [e]; rfl
  · rw [e]; split <;> simp_all
theorem unhex_all (s : ByteArray) (k : Nat) (m : List Nat) (h : s.size ≤ k) (hm : unhexL (bl s) = (unhexL ((bl s).drop k)).map (m ++ ·)) : unhexL (bl s) = some m := by
  rw [hm, List.drop_of_length_le (by rw [bl_length]; exact h)]; simp [unhexL]
theorem uh_some {s : ByteArray} {m : List Nat} (h : unhexL (bl s) = some m) : uhS s = sb m ∧ uhE s = 0 := by simp [uhS, uhE, h]
theorem uh_none {s : ByteArray} (h : unhexL (bl s) = none) : uhS s = ⟨#[]⟩ ∧ uhE s = 4 := by simp [uhS, uhE, h]
/-- Digits there and back. -/
theorem uh_hex (s : ByteArray) : uhS (sb (hexL (bl s))) = s ∧ uhE (sb (hexL (bl s))) = 0 := by
  have e : unhexL (bl (sb (hexL (bl s)))) = some ((bl s).map UInt8.toNat) := by rw [bl_sb]; exact unhex_hex _
  obtain ⟨a, b⟩ := uh_some e
  refine ⟨?_, b⟩
  rw [a]
  apply bl_inj
  rw [bl_sb, by8_toNat]
theorem hex_uh (s : ByteArray) (h : uhE s = 0) : sb (hexL (bl (uhS s))) = s := by
  cases e : unhexL (bl s) with
  | none => rw [(uh_none e).2] at h; cases h
  | some m =>
    rw [(uh_some e).1]
    apply bl_inj
    rw [bl_sb, bl_sb]
    exact (hex_unhex _ _ (Nat.le_refl _) m e).1
theorem uhE_cases (s : ByteArray) : uhE s = 0 ∨ uhE s = 4 := by unfold uhE; split <;> simp
theorem u8_shl4_or (x y : Nat) (hx : x < 16) (hy : y < 16) : bits .or .u8 (IntKind.u8.wrap ((x : Int) * 16)) (y : Int) = ((x * 16 + y : Nat) : Int) := by
  have h : ∀ x y : Fin 16, bits .or .u8 (IntKind.u8.wrap ((x.val : Int) * 16)) (y.val : Int) = ((x.val * 16 + y.val : Nat) : Int) := by decide +kernel
  exact h ⟨x, hx⟩ ⟨y, hy⟩
theorem u8_and_15 (b : Nat) (hb : b < 256) : bits .and .u8 (b : Int) 15 = ((b % 16 : Nat) : Int) := by
  have h : ∀ a : Fin 256, bits .and .u8 (a.val : Int) 15 = ((a.val % 16 : Nat) : Int) := by decide +kernel
  exact h ⟨b, hb⟩
end Go.Proofs.YtpfknjnigcefgaaGreatDoor
/- The walk of wire.digitValue and of the document's own digit. -/
set_option maxRecDepth 100000
namespace Go.Proofs.YtpfknjnigcefgaaGreatDoor
open Go.RowKit
set_option linter.unusedSimpArgs false
set_option linter.unusedVariables false
/-- The table of digits, as a value. -/
abbrev DIG : Value := .agg #[.int .u8 48, .int .u8 49, .int .u8 50, .int .u8 51, .int .u8 52, .int .u8 53, .int .u8 54, .int .u8 55, .int .u8 56, .int .u8 57, .int .u8 97, .int .u8 98, .int .u8 99, .int .u8 100, .int .u8 101, .int .u8 102]
/-- The cells of the table of digits, in their block. -/
def TabIs (w : World) : Prop := ∀ v, v < 16 → w.cell? ⟨1, v, none⟩ = some (.int .u8 (dg v))
theorem TabIs.below {B : Nat} {w w' : World} (h : TabIs w) (hb : Below B w w') (hB : 1 < B) : TabIs w' := fun v hv => (hb.cell (p := ⟨1, v, none⟩) hB).trans (h v hv)
theorem idx16 (w : World) : ∀ (k : Nat) (_ : k < 16), (Instr.index 173 DIG (.int .i64 k)).run Tryz.prog w = .ok (.int .u8 (dg k)) w
  | 0, _ => by kernel_rfl
  | 1, _ => by kernel_rfl
  | 2, _ => by kernel_rfl
  | 3, _ => by kernel_rfl
  | 4, _ => by kernel_rfl
  | 5, _ => by kernel_rfl
  | 6, _ => by kernel_rfl
  | 7, _ => by kernel_rfl
  | 8, _ => by kernel_rfl
  | 9, _ => by kernel_rfl
  | 10, _ => by kernel_rfl
  | 11, _ => by kernel_rfl
  | 12, _ => by kernel_rfl
  | 13, _ => by kernel_rfl
  | 14, _ => by kernel_rfl
  | 15, _ => by kernel_rfl
  | k + 16, h => absurd h (by omega)
theorem dvl_found {c k : Nat} (hk : k < 16) (h : dg k = c) : dvl c = some k := by rw [← h]; exact dvl_dg k hk
theorem dvl_missed {c : Nat} (h : ∀ v, v < 16 → dg v ≠ c) : dvl c = none := by
  cases e : dvl c with
  | none => rfl
  | some v => obtain ⟨a, b⟩ := dvl_some e; exact absurd b (h v a)
theorem ret_dv {c : Nat} {a : Int} {b : Bool} (h : a = ((dvl c).getD 0 : Nat) ∧ b = (dvl c).isSome) : Ending.returned (.tuple #[.int .u8 a, .bool b]) = .returned (.tuple #[.int .u8 ((dvl c).getD 0 : Nat), .bool (dvl c).isSome]) := by rw [h.1, h.2]
set_option maxHeartbeats 400000 in
theorem digitValue_any (c : Nat) (w : World) (hc : c < 256) (hT : TabIs w) :
    Calls Tryz.prog 120 #[.int .u8 c] w fun e w' => e = .returned (.tuple #[.int .u8 ((dvl c).getD 0 : Nat), .bool (dvl c).isSome]) ∧ w' = w := by
  have t0 : w.cell? ⟨1, 0, none⟩ = some (.int .u8 48) := hT 0 (by omega)
  have t1 : w.cell? ⟨1, 1, none⟩ = some (.int .u8 49) := hT 1 (by omega)
  have t2 : w.cell? ⟨1, 2, none⟩ = some (.int .u8 50) := hT 2 (by omega)
  have t3 : w.cell? ⟨1, 3, none⟩ = some (.int .u8 51) := hT 3 (by omega)
  have t4 : w.cell? ⟨1, 4, none⟩ = some (.int .u8 52) := hT 4 (by omega)
  have t5 : w.cell? ⟨1, 5, none⟩ = some (.int .u8 53) := hT 5 (by omega)
  have t6 : w.cell? ⟨1, 6, none⟩ = some (.int .u8 54) := hT 6 (by omega)
  have t7 : w.cell? ⟨1, 7, none⟩ = some (.int .u8 55) := hT 7 (by omega)
  have t8 : w.cell? ⟨1, 8, none⟩ = some (.int .u8 56) := hT 8 (by omega)
  have t9 : w.cell? ⟨1, 9, none⟩ = some (.int .u8 57) := hT 9 (by omega)
  have t10 : w.cell? ⟨1, 10, none⟩ = some (.int .u8 97) := hT 10 (by omega)
  have t11 : w.cell? ⟨1, 11, none⟩ = some (.int .u8 98) := hT 11 (by omega)
  have t12 : w.cell? ⟨1, 12, none⟩ = some (.int .u8 99) := hT 12 (by omega)
  have t13 : w.cell? ⟨1, 13, none⟩ = some (.int .u8 100) := hT 13 (by omega)
  have t14 : w.cell? ⟨1, 14, none⟩ = some (.int .u8 101) := hT 14 (by omega)
  have t15 : w.cell? ⟨1, 15, none⟩ = some (.int .u8 102) := hT 15 (by omega)
  clear hT
  go_enter Tryz.func120, Tryz.ntmps120
  go_wp2
  clear t0 t1 t2 t3 t4 t5 t6 t7 t8 t9 t10 t11 t12 t13 t14 t15
  go_loop [7] (fun i => ∃ (k : Nat), k ≤ 16 ∧ i = .int .i64 k ∧ Hid (∀ v, v < k → dg v ≠ c)) (fun i => 16 - (intOf i).toNat)
  case atStart => exact ⟨0, by omega, rfl, fun v hv => by omega⟩
  case round =>
    obtain ⟨k, hk, rfl, HR⟩ := hrel
    by_cases hlt : k < 16
    · have hi := idx16 w k hlt
      by_cases he : dg k = c
      · have he' : ((dg k : Int) == (c : Int)) = true := by rw [beq_iff_eq]; omega
        have HE : Hid (dg k = c) := he
        clear he
        go_wp2
        go_ret2
        refine ⟨ret_dv ?_, rfl⟩
        rw [dvl_found hlt HE.out]
        exact ⟨by simp, rfl⟩
      · have he' : ((dg k : Int) == (c : Int)) = false := by rw [beq_eq_false_iff_ne]; omega
        have HE : Hid (¬ dg k = c) := he
        clear he
        go_wp2
        go_round
        case rel => exact ⟨k + 1, by omega, by go_num, fun v hv => by
          rcases Nat.lt_succ_iff_lt_or_eq.1 hv with h | h
          · exact HR.out v h
          · subst h; exact HE.out⟩
        case measure => simp [intOf]; omega
    · go_wp2
      go_ret2
      refine ⟨ret_dv ?_, rfl⟩
      rw [dvl_missed (fun v hv => HR.out v (by omega))]
      exact ⟨by simp, rfl⟩
set_option maxHeartbeats 400000 in
theorem digit_any (c : Nat) (w : World) (hc : c < 256) :
    Calls Tryz.prog 121 #[.int .u8 c] w fun e w' => e = .returned (.int .u8 ((dvl c).getD 16 : Nat)) ∧ w' = w := by
  by_cases h1 : 48 ≤ c
  · by_cases h2 : c ≤ 57
    · have e : (dvl c).getD 16 = c - 48 := by unfold dvl; rw [if_pos ⟨h1, h2⟩]; rfl
      rw [e]
      clear e
      go_enter Tryz.func121, Tryz.ntmps121
      go_wp2
      go_ret
      exact ⟨ret_int (by omega), rfl⟩
    · by_cases h3 : 97 ≤ c
      · by_cases h4 : c ≤ 102
        · have e : (dvl c).getD 16 = c - 87 := by unfold dvl; rw [if_neg (by omega), if_pos ⟨h3, h4⟩]; rfl
          rw [e]
          clear e
          go_enter Tryz.func121, Tryz.ntmps121
          go_wp2
          go_ret
          exact ⟨ret_int (by omega), rfl⟩
        · have e : (dvl c).getD 16 = 16 := by unfold dvl; rw [if_neg (by omega), if_neg (by omega)]; rfl
          rw [e]
          clear e
          go_enter Tryz.func121, Tryz.ntmps121
          go_wp2
          go_ret
          exact ⟨rfl, rfl⟩
      · have e : (dvl c).getD 16 = 16 := by unfold dvl; rw [if_neg (by omega), if_neg (by omega)]; rfl
        rw [e]
        clear e
        go_enter Tryz.func121, Tryz.ntmps121
        go_wp2
        go_ret
        exact ⟨rfl, rfl⟩
  · have e : (dvl c).getD 16 = 16 := by unfold dvl; rw [if_neg (by omega), if_neg (by omega)]; rfl
    rw [e]
    clear e
    go_enter Tryz.func121, Tryz.ntmps121
    go_wp2
    go_ret
    exact ⟨rfl, rfl⟩
end Go.Proofs.YtpfknjnigcefgaaGreatDoor
