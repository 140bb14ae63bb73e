/- The mathematics of filters: places, bits, rows of bytes. No program is named here. -/
import Derived.Test.YtplfjfhpdfbpeaaDoorP9
import Derived.Laws.BitsAllLaws
namespace Go.Proofs.YtplfjfhpdfbpeaaDoor
set_option linter.unusedSimpArgs false
set_option linter.unusedVariables false
open Go
/-- One bit of a row of bytes. -/
def btR (s : List UInt8) (p : Nat) : Bool := (s.getD (p / 8) 0).toNat.testBit (p % 8)
/-- A byte with one bit more. -/
def orB (a : UInt8) (k : Nat) : UInt8 := UInt8.ofNat (a.toNat ||| 2 ^ k)
theorem orB_lt (a : UInt8) (k : Nat) (hk : k < 8) : a.toNat ||| 2 ^ k < 256 := by
  have h1 := a.toNat_lt
  exact Nat.or_lt_two_pow (n := 8) h1 (Nat.pow_lt_pow_right (by omega) hk)
theorem orB_toNat (a : UInt8) (k : Nat) (hk : k < 8) : (orB a k).toNat = a.toNat ||| 2 ^ k := by
  have := orB_lt a k hk
  rw [orB, UInt8.toNat_ofNat']
  exact Nat.mod_eq_of_lt this
/-- A row with one bit more. -/
def stR (s : List UInt8) (p : Nat) : List UInt8 := s.set (p / 8) (orB (s.getD (p / 8) 0) (p % 8))
theorem stR_len (s : List UInt8) (p : Nat) : (stR s p).length = s.length := by simp [stR]
theorem btR_st (s : List UInt8) (p q : Nat) (h : p / 8 < s.length) : btR (stR s p) q = (btR s q || decide (q = p)) := by
  have hk : p % 8 < 8 := Nat.mod_lt _ (by omega)
  unfold btR stR
  by_cases e : p / 8 = q / 8
  · rw [← e]
    have e1 : (s.set (p / 8) (orB (s.getD (p / 8) 0) (p % 8))).getD (p / 8) 0 = orB (s.getD (p / 8) 0) (p % 8) := by
      simp [List.getD, h]
    rw [e1, orB_toNat _ _ hk, Nat.testBit_or, Nat.testBit_two_pow]
    congr 1
    have : (p % 8 = q % 8) ↔ (q = p) := by omega
    simp [this]
  · have e1 : (s.set (p / 8) (orB (s.getD (p / 8) 0) (p % 8))).getD (q / 8) 0 = s.getD (q / 8) 0 := by
      simp [List.getD, List.getElem?_set, e]
    rw [e1]
    have : ¬ q = p := by intro h; subst h; exact e rfl
    simp [this]
/-- The number in four bytes of a name. -/
def pnum (x : ByteArray) (i : Nat) : Nat := (((byl x).getD (4 * i) 0 * 256 + (byl x).getD (4 * i + 1) 0) * 256 + (byl x).getD (4 * i + 2) 0) * 256 + (byl x).getD (4 * i + 3) 0
/-- A place of a name. -/
def plc (n : Nat) (x : ByteArray) (i : Nat) : Nat := pnum x i % n
/-- A name added: its first places. -/
def adK (n : Nat) (x : ByteArray) : Nat → List UInt8 → List UInt8
  | 0, s => s
  | i + 1, s => stR (adK n x i s) (plc n x i)
/-- Whether a name is had: its first places. -/
def haK (n : Nat) (x : ByteArray) (s : List UInt8) : Nat → Bool
  | 0 => true
  | i + 1 => haK n x s i && btR s (plc n x i)
theorem adK_len (n : Nat) (x : ByteArray) (s : List UInt8) : ∀ k, (adK n x k s).length = s.length
  | 0 => rfl
  | k + 1 => by rw [adK, stR_len, adK_len n x s k]
/-- Is that one of the places of a name? -/
def isP (n : Nat) (x : ByteArray) (q : Nat) : Nat → Bool
  | 0 => false
  | i + 1 => isP n x q i || decide (q = plc n x i)
theorem isP_iff (n : Nat) (x : ByteArray) (q : Nat) : ∀ k, isP n x q k = true ↔ ∃ i, i < k ∧ q = plc n x i
  | 0 => by simp [isP]
  | k + 1 => by
    rw [isP, Bool.or_eq_true, isP_iff n x q k, decide_eq_true_eq]
    constructor
    · rintro (⟨i, h1, h2⟩ | h)
      · exact ⟨i, by omega, h2⟩
      · exact ⟨k, by omega, h⟩
    · rintro ⟨i, h1, h2⟩
      by_cases e : i = k
      · subst e; exact .inr h2
      · exact .inl ⟨i, by omega, h2⟩
theorem plc_in (n : Nat) (x : ByteArray) (i : Nat) (s : List UInt8) (hn : 0 < n) (h : 8 * s.length = n) : plc n x i / 8 < s.length := by
  have : plc n x i < n := Nat.mod_lt _ hn
  omega
theorem btR_ad (n : Nat) (x : ByteArray) (s : List UInt8) (q : Nat) (hn : 0 < n) (h : 8 * s.length = n) : ∀ k, btR (adK n x k s) q = (btR s q || isP n x q k)
  | 0 => by simp [adK, isP]
  | k + 1 => by
    rw [adK, btR_st _ _ _ (by rw [adK_len]; exact plc_in n x k s hn h), btR_ad n x s q hn h k, isP, Bool.or_assoc]
theorem haK_iff (n : Nat) (x : ByteArray) (s : List UInt8) : ∀ k, haK n x s k = true ↔ ∀ i, i < k → btR s (plc n x i) = true
  | 0 => by simp [haK]
  | k + 1 => by
    rw [haK, Bool.and_eq_true, haK_iff n x s k]
    constructor
    · rintro ⟨h1, h2⟩ i hi
      by_cases e : i = k
      · subst e; exact h2
      · exact h1 i (by omega)
    · intro h
      exact ⟨fun i hi => h i (by omega), h k (by omega)⟩
/-- Names added one behind the other. -/
def adL (n k : Nat) (l : List ByteArray) (s : List UInt8) : List UInt8 := l.foldl (fun s x => adK n x k s) s
theorem adL_len (n k : Nat) : ∀ (l : List ByteArray) (s : List UInt8), (adL n k l s).length = s.length
  | [], _ => rfl
  | x :: l, s => by
    show (adL n k l (adK n x k s)).length = _
    rw [adL_len n k l, adK_len]
theorem adL_snoc (n k : Nat) (l : List ByteArray) (x : ByteArray) (s : List UInt8) : adL n k (l ++ [x]) s = adK n x k (adL n k l s) := by simp [adL]
theorem btR_adL (n k : Nat) (q : Nat) (hn : 0 < n) : ∀ (l : List ByteArray) (s : List UInt8), 8 * s.length = n → (btR (adL n k l s) q = true ↔ btR s q = true ∨ ∃ x ∈ l, ∃ i, i < k ∧ q = plc n x i)
  | [], s, _ => by simp [adL]
  | x :: l, s, h => by
    show btR (adL n k l (adK n x k s)) q = true ↔ _
    rw [btR_adL n k q hn l _ (by rw [adK_len]; exact h), btR_ad n x s q hn h, Bool.or_eq_true, isP_iff]
    simp only [List.mem_cons, exists_eq_or_imp]
    exact or_assoc
/-- A row of noughts. -/
def zrR (m : Nat) : List UInt8 := List.replicate m 0
theorem zrR_len (m : Nat) : (zrR m).length = m := by simp [zrR]
theorem btR_zr (m q : Nat) : btR (zrR m) q = false := by
  have e : (zrR m).getD (q / 8) 0 = 0 := by
    simp only [zrR, List.getD]
    rw [List.getElem?_replicate]
    split <;> rfl
  rw [btR, e]; simp
/-- Two rows of one length with the same bits are one. -/
theorem row_ext (s t : List UInt8) (hl : s.length = t.length) (h : ∀ q, q < 8 * s.length → btR s q = btR t q) : s = t := by
  apply List.ext_getElem hl
  intro j h1 h2
  apply UInt8.toNat_inj.1
  apply Nat.eq_of_testBit_eq
  intro k
  by_cases hk : k < 8
  · have := h (8 * j + k) (by omega)
    unfold btR at this
    rw [show (8 * j + k) / 8 = j from by omega, show (8 * j + k) % 8 = k from by omega] at this
    simp only [List.getD, List.getElem?_eq_getElem h1, List.getElem?_eq_getElem h2, Option.getD_some] at this
    exact this
  · have p : 2 ^ 8 ≤ 2 ^ k := Nat.pow_le_pow_right (by omega) (by omega)
    have a1 := (s[j]).toNat_lt
    have a2 := (t[j]).toNat_lt
    rw [Nat.testBit_lt_two_pow (by omega), Nat.testBit_lt_two_pow (by omega)]
/-- What was added is had. -/
theorem had (n k : Nat) (l : List ByteArray) (s : List UInt8) (hn : 0 < n) (h : 8 * s.length = n) (x : ByteArray) (hx : x ∈ l) : haK n x (adL n k l s) k = true := by
  rw [haK_iff]
  intro i hi
  rw [btR_adL n k _ hn l s h]
  exact .inr ⟨x, hx, i, hi, rfl⟩
/-- A finer filter. -/
theorem finer (n N k : Nat) (l : List ByteArray) (s t : List UInt8) (hn : 0 < n) (hN : 0 < N) (hd : n ∣ N) (hs : 8 * s.length = n) (ht : 8 * t.length = N) (z : ∀ q, btR t q = false) (y : ByteArray) (h : haK N y (adL N k l t) k = true) : haK n y (adL n k l s) k = true := by
  rw [haK_iff] at h ⊢
  intro i hi
  have := h i hi
  rw [btR_adL N k _ hN l t ht, z] at this
  rw [btR_adL n k _ hn l s hs]
  rcases this with e | ⟨x, hx, j, hj, e⟩
  · simp at e
  · refine .inr ⟨x, hx, j, hj, ?_⟩
    unfold plc at e ⊢
    rw [← Nat.mod_mod_of_dvd (pnum y i) hd, e, Nat.mod_mod_of_dvd _ hd]
/-- Sizes. -/
def okF (n k : Nat) : Prop := (∃ e, e ≤ 18 ∧ n = 64 * 2 ^ e) ∧ 1 ≤ k ∧ k ≤ 8
theorem okF_pos {n k : Nat} (h : okF n k) : 64 ≤ n := by
  obtain ⟨⟨e, _, rfl⟩, _⟩ := h
  have := Nat.one_le_two_pow (n := e)
  omega
theorem okF_le {n k : Nat} (h : okF n k) : n ≤ 16777216 := by
  obtain ⟨⟨e, he, rfl⟩, _⟩ := h
  have := Nat.pow_le_pow_right (n := 2) (by omega) he
  omega
theorem okF_div {n k : Nat} (h : okF n k) : 8 * (n / 8) = n := by
  obtain ⟨⟨e, he, rfl⟩, _⟩ := h
  omega
theorem okF_iff (n k : Nat) : okF n k ↔ (n &&& (n - 1) = 0 ∧ 64 ≤ n ∧ n ≤ 16777216 ∧ 1 ≤ k ∧ k ≤ 8) := by
  constructor
  · intro h
    refine ⟨?_, okF_pos h, okF_le h, h.2⟩
    have h0 := okF_pos h
    rw [Nat.and_sub_one_eq_zero_iff_isPowerOfTwo (by omega)]
    obtain ⟨⟨e, he, rfl⟩, _⟩ := h
    exact ⟨6 + e, by rw [Nat.pow_add]⟩
  · rintro ⟨h1, h2, h3, h4⟩
    rw [Nat.and_sub_one_eq_zero_iff_isPowerOfTwo (by omega)] at h1
    obtain ⟨e, he⟩ := h1
    have a : 6 ≤ e := by
      rcases Nat.lt_or_ge e 6 with h | h
      · have := Nat.pow_lt_pow_right (a := 2) (by omega) h
        omega
      · exact h
    have b : e ≤ 24 := by
      rcases Nat.lt_or_ge 24 e with h | h
      · have := Nat.pow_lt_pow_right (a := 2) (by omega) h
        omega
      · exact h
    refine ⟨⟨e - 6, by omega, ?_⟩, h4⟩
    rw [he]
    conv => lhs; rw [show e = 6 + (e - 6) from by omega, Nat.pow_add]
end Go.Proofs.YtplfjfhpdfbpeaaDoor
