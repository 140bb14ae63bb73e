/- The mathematics of package roll: the window of some bytes, its two sums, its ring. No program is named here. -/
import Derived.WalkKit
namespace Go.Proofs.Ythfggejdeodinaa
open Go.RowKit
set_option linter.unusedSimpArgs false
set_option linter.unusedVariables false
/-- The window's byte i, the oldest one first, of bytes that were taken. -/
def wn (l : List UInt8) (i : Nat) : Nat := if l.length + i < 64 then 0 else (l.getD (l.length + i - 64) 0).toNat
/-- A sum of so many. -/
def smN (f : Nat → Nat) : Nat → Nat
  | 0 => 0
  | n + 1 => smN f n + f n
def loS (l : List UInt8) : Nat := smN (fun i => wn l i + 31) 64
def hiS (l : List UInt8) : Nat := smN (fun i => (i + 1) * (wn l i + 31)) 64
def lo6 (l : List UInt8) : Nat := loS l % 65536
def hi6 (l : List UInt8) : Nat := hiS l % 65536
/-- The digest. -/
def dgR (l : List UInt8) : Nat := lo6 l * 65536 + hi6 l
theorem lo6_lt (l : List UInt8) : lo6 l < 65536 := Nat.mod_lt _ (by omega)
theorem hi6_lt (l : List UInt8) : hi6 l < 65536 := Nat.mod_lt _ (by omega)
theorem dgR_lt (l : List UInt8) : dgR l < 4294967296 := by have := lo6_lt l; have := hi6_lt l; unfold dgR; omega
theorem wn_lt (l : List UInt8) (i : Nat) : wn l i < 256 := by
  unfold wn
  split
  · omega
  · exact UInt8.toNat_lt _
theorem wn_snoc (l : List UInt8) (b : UInt8) (i : Nat) (h : i < 63) : wn (l ++ [b]) i = wn l (i + 1) := by
  unfold wn
  rw [List.length_append, List.length_singleton]
  by_cases c : l.length + 1 + i < 64
  · rw [if_pos c, if_pos (by omega)]
  · rw [if_neg c, if_neg (by omega), List.getD, List.getD, List.getElem?_append_left (by omega), show l.length + 1 + i - 64 = l.length + (i + 1) - 64 from by omega]
theorem wn_last (l : List UInt8) (b : UInt8) : wn (l ++ [b]) 63 = b.toNat := by
  unfold wn
  rw [List.length_append, List.length_singleton, if_neg (by omega), show l.length + 1 + 63 - 64 = l.length from by omega]
  simp
theorem smN_ext (f g : Nat → Nat) : ∀ n, (∀ i, i < n → f i = g i) → smN f n = smN g n
  | 0, _ => rfl
  | n + 1, h => by rw [smN, smN, smN_ext f g n (fun i hi => h i (by omega)), h n (by omega)]
theorem smN_first (f : Nat → Nat) : ∀ n, smN f (n + 1) = f 0 + smN (fun i => f (i + 1)) n
  | 0 => by simp [smN]
  | n + 1 => by rw [smN, smN_first f n, smN]; omega
theorem smN_add (f g : Nat → Nat) : ∀ n, smN (fun i => f i + g i) n = smN f n + smN g n
  | 0 => rfl
  | n + 1 => by rw [smN, smN, smN, smN_add f g n]; omega
theorem smN_le (f : Nat → Nat) (c : Nat) : ∀ n, (∀ i, i < n → f i ≤ c) → smN f n ≤ n * c
  | 0, _ => by simp [smN]
  | n + 1, h => by
    have h1 := smN_le f c n (fun i hi => h i (by omega))
    have h2 := h n (by omega)
    rw [smN, Nat.succ_mul]; omega
theorem lo_snoc (l : List UInt8) (b : UInt8) : loS (l ++ [b]) + wn l 0 = loS l + b.toNat := by
  have h1 : loS (l ++ [b]) = smN (fun i => wn l (i + 1) + 31) 63 + (b.toNat + 31) := by
    show smN _ 63 + (wn (l ++ [b]) 63 + 31) = _
    rw [wn_last, smN_ext _ _ 63 (fun i hi => by rw [wn_snoc l b i hi])]
  have h2 : loS l = wn l 0 + 31 + smN (fun i => wn l (i + 1) + 31) 63 := smN_first _ 63
  omega
theorem hi_snoc (l : List UInt8) (b : UInt8) : hiS (l ++ [b]) + loS l = hiS l + 64 * (b.toNat + 31) := by
  have h1 : hiS (l ++ [b]) = smN (fun i => (i + 1) * (wn l (i + 1) + 31)) 63 + 64 * (b.toNat + 31) := by
    show smN _ 63 + (63 + 1) * (wn (l ++ [b]) 63 + 31) = _
    rw [wn_last, smN_ext _ _ 63 (fun i hi => by rw [wn_snoc l b i hi])]
  have h2 : hiS l = 1 * (wn l 0 + 31) + smN (fun i => (i + 1 + 1) * (wn l (i + 1) + 31)) 63 := smN_first (fun i => (i + 1) * (wn l i + 31)) 63
  have h3 : loS l = wn l 0 + 31 + smN (fun i => wn l (i + 1) + 31) 63 := smN_first _ 63
  have h4 : smN (fun i => (i + 1 + 1) * (wn l (i + 1) + 31)) 63 = smN (fun i => (i + 1) * (wn l (i + 1) + 31)) 63 + smN (fun i => wn l (i + 1) + 31) 63 := by
    rw [← smN_add]
    exact smN_ext _ _ 63 (fun i _ => Nat.succ_mul _ _)
  omega
/-- The sums modulo 65536, a byte more. -/
theorem lo6_snoc (l : List UInt8) (b : UInt8) : (lo6 (l ++ [b]) : Int) = ((lo6 l : Int) + b.toNat - wn l 0) % 65536 := by
  have := lo_snoc l b
  unfold lo6; omega
theorem hi6_snoc (l : List UInt8) (b : UInt8) : (hi6 (l ++ [b]) : Int) = ((hi6 l : Int) - lo6 l + 64 * ((b.toNat : Int) + 31)) % 65536 := by
  have := hi_snoc l b
  unfold hi6 lo6; omega
/-- The last 64 bytes alone. -/
theorem wn_back (a s : List UInt8) (h : 64 ≤ s.length) (i : Nat) : wn (a ++ s) i = wn s i := by
  unfold wn
  rw [List.length_append, if_neg (by omega), if_neg (by omega), List.getD, List.getD, List.getElem?_append_right (by omega), show a.length + s.length + i - 64 - a.length = s.length + i - 64 from by omega]
theorem dgR_ext (a b : List UInt8) (h : ∀ i, i < 64 → wn a i = wn b i) : dgR a = dgR b := by
  unfold dgR lo6 hi6 loS hiS
  rw [smN_ext (fun i => wn a i + 31) (fun i => wn b i + 31) 64 (fun i hi => by rw [h i hi]), smN_ext (fun i => (i + 1) * (wn a i + 31)) (fun i => (i + 1) * (wn b i + 31)) 64 (fun i hi => by rw [h i hi])]
theorem dgR_back (a s : List UInt8) (h : 64 ≤ s.length) : dgR (a ++ s) = dgR s := dgR_ext _ _ (fun i _ => wn_back a s h i)
theorem dgR_drop (l : List UInt8) (n : Nat) (h : n + 64 ≤ l.length) : dgR (l.drop n) = dgR l := by
  have := dgR_back (l.take n) (l.drop n) (by rw [List.length_drop]; omega)
  rwa [List.take_append_drop, eq_comm] at this
theorem wn_zero (n i : Nat) : wn (List.replicate n 0) i = 0 := by
  unfold wn
  split
  · rfl
  · rw [List.getD, List.getElem?_replicate]
    split <;> rfl
theorem dgR_zero (n : Nat) : dgR (List.replicate n 0) = dgR [] := dgR_ext _ _ (fun i _ => by rw [wn_zero, show ([] : List UInt8) = List.replicate 0 0 from rfl, wn_zero])
theorem loS_le (l : List UInt8) : loS l ≤ 18304 := by
  have := smN_le (fun i => wn l i + 31) 286 64 (fun i _ => by have := wn_lt l i; omega)
  exact this
/-- A sum in which one is another. -/
theorem smN_one (f g : Nat → Nat) (q : Nat) : ∀ n, (∀ i, i ≠ q → f i = g i) → smN f n + (if q < n then g q else 0) = smN g n + (if q < n then f q else 0)
  | 0, _ => by simp [smN]
  | n + 1, h => by
    have ih := smN_one f g q n h
    rw [smN, smN]
    by_cases e : n = q
    · subst e
      rw [if_neg (by omega), if_neg (by omega)] at ih
      rw [if_pos (by omega), if_pos (by omega)]; omega
    · rw [h n e]
      by_cases c : q < n
      · rw [if_pos c, if_pos c] at ih
        rw [if_pos (by omega), if_pos (by omega)]; omega
      · rw [if_neg c, if_neg c] at ih
        rw [if_neg (by omega), if_neg (by omega)]; omega
/-- One byte of the window is another one: the digest is another one. -/
theorem dgR_unlike (a b : List UInt8) (q : Nat) (hq : q < 64) (h : ∀ i, i ≠ q → wn a i = wn b i) (hne : wn a q ≠ wn b q) : dgR a ≠ dgR b := by
  have h1 := smN_one (fun i => wn a i + 31) (fun i => wn b i + 31) q 64 (fun i hi => by rw [h i hi])
  rw [if_pos hq, if_pos hq] at h1
  have h2 : loS a + (wn b q + 31) = loS b + (wn a q + 31) := h1
  have h3 := loS_le a
  have h4 := loS_le b
  have h5 := hi6_lt a
  have h6 := hi6_lt b
  unfold dgR lo6
  omega
theorem wn_set (l : List UInt8) (p : Nat) (x : UInt8) (i : Nat) (hl : l.length ≤ 64) (hp : p < l.length) : wn (l.set p x) i = if l.length + i = 64 + p then x.toNat else wn l i := by
  unfold wn
  rw [List.length_set]
  by_cases c : l.length + i < 64
  · rw [if_pos c, if_pos c, if_neg (by omega)]
  · rw [if_neg c, if_neg c, List.getD, List.getD, List.getElem?_set]
    by_cases e : p = l.length + i - 64
    · rw [if_pos e, if_pos hp, if_pos (by omega)]; rfl
    · rw [if_neg e, if_neg (by omega)]
theorem dgR_set (l : List UInt8) (p : Nat) (x : UInt8) (hl : l.length ≤ 64) (hp : p < l.length) (hx : x ≠ l[p]) : dgR (l.set p x) ≠ dgR l := by
  refine dgR_unlike _ _ (64 + p - l.length) (by omega) (fun i hi => ?_) ?_
  · rw [wn_set l p x i hl hp, if_neg (by omega)]
  · rw [wn_set l p x _ hl hp, if_pos (by omega)]
    unfold wn
    rw [if_neg (by omega), show l.length + (64 + p - l.length) - 64 = p from by omega, List.getD, List.getElem?_eq_getElem hp]
    exact fun e => hx (UInt8.toNat_inj.1 e)
/-- The ring's byte at a place. -/
def rgW (l : List UInt8) (j : Nat) : Nat := wn l ((j + 64 - l.length % 64) % 64)
theorem rgW_lt (l : List UInt8) (j : Nat) : rgW l j < 256 := wn_lt _ _
theorem rgW_at (l : List UInt8) : rgW l (l.length % 64) = wn l 0 := by
  unfold rgW
  rw [show (l.length % 64 + 64 - l.length % 64) % 64 = 0 from by omega]
theorem rgW_snoc (l : List UInt8) (b : UInt8) (j : Nat) (hj : j < 64) : rgW (l ++ [b]) j = if l.length % 64 = j then b.toNat else rgW l j := by
  unfold rgW
  rw [List.length_append, List.length_singleton]
  by_cases e : l.length % 64 = j
  · rw [if_pos e, show (j + 64 - (l.length + 1) % 64) % 64 = 63 from by omega, wn_last]
  · rw [if_neg e, wn_snoc _ _ _ (by omega)]
    congr 1
    omega
theorem rgW_nil (j : Nat) : rgW [] j = 0 := by
  unfold rgW
  rw [show ([] : List UInt8) = List.replicate 0 0 from rfl, wn_zero]
theorem loS_nil : loS [] = 1984 := by decide +kernel
theorem hiS_nil : hiS [] = 64480 := by decide +kernel
theorem dgR_nil : dgR [] = 130087904 := by unfold dgR lo6 hi6; rw [loS_nil, hiS_nil]
/-- How many of a number's lowest bits are 1. -/
def onN : Nat → Nat → Nat
  | 0, _ => 0
  | k + 1, n => if n % 2 = 1 then onN k (n / 2) + 1 else 0
theorem onN_le : ∀ k n, onN k n ≤ k
  | 0, _ => Nat.le_refl _
  | k + 1, n => by have := onN_le k (n / 2); rw [onN]; split <;> omega
end Go.Proofs.Ythfggejdeodinaa
