import Derived.Test.YtcfniaknbbgheaaDoorY1
import Derived.Lib.Bytealg
import Derived.BigQuiet
import Derived.WalkKit
import Derived.BigCall
import Derived.WalkSpells
import Derived.WalkLawsBesides
import Derived.Handy
import Derived.Deep.MidRow
import Derived.Deep.WholeRow
import Derived.Laws.ResultCell
import Derived.Lib.SmallJoins
import Derived.Lib.BufferOwn
import Derived.Lib.HexFns2
import Derived.Test.YtcfniaknbbgheaaDoorRows
import Derived.RegionTactic
import Derived.ChangeAlike
/- Plain facts: what was put is read, what is read was put. -/
namespace Go.Proofs.YtcfniaknbbgheaaDoor
set_option linter.unusedSimpArgs false
set_option linter.unusedVariables false
open Go
theorem dec_bounds : ∀ (l : List UInt8) (i acc n k : Nat), dec i acc l = some (n, k) → acc < 128 ^ i → i + 1 ≤ k ∧ k ≤ i + l.length ∧ k ≤ 10 ∧ n < 2 ^ 64
  | [], i, acc, n, k, h, _ => by simp [dec] at h
  | b :: r, i, acc, n, k, h, ha => by
    rw [dec] at h
    split at h
    · simp at h
    · rename_i hi
      split at h
      · have := dec_bounds r (i + 1) _ n k h (accNext _ _ _ ha)
        simp only [List.length_cons]
        omega
      · rename_i hb
        split at h
        · simp at h
        · rename_i hc
          simp only [Option.some.injEq, Prod.mk.injEq] at h
          obtain ⟨rfl, rfl⟩ := h
          refine ⟨by omega, by simp only [List.length_cons]; omega, by omega, ?_⟩
          have e := (accStep acc b.toNat i (by omega) ha (by omega)).2
          rwa [Nat.mod_eq_of_lt (by omega)] at e
theorem shK_le (s : ByteArray) : shK s ≤ s.size := by
  unfold shK
  cases h : decS (bl s) with
  | none => simp
  | some p =>
    have := dec_bounds (bl s) 0 0 p.1 p.2 h (by omega)
    rw [bl_length] at this
    simp only [Option.getD_some]
    omega
theorem shN_lt (s : ByteArray) : shN s < 18446744073709551616 := by
  unfold shN
  cases h : decS (bl s) with
  | none => simp
  | some p =>
    have := dec_bounds (bl s) 0 0 p.1 p.2 h (by omega)
    simp only [Option.getD_some]
    omega
theorem extract_take (s : ByteArray) (d : Nat) (h : d ≤ s.size) : bl (s.extract 0 d) = (bl s).take d := by
  simp [bl, ByteArray.data_extract]
/-- What bytes say as a number, the highest first. -/
def fixV (l : List UInt8) : Nat := l.foldl (fun a c => a * 256 + c.toNat) 0
theorem fixV_snoc (l : List UInt8) (c : UInt8) : fixV (l ++ [c]) = fixV l * 256 + c.toNat := by simp [fixV]
theorem fixV_lt (l : List UInt8) : fixV l < 256 ^ l.length := by
  obtain ⟨n, hn⟩ : ∃ n, n = l.length := ⟨_, rfl⟩
  rw [← hn]
  induction n generalizing l with
  | zero => have : l = [] := by cases l with | nil => rfl | cons a b => simp at hn
            subst this; simp [fixV]
  | succ n ih =>
    obtain ⟨l', c, rfl⟩ : ∃ l' c, l = l' ++ [c] := ⟨l.dropLast, l.getLast (by intro e; subst e; simp at hn), (List.dropLast_concat_getLast _).symm⟩
    have := ih l' (by simp at hn; omega)
    have hc := c.toNat_lt
    rw [fixV_snoc, Nat.pow_succ]
    omega
theorem take_snoc (s : ByteArray) (k : Nat) (h : k < s.size) : (bl s).take (k + 1) = (bl s).take k ++ [s[k]] := by
  rw [List.take_succ_eq_append_getElem (by rw [bl_length]; exact h)]; rfl
theorem fixStep (acc c k : Nat) (hc : c < 256) (hk : k ≤ 7) (ha : acc < 256 ^ k) :
    bits .or .u64 (IntKind.u64.wrap ((acc : Int) * 256)) (c : Int) = ((acc * 256 + c : Nat) : Int) ∧ acc * 256 + c < 2 ^ 64 := by
  have h7 : 256 ^ k ≤ 256 ^ 7 := Nat.pow_le_pow_right (by omega) hk
  have e1 : IntKind.u64.wrap ((acc : Int) * 256) = ((acc * 256 : Nat) : Int) := by rw [IntKind.wrap_u64]; omega
  rw [e1, u64_or_nat _ _ (by omega) (by omega), Nat.or_comm]
  have := or_add c acc 8 (by omega)
  rw [show (2 : Nat) ^ 8 = 256 from rfl] at this
  rw [this]
  exact ⟨by rw [Nat.add_comm], by omega⟩
end Go.Proofs.YtcfniaknbbgheaaDoor
/- Plain facts: what was put is read back; what was read, put again, is what was read. -/
namespace Go.Proofs.YtcfniaknbbgheaaDoor
set_option linter.unusedSimpArgs false
set_option linter.unusedVariables false
open Go
/-- Numbers below 256 as bytes. -/
def by8 (l : List Nat) : List UInt8 := l.map UInt8.ofNat
theorem bl_sb (l : List Nat) : bl (sb l) = by8 l := rfl
theorem bl_append (a b : ByteArray) : bl (a ++ b) = bl a ++ bl b := by simp [bl]
theorem bl_inj {a b : ByteArray} (h : bl a = bl b) : a = b := by
  cases a; cases b; simp only [bl] at h; congr; exact Array.toList_inj.1 h
theorem bl_extract (s : ByteArray) (i j : Nat) : bl (s.extract i j) = ((bl s).take j).drop i := by
  simp [bl, ByteArray.data_extract, List.drop_take]
theorem toNat_ofNat8 (n : Nat) (h : n < 256) : (UInt8.ofNat n).toNat = n := by simp [Nat.mod_eq_of_lt h]
theorem dec_enc : ∀ (k n i acc : Nat) (r : List UInt8), i + k ≤ 9 → n < 128 ^ (k + 1) → (0 < k → 128 ^ k ≤ n) → (i + k = 9 → n / 128 ^ k ≤ 1) → (0 < i → 0 < n) →
    dec i acc (by8 (encN k n) ++ r) = some (acc + n * 128 ^ i, i + k + 1)
  | 0, n, i, acc, r, hi, hn, _, h9, h0 => by
    have hn' : n < 128 := by simpa using hn
    show dec i acc (UInt8.ofNat n :: r) = _
    rw [dec, toNat_ofNat8 n (by omega), if_neg (by omega), if_neg (by omega), if_neg]
    have h9' : i = 9 → n ≤ 1 := by intro e; have := h9 (by omega); simpa using this
    omega
  | k + 1, n, i, acc, r, hi, hn, hlo, h9, h0 => by
    have hlo' := hlo (by omega)
    have hp : 0 < 128 ^ k := Nat.pow_pos (by omega)
    have hq : 128 ^ k ≤ n / 128 := by rw [Nat.le_div_iff_mul_le (by omega)]; rw [Nat.pow_succ] at hlo'; exact hlo'
    show dec i acc (UInt8.ofNat (n % 128 + 128) :: (by8 (encN k (n / 128)) ++ r)) = _
    rw [dec, toNat_ofNat8 _ (by omega), if_neg (by omega), if_pos (by omega),
      dec_enc k (n / 128) (i + 1) _ r (by omega) (by rw [Nat.div_lt_iff_lt_mul (by omega)]; rw [Nat.pow_succ] at hn; exact hn) (fun _ => hq)
        (fun e => by rw [Nat.div_div_eq_div_mul, Nat.mul_comm, ← Nat.pow_succ]; exact h9 (by omega)) (fun _ => by omega)]
    have e1 : (n % 128 + 128) % 128 = n % 128 := by omega
    rw [e1, Nat.pow_succ]
    have e2 : n / 128 * (128 ^ i * 128) = (n / 128 * 128) * 128 ^ i := by rw [Nat.mul_comm (128 ^ i) 128, Nat.mul_assoc]
    rw [e2, Nat.add_assoc, ← Nat.add_mul, show n % 128 + n / 128 * 128 = n from by omega]
    rw [show i + 1 + k + 1 = i + (k + 1) + 1 from by omega]
theorem decS_enc (n : Nat) (r : List UInt8) (h : n < 2 ^ 64) : decS (by8 (encS n) ++ r) = some (n, slen n) := by
  have h1 := slen_pos n
  have h2 := slen_le n h
  have h3 := slen_hi n h
  have e := dec_enc (slen n - 1) n 0 0 r (by omega) (by rw [show slen n - 1 + 1 = slen n from by omega]; exact h3) (fun hk => slen_lo n h (by omega))
    (fun e => by rw [show slen n - 1 = 9 from by omega]; omega) (fun h => by omega)
  unfold decS encS
  rw [e]
  simp; omega
theorem sh_enc (n : Nat) (s r : ByteArray) (h : n < 2 ^ 64) (hs : s = sb (encS n) ++ r) : shN s = n ∧ shK s = slen n := by
  subst hs
  unfold shN shK
  rw [bl_append, bl_sb, decS_enc n _ h]
  exact ⟨rfl, rfl⟩
theorem fixV_fixN : ∀ (d n : Nat), n < 256 ^ d → fixV (by8 (fixN d n)) = n
  | 0, n, h => by simp at h; subst h; rfl
  | d + 1, n, h => by
    have e : by8 (fixN (d + 1) n) = by8 (fixN d (n / 256)) ++ [UInt8.ofNat (n % 256)] := by simp [by8, fixN]
    rw [e, fixV_snoc, fixV_fixN d (n / 256) (by rw [Nat.div_lt_iff_lt_mul (by omega)]; rw [Nat.pow_succ] at h; exact h), toNat_ofNat8 _ (by omega)]
    omega
theorem by8_length (l : List Nat) : (by8 l).length = l.length := by simp [by8]
theorem drop_front (s a r : ByteArray) (k : Nat) (hs : s = a ++ r) (hk : k = a.size) : s.extract k s.size = r := by
  apply bl_inj
  subst hs
  rw [bl_extract, bl_append, List.take_of_length_le (by rw [List.length_append, bl_length, bl_length]; simp), hk, List.drop_append_of_le_length (by rw [bl_length]; exact Nat.le_refl _), List.drop_of_length_le (by rw [bl_length]; exact Nat.le_refl _)]
  rfl
end Go.Proofs.YtcfniaknbbgheaaDoor
/- Attributes as plain data: which may be, and their bytes. -/
namespace Go.Proofs.YtcfniaknbbgheaaDoor
open Go.RowKit
set_option linter.unusedSimpArgs false
set_option linter.unusedVariables false
/-- What is known of a file. -/
structure At where
  nd : Nat
  md : Nat
  ui : Nat
  gi : Nat
  mt : Int
  tg : ByteArray
  xs : List (ByteArray × ByteArray)
/-- Its value, with a value for its list. -/
abbrev atV (nd md ui gi : Nat) (mt : Int) (tg : ByteArray) (sl : Value) : Value := .agg #[.int .u8 (nd : Int), .int .u32 (md : Int), .int .u32 (ui : Int), .int .u32 (gi : Int), .int .i64 mt, .string tg, sl]
/-- Extended attributes of a slice. -/
def XaL (w : World) (a : Option Addr) (xs : List (ByteArray × ByteArray)) : Prop :=
  ∀ i x, xs[i]? = some x → ∃ g o, a = some ⟨g, o, none⟩ ∧ g < w.heap.size ∧ w.cell? ⟨g, o + i * 2, none⟩ = some (.string x.1) ∧ w.cell? ⟨g, o + i * 2 + 1, none⟩ = some (.string x.2) ∧ x.1.size ≤ 140737488351232 ∧ x.2.size ≤ 140737488351232
theorem XaL.below {w w' : World} {a : Option Addr} {l : List (ByteArray × ByteArray)} (h : XaL w a l) (hb : Below w.heap.size w w') : XaL w' a l := fun i x hx => by
  obtain ⟨g, o, h1, h2, h3, h4, h5⟩ := h i x hx
  exact ⟨g, o, h1, Nat.lt_of_lt_of_le h2 hb.size, by rw [hb.cell (p := ⟨g, o + i * 2, none⟩) h2]; exact h3, by rw [hb.cell (p := ⟨g, o + i * 2 + 1, none⟩) h2]; exact h4, h5⟩
def ndB (n : Nat) : Bool := decide (1 ≤ n ∧ n ≤ 3)
def mdB (n : Nat) : Bool := decide (n ≤ 4095)
def mtB (n : Int) : Bool := decide (0 ≤ n ∧ n ≤ 1099511627776)
def nz (t : ByteArray) : Bool := t.data.toList.all (· != 0)
theorem ix_nz : ∀ l : List UInt8, decide (Lib.indexByte l 0 < 0) = l.all (· != 0)
  | [] => rfl
  | b :: r => by
    have ih := ix_nz r
    have g := Lib.indexByte_ge r 0
    rw [List.all_cons, ← ih, Lib.indexByte]
    by_cases h : b = 0
    · subst h; rfl
    · have hb : (b == 0) = false := by simp [h]
      have hn : (b != 0) = true := by simp [h]
      rw [hb, hn, Bool.true_and, if_neg (by simp)]
      by_cases h2 : Lib.indexByte r 0 = -1
      · rw [h2]; rfl
      · rw [if_neg (by simpa using h2)]
        have : ¬ Lib.indexByte r 0 + 1 < 0 := by omega
        have h3 : ¬ Lib.indexByte r 0 < 0 := by omega
        simp [this, h3]
/-- A target that may be. -/
def tgB (n : Nat) (t : ByteArray) : Bool := if n = 3 then (decide (t.size ≠ 0) && decide (t.size ≤ 1024)) && nz t else decide (t.size = 0)
/-- A name and a value that may be. -/
def xB (x : ByteArray × ByteArray) : Bool := decide (rnE x.1.data.toList = 0) && decide (x.2.size ≤ 4096)
def ltB (x y : ByteArray × ByteArray) : Bool := Op.bytesLess x.1.toList y.1.toList
/-- What stands at a place may be, behind what stands ahead of it. -/
def xAt (xs : List (ByteArray × ByteArray)) (i : Nat) : Bool := match xs[i]? with
  | none => true
  | some x => xB x && (decide (i = 0) || match xs[i - 1]? with | none => true | some y => ltB y x)
def xsB (xs : List (ByteArray × ByteArray)) : Bool := decide (xs.length ≤ 16) && (List.range xs.length).all (xAt xs)
theorem xsB_yes {xs : List (ByteArray × ByteArray)} (h1 : xs.length ≤ 16) (h2 : ∀ i, i < xs.length → xAt xs i = true) : xsB xs = true := by
  unfold xsB
  rw [decide_eq_true h1, Bool.true_and, List.all_eq_true]
  exact fun i hi => h2 i (List.mem_range.1 hi)
theorem xsB_no {xs : List (ByteArray × ByteArray)} {i : Nat} (h : i < xs.length) (h2 : xAt xs i = false) : xsB xs = false := by
  unfold xsB
  rw [Bool.and_eq_false_iff]
  refine .inr (Bool.eq_false_iff.2 fun hh => ?_)
  have := List.all_eq_true.1 hh i (List.mem_range.2 h)
  rw [h2] at this; cases this
theorem xsB_out {xs : List (ByteArray × ByteArray)} (h : xsB xs = true) : xs.length ≤ 16 ∧ ∀ i, i < xs.length → xAt xs i = true := by
  unfold xsB at h
  rw [Bool.and_eq_true] at h
  exact ⟨of_decide_eq_true h.1, fun i hi => List.all_eq_true.1 h.2 i (List.mem_range.2 hi)⟩
theorem xAt_bad {xs : List (ByteArray × ByteArray)} {i : Nat} {x : ByteArray × ByteArray} (h : xs[i]? = some x) (hb : xB x = false) : xAt xs i = false := by
  unfold xAt; rw [h]; simp only [hb, Bool.false_and]
theorem xAt_zero {xs : List (ByteArray × ByteArray)} {x : ByteArray × ByteArray} (h : xs[0]? = some x) (hb : xB x = true) : xAt xs 0 = true := by
  unfold xAt; rw [h]; simp [hb]
theorem xAt_two {xs : List (ByteArray × ByteArray)} {i : Nat} {x y : ByteArray × ByteArray} (hi : 0 < i) (h : xs[i]? = some x) (h2 : xs[i - 1]? = some y) (hb : xB x = true) : xAt xs i = ltB y x := by
  unfold xAt; rw [h, h2]
  have : decide (i = 0) = false := decide_eq_false (by omega)
  simp [hb, this]
theorem xB_get {xs : List (ByteArray × ByteArray)} (h : xsB xs = true) {i : Nat} {x : ByteArray × ByteArray} (hx : xs[i]? = some x) : rnE x.1.data.toList = 0 ∧ x.2.size ≤ 4096 := by
  have hi : i < xs.length := (List.getElem?_eq_some_iff.1 hx).1
  have := (xsB_out h).2 i hi
  cases hb : xB x with
  | false => rw [xAt_bad hx hb] at this; cases this
  | true => unfold xB at hb; rw [Bool.and_eq_true] at hb; exact ⟨of_decide_eq_true hb.1, of_decide_eq_true hb.2⟩
theorem okN_size {l : List UInt8} (h : rnE l = 0) : l.length ≤ 255 := by
  unfold rnE at h
  cases hk : okN l with
  | false => rw [hk] at h; simp at h
  | true => exact (okN_split hk).1
/-- One that may be. -/
def okA (a : At) : Bool := ndB a.nd && (mdB a.md && (mtB a.mt && (tgB a.nd a.tg && xsB a.xs)))
def ckE (a : At) : Int := if okA a = true then 0 else 1
theorem okA_out {a : At} (h : okA a = true) : (1 ≤ a.nd ∧ a.nd ≤ 3) ∧ a.md ≤ 4095 ∧ (0 ≤ a.mt ∧ a.mt ≤ 1099511627776) ∧ tgB a.nd a.tg = true ∧ xsB a.xs = true := by
  unfold okA at h
  simp only [Bool.and_eq_true] at h
  exact ⟨of_decide_eq_true h.1, of_decide_eq_true h.2.1, of_decide_eq_true h.2.2.1, h.2.2.2.1, h.2.2.2.2⟩
/-- A short number's bytes; a text with its length. -/
def e8 (n : Nat) : List UInt8 := by8 (encS n)
def tx (t : ByteArray) : List UInt8 := e8 t.size ++ bl t
def xsL : List (ByteArray × ByteArray) → List UInt8
  | [] => []
  | x :: r => tx x.1 ++ tx x.2 ++ xsL r
theorem xsL_app : ∀ a b, xsL (a ++ b) = xsL a ++ xsL b
  | [], b => rfl
  | x :: r, b => by simp [xsL, xsL_app r b]
theorem xsL_one (x : ByteArray × ByteArray) : xsL [x] = tx x.1 ++ tx x.2 := by simp [xsL]
/-- The bytes of one. -/
def ltg (n : Nat) (t : ByteArray) : List UInt8 := if n = 3 then tx t else []
def lay (a : At) : List UInt8 := [UInt8.ofNat a.nd] ++ e8 a.md ++ e8 a.ui ++ e8 a.gi ++ e8 a.mt.toNat ++ ltg a.nd a.tg ++ e8 a.xs.length ++ xsL a.xs
theorem e8_len (n : Nat) (h : n < 2 ^ 64) : (e8 n).length ≤ 10 := by
  unfold e8; rw [by8_length, encS_length]; exact slen_le n h
theorem tx_len (t : ByteArray) (h : t.size ≤ 140737488351232) : (tx t).length ≤ t.size + 10 := by
  unfold tx; rw [List.length_append, bl_length]
  have := e8_len t.size (by omega)
  omega
theorem xsL_len : ∀ (xs : List (ByteArray × ByteArray)), (∀ x ∈ xs, x.1.size ≤ 255 ∧ x.2.size ≤ 4096) → (xsL xs).length ≤ 4371 * xs.length
  | [], _ => by simp [xsL]
  | x :: r, h => by
    have ih := xsL_len r (fun y hy => h y (by simp [hy]))
    obtain ⟨h1, h2⟩ := h x (by simp)
    have t1 := tx_len x.1 (by omega)
    have t2 := tx_len x.2 (by omega)
    simp only [xsL, List.length_append, List.length_cons]
    omega
theorem xs_small {xs : List (ByteArray × ByteArray)} (h : xsB xs = true) : ∀ x ∈ xs, x.1.size ≤ 255 ∧ x.2.size ≤ 4096 := fun x hx => by
  obtain ⟨i, hi⟩ := List.getElem?_of_mem hx
  obtain ⟨h1, h2⟩ := xB_get h hi
  have := okN_size h1
  rw [data_len] at this
  exact ⟨this, h2⟩
theorem tg_small {n : Nat} {t : ByteArray} (h : tgB n t = true) : t.size ≤ 1024 := by
  unfold tgB at h
  split at h
  · simp only [Bool.and_eq_true] at h; exact of_decide_eq_true h.1.2
  · have := of_decide_eq_true h; omega
theorem lay_len {a : At} (h : okA a = true) (hu : a.ui < 2 ^ 32) (hg : a.gi < 2 ^ 32) : (lay a).length ≤ 80000 := by
  obtain ⟨h1, h2, h3, h4, h5⟩ := okA_out h
  have q1 := e8_len a.md (by omega)
  have q2 := e8_len a.ui (by omega)
  have q3 := e8_len a.gi (by omega)
  have q4 := e8_len a.mt.toNat (by omega)
  have hx := (xsB_out h5).1
  have q5 := e8_len a.xs.length (by omega)
  have q6 := xsL_len a.xs (xs_small h5)
  have q7 : (ltg a.nd a.tg).length ≤ 1034 := by
    unfold ltg
    have := tg_small h4
    have := tx_len a.tg (by omega)
    split
    · omega
    · simp
  unfold lay
  simp only [List.length_append, List.length_cons, List.length_nil]
  omega
end Go.Proofs.YtcfniaknbbgheaaDoor
/- names.Less. -/
namespace Go.Proofs.YtcfniaknbbgheaaDoor
open Go.RowKit
set_option linter.unusedSimpArgs false
set_option linter.unusedVariables false
set_option maxRecDepth 100000 in
theorem less4 (a b : ByteArray) (w : World) : Calls Tryd.prog 56 #[.string a, .string b] w fun e w' => e = .returned (.bool (Op.bytesLess a.toList b.toList)) ∧ w' = w := by
  go_enter Tryd.func56, Tryd.ntmps56
  go_wp2
  go_ret
  exact ⟨rfl, rfl⟩
end Go.Proofs.YtcfniaknbbgheaaDoor
/- attrs.isNode, isMode, isTick, isTarget. -/
namespace Go.Proofs.YtcfniaknbbgheaaDoor
open Go.RowKit
set_option linter.unusedSimpArgs false
set_option linter.unusedVariables false
theorem retB {a b : Bool} (h : a = b) : Ending.returned (.bool a) = .returned (.bool b) := by rw [h]
theorem isNode_any (n : Nat) (w : World) : Calls Tryd.prog 33 #[.int .u8 (n : Int)] w fun e w' => e = .returned (.bool (ndB n)) ∧ w' = w := by
  unfold ndB
  by_cases h1 : (1 : Int) ≤ n
  · go_enter Tryd.func33, Tryd.ntmps33
    go_wp2
    go_ret
    exact ⟨retB (decide_eq_decide.2 (by omega)), rfl⟩
  · have h1' : (n : Int) < 1 := by omega
    go_enter Tryd.func33, Tryd.ntmps33
    go_wp2
    go_ret
    exact ⟨by rw [decide_eq_false (by omega)]; rfl, rfl⟩
theorem isMode_any (n : Nat) (w : World) : Calls Tryd.prog 34 #[.int .u32 (n : Int)] w fun e w' => e = .returned (.bool (mdB n)) ∧ w' = w := by
  unfold mdB
  go_enter Tryd.func34, Tryd.ntmps34
  go_wp2
  go_ret
  exact ⟨retB (decide_eq_decide.2 (by omega)), rfl⟩
theorem isTick_any (n : Int) (w : World) : Calls Tryd.prog 36 #[.int .i64 n] w fun e w' => e = .returned (.bool (mtB n)) ∧ w' = w := by
  unfold mtB
  by_cases h1 : 0 ≤ n
  · go_enter Tryd.func36, Tryd.ntmps36
    go_wp2
    go_ret
    exact ⟨retB (decide_eq_decide.2 (by omega)), rfl⟩
  · go_enter Tryd.func36, Tryd.ntmps36
    go_wp2
    go_ret
    exact ⟨by rw [decide_eq_false (by omega)]; rfl, rfl⟩
theorem indexByte_any (s : ByteArray) (w : World) : Calls Tryd.prog 54 #[.string s, .int .u8 0] w fun e w' => e = .returned (.int .i64 (Lib.indexByte s.data.toList 0)) ∧ w' = w := by
  have h : Calls Tryd.prog 63 #[.string s, .int .u8 0] w fun e w' => e = .returned (.int .i64 (Lib.indexByte s.data.toList 0)) ∧ w' = w := by
    go_enter Tryd.func63, Tryd.ntmps63
    go_wp2
    rw [run_callFunc_extern Tryd.func68 (by kernel_rfl) (by kernel_rfl) (by kernel_rfl) (e := Extern.BytealgIndexByte.indexByte) (by kernel_rfl), Lib.run_indexByteString]
    simp only [Result.andThen]
    rw [Oper.upon_value]
    go_wp2
    go_ret
    exact ⟨rfl, rfl⟩
  go_enter Tryd.func54, Tryd.ntmps54
  go_wp2_with fail
  refine h.mono ?_
  rintro e w1 ⟨rfl, rfl⟩
  go_wp2
  go_ret
  exact ⟨rfl, rfl⟩
theorem size_nil (t : ByteArray) : (t.toList == []) = decide (t.size = 0) := by
  rw [Lib.toList_data]
  cases h : t.data.toList with
  | nil => have := data_len t; rw [h] at this; simp at this; simp [← this]
  | cons a r => have := data_len t; rw [h] at this; simp at this; rw [decide_eq_false (by omega)]; rfl
set_option maxHeartbeats 1000000 in
set_option maxRecDepth 100000 in
theorem isTarget_any (n : Nat) (t : ByteArray) (w : World) (ht : t.size ≤ 9223372036854775807) : Calls Tryd.prog 37 #[.int .u8 (n : Int), .string t] w fun e w' => e = .returned (.bool (tgB n t)) ∧ w' = w := by
  have hsz := size_nil t
  obtain ⟨q, hq⟩ : ∃ q, (t.toList == []) = q := ⟨_, rfl⟩
  have hq2 : (t.toList != []) = !q := by simp [bne, hq]
  rw [hq] at hsz
  have hix : Hid (decide (Lib.indexByte t.data.toList 0 < 0) = t.data.toList.all (· != 0)) := ix_nz t.data.toList
  unfold tgB
  by_cases h3 : n = 3
  · have h3z : ((n : Int) != 3) = false := by simp [h3]
    rw [if_pos h3]
    cases q with
    | true =>
      have h0 : decide (t.size ≠ 0) = false := by have := of_decide_eq_true hsz.symm; simp [this]
      rw [h0, Bool.false_and, Bool.false_and]
      clear h0 hix hsz
      go_enter Tryd.func37, Tryd.ntmps37
      go_wp2
      go_ret
      exact ⟨rfl, rfl⟩
    | false =>
      have h0 : decide (t.size ≠ 0) = true := by have := of_decide_eq_false hsz.symm; simp [this]
      rw [h0, Bool.true_and]
      clear h0 hsz
      by_cases hl : (t.size : Int) ≤ 1024
      · have hl1 : decide (t.size ≤ 1024) = true := decide_eq_true (by omega)
        rw [hl1, Bool.true_and]
        clear hl1
        go_enter Tryd.func37, Tryd.ntmps37
        go_wp2_with fail
        refine (indexByte_any t _).mono ?_
        rintro e w1 ⟨rfl, rfl⟩
        go_wp2
        go_ret
        exact ⟨retB hix.out, rfl⟩
      · have hl1 : decide (t.size ≤ 1024) = false := decide_eq_false (by omega)
        rw [hl1, Bool.false_and]
        clear hl1 hix
        go_enter Tryd.func37, Tryd.ntmps37
        go_wp2
        go_ret
        exact ⟨rfl, rfl⟩
  · have h3z : ((n : Int) != 3) = true := by simp; omega
    rw [if_neg h3, ← hsz]
    clear hix hsz
    go_enter Tryd.func37, Tryd.ntmps37
    go_wp2
    go_ret
    exact ⟨rfl, rfl⟩
end Go.Proofs.YtcfniaknbbgheaaDoor
/- A block of the call's own, by its cells; rows stored into it and read out of it at any place. No program is named here. -/
namespace Go.Proofs.YtcfniaknbbgheaaDoor
open Go.RowKit
set_option linter.unusedSimpArgs false
set_option linter.unusedVariables false
/-- A block's cells. -/
abbrev Bk (w : World) (b : Nat) (C : Array Value) (T : TypeId) : Prop := w.heap[b]? = some (.cells C T (0, 0))
theorem Bk.cell {w : World} {b : Nat} {C : Array Value} {T : TypeId} (h : Bk w b C T) (j : Nat) : w.cell? ⟨b, j, none⟩ = C[j]? := cell_of_row w b j C T (0, 0) h
theorem Bk.frozen {w : World} {b : Nat} {C : Array Value} {T : TypeId} (h : Bk w b C T) (j : Nat) : w.frozen? ⟨b, j, none⟩ = false := frozen_of_row w b j C T h
theorem Bk.set {w : World} {b : Nat} {C : Array Value} {T : TypeId} (h : Bk w b C T) (i : Nat) (v : Value) : Bk (w.setCell ⟨b, i, none⟩ v) b (C.setIfInBounds i v) T := Joins.block_setCell h v
theorem Bk.lt {w : World} {b : Nat} {C : Array Value} {T : TypeId} (h : Bk w b C T) : b < w.heap.size := by
  by_cases e : b < w.heap.size
  · exact e
  · unfold Bk at h; rw [Array.getElem?_eq_none (by omega)] at h; cases h
theorem Bk.grown {w w' : World} {b : Nat} {C : Array Value} {T : TypeId} {r : Option Nat} (h : Bk w b C T) (hg : w.grownBy w' r) (hr : r ≠ some b) : Bk w' b C T := by
  have hlt := h.lt
  unfold Bk
  rw [hg.block b hlt (fun e => hr e.symm)]
  exact h
theorem Bk.below {w w' : World} {b n : Nat} {C : Array Value} {T : TypeId} (h : Bk w b C T) (hb : Below n w w') (hn : b < n) : Bk w' b C T := by
  unfold Bk
  rw [hb.block b hn]
  exact h
theorem Bk.alloc {w : World} {b : Nat} {C : Array Value} {T : TypeId} (h : Bk w b C T) (o : Obj) : Bk (w.alloc o) b C T := h.grown (World.grownBy_alloc w o none) (by simp)
theorem Bk.drewN {w : World} {b : Nat} {C : Array Value} {T : TypeId} (h : Bk w b C T) (n : Nat) : Bk (w.drewN n) b C T := h
theorem bk_new (w : World) (C : Array Value) (T : TypeId) : Bk (w.alloc (.cells C T)) w.heap.size C T := by
  show (w.heap.push _)[w.heap.size]? = some _
  simp
theorem al_size (w : World) (o : Obj) : (w.alloc o).heap.size = w.heap.size + 1 := by
  show (w.heap.push o).size = _
  simp
theorem gr_of_below {w w' : World} (h : Below w.heap.size w w') (r : Option Nat) : w.grownBy w' r := ⟨h.os, h.tape, h.output, h.size, fun i hi _ => h.block i hi⟩
theorem below_of_gr {w w' : World} (h : w.grownBy w' none) : Below w.heap.size w w' := ⟨h.os, h.tape, h.output, h.size, fun i hi => h.block i hi (by simp)⟩
theorem gr_drewN (w : World) (n : Nat) (r : Option Nat) : w.grownBy (w.drewN n) r := by
  induction n with
  | zero => exact World.grownBy.refl w r
  | succ n ih => exact Lib.Hx.grownBy_drew ih
theorem below_own {B b : Nat} {w wr w1 : World} (hb : Below B w wr) (hz : B ≤ wr.heap.size) (hg : wr.grownBy w1 (some b)) (hB : B ≤ b) : Below B w w1 :=
  hb.grown hg hz (fun k hk => by cases hk; exact hB)
theorem below_drewN {B : Nat} {w wr : World} (hb : Below B w wr) (n : Nat) : Below B w (wr.drewN n) := by
  induction n with
  | zero => exact hb
  | succ n ih => exact ih.drew
/-- Cells laid over others from a place on. -/
def putC (C : Array Value) (o : Nat) : List Value → Array Value
  | [] => C
  | v :: r => putC (C.setIfInBounds o v) (o + 1) r
theorem Bk.puts {b : Nat} {T : TypeId} : ∀ (vs : List Value) (o : Nat) (C : Array Value) (w : World), Bk w b C T → Bk (w.setCells b o vs) b (putC C o vs) T
  | [], _, _, _, h => h
  | v :: r, o, C, w, h => by
    rw [World.setCells, putC]
    exact Bk.puts r (o + 1) _ _ (h.set o v)
theorem gr_puts (b : Nat) : ∀ (vs : List Value) (o : Nat) {a w : World}, a.grownBy w (some b) → a.grownBy (w.setCells b o vs) (some b)
  | [], _, _, _, h => h
  | v :: r, o, a, w, h => by rw [World.setCells]; exact gr_puts b r (o + 1) (Lib.grownBy_setB h o v)
theorem putC_size : ∀ (vs : List Value) (o : Nat) (C : Array Value), (putC C o vs).size = C.size
  | [], _, _ => rfl
  | v :: r, o, C => by rw [putC, putC_size r, Array.size_setIfInBounds]
theorem putC_get : ∀ (vs : List Value) (o : Nat) (C : Array Value) (i : Nat), o + vs.length ≤ C.size → (putC C o vs)[i]? = if o ≤ i ∧ i < o + vs.length then vs[i - o]? else C[i]?
  | [], o, C, i, _ => by rw [putC, if_neg (by simp)]
  | v :: r, o, C, i, h => by
    simp only [List.length_cons] at h
    rw [putC, putC_get r (o + 1) _ i (by rw [Array.size_setIfInBounds]; omega), Array.getElem?_setIfInBounds]
    by_cases e : o = i
    · subst e
      rw [if_neg (by omega), if_pos rfl, if_pos (by omega), if_pos (by simp), Nat.sub_self]; rfl
    · by_cases e2 : o + 1 ≤ i ∧ i < o + 1 + r.length
      · rw [if_pos e2, if_pos (by simp; omega)]
        rw [show i - o = (i - (o + 1)) + 1 from by omega, List.getElem?_cons_succ]
      · rw [if_neg e2, if_neg e, if_neg (by simp; omega)]
theorem setCells_size (b : Nat) : ∀ (vs : List Value) (o : Nat) (w : World), (w.setCells b o vs).heap.size = w.heap.size
  | [], _, _ => rfl
  | v :: r, o, w => by
    rw [World.setCells, setCells_size b r]
    simp [World.setCell]
theorem Bk.there {w : World} {b : Nat} {C : Array Value} {T : TypeId} (h : Bk w b C T) (o n : Nat) (hn : o + n ≤ C.size) : w.there b o n := fun j hj =>
  ⟨by rw [h.cell, Array.getElem?_eq_getElem (by omega)]; rfl, h.frozen _⟩
/-- The store of many cells into a block: the world behind it is a letter. -/
theorem wpList_put {P : Program} {ops : Array Oper} {rest : List Oper} {op : Oper} {a : Act} {w : World} {Q : Exit → Act → World → Prop} (hgd : op.guard = none) (ty : TypeId) (x y : Operand) (ho : op.op = .store ty x y)
    (b o : Nat) (C cells : Array Value) (T : TypeId) (hx : a.eval x = .pointer (some ⟨b, o, none⟩)) (hy : a.eval y = .agg cells)
    (hB : Bk w b C T) (hi : (P.info? ty).map (·.size) = some cells.size) (hn : o + cells.size ≤ C.size) (h1 : cells.all (·.oneCell') = true)
    (h : ∀ w', Hid (Bk w' b (putC C o cells.toList) T) → Hid (w.grownBy w' (some b)) → w'.heap.size = w.heap.size → wpList P ops Q rest (a.put op.dst undef) w') : wpList P ops Q (op :: rest) a w :=
  wpList_store_mid hgd ty x y ho b o cells hx hy (hB.there o _ hn) hi h1
    (h _ (Bk.puts _ _ _ _ hB) (gr_puts b _ _ (World.grownBy.refl _ _)) (setCells_size b _ _ _))
/-- The load of many cells out of a block. -/
theorem wpList_get {P : Program} {ops : Array Oper} {rest : List Oper} {op : Oper} {a : Act} {w : World} {Q : Exit → Act → World → Prop} (hgd : op.guard = none) (ty : TypeId) (x : Operand) (ho : op.op = .load ty x)
    (b o : Nat) (C cells : Array Value) (T : TypeId) (d : TypeDesc) (hx : a.eval x = .pointer (some ⟨b, o, none⟩))
    (hB : Bk w b C T) (hc : ∀ j v, cells[j]? = some v → C[o + j]? = some v) (hu : P.underlying ty = some d) (hd : d.isRow = true) (hi : (P.info? ty).map (·.size) = some cells.size)
    (h : wpList P ops Q rest (a.put op.dst (.agg cells)) w) : wpList P ops Q (op :: rest) a w :=
  wpList_load_mid hgd ty x ho b o hx cells.toList d (fun j v hv => by rw [hB.cell]; exact hc j v (by rwa [Array.getElem?_toList] at hv)) hu hd (by rw [hi]; simp) h
end Go.Proofs.YtcfniaknbbgheaaDoor
/- Plain facts: what a reader took, put again, is the bytes that it took. -/
namespace Go.Proofs.YtcfniaknbbgheaaDoor
set_option linter.unusedSimpArgs false
set_option linter.unusedVariables false
open Go
theorem slen_unique (n k : Nat) (h : n < 2 ^ 64) (hk : 1 ≤ k) (h1 : n < 128 ^ k) (h2 : 1 < k → 128 ^ (k - 1) ≤ n) : slen n = k := by
  have a := slen_pos n
  have b := slen_hi n h
  rcases Nat.lt_trichotomy (slen n) k with c | c | c
  · have d := h2 (by omega)
    have e : 128 ^ slen n ≤ 128 ^ (k - 1) := Nat.pow_le_pow_right (by omega) (by omega)
    omega
  · exact c
  · have d := slen_lo n h (by omega)
    have e : 128 ^ k ≤ 128 ^ (slen n - 1) := Nat.pow_le_pow_right (by omega) (by omega)
    omega
theorem enc_dec : ∀ (l : List UInt8) (i acc n k : Nat), dec i acc l = some (n, k) →
    ∃ v, n = acc + v * 128 ^ i ∧ i + 1 ≤ k ∧ by8 (encN (k - i - 1) v) = l.take (k - i) ∧ v < 128 ^ (k - i) ∧ (0 < i → 0 < v) ∧ (i + 1 < k → 128 ^ (k - i - 1) ≤ v)
  | [], i, acc, n, k, h => by simp [dec] at h
  | b :: r, i, acc, n, k, h => by
    rw [dec] at h
    split at h
    · simp at h
    · split at h
      · rename_i hb
        obtain ⟨v, e1, e2, e3, e4, e5, e6⟩ := enc_dec r (i + 1) _ n k h
        have hv := e5 (by omega)
        have hb2 := b.toNat_lt
        have hk : k - i = (k - (i + 1)) + 1 := by omega
        have hk1 : k - i - 1 = (k - (i + 1) - 1) + 1 := by omega
        refine ⟨b.toNat % 128 + 128 * v, ?_, by omega, ?_, ?_, fun _ => by omega, fun _ => ?_⟩
        · rw [e1, Nat.pow_succ, Nat.add_mul]
          have : v * (128 ^ i * 128) = 128 * v * 128 ^ i := by rw [Nat.mul_comm (128 ^ i) 128, ← Nat.mul_assoc, Nat.mul_comm v 128]
          omega
        · rw [hk1, hk, encN, List.take_succ_cons, ← e3]
          have q1 : (b.toNat % 128 + 128 * v) % 128 + 128 = b.toNat := by omega
          have q2 : (b.toNat % 128 + 128 * v) / 128 = v := by omega
          rw [q1, q2]
          show UInt8.ofNat b.toNat :: by8 (encN (k - (i + 1) - 1) v) = _
          simp
        · rw [hk, Nat.pow_succ]; omega
        · rcases Nat.lt_or_ge (i + 1 + 1) k with g | g
          · have := e6 g
            rw [hk1, Nat.pow_succ]; omega
          · have : k - i - 1 = 1 := by omega
            rw [this]; omega
      · rename_i hb
        split at h
        · simp at h
        · rename_i hc
          simp only [Option.some.injEq, Prod.mk.injEq] at h
          obtain ⟨rfl, rfl⟩ := h
          refine ⟨b.toNat, rfl, by omega, ?_, ?_, fun hi => by omega, fun g => by omega⟩
          · rw [show i + 1 - i - 1 = 0 from by omega, show i + 1 - i = 1 from by omega]
            show [UInt8.ofNat b.toNat] = [b]
            simp
          · rw [show i + 1 - i = 1 from by omega]; omega
/-- A short number that was read, put again, is the bytes that were read. -/
theorem sh_again (s : ByteArray) (h : shK s ≠ 0) : sb (encS (shN s)) = s.extract 0 (shK s) := by
  unfold shK shN at *
  cases e : decS (bl s) with
  | none => rw [e] at h; simp at h
  | some p =>
    obtain ⟨v, e1, e2, e3, e4, e5, e6⟩ := enc_dec (bl s) 0 0 p.1 p.2 e
    have bnd := dec_bounds (bl s) 0 0 p.1 p.2 e (by omega)
    simp only [Option.getD_some]
    have hv : p.1 = v := by simpa using e1
    have hs : slen p.1 = p.2 := slen_unique p.1 p.2 bnd.2.2.2 (by omega) (by rw [hv]; simpa using e4) (fun g => by rw [hv]; simpa using e6 (by omega))
    apply bl_inj
    rw [bl_sb, extract_take s p.2 (by rw [← bl_length]; omega), encS, hs, hv]
    simpa using e3
theorem fixN_fixV : ∀ (d : Nat) (l : List UInt8), l.length = d → by8 (fixN d (fixV l)) = l
  | 0, l, h => by have : l = [] := by cases l with | nil => rfl | cons a b => simp at h
                  subst this; rfl
  | d + 1, l, h => by
    obtain ⟨l', c, rfl⟩ : ∃ l' c, l = l' ++ [c] := ⟨l.dropLast, l.getLast (by intro e; subst e; simp at h), (List.dropLast_concat_getLast _).symm⟩
    have hc := c.toNat_lt
    have hl : l'.length = d := by simpa using h
    have e : by8 (fixN (d + 1) (fixV (l' ++ [c]))) = by8 (fixN d (fixV (l' ++ [c]) / 256)) ++ [UInt8.ofNat (fixV (l' ++ [c]) % 256)] := by simp [by8, fixN]
    rw [e, fixV_snoc, show (fixV l' * 256 + c.toNat) / 256 = fixV l' from by omega, show (fixV l' * 256 + c.toNat) % 256 = c.toNat from by omega, fixN_fixV d l' hl]
    simp
theorem fix_again (s : ByteArray) (d : Nat) (h : d ≤ s.size) : sb (fixN d (fixV ((bl s).take d))) = s.extract 0 d := by
  apply bl_inj
  rw [bl_sb, extract_take s d h]
  exact fixN_fixV d _ (by rw [List.length_take, bl_length]; omega)
theorem fix_lt (s : ByteArray) (d : Nat) (h : d ≤ s.size) : fixV ((bl s).take d) < 256 ^ d := by
  have := fixV_lt ((bl s).take d)
  rwa [List.length_take, bl_length, Nat.min_eq_left h] at this
theorem take_all (s : ByteArray) : (bl s).take s.size = bl s := List.take_of_length_le (by rw [bl_length]; exact Nat.le_refl _)
/-- Taken off the front: the two parts make the whole. -/
theorem split_at (s : ByteArray) (k : Nat) (h : k ≤ s.size) : s.extract 0 k ++ s.extract k s.size = s := by
  apply bl_inj
  rw [bl_append, extract_take s k h, bl_extract, take_all, List.take_append_drop]
theorem split_mid (s : ByteArray) (j k : Nat) (h : j ≤ k) (hk : k ≤ s.size) : s.extract 0 j ++ s.extract j k ++ s.extract k s.size = s := by
  apply bl_inj
  rw [bl_append, bl_append, extract_take s j (by omega), bl_extract, bl_extract, take_all]
  have e : (bl s).take j = ((bl s).take k).take j := by rw [List.take_take, Nat.min_eq_left h]
  rw [e, List.take_append_drop, List.take_append_drop]
theorem front_of (s a r : ByteArray) (h : s = a ++ r) : s.extract 0 (s.size - r.size) = a := by
  have hz : s.size = a.size + r.size := by subst h; simp
  apply bl_inj
  rw [extract_take s _ (by omega), show s.size - r.size = a.size from by omega]
  subst h
  rw [bl_append, List.take_append_of_le_length (by rw [bl_length]; exact Nat.le_refl _), List.take_of_length_le (by rw [bl_length]; exact Nat.le_refl _)]
theorem next_of (s a r p r' : ByteArray) (h : s = a ++ r) (hr : p ++ r' = r) : s = a ++ p ++ r' := by
  rw [h, ← hr]; apply bl_inj; simp [bl_append]
end Go.Proofs.YtcfniaknbbgheaaDoor
/- The leaf walks of package wire: isWidth, bits.Len64, Len: what each call returns, the world as it was. -/
namespace Go.Proofs.YtcfniaknbbgheaaDoor
open Go.RowKit
set_option linter.unusedSimpArgs false
set_option linter.unusedVariables false
theorem ret_int {k : IntKind} {a b : Int} (h : a = b) : Ending.returned (.int k a) = .returned (.int k b) := by rw [h]
theorem len8_get (i : Nat) (h : i < Lib.len8tab.size) : ((Lib.len8tab[i]'h).toNat : Int) = (Lib.bitLen i : Int) := by
  have hz := Lib.len8tab_size
  have e := Lib.len8_eq ⟨i, by omega⟩
  simp only [Lib.len8, Int.toNat_natCast] at e
  rw [← e]
  simp [h]
theorem bitLen_le8n (i : Nat) (h : i < 256) : Lib.bitLen i ≤ 8 := Lib.bitLen_le8 ⟨i, h⟩
theorem len64_fin (x i : Nat) (k : Nat) (b : Int) (hi : i = x / 2 ^ k) (hk : k ≤ 56) (hx : x < 2 ^ 64) (h8 : i < 256) (hb : b = (Lib.bitLen i : Int)) (hsh : k = 0 ∨ 2 ^ k ≤ x) :
    wrap64 ((k : Int) + wrap64 b) = (Lib.bitLen x : Int) := by
  have l := bitLen_le8n i h8
  have e : Lib.bitLen x = k + Lib.bitLen i := by
    rcases hsh with h | h
    · subst h; simp at hi; subst hi; simp
    · rw [hi]; exact Lib.bitLen_shift k x h hx
  subst hb
  unfold wrap64
  omega
theorem len64_fin0 (x : Nat) (b : Int) (h8 : x < 256) (hb : b = (Lib.bitLen x : Int)) : wrap64 (wrap64 b) = (Lib.bitLen x : Int) := by
  have l := bitLen_le8n x h8
  subst hb
  unfold wrap64
  omega
set_option maxHeartbeats 400000 in
set_option maxRecDepth 100000 in
theorem len64_any (x : Int) (w : World) (h0 : 0 ≤ x) (h1 : x ≤ 18446744073709551615) :
    Calls Tryd.prog 66 #[.int .u64 x] w fun e w' => e = .returned (.int .i64 (Lib.bitLen x.toNat)) ∧ w' = w := by
  have hz := Lib.len8tab_size
  go_enter Tryd.func66, Tryd.ntmps66
  go_wp2
  all_goals first | (exfalso; omega) | skip
  all_goals go_ret
  all_goals refine ⟨ret_int ?_, rfl⟩
  · exact len64_fin x.toNat (x / 4294967296 / 65536 / 256).toNat 56 _ (by omega) (by omega) (by omega) (by omega) (len8_get _ _) (by omega)
  · exact len64_fin x.toNat (x / 4294967296 / 65536).toNat 48 _ (by omega) (by omega) (by omega) (by omega) (len8_get _ _) (by omega)
  · exact len64_fin x.toNat (x / 4294967296 / 256).toNat 40 _ (by omega) (by omega) (by omega) (by omega) (len8_get _ _) (by omega)
  · exact len64_fin x.toNat (x / 4294967296).toNat 32 _ (by omega) (by omega) (by omega) (by omega) (len8_get _ _) (by omega)
  · exact len64_fin x.toNat (x / 65536 / 256).toNat 24 _ (by omega) (by omega) (by omega) (by omega) (len8_get _ _) (by omega)
  · exact len64_fin x.toNat (x / 65536).toNat 16 _ (by omega) (by omega) (by omega) (by omega) (len8_get _ _) (by omega)
  · exact len64_fin x.toNat (x / 256).toNat 8 _ (by omega) (by omega) (by omega) (by omega) (len8_get _ _) (by omega)
  · exact len64_fin0 x.toNat _ (by omega) (len8_get _ _)
/-- Whether a number is a width. -/
def isW (n : Int) : Bool := decide (1 ≤ n ∧ n ≤ 8)
theorem isW_yes {n : Int} (h1 : 1 ≤ n) (h2 : n ≤ 8) : isW n = true := decide_eq_true ⟨h1, h2⟩
theorem isW_no {n : Int} (h : n < 1 ∨ 8 < n) : isW n = false := decide_eq_false (by omega)
theorem isW_iff {n : Int} : isW n = true ↔ 1 ≤ n ∧ n ≤ 8 := by unfold isW; simp
theorem ret_bool {a b : Bool} (h : a = b) : Ending.returned (.bool a) = .returned (.bool b) := by rw [h]
set_option maxHeartbeats 400000 in
theorem isWidth_any (n : Int) (w : World) :
    Calls Tryd.prog 60 #[.int .i64 n] w fun e w' => e = .returned (.bool (isW n)) ∧ w' = w := by
  by_cases h1 : 1 ≤ n
  · by_cases h2 : n ≤ 8
    · go_enter Tryd.func60, Tryd.ntmps60
      go_wp2
      go_ret
      exact ⟨ret_bool (isW_yes h1 h2).symm, rfl⟩
    · go_enter Tryd.func60, Tryd.ntmps60
      go_wp2
      go_ret
      exact ⟨ret_bool (isW_no (by omega)).symm, rfl⟩
  · go_enter Tryd.func60, Tryd.ntmps60
    go_wp2
    go_ret
    exact ⟨ret_bool (isW_no (by omega)).symm, rfl⟩
theorem sizeOf_u8 (w : World) : (sizeOf 5).run Tryd.prog w = .ok 1 w := by kernel_rfl
theorem ret_str {a b : ByteArray} (h : a = b) : Ending.returned (.string a) = .returned (.string b) := by rw [h]
theorem append_size (a b : ByteArray) : (a ++ b).size = a.size + b.size := by simp
end Go.Proofs.YtcfniaknbbgheaaDoor
/- The walks of wire.New and of the closure through which all is taken. -/
namespace Go.Proofs.YtcfniaknbbgheaaDoor
open Go.RowKit
set_option linter.unusedSimpArgs false
set_option linter.unusedVariables false
set_option maxHeartbeats 400000 in
theorem new_any (s : ByteArray) (w : World) :
    Calls Tryd.prog 25 #[.string s] w fun e w' => e = .returned (.pointer (some ⟨w.heap.size, 0, none⟩)) ∧ w' = w.alloc (.cells #[.string s] 103) := by
  go_enter Tryd.func25, Tryd.ntmps25
  go_wp2
  go_ret
  exact ⟨rfl, rfl⟩
set_option maxHeartbeats 400000 in
theorem taker_any (o : Option Addr) (w : World) :
    Calls Tryd.prog 61 #[.pointer o] w fun e w' => e = .returned (.func (Fn.func 67) #[] #[.pointer (some ⟨w.heap.size, 0, none⟩)]) ∧ w' = w.alloc (.cells #[.pointer o] 71) := by
  go_enter Tryd.func61, Tryd.ntmps61
  go_wp2
  go_ret
  exact ⟨rfl, rfl⟩
set_option maxHeartbeats 400000 in
theorem take1_no (s : ByteArray) (b c : Nat) (h n : Nat) (w : World) (hs : s.size ≤ maxLen) (hp : w.cell? ⟨c, 0, none⟩ = some (.pointer (some ⟨b, 0, none⟩))) (hc : w.cell? ⟨b, 0, none⟩ = some (.string s))
    (hh : h ≤ s.size) (hn : s.size - h < n) :
    Calls Tryd.prog 67 #[.int .i64 h, .int .u64 n, .pointer (some ⟨c, 0, none⟩)] w fun e w' => e = .returned (.tuple #[.string ⟨#[]⟩, .int .i64 4]) ∧ w' = w := by
  unfold maxLen at hs
  go_enter Tryd.func67, Tryd.ntmps67
  go_wp2
  go_ret2
  exact ⟨rfl, rfl⟩
set_option maxHeartbeats 400000 in
theorem take1_ok (s : ByteArray) (b c : Nat) (h n : Nat) (w : World) (hs : s.size ≤ maxLen) (hp : w.cell? ⟨c, 0, none⟩ = some (.pointer (some ⟨b, 0, none⟩))) (hc : w.cell? ⟨b, 0, none⟩ = some (.string s)) (hf : w.frozen? ⟨b, 0, none⟩ = false)
    (hh : h + n ≤ s.size) :
    Calls Tryd.prog 67 #[.int .i64 h, .int .u64 n, .pointer (some ⟨c, 0, none⟩)] w fun e w' => e = .returned (.tuple #[.string (s.extract h (h + n)), .int .i64 0]) ∧ w' = (w.setCell ⟨b, 0, none⟩ (.string (s.extract (h + n) s.size))).drew := by
  unfold maxLen at hs
  go_enter Tryd.func67, Tryd.ntmps67
  go_wp2
  go_region
  go_wp2
  go_ret2
  exact ⟨rfl, rfl⟩
/-- A call that turns the reader in block b alone: it holds s' now; whatever else was there is as it was. -/
structure Step (b : Nat) (w w' : World) (s' : ByteArray) : Prop where
  os : w'.os = w.os
  tape : w'.tape = w.tape
  output : w'.output = w.output
  size : w.heap.size ≤ w'.heap.size
  cell : w'.cell? ⟨b, 0, none⟩ = some (.string s')
  frozen : w'.frozen? ⟨b, 0, none⟩ = false
  block : ∀ k, k < w.heap.size → k ≠ b → w'.heap[k]? = w.heap[k]?
theorem Step.of_below {b : Nat} {w w' : World} {s : ByteArray} (h : Below w.heap.size w w') (hb : b < w.heap.size) (hc : w.cell? ⟨b, 0, none⟩ = some (.string s)) (hf : w.frozen? ⟨b, 0, none⟩ = false) : Step b w w' s :=
  ⟨h.os, h.tape, h.output, h.size, by rw [h.cell (p := ⟨b, 0, none⟩) hb]; exact hc, by rw [h.frozen (p := ⟨b, 0, none⟩) hb]; exact hf, fun k hk _ => h.block k hk⟩
theorem Step.of_set {b : Nat} {w w' : World} {s s' : ByteArray} (h : Below w.heap.size (w.setCell ⟨b, 0, none⟩ (.string s')) w') (hb : b < w.heap.size) (hc : w.cell? ⟨b, 0, none⟩ = some (.string s)) (hf : w.frozen? ⟨b, 0, none⟩ = false) : Step b w w' s' := by
  refine ⟨h.os, h.tape, h.output, by have := h.size; simpa [World.setCell] using this, ?_, ?_, fun k hk hne => ?_⟩
  · rw [h.cell (p := ⟨b, 0, none⟩) hb]; exact World.cell?_setCell_same' w _ _ (by rw [hc]; rfl)
  · rw [h.frozen (p := ⟨b, 0, none⟩) hb]; rw [← hf]; exact World.frozen?_setCell _ _ _ _
  · rw [h.block k hk]; exact Below.heap_setCell _ _ _ _ hne
/-- Behind a call that has turned the reader in block b alone, which the callers own blocks end below. -/
theorem Step.below {b B : Nat} {w w' : World} {s : ByteArray} (h : Step b w w' s) (hB : B ≤ b) (hB2 : B ≤ w.heap.size) : Below B w w' :=
  ⟨h.os, h.tape, h.output, h.size, fun k hk => h.block k (by omega) (by omega)⟩
end Go.Proofs.YtcfniaknbbgheaaDoor
