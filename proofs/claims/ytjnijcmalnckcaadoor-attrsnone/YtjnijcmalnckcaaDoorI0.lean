/- Attributes as plain data: which may be, and their bytes. -/
import Derived.Test.YtjnijcmalnckcaaDoorN1
import Derived.Test.YtjnijcmalnckcaaDoorP4
namespace Go.Proofs.YtjnijcmalnckcaaDoor
open Go.RowKit
set_option linter.unusedSimpArgs false
set_option linter.unusedVariables false
/-- What is known of a file. -/
structure At where
  nd : Nat
  md : Nat
  ui : Nat
  gi : Nat
  mt : Int
  tg : ByteArray
  xs : List (ByteArray × ByteArray)
/-- Its value, with a value for its list. -/
abbrev atV (nd md ui gi : Nat) (mt : Int) (tg : ByteArray) (sl : Value) : Value := .agg #[.int .u8 (nd : Int), .int .u32 (md : Int), .int .u32 (ui : Int), .int .u32 (gi : Int), .int .i64 mt, .string tg, sl]
/-- Extended attributes of a slice. -/
def XaL (w : World) (a : Option Addr) (xs : List (ByteArray × ByteArray)) : Prop :=
  ∀ i x, xs[i]? = some x → ∃ g o, a = some ⟨g, o, none⟩ ∧ g < w.heap.size ∧ w.cell? ⟨g, o + i * 2, none⟩ = some (.string x.1) ∧ w.cell? ⟨g, o + i * 2 + 1, none⟩ = some (.string x.2) ∧ x.1.size ≤ 140737488351232 ∧ x.2.size ≤ 140737488351232
theorem XaL.below {w w' : World} {a : Option Addr} {l : List (ByteArray × ByteArray)} (h : XaL w a l) (hb : Below w.heap.size w w') : XaL w' a l := fun i x hx => by
  obtain ⟨g, o, h1, h2, h3, h4, h5⟩ := h i x hx
  exact ⟨g, o, h1, Nat.lt_of_lt_of_le h2 hb.size, by rw [hb.cell (p := ⟨g, o + i * 2, none⟩) h2]; exact h3, by rw [hb.cell (p := ⟨g, o + i * 2 + 1, none⟩) h2]; exact h4, h5⟩
def ndB (n : Nat) : Bool := decide (1 ≤ n ∧ n ≤ 3)
def mdB (n : Nat) : Bool := decide (n ≤ 4095)
def mtB (n : Int) : Bool := decide (0 ≤ n ∧ n ≤ 1099511627776)
def nz (t : ByteArray) : Bool := t.data.toList.all (· != 0)
theorem ix_nz : ∀ l : List UInt8, decide (Lib.indexByte l 0 < 0) = l.all (· != 0)
  | [] => rfl
  | b :: r => by
    have ih := ix_nz r
    have g := Lib.indexByte_ge r 0
    rw [List.all_cons, ← ih, Lib.indexByte]
    by_cases h : b = 0
    · subst h; rfl
    · have hb : (b == 0) = false := by simp [h]
      have hn : (b != 0) = true := by simp [h]
      rw [hb, hn, Bool.true_and, if_neg (by simp)]
      by_cases h2 : Lib.indexByte r 0 = -1
      · rw [h2]; rfl
      · rw [if_neg (by simpa using h2)]
        have : ¬ Lib.indexByte r 0 + 1 < 0 := by omega
        have h3 : ¬ Lib.indexByte r 0 < 0 := by omega
        simp [this, h3]
/-- A target that may be. -/
def tgB (n : Nat) (t : ByteArray) : Bool := if n = 3 then (decide (t.size ≠ 0) && decide (t.size ≤ 1024)) && nz t else decide (t.size = 0)
/-- A name and a value that may be. -/
def xB (x : ByteArray × ByteArray) : Bool := decide (rnE x.1.data.toList = 0) && decide (x.2.size ≤ 4096)
def ltB (x y : ByteArray × ByteArray) : Bool := Op.bytesLess x.1.toList y.1.toList
/-- What stands at a place may be, behind what stands ahead of it. -/
def xAt (xs : List (ByteArray × ByteArray)) (i : Nat) : Bool := match xs[i]? with
  | none => true
  | some x => xB x && (decide (i = 0) || match xs[i - 1]? with | none => true | some y => ltB y x)
def xsB (xs : List (ByteArray × ByteArray)) : Bool := decide (xs.length ≤ 16) && (List.range xs.length).all (xAt xs)
theorem xsB_yes {xs : List (ByteArray × ByteArray)} (h1 : xs.length ≤ 16) (h2 : ∀ i, i < xs.length → xAt xs i = true) : xsB xs = true := by
  unfold xsB
  rw [decide_eq_true h1, Bool.true_and, List.all_eq_true]
  exact fun i hi => h2 i (List.mem_range.1 hi)
theorem xsB_no {xs : List (ByteArray × ByteArray)} {i : Nat} (h : i < xs.length) (h2 : xAt xs i = false) : xsB xs = false := by
  unfold xsB
  rw [Bool.and_eq_false_iff]
  refine .inr (Bool.eq_false_iff.2 fun hh => ?_)
  have := List.all_eq_true.1 hh i (List.mem_range.2 h)
  rw [h2] at this; cases this
theorem xsB_out {xs : List (ByteArray × ByteArray)} (h : xsB xs = true) : xs.length ≤ 16 ∧ ∀ i, i < xs.length → xAt xs i = true := by
  unfold xsB at h
  rw [Bool.and_eq_true] at h
  exact ⟨of_decide_eq_true h.1, fun i hi => List.all_eq_true.1 h.2 i (List.mem_range.2 hi)⟩
theorem xAt_bad {xs : List (ByteArray × ByteArray)} {i : Nat} {x : ByteArray × ByteArray} (h : xs[i]? = some x) (hb : xB x = false) : xAt xs i = false := by
  unfold xAt; rw [h]; simp only [hb, Bool.false_and]
theorem xAt_zero {xs : List (ByteArray × ByteArray)} {x : ByteArray × ByteArray} (h : xs[0]? = some x) (hb : xB x = true) : xAt xs 0 = true := by
  unfold xAt; rw [h]; simp [hb]
theorem xAt_two {xs : List (ByteArray × ByteArray)} {i : Nat} {x y : ByteArray × ByteArray} (hi : 0 < i) (h : xs[i]? = some x) (h2 : xs[i - 1]? = some y) (hb : xB x = true) : xAt xs i = ltB y x := by
  unfold xAt; rw [h, h2]
  have : decide (i = 0) = false := decide_eq_false (by omega)
  simp [hb, this]
theorem xB_get {xs : List (ByteArray × ByteArray)} (h : xsB xs = true) {i : Nat} {x : ByteArray × ByteArray} (hx : xs[i]? = some x) : rnE x.1.data.toList = 0 ∧ x.2.size ≤ 4096 := by
  have hi : i < xs.length := (List.getElem?_eq_some_iff.1 hx).1
  have := (xsB_out h).2 i hi
  cases hb : xB x with
  | false => rw [xAt_bad hx hb] at this; cases this
  | true => unfold xB at hb; rw [Bool.and_eq_true] at hb; exact ⟨of_decide_eq_true hb.1, of_decide_eq_true hb.2⟩
theorem okN_size {l : List UInt8} (h : rnE l = 0) : l.length ≤ 255 := by
  unfold rnE at h
  cases hk : okN l with
  | false => rw [hk] at h; simp at h
  | true => exact (okN_split hk).1
/-- One that may be. -/
def okA (a : At) : Bool := ndB a.nd && (mdB a.md && (mtB a.mt && (tgB a.nd a.tg && xsB a.xs)))
def ckE (a : At) : Int := if okA a = true then 0 else 1
theorem okA_out {a : At} (h : okA a = true) : (1 ≤ a.nd ∧ a.nd ≤ 3) ∧ a.md ≤ 4095 ∧ (0 ≤ a.mt ∧ a.mt ≤ 1099511627776) ∧ tgB a.nd a.tg = true ∧ xsB a.xs = true := by
  unfold okA at h
  simp only [Bool.and_eq_true] at h
  exact ⟨of_decide_eq_true h.1, of_decide_eq_true h.2.1, of_decide_eq_true h.2.2.1, h.2.2.2.1, h.2.2.2.2⟩
/-- A short number's bytes; a text with its length. -/
def e8 (n : Nat) : List UInt8 := by8 (encS n)
def tx (t : ByteArray) : List UInt8 := e8 t.size ++ bl t
def xsL : List (ByteArray × ByteArray) → List UInt8
  | [] => []
  | x :: r => tx x.1 ++ tx x.2 ++ xsL r
theorem xsL_app : ∀ a b, xsL (a ++ b) = xsL a ++ xsL b
  | [], b => rfl
  | x :: r, b => by simp [xsL, xsL_app r b]
theorem xsL_one (x : ByteArray × ByteArray) : xsL [x] = tx x.1 ++ tx x.2 := by simp [xsL]
/-- The bytes of one. -/
def ltg (n : Nat) (t : ByteArray) : List UInt8 := if n = 3 then tx t else []
def lay (a : At) : List UInt8 := [UInt8.ofNat a.nd] ++ e8 a.md ++ e8 a.ui ++ e8 a.gi ++ e8 a.mt.toNat ++ ltg a.nd a.tg ++ e8 a.xs.length ++ xsL a.xs
theorem e8_len (n : Nat) (h : n < 2 ^ 64) : (e8 n).length ≤ 10 := by
  unfold e8; rw [by8_length, encS_length]; exact slen_le n h
theorem tx_len (t : ByteArray) (h : t.size ≤ 140737488351232) : (tx t).length ≤ t.size + 10 := by
  unfold tx; rw [List.length_append, bl_length]
  have := e8_len t.size (by omega)
  omega
theorem xsL_len : ∀ (xs : List (ByteArray × ByteArray)), (∀ x ∈ xs, x.1.size ≤ 255 ∧ x.2.size ≤ 4096) → (xsL xs).length ≤ 4371 * xs.length
  | [], _ => by simp [xsL]
  | x :: r, h => by
    have ih := xsL_len r (fun y hy => h y (by simp [hy]))
    obtain ⟨h1, h2⟩ := h x (by simp)
    have t1 := tx_len x.1 (by omega)
    have t2 := tx_len x.2 (by omega)
    simp only [xsL, List.length_append, List.length_cons]
    omega
theorem xs_small {xs : List (ByteArray × ByteArray)} (h : xsB xs = true) : ∀ x ∈ xs, x.1.size ≤ 255 ∧ x.2.size ≤ 4096 := fun x hx => by
  obtain ⟨i, hi⟩ := List.getElem?_of_mem hx
  obtain ⟨h1, h2⟩ := xB_get h hi
  have := okN_size h1
  rw [data_len] at this
  exact ⟨this, h2⟩
theorem tg_small {n : Nat} {t : ByteArray} (h : tgB n t = true) : t.size ≤ 1024 := by
  unfold tgB at h
  split at h
  · simp only [Bool.and_eq_true] at h; exact of_decide_eq_true h.1.2
  · have := of_decide_eq_true h; omega
theorem lay_len {a : At} (h : okA a = true) (hu : a.ui < 2 ^ 32) (hg : a.gi < 2 ^ 32) : (lay a).length ≤ 80000 := by
  obtain ⟨h1, h2, h3, h4, h5⟩ := okA_out h
  have q1 := e8_len a.md (by omega)
  have q2 := e8_len a.ui (by omega)
  have q3 := e8_len a.gi (by omega)
  have q4 := e8_len a.mt.toNat (by omega)
  have hx := (xsB_out h5).1
  have q5 := e8_len a.xs.length (by omega)
  have q6 := xsL_len a.xs (xs_small h5)
  have q7 : (ltg a.nd a.tg).length ≤ 1034 := by
    unfold ltg
    have := tg_small h4
    have := tx_len a.tg (by omega)
    split
    · omega
    · simp
  unfold lay
  simp only [List.length_append, List.length_cons, List.length_nil]
  omega
end Go.Proofs.YtjnijcmalnckcaaDoor
