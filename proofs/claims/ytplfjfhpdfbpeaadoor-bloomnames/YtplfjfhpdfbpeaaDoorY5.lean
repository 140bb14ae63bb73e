import Derived.Test.YtplfjfhpdfbpeaaDoorY1
import Derived.Test.YtplfjfhpdfbpeaaDoorY3
import Derived.Test.YtplfjfhpdfbpeaaDoorY4
import Derived.Deep.RegionWith
import Derived.Laws.BitsAllLaws
import Derived.WalkKit
import Derived.WalkSpells
import Derived.WalkLawsBesides
import Derived.Handy
import Derived.Deep.MidRow
import Derived.Deep.WholeRow
import Derived.Laws.ResultCell
import Derived.Lib.SmallJoins
import Derived.Lib.BufferOwn
import Derived.Lib.HexFns2
import Derived.Laws.MakeOwn
import Derived.Test.YtplfjfhpdfbpeaaDoorRows
import Derived.Deep.AppendLies
import Derived.Deep.DeepAppendRoom
import Derived.WalkMore
import Derived.Laws.AppendOwn
/- digest.Text, digest.Of, the document's own Fixed and Whole, the law's awake. -/
namespace Go.Proofs.YtplfjfhpdfbpeaaDoor
open Go.RowKit
set_option linter.unusedSimpArgs false
set_option linter.unusedVariables false
theorem shc_idc (m : List Nat) : shc m = idc (sb (sha m)) := by
  have h := byl_sb (sha m) (outB_lt _)
  rw [idc, h]; rfl
/-- All the listed variables. -/
structure All (w : World) : Prop where
  l : Lst w
  t : TabIs w
theorem All.lt {w : World} (H : All w) : 3 < w.heap.size := H.l.lt
theorem All.grown {w w' : World} {r : Option Nat} (H : All w) (hg : w.grownBy w' r) (hr : ∀ j, r = some j → 3 < j) : All w' :=
  ⟨H.l.grown hg hr, fun v hv => hg.cell (H.t v hv) (fun e => by have := hr _ e.symm; dsimp only at this; omega)⟩
theorem All.below {w w' : World} (H : All w) (hb : Below w.heap.size w w') : All w' := H.grown (grown_of_below hb none) (by simp)
theorem All.alloc {w : World} (H : All w) (o : Obj) : All (w.alloc o) := H.grown (World.grownBy_alloc w o none) (by simp)
set_option maxHeartbeats 400000 in
set_option maxRecDepth 100000 in
theorem text_any (s : ByteArray) (w : World) (hs : s.size = 32) (hA : All w) :
    Calls Tryd.prog 46 #[.agg (idc s)] w fun e w' => e = .returned (.string (sb (hexL (bl s)))) ∧ Below w.heap.size w w' := by
  have HA : Hid (All w) := hA
  have hlt := hA.lt
  have h1 := slice32 w.heap.size
  have h2 := conv32 s w.heap.size 36 (w.alloc (.cells (idc s) 36)) hs (blk_new _ _)
  clear hA
  go_enter Tryd.func46, Tryd.ntmps46
  go_wp2_with (go_at_call 56; refine (hex_any s _ (by omega) (HA.out.alloc _).t (by rw [alloc_size]; omega)).mono ?_; rintro e w1 ⟨rfl, hb1⟩)
  go_ret
  exact ⟨rfl, ((Below.refl _ _).alloc (Nat.le_refl _) _).trans (hb1.mono (by rw [alloc_size]; omega))⟩
set_option maxHeartbeats 400000 in
theorem rfixed_any (n : Nat) (w : World) (hn : n < 18446744073709551616) :
    Calls Tryd.prog 72 #[.int .u64 (n : Int), .int .i64 8] w fun e w' => e = .returned (.string ((⟨#[]⟩ : ByteArray) ++ sb (fixN 8 n))) ∧ Below w.heap.size w w' := by
  go_enter Tryd.func72, Tryd.ntmps72
  go_wp2_with (go_at_call 82; refine (rputFixed_ok ⟨#[]⟩ n 8 _ hn (by omega) (by omega) (by omega) (by decide)).mono ?_; rintro e w1 ⟨rfl, hb1⟩)
  go_ret
  exact ⟨rfl, hb1⟩
theorem conv_any (w : World) (g : Nat) (v : Int) (h : w.cell? ⟨g, 0, none⟩ = some (.int .u8 v)) : (convert 64 9 (.slice (some ⟨g, 0, none⟩) 1 1)).run Tryd.prog w = .ok (.string (strOfNums [v])) w :=
  run_convert_bytes_arg _ 64 5 Tryd.underlying64 Tryd.underlying5 _ 0 1 1 [v] rfl (fun i hi => by
    have : i = 0 := by omega
    subst this
    exact h) 9 Tryd.underlying9
theorem sb_append (a b : List Nat) : sb (a ++ b) = sb a ++ sb b := by
  apply bl_inj
  rw [bl_append, bl_sb, bl_sb, bl_sb, by8, by8, by8, List.map_append]
theorem whole_eq (k : Nat) (p : ByteArray) (hk : k < 256) : strOfNums [(k : Int)] ++ ((⟨#[]⟩ : ByteArray) ++ sb (fixN 8 p.size)) ++ p = sb (whl k p) := by
  rw [show ((⟨#[]⟩ : ByteArray) ++ sb (fixN 8 p.size)) = sb (fixN 8 p.size) from ByteArray.empty_append, one_is k k rfl]
  have : whl k p = [k] ++ fixN 8 p.size ++ byl p := by simp [whl]
  rw [this, sb_append, sb_append, sb_byl]
theorem wrap64s (n : Nat) (h : n < 18446744073709551616) : IntKind.u64.wrap (n : Int) = (n : Int) := by
  simp [IntKind.wrap, IntKind.bits, IntKind.signed]
  omega
theorem conv1s (w : World) (o : Obj) (v : Int) : (convert 64 9 (.slice (some ⟨w.heap.size + 1, 0, none⟩) 1 1)).run Tryd.prog ((w.alloc o).alloc (.cells #[.int .u8 v] 5)) = .ok (.string (strOfNums [v])) ((w.alloc o).alloc (.cells #[.int .u8 v] 5)) := by
  have h := conv1 (w.alloc o) v
  rwa [alloc_size] at h
theorem pre_eq (k : Nat) (n : Nat) : strOfNums [(k : Int)] ++ sb (fixN 8 n) = sb (k :: fixN 8 n) := by
  rw [one_is k k rfl, ← sb_append]; rfl
theorem byl_pre (k n : Nat) (hk : k < 256) : byl (sb (k :: fixN 8 n)) = k :: fixN 8 n := byl_sb _ (by
  intro x hx
  simp only [List.mem_cons] at hx
  rcases hx with rfl | hx
  · exact hk
  · exact fixN_lt _ _ x hx)
end Go.Proofs.YtplfjfhpdfbpeaaDoor
/- The mathematics of filters: places, bits, rows of bytes. No program is named here. -/
namespace Go.Proofs.YtplfjfhpdfbpeaaDoor
set_option linter.unusedSimpArgs false
set_option linter.unusedVariables false
open Go
/-- One bit of a row of bytes. -/
def btR (s : List UInt8) (p : Nat) : Bool := (s.getD (p / 8) 0).toNat.testBit (p % 8)
/-- A byte with one bit more. -/
def orB (a : UInt8) (k : Nat) : UInt8 := UInt8.ofNat (a.toNat ||| 2 ^ k)
theorem orB_lt (a : UInt8) (k : Nat) (hk : k < 8) : a.toNat ||| 2 ^ k < 256 := by
  have h1 := a.toNat_lt
  exact Nat.or_lt_two_pow (n := 8) h1 (Nat.pow_lt_pow_right (by omega) hk)
theorem orB_toNat (a : UInt8) (k : Nat) (hk : k < 8) : (orB a k).toNat = a.toNat ||| 2 ^ k := by
  have := orB_lt a k hk
  rw [orB, UInt8.toNat_ofNat']
  exact Nat.mod_eq_of_lt this
/-- A row with one bit more. -/
def stR (s : List UInt8) (p : Nat) : List UInt8 := s.set (p / 8) (orB (s.getD (p / 8) 0) (p % 8))
theorem stR_len (s : List UInt8) (p : Nat) : (stR s p).length = s.length := by simp [stR]
theorem btR_st (s : List UInt8) (p q : Nat) (h : p / 8 < s.length) : btR (stR s p) q = (btR s q || decide (q = p)) := by
  have hk : p % 8 < 8 := Nat.mod_lt _ (by omega)
  unfold btR stR
  by_cases e : p / 8 = q / 8
  · rw [← e]
    have e1 : (s.set (p / 8) (orB (s.getD (p / 8) 0) (p % 8))).getD (p / 8) 0 = orB (s.getD (p / 8) 0) (p % 8) := by
      simp [List.getD, h]
    rw [e1, orB_toNat _ _ hk, Nat.testBit_or, Nat.testBit_two_pow]
    congr 1
    have : (p % 8 = q % 8) ↔ (q = p) := by omega
    simp [this]
  · have e1 : (s.set (p / 8) (orB (s.getD (p / 8) 0) (p % 8))).getD (q / 8) 0 = s.getD (q / 8) 0 := by
      simp [List.getD, List.getElem?_set, e]
    rw [e1]
    have : ¬ q = p := by intro h; subst h; exact e rfl
    simp [this]
/-- The number in four bytes of a name. -/
def pnum (x : ByteArray) (i : Nat) : Nat := (((byl x).getD (4 * i) 0 * 256 + (byl x).getD (4 * i + 1) 0) * 256 + (byl x).getD (4 * i + 2) 0) * 256 + (byl x).getD (4 * i + 3) 0
/-- A place of a name. -/
def plc (n : Nat) (x : ByteArray) (i : Nat) : Nat := pnum x i % n
/-- A name added: its first places. -/
def adK (n : Nat) (x : ByteArray) : Nat → List UInt8 → List UInt8
  | 0, s => s
  | i + 1, s => stR (adK n x i s) (plc n x i)
/-- Whether a name is had: its first places. -/
def haK (n : Nat) (x : ByteArray) (s : List UInt8) : Nat → Bool
  | 0 => true
  | i + 1 => haK n x s i && btR s (plc n x i)
theorem adK_len (n : Nat) (x : ByteArray) (s : List UInt8) : ∀ k, (adK n x k s).length = s.length
  | 0 => rfl
  | k + 1 => by rw [adK, stR_len, adK_len n x s k]
/-- Is that one of the places of a name? -/
def isP (n : Nat) (x : ByteArray) (q : Nat) : Nat → Bool
  | 0 => false
  | i + 1 => isP n x q i || decide (q = plc n x i)
theorem isP_iff (n : Nat) (x : ByteArray) (q : Nat) : ∀ k, isP n x q k = true ↔ ∃ i, i < k ∧ q = plc n x i
  | 0 => by simp [isP]
  | k + 1 => by
    rw [isP, Bool.or_eq_true, isP_iff n x q k, decide_eq_true_eq]
    constructor
    · rintro (⟨i, h1, h2⟩ | h)
      · exact ⟨i, by omega, h2⟩
      · exact ⟨k, by omega, h⟩
    · rintro ⟨i, h1, h2⟩
      by_cases e : i = k
      · subst e; exact .inr h2
      · exact .inl ⟨i, by omega, h2⟩
theorem plc_in (n : Nat) (x : ByteArray) (i : Nat) (s : List UInt8) (hn : 0 < n) (h : 8 * s.length = n) : plc n x i / 8 < s.length := by
  have : plc n x i < n := Nat.mod_lt _ hn
  omega
theorem btR_ad (n : Nat) (x : ByteArray) (s : List UInt8) (q : Nat) (hn : 0 < n) (h : 8 * s.length = n) : ∀ k, btR (adK n x k s) q = (btR s q || isP n x q k)
  | 0 => by simp [adK, isP]
  | k + 1 => by
    rw [adK, btR_st _ _ _ (by rw [adK_len]; exact plc_in n x k s hn h), btR_ad n x s q hn h k, isP, Bool.or_assoc]
theorem haK_iff (n : Nat) (x : ByteArray) (s : List UInt8) : ∀ k, haK n x s k = true ↔ ∀ i, i < k → btR s (plc n x i) = true
  | 0 => by simp [haK]
  | k + 1 => by
    rw [haK, Bool.and_eq_true, haK_iff n x s k]
    constructor
    · rintro ⟨h1, h2⟩ i hi
      by_cases e : i = k
      · subst e; exact h2
      · exact h1 i (by omega)
    · intro h
      exact ⟨fun i hi => h i (by omega), h k (by omega)⟩
/-- Names added one behind the other. -/
def adL (n k : Nat) (l : List ByteArray) (s : List UInt8) : List UInt8 := l.foldl (fun s x => adK n x k s) s
theorem adL_len (n k : Nat) : ∀ (l : List ByteArray) (s : List UInt8), (adL n k l s).length = s.length
  | [], _ => rfl
  | x :: l, s => by
    show (adL n k l (adK n x k s)).length = _
    rw [adL_len n k l, adK_len]
theorem adL_snoc (n k : Nat) (l : List ByteArray) (x : ByteArray) (s : List UInt8) : adL n k (l ++ [x]) s = adK n x k (adL n k l s) := by simp [adL]
theorem btR_adL (n k : Nat) (q : Nat) (hn : 0 < n) : ∀ (l : List ByteArray) (s : List UInt8), 8 * s.length = n → (btR (adL n k l s) q = true ↔ btR s q = true ∨ ∃ x ∈ l, ∃ i, i < k ∧ q = plc n x i)
  | [], s, _ => by simp [adL]
  | x :: l, s, h => by
    show btR (adL n k l (adK n x k s)) q = true ↔ _
    rw [btR_adL n k q hn l _ (by rw [adK_len]; exact h), btR_ad n x s q hn h, Bool.or_eq_true, isP_iff]
    simp only [List.mem_cons, exists_eq_or_imp]
    exact or_assoc
/-- A row of noughts. -/
def zrR (m : Nat) : List UInt8 := List.replicate m 0
theorem zrR_len (m : Nat) : (zrR m).length = m := by simp [zrR]
theorem btR_zr (m q : Nat) : btR (zrR m) q = false := by
  have e : (zrR m).getD (q / 8) 0 = 0 := by
    simp only [zrR, List.getD]
    rw [List.getElem?_replicate]
    split <;> rfl
  rw [btR, e]; simp
/-- Two rows of one length with the same bits are one. -/
theorem row_ext (s t : List UInt8) (hl : s.length = t.length) (h : ∀ q, q < 8 * s.length → btR s q = btR t q) : s = t := by
  apply List.ext_getElem hl
  intro j h1 h2
  apply UInt8.toNat_inj.1
  apply Nat.eq_of_testBit_eq
  intro k
  by_cases hk : k < 8
  · have := h (8 * j + k) (by omega)
    unfold btR at this
    rw [show (8 * j + k) / 8 = j from by omega, show (8 * j + k) % 8 = k from by omega] at this
    simp only [List.getD, List.getElem?_eq_getElem h1, List.getElem?_eq_getElem h2, Option.getD_some] at this
    exact this
  · have p : 2 ^ 8 ≤ 2 ^ k := Nat.pow_le_pow_right (by omega) (by omega)
    have a1 := (s[j]).toNat_lt
    have a2 := (t[j]).toNat_lt
    rw [Nat.testBit_lt_two_pow (by omega), Nat.testBit_lt_two_pow (by omega)]
/-- What was added is had. -/
theorem had (n k : Nat) (l : List ByteArray) (s : List UInt8) (hn : 0 < n) (h : 8 * s.length = n) (x : ByteArray) (hx : x ∈ l) : haK n x (adL n k l s) k = true := by
  rw [haK_iff]
  intro i hi
  rw [btR_adL n k _ hn l s h]
  exact .inr ⟨x, hx, i, hi, rfl⟩
/-- A finer filter. -/
theorem finer (n N k : Nat) (l : List ByteArray) (s t : List UInt8) (hn : 0 < n) (hN : 0 < N) (hd : n ∣ N) (hs : 8 * s.length = n) (ht : 8 * t.length = N) (z : ∀ q, btR t q = false) (y : ByteArray) (h : haK N y (adL N k l t) k = true) : haK n y (adL n k l s) k = true := by
  rw [haK_iff] at h ⊢
  intro i hi
  have := h i hi
  rw [btR_adL N k _ hN l t ht, z] at this
  rw [btR_adL n k _ hn l s hs]
  rcases this with e | ⟨x, hx, j, hj, e⟩
  · simp at e
  · refine .inr ⟨x, hx, j, hj, ?_⟩
    unfold plc at e ⊢
    rw [← Nat.mod_mod_of_dvd (pnum y i) hd, e, Nat.mod_mod_of_dvd _ hd]
/-- Sizes. -/
def okF (n k : Nat) : Prop := (∃ e, e ≤ 18 ∧ n = 64 * 2 ^ e) ∧ 1 ≤ k ∧ k ≤ 8
theorem okF_pos {n k : Nat} (h : okF n k) : 64 ≤ n := by
  obtain ⟨⟨e, _, rfl⟩, _⟩ := h
  have := Nat.one_le_two_pow (n := e)
  omega
theorem okF_le {n k : Nat} (h : okF n k) : n ≤ 16777216 := by
  obtain ⟨⟨e, he, rfl⟩, _⟩ := h
  have := Nat.pow_le_pow_right (n := 2) (by omega) he
  omega
theorem okF_div {n k : Nat} (h : okF n k) : 8 * (n / 8) = n := by
  obtain ⟨⟨e, he, rfl⟩, _⟩ := h
  omega
theorem okF_iff (n k : Nat) : okF n k ↔ (n &&& (n - 1) = 0 ∧ 64 ≤ n ∧ n ≤ 16777216 ∧ 1 ≤ k ∧ k ≤ 8) := by
  constructor
  · intro h
    refine ⟨?_, okF_pos h, okF_le h, h.2⟩
    have h0 := okF_pos h
    rw [Nat.and_sub_one_eq_zero_iff_isPowerOfTwo (by omega)]
    obtain ⟨⟨e, he, rfl⟩, _⟩ := h
    exact ⟨6 + e, by rw [Nat.pow_add]⟩
  · rintro ⟨h1, h2, h3, h4⟩
    rw [Nat.and_sub_one_eq_zero_iff_isPowerOfTwo (by omega)] at h1
    obtain ⟨e, he⟩ := h1
    have a : 6 ≤ e := by
      rcases Nat.lt_or_ge e 6 with h | h
      · have := Nat.pow_lt_pow_right (a := 2) (by omega) h
        omega
      · exact h
    have b : e ≤ 24 := by
      rcases Nat.lt_or_ge 24 e with h | h
      · have := Nat.pow_lt_pow_right (a := 2) (by omega) h
        omega
      · exact h
    refine ⟨⟨e - 6, by omega, ?_⟩, h4⟩
    rw [he]
    conv => lhs; rw [show e = 6 + (e - 6) from by omega, Nat.pow_add]
end Go.Proofs.YtplfjfhpdfbpeaaDoor
/- A block of the call's own, by its cells; rows stored into it and read out of it at any place. No program is named here. -/
namespace Go.Proofs.YtplfjfhpdfbpeaaDoor
open Go.RowKit
set_option linter.unusedSimpArgs false
set_option linter.unusedVariables false
/-- A block's cells. -/
abbrev Bk (w : World) (b : Nat) (C : Array Value) (T : TypeId) : Prop := w.heap[b]? = some (.cells C T (0, 0))
theorem Bk.cell {w : World} {b : Nat} {C : Array Value} {T : TypeId} (h : Bk w b C T) (j : Nat) : w.cell? ⟨b, j, none⟩ = C[j]? := cell_of_row w b j C T (0, 0) h
theorem Bk.frozen {w : World} {b : Nat} {C : Array Value} {T : TypeId} (h : Bk w b C T) (j : Nat) : w.frozen? ⟨b, j, none⟩ = false := frozen_of_row w b j C T h
theorem Bk.set {w : World} {b : Nat} {C : Array Value} {T : TypeId} (h : Bk w b C T) (i : Nat) (v : Value) : Bk (w.setCell ⟨b, i, none⟩ v) b (C.setIfInBounds i v) T := Joins.block_setCell h v
theorem Bk.lt {w : World} {b : Nat} {C : Array Value} {T : TypeId} (h : Bk w b C T) : b < w.heap.size := by
  by_cases e : b < w.heap.size
  · exact e
  · unfold Bk at h; rw [Array.getElem?_eq_none (by omega)] at h; cases h
theorem Bk.grown {w w' : World} {b : Nat} {C : Array Value} {T : TypeId} {r : Option Nat} (h : Bk w b C T) (hg : w.grownBy w' r) (hr : r ≠ some b) : Bk w' b C T := by
  have hlt := h.lt
  unfold Bk
  rw [hg.block b hlt (fun e => hr e.symm)]
  exact h
theorem Bk.below {w w' : World} {b n : Nat} {C : Array Value} {T : TypeId} (h : Bk w b C T) (hb : Below n w w') (hn : b < n) : Bk w' b C T := by
  unfold Bk
  rw [hb.block b hn]
  exact h
theorem Bk.alloc {w : World} {b : Nat} {C : Array Value} {T : TypeId} (h : Bk w b C T) (o : Obj) : Bk (w.alloc o) b C T := h.grown (World.grownBy_alloc w o none) (by simp)
theorem Bk.drewN {w : World} {b : Nat} {C : Array Value} {T : TypeId} (h : Bk w b C T) (n : Nat) : Bk (w.drewN n) b C T := h
theorem bk_new (w : World) (C : Array Value) (T : TypeId) : Bk (w.alloc (.cells C T)) w.heap.size C T := by
  show (w.heap.push _)[w.heap.size]? = some _
  simp
theorem al_size (w : World) (o : Obj) : (w.alloc o).heap.size = w.heap.size + 1 := by
  show (w.heap.push o).size = _
  simp
theorem gr_of_below {w w' : World} (h : Below w.heap.size w w') (r : Option Nat) : w.grownBy w' r := ⟨h.os, h.tape, h.output, h.size, fun i hi _ => h.block i hi⟩
theorem below_of_gr {w w' : World} (h : w.grownBy w' none) : Below w.heap.size w w' := ⟨h.os, h.tape, h.output, h.size, fun i hi => h.block i hi (by simp)⟩
theorem gr_drewN (w : World) (n : Nat) (r : Option Nat) : w.grownBy (w.drewN n) r := by
  induction n with
  | zero => exact World.grownBy.refl w r
  | succ n ih => exact Lib.Hx.grownBy_drew ih
theorem below_own {B b : Nat} {w wr w1 : World} (hb : Below B w wr) (hz : B ≤ wr.heap.size) (hg : wr.grownBy w1 (some b)) (hB : B ≤ b) : Below B w w1 :=
  hb.grown hg hz (fun k hk => by cases hk; exact hB)
theorem below_drewN {B : Nat} {w wr : World} (hb : Below B w wr) (n : Nat) : Below B w (wr.drewN n) := by
  induction n with
  | zero => exact hb
  | succ n ih => exact ih.drew
/-- Cells laid over others from a place on. -/
def putC (C : Array Value) (o : Nat) : List Value → Array Value
  | [] => C
  | v :: r => putC (C.setIfInBounds o v) (o + 1) r
theorem Bk.puts {b : Nat} {T : TypeId} : ∀ (vs : List Value) (o : Nat) (C : Array Value) (w : World), Bk w b C T → Bk (w.setCells b o vs) b (putC C o vs) T
  | [], _, _, _, h => h
  | v :: r, o, C, w, h => by
    rw [World.setCells, putC]
    exact Bk.puts r (o + 1) _ _ (h.set o v)
theorem gr_puts (b : Nat) : ∀ (vs : List Value) (o : Nat) {a w : World}, a.grownBy w (some b) → a.grownBy (w.setCells b o vs) (some b)
  | [], _, _, _, h => h
  | v :: r, o, a, w, h => by rw [World.setCells]; exact gr_puts b r (o + 1) (Lib.grownBy_setB h o v)
theorem putC_size : ∀ (vs : List Value) (o : Nat) (C : Array Value), (putC C o vs).size = C.size
  | [], _, _ => rfl
  | v :: r, o, C => by rw [putC, putC_size r, Array.size_setIfInBounds]
theorem putC_get : ∀ (vs : List Value) (o : Nat) (C : Array Value) (i : Nat), o + vs.length ≤ C.size → (putC C o vs)[i]? = if o ≤ i ∧ i < o + vs.length then vs[i - o]? else C[i]?
  | [], o, C, i, _ => by rw [putC, if_neg (by simp)]
  | v :: r, o, C, i, h => by
    simp only [List.length_cons] at h
    rw [putC, putC_get r (o + 1) _ i (by rw [Array.size_setIfInBounds]; omega), Array.getElem?_setIfInBounds]
    by_cases e : o = i
    · subst e
      rw [if_neg (by omega), if_pos rfl, if_pos (by omega), if_pos (by simp), Nat.sub_self]; rfl
    · by_cases e2 : o + 1 ≤ i ∧ i < o + 1 + r.length
      · rw [if_pos e2, if_pos (by simp; omega)]
        rw [show i - o = (i - (o + 1)) + 1 from by omega, List.getElem?_cons_succ]
      · rw [if_neg e2, if_neg e, if_neg (by simp; omega)]
theorem setCells_size (b : Nat) : ∀ (vs : List Value) (o : Nat) (w : World), (w.setCells b o vs).heap.size = w.heap.size
  | [], _, _ => rfl
  | v :: r, o, w => by
    rw [World.setCells, setCells_size b r]
    simp [World.setCell]
theorem Bk.there {w : World} {b : Nat} {C : Array Value} {T : TypeId} (h : Bk w b C T) (o n : Nat) (hn : o + n ≤ C.size) : w.there b o n := fun j hj =>
  ⟨by rw [h.cell, Array.getElem?_eq_getElem (by omega)]; rfl, h.frozen _⟩
/-- The store of many cells into a block: the world behind it is a letter. -/
theorem wpList_put {P : Program} {ops : Array Oper} {rest : List Oper} {op : Oper} {a : Act} {w : World} {Q : Exit → Act → World → Prop} (hgd : op.guard = none) (ty : TypeId) (x y : Operand) (ho : op.op = .store ty x y)
    (b o : Nat) (C cells : Array Value) (T : TypeId) (hx : a.eval x = .pointer (some ⟨b, o, none⟩)) (hy : a.eval y = .agg cells)
    (hB : Bk w b C T) (hi : (P.info? ty).map (·.size) = some cells.size) (hn : o + cells.size ≤ C.size) (h1 : cells.all (·.oneCell') = true)
    (h : ∀ w', Hid (Bk w' b (putC C o cells.toList) T) → Hid (w.grownBy w' (some b)) → w'.heap.size = w.heap.size → wpList P ops Q rest (a.put op.dst undef) w') : wpList P ops Q (op :: rest) a w :=
  wpList_store_mid hgd ty x y ho b o cells hx hy (hB.there o _ hn) hi h1
    (h _ (Bk.puts _ _ _ _ hB) (gr_puts b _ _ (World.grownBy.refl _ _)) (setCells_size b _ _ _))
/-- The load of many cells out of a block. -/
theorem wpList_get {P : Program} {ops : Array Oper} {rest : List Oper} {op : Oper} {a : Act} {w : World} {Q : Exit → Act → World → Prop} (hgd : op.guard = none) (ty : TypeId) (x : Operand) (ho : op.op = .load ty x)
    (b o : Nat) (C cells : Array Value) (T : TypeId) (d : TypeDesc) (hx : a.eval x = .pointer (some ⟨b, o, none⟩))
    (hB : Bk w b C T) (hc : ∀ j v, cells[j]? = some v → C[o + j]? = some v) (hu : P.underlying ty = some d) (hd : d.isRow = true) (hi : (P.info? ty).map (·.size) = some cells.size)
    (h : wpList P ops Q rest (a.put op.dst (.agg cells)) w) : wpList P ops Q (op :: rest) a w :=
  wpList_load_mid hgd ty x ho b o hx cells.toList d (fun j v hv => by rw [hB.cell]; exact hc j v (by rwa [Array.getElem?_toList] at hv)) hu hd (by rw [hi]; simp) h
end Go.Proofs.YtplfjfhpdfbpeaaDoor
/- Texts of a slice, as they lie in memory. No program is named here. -/
namespace Go.Proofs.YtplfjfhpdfbpeaaDoor
open Go.RowKit
set_option linter.unusedSimpArgs false
set_option linter.unusedVariables false
/-- The texts of a slice. -/
def TxL (w : World) (a : Option Addr) (xs : List ByteArray) : Prop :=
  ∀ i x, xs[i]? = some x → ∃ g o, a = some ⟨g, o, none⟩ ∧ g < w.heap.size ∧ w.cell? ⟨g, o + i, none⟩ = some (.string x)
theorem TxL.below {w w' : World} {a : Option Addr} {xs : List ByteArray} (h : TxL w a xs) (hb : Below w.heap.size w w') : TxL w' a xs := by
  intro i x hx
  obtain ⟨g, o, e, hg, hc⟩ := h i x hx
  exact ⟨g, o, e, Nat.lt_of_lt_of_le hg hb.size, by rw [hb.cell (p := ⟨g, o + i, none⟩) hg]; exact hc⟩
theorem TxL.drewN {w : World} {a : Option Addr} {xs : List ByteArray} (h : TxL w a xs) (n : Nat) : TxL (w.drewN n) a xs := h.below (below_drewN (Below.refl _ _) n)
theorem TxL.alloc {w : World} {a : Option Addr} {xs : List ByteArray} (h : TxL w a xs) (o : Obj) : TxL (w.alloc o) a xs := h.below ((Below.refl _ _).alloc (Nat.le_refl _) _)
/-- Texts as cells. -/
def txc (xs : List ByteArray) : Array Value := (xs.map fun x => Value.string x).toArray
theorem txc_size (xs : List ByteArray) : (txc xs).size = xs.length := by simp [txc]
theorem txc_get (xs : List ByteArray) (i : Nat) : (txc xs)[i]? = (xs[i]?).map fun x => Value.string x := by simp [txc]
theorem txc_set (xs : List ByteArray) (i : Nat) (x : ByteArray) : (txc xs).setIfInBounds i (.string x) = txc (xs.set i x) := by
  simp only [txc, List.setIfInBounds_toArray, List.map_set]
theorem Bk.txl {w : World} {b : Nat} {T : TypeId} {xs : List ByteArray} (h : Bk w b (txc xs) T) : TxL w (some ⟨b, 0, none⟩) xs := by
  intro i x hx
  exact ⟨b, 0, rfl, h.lt, by rw [Nat.zero_add, h.cell, txc_get, hx]; rfl⟩
theorem str_ne (x y : ByteArray) : (x.toList != y.toList) = !decide (x = y) := by
  rw [Lib.toList_data, Lib.toList_data]
  by_cases h : x = y
  · subst h; simp
  · have : x.data.toList ≠ y.data.toList := fun e => h (by cases x; cases y; simp at e; simp [e])
    simp [h, this]
end Go.Proofs.YtplfjfhpdfbpeaaDoor
/- Rows one behind the other in one block; bytes of a text copied into a block. No program is named here. -/
namespace Go.Proofs.YtplfjfhpdfbpeaaDoor
open Go.RowKit
set_option linter.unusedSimpArgs false
set_option linter.unusedVariables false
/-- Bytes as cells. -/
def rc (r : List UInt8) : Array Value := (r.map fun x : UInt8 => Value.int .u8 (x.toNat : Int)).toArray
theorem rc_size (r : List UInt8) : (rc r).size = r.length := by simp [rc]
theorem rc_one (r : List UInt8) : (rc r).all (·.oneCell') = true := by simp [rc, List.all_eq_true, Value.oneCell']
theorem rc_get (r : List UInt8) (j : Nat) : (rc r)[j]? = (r[j]?).map fun x : UInt8 => Value.int .u8 (x.toNat : Int) := by simp [rc]
theorem rc_set (r : List UInt8) (j : Nat) (x : UInt8) : (rc r).setIfInBounds j (.int .u8 (x.toNat : Int)) = rc (r.set j x) := by
  simp only [rc, List.setIfInBounds_toArray, List.map_set]
theorem rc_list (r : List UInt8) : (rc r).toList = r.map fun x : UInt8 => Value.int .u8 (x.toNat : Int) := by simp [rc]
/-- Bytes laid over others from a place on. -/
def putB (l : List UInt8) (o : Nat) (r : List UInt8) : List UInt8 := l.take o ++ r ++ l.drop (o + r.length)
theorem putB_len (l : List UInt8) (o : Nat) (r : List UInt8) (h : o + r.length ≤ l.length) : (putB l o r).length = l.length := by
  simp [putB]; omega
theorem putB_get (l : List UInt8) (o : Nat) (r : List UInt8) (h : o + r.length ≤ l.length) (i : Nat) : (putB l o r)[i]? = if o ≤ i ∧ i < o + r.length then r[i - o]? else l[i]? := by
  unfold putB
  by_cases h1 : i < o
  · rw [if_neg (by omega), List.append_assoc, List.getElem?_append_left (by simp; omega), List.getElem?_take, if_pos h1]
  · by_cases h2 : i < o + r.length
    · rw [if_pos (by omega), List.append_assoc, List.getElem?_append_right (by simp; omega), List.getElem?_append_left (by simp; omega)]
      simp only [List.length_take]
      congr 1
      omega
    · rw [if_neg (by omega), List.getElem?_append_right (by simp; omega), List.getElem?_drop]
      simp only [List.length_append, List.length_take]
      congr 1
      omega
theorem putC_rc (l : List UInt8) (o : Nat) (r : List UInt8) (h : o + r.length ≤ l.length) : putC (rc l) o (rc r).toList = rc (putB l o r) := by
  apply Array.ext_getElem?
  intro i
  rw [putC_get _ _ _ _ (by rw [rc_list, rc_size]; simpa using h), rc_get, rc_get, putB_get l o r h, rc_list]
  simp only [List.length_map]
  by_cases e : o ≤ i ∧ i < o + r.length
  · rw [if_pos e, if_pos e, List.getElem?_map]
  · rw [if_neg e, if_neg e]
theorem putB_all (l r : List UInt8) (h : l.length = r.length) : putB l 0 r = r := by
  unfold putB
  rw [List.take_zero, List.nil_append, List.drop_eq_nil_of_le (by omega), List.append_nil]
theorem putC_all (l r : List UInt8) (h : l.length = r.length) : putC (rc l) 0 (rc r).toList = rc r := by
  rw [putC_rc l 0 r (by omega), putB_all l r h]
theorem flat_len (k : Nat) : ∀ (L : List (List UInt8)), (∀ r ∈ L, r.length = k) → L.flatten.length = k * L.length
  | [], _ => by simp
  | r :: L, h => by
    rw [List.flatten_cons, List.length_append, flat_len k L (fun x hx => h x (by simp [hx])), h r (by simp), List.length_cons, Nat.mul_succ]
    omega
theorem flat_get (k : Nat) : ∀ (L : List (List UInt8)), (∀ r ∈ L, r.length = k) → ∀ (i : Nat) (r : List UInt8), L[i]? = some r → ∀ j, j < k → L.flatten[k * i + j]? = r[j]?
  | [], _, i, r, hi, _, _ => by simp at hi
  | x :: L, h, 0, r, hi, j, hj => by
    simp only [List.getElem?_cons_zero, Option.some.injEq] at hi
    subst hi
    rw [List.flatten_cons, Nat.mul_zero, Nat.zero_add, List.getElem?_append_left (by rw [h x (by simp)]; exact hj)]
  | x :: L, h, i + 1, r, hi, j, hj => by
    have hx := h x (by simp)
    rw [List.flatten_cons, List.getElem?_append_right (by rw [hx, Nat.mul_succ]; omega), hx, show k * (i + 1) + j - k = k * i + j from by rw [Nat.mul_succ]; omega]
    exact flat_get k L (fun y hy => h y (by simp [hy])) i r (by simpa using hi) j hj
theorem flat_set (k : Nat) : ∀ (L : List (List UInt8)), (∀ r ∈ L, r.length = k) → ∀ (i : Nat), i < L.length → ∀ (r : List UInt8), r.length = k → putB L.flatten (k * i) r = (L.set i r).flatten
  | [], _, i, hi, _, _ => by simp at hi
  | x :: L, h, 0, _, r, hr => by
    have hx := h x (by simp)
    unfold putB
    rw [Nat.mul_zero, List.take_zero, List.nil_append, Nat.zero_add, List.set_cons_zero, List.flatten_cons, List.flatten_cons, List.drop_append, hr, ← hx, List.drop_length, Nat.sub_self, List.drop_zero, List.nil_append]
  | x :: L, h, i + 1, hi, r, hr => by
    have hx := h x (by simp)
    have ih := flat_set k L (fun y hy => h y (by simp [hy])) i (by simpa using hi) r hr
    rw [List.set_cons_succ, List.flatten_cons, List.flatten_cons, ← ih]
    unfold putB
    rw [List.take_append, List.drop_append, hx, List.take_of_length_le (by rw [hx, Nat.mul_succ]; omega), List.drop_eq_nil_of_le (by rw [hx, Nat.mul_succ]; omega), List.nil_append, List.append_assoc, List.append_assoc, List.append_assoc]
    rw [show k * (i + 1) - k = k * i from by rw [Nat.mul_succ]; omega, show k * (i + 1) + r.length - k = k * i + r.length from by rw [Nat.mul_succ]; omega]
theorem flat_part (k : Nat) : ∀ (L : List (List UInt8)), (∀ r ∈ L, r.length = k) → ∀ (i : Nat) (r : List UInt8), L[i]? = some r → ∀ (x : List UInt8), x.length ≤ k → putB L.flatten (k * i) x = (L.set i (putB r 0 x)).flatten
  | [], _, i, r, hi, _, _ => by simp at hi
  | y :: L, h, 0, r, hi, x, hx => by
    simp only [List.getElem?_cons_zero, Option.some.injEq] at hi
    subst hi
    have hy := h y (by simp)
    unfold putB
    rw [Nat.mul_zero, List.take_zero, List.take_zero, List.nil_append, Nat.zero_add, List.set_cons_zero, List.flatten_cons, List.flatten_cons, List.drop_append, show x.length - y.length = 0 from by omega, List.drop_zero, List.append_assoc]
  | y :: L, h, i + 1, r, hi, x, hx => by
    have hy := h y (by simp)
    have ih := flat_part k L (fun z hz => h z (by simp [hz])) i r (by simpa using hi) x hx
    rw [List.set_cons_succ, List.flatten_cons, List.flatten_cons, ← ih]
    unfold putB
    rw [List.take_append, List.drop_append, hy, List.take_of_length_le (by rw [hy, Nat.mul_succ]; omega), List.drop_eq_nil_of_le (by rw [hy, Nat.mul_succ]; omega), List.nil_append, List.append_assoc, List.append_assoc, List.append_assoc]
    rw [show k * (i + 1) - k = k * i from by rw [Nat.mul_succ]; omega, show k * (i + 1) + x.length - k = k * i + x.length from by rw [Nat.mul_succ]; omega]
/-- The cells of rows of one width. -/
theorem row_get (k : Nat) (L : List (List UInt8)) (h : ∀ r ∈ L, r.length = k) (i : Nat) (r : List UInt8) (hi : L[i]? = some r) (j : Nat) (v : Value) (hv : (rc r)[j]? = some v) : (rc L.flatten)[k * i + j]? = some v := by
  have hr := h r (List.mem_of_getElem? hi)
  have hj : j < k := by
    have := (Array.getElem?_eq_some_iff.1 hv).1
    rw [rc_size, hr] at this
    exact this
  rw [rc_get, flat_get k L h i r hi j hj, ← rc_get]
  exact hv
theorem row_fits (k : Nat) (L : List (List UInt8)) (h : ∀ r ∈ L, r.length = k) (i : Nat) (hi : i < L.length) (r : List UInt8) (hr : r.length = k) : k * i + (rc r).size ≤ (rc L.flatten).size := by
  rw [rc_size, rc_size, hr, flat_len k L h, ← Nat.mul_succ]
  exact Nat.mul_le_mul_left k hi
theorem row_put (k : Nat) (L : List (List UInt8)) (h : ∀ r ∈ L, r.length = k) (i : Nat) (hi : i < L.length) (r : List UInt8) (hr : r.length = k) : putC (rc L.flatten) (k * i) (rc r).toList = rc (L.set i r).flatten := by
  have := row_fits k L h i hi r hr
  rw [rc_size, rc_size] at this
  rw [putC_rc _ _ _ this, flat_set k L h i hi r hr]
theorem set_wide (k : Nat) (L : List (List UInt8)) (h : ∀ r ∈ L, r.length = k) (i : Nat) (r : List UInt8) (hr : r.length = k) : ∀ x ∈ L.set i r, x.length = k := by
  intro x hx
  rcases List.mem_or_eq_of_mem_set hx with h1 | h1
  · exact h x h1
  · rw [h1]; exact hr
/-- Rows of nothing, made. -/
theorem made_rows (k n : Nat) (hk : 0 < k) : madeCells (rc (List.replicate k 0)) (n * k) = rc (List.replicate n (List.replicate k (0 : UInt8))).flatten := by
  apply Array.ext_getElem?
  intro i
  have hl : (List.replicate n (List.replicate k (0 : UInt8))).flatten = List.replicate (n * k) 0 := by
    rw [List.flatten_replicate_replicate]
  rw [hl, rc_get]
  simp only [madeCells]
  by_cases hi : i < n * k
  · rw [List.getElem?_replicate, if_pos hi]
    simp [rc, hi, Nat.mod_lt _ hk]
  · rw [List.getElem?_eq_none (by simp; omega), Array.getElem?_eq_none (by simp; omega)]; rfl
/-- 'copy(x[..], s)': the bytes of a text into the middle of a block. -/
theorem copy_txt (w : World) (dT sT ty elem : TypeId) (b o dLen dCap : Nat) (s : ByteArray) {P : Program}
    (hu : P.underlying dT = some (.slice elem)) (hs : (P.info? elem).map (·.size) = some 1)
    (hc : ∀ j, j < Nat.min s.size dLen → (w.cell? ⟨b, o + j, none⟩).isSome = true) (hf : ∀ j, j < Nat.min s.size dLen → w.frozen? ⟨b, o + j, none⟩ = false) :
    (Builtin.copy_ #[dT, sT] ty #[.slice (some ⟨b, o, none⟩) dLen dCap, .string s]).run P w = .ok (goInt (Nat.min s.size dLen)) (w.setCells b o (rc (s.data.toList.take (Nat.min s.size dLen))).toList) := by
  have hl : (rc (s.data.toList.take (Nat.min s.size dLen))).toList.length = Nat.min s.size dLen := by
    simp only [rc_list, List.length_map, List.length_take, Array.length_toList]
    exact Nat.min_eq_left (Nat.min_le_left _ _)
  have hst := run_storeCells_cells (P := P) b o (rc (s.data.toList.take (Nat.min s.size dLen))).toList 0 w (by rw [hl]; simpa using hc) (by rw [hl]; simpa using hf) (by intro v hv; rw [rc_list, List.mem_map] at hv; obtain ⟨x, _, rfl⟩ := hv; rfl)
  cases hq : P.info? elem with
  | none => simp [hq] at hs
  | some i =>
    have hi : i.size = 1 := by simpa [hq] using hs
    simp only [Nat.add_zero] at hst
    simp [Builtin.copy_, run_underlying hu, Builtin.lenOf, Builtin.firstCells, sizeOf, typeInfo, hq, hi]
    have e2 : List.take (s.size.min dLen) (List.map (fun b => Value.int IntKind.u8 (b.toNat : Int)) s.data.toList) = (rc (s.data.toList.take (Nat.min s.size dLen))).toList := by
      rw [rc_list, ← List.map_take]
    rw [e2, hst]
    rfl
end Go.Proofs.YtplfjfhpdfbpeaaDoor
/- A filter in memory; bloom.isSize. -/
namespace Go.Proofs.YtplfjfhpdfbpeaaDoor
open Go.RowKit
set_option linter.unusedSimpArgs false
set_option linter.unusedVariables false
/-- Bytes of a row that may be written. -/
def Rw (w : World) (g : Nat) (s : List UInt8) : Prop := ∃ (C : Array Value) (fz : Nat × Nat), w.heap[g]? = some (.cells C 5 fz) ∧ (∀ j, j < s.length → ¬ (fz.1 ≤ j ∧ j < fz.2)) ∧ ∀ j, j < s.length → C[j]? = some (.int .u8 ((s.getD j 0).toNat : Int))
theorem Rw.lt {w : World} {g : Nat} {s : List UInt8} (h : Rw w g s) : g < w.heap.size := by
  obtain ⟨C, fz, h, _⟩ := h
  exact (Array.getElem?_eq_some_iff.1 h).1
theorem Rw.cell {w : World} {g : Nat} {s : List UInt8} (h : Rw w g s) (j : Nat) (hj : j < s.length) : w.cell? ⟨g, j, none⟩ = some (.int .u8 ((s.getD j 0).toNat : Int)) := by
  obtain ⟨C, fz, hC, _, hc⟩ := h
  rw [cell_of_row w g j C _ _ hC]
  exact hc j hj
theorem Rw.frozen {w : World} {g : Nat} {s : List UInt8} (h : Rw w g s) (j : Nat) (hj : j < s.length) : w.frozen? ⟨g, j, none⟩ = false := by
  obtain ⟨C, fz, hC, hn, _⟩ := h
  have := hn j hj
  simp only [World.frozen?, hC]
  simp only [Bool.and_eq_false_iff, decide_eq_false_iff_not]
  omega
theorem Rw.set {w : World} {g : Nat} {s : List UInt8} (h : Rw w g s) (i : Nat) (hi : i < s.length) (v : UInt8) : Rw (w.setCell ⟨g, i, none⟩ (.int .u8 (v.toNat : Int))) g (s.set i v) := by
  obtain ⟨C, fz, hC, hn, hc⟩ := h
  refine ⟨C.setIfInBounds i (.int .u8 (v.toNat : Int)), fz, Joins.block_setCell (i := i) hC _, by simpa using hn, fun j hj => ?_⟩
  rw [List.length_set] at hj
  have hiC : i < C.size := by
    have := hc i hi
    exact (Array.getElem?_eq_some_iff.1 this).1
  rw [Array.getElem?_setIfInBounds]
  by_cases e : i = j
  · subst e; rw [if_pos rfl, if_pos hiC]; simp [List.getD, hi]
  · rw [if_neg e, hc j hj]; simp [List.getD, List.getElem?_set, e]
theorem Rw.grown {w w' : World} {g : Nat} {s : List UInt8} {r : Option Nat} (h : Rw w g s) (hg : w.grownBy w' r) (hr : r ≠ some g) : Rw w' g s := by
  have hlt := h.lt
  obtain ⟨C, fz, hC, hn⟩ := h
  exact ⟨C, fz, by rw [hg.block g hlt (fun e => hr e.symm)]; exact hC, hn⟩
theorem Rw.of_bk {w : World} {g : Nat} {s : List UInt8} (h : Bk w g (rc s) 5) : Rw w g s :=
  ⟨rc s, (0, 0), h, fun j _ => by omega, fun j hj => by rw [rc_get, List.getD, List.getElem?_eq_getElem hj]; rfl⟩
/-- A filter: its size, its bytes; the block f is its own, g has its row. -/
structure FlS (w : World) (f g n k : Nat) (s : List UInt8) : Prop where
  ok : okF n k
  len : 8 * s.length = n
  top : ∃ c, Bk w f #[.int .i64 (n : Int), .int .i64 (k : Int), .slice (some ⟨g, 0, none⟩) s.length c] 69 ∧ s.length ≤ c
  row : Rw w g s
theorem FlS.lt {w : World} {f g n k : Nat} {s : List UInt8} (h : FlS w f g n k s) : f < w.heap.size := by
  obtain ⟨c, h, _⟩ := h.top
  exact h.lt
theorem FlS.ne {w : World} {f g n k : Nat} {s : List UInt8} (h : FlS w f g n k s) : f ≠ g := by
  rintro rfl
  obtain ⟨c, h1, _⟩ := h.top
  obtain ⟨C, fz, h2, _⟩ := h.row
  unfold Bk at h1
  rw [h1] at h2
  injection h2 with h2
  injection h2 with _ h2 _
  exact absurd h2 (by decide)
theorem FlS.grown {w w' : World} {f g n k : Nat} {s : List UInt8} {r : Option Nat} (h : FlS w f g n k s) (hg : w.grownBy w' r) (h1 : r ≠ some f) (h2 : r ≠ some g) : FlS w' f g n k s := by
  obtain ⟨c, ht, hc⟩ := h.top
  exact ⟨h.ok, h.len, ⟨c, ht.grown hg h1, hc⟩, h.row.grown hg h2⟩
theorem FlS.below {w w' : World} {f g n k : Nat} {s : List UInt8} (h : FlS w f g n k s) (hb : Below w.heap.size w w') : FlS w' f g n k s := h.grown (gr_of_below hb none) (by simp) (by simp)
theorem FlS.pos {w : World} {f g n k : Nat} {s : List UInt8} (h : FlS w f g n k s) : 0 < n := by have := okF_pos h.ok; omega
/-- One bit more. -/
theorem FlS.bit {w : World} {f g n k : Nat} {s : List UInt8} (h : FlS w f g n k s) (p : Nat) (hp : p < n) : FlS (w.setCell ⟨g, p / 8, none⟩ (.int .u8 ((orB (s.getD (p / 8) 0) (p % 8)).toNat : Int))) f g n k (stR s p) ∧ w.grownBy (w.setCell ⟨g, p / 8, none⟩ (.int .u8 ((orB (s.getD (p / 8) 0) (p % 8)).toNat : Int))) (some g) := by
  have hl := h.len
  have hg := Lib.grownBy_setB (World.grownBy.refl w (some g)) (p / 8) (.int .u8 ((orB (s.getD (p / 8) 0) (p % 8)).toNat : Int))
  obtain ⟨c, ht, hc⟩ := h.top
  refine ⟨⟨h.ok, by rw [stR_len]; exact hl, ⟨c, ?_, by rw [stR_len]; exact hc⟩, h.row.set (p / 8) (by omega) _⟩, hg⟩
  rw [stR_len]
  exact ht.grown hg (by have := h.ne; simp; omega)
set_option maxHeartbeats 1000000 in
set_option maxRecDepth 100000 in
theorem isSize_any (x y : Nat) (w : World) (hx : x < 18446744073709551616) (hy : y < 18446744073709551616) :
    Calls Tryd.prog 32 #[.int .u64 (x : Int), .int .u64 (y : Int)] w fun e w' => e = .returned (.bool (decide (x &&& (x - 1) = 0) && decide (64 ≤ x) && decide (x ≤ 16777216) && decide (1 ≤ y) && decide (y ≤ 8))) ∧ w' = w := by
  by_cases hx0 : x = 0
  · subst hx0
    go_enter Tryd.func32, Tryd.ntmps32
    go_wp2
    go_ret
    exact ⟨by simp, rfl⟩
  · obtain ⟨N, hN⟩ : ∃ N, x &&& (x - 1) = N := ⟨_, rfl⟩
    have hb : bits .and .u64 (x : Int) ((x : Int) - 1) = (N : Int) := by
      rw [show (x : Int) - 1 = ((x - 1 : Nat) : Int) from by omega, u64_and_nat _ _ hx (by omega), hN]
    rw [hN]
    have hx1 : 1 ≤ x := by omega
    have hx2 : (1 : Int) ≤ x := by omega
    clear hN hx0
    by_cases h1 : N = 0
    · subst h1
      by_cases h2 : 64 ≤ x
      · by_cases h3 : x ≤ 16777216
        · by_cases h4 : 1 ≤ y
          · by_cases h5 : y ≤ 8
            · have k2 : (64 : Int) ≤ x := by omega
              have k3 : (x : Int) ≤ 16777216 := by omega
              have k4 : (1 : Int) ≤ y := by omega
              have k5 : (y : Int) ≤ 8 := by omega
              go_enter Tryd.func32, Tryd.ntmps32
              go_wp2
              go_ret
              exact ⟨by simp [h2, h3, h4, h5], rfl⟩
            · have k2 : (64 : Int) ≤ x := by omega
              have k3 : (x : Int) ≤ 16777216 := by omega
              have k4 : (1 : Int) ≤ y := by omega
              have k5 : ¬ (y : Int) ≤ 8 := by omega
              go_enter Tryd.func32, Tryd.ntmps32
              go_wp2
              go_ret
              exact ⟨by simp [h2, h3, h4, h5], rfl⟩
          · have k2 : (64 : Int) ≤ x := by omega
            have k3 : (x : Int) ≤ 16777216 := by omega
            have k4 : ¬ (1 : Int) ≤ y := by omega
            go_enter Tryd.func32, Tryd.ntmps32
            go_wp2
            go_ret
            exact ⟨by simp [h2, h3, h4], rfl⟩
        · have k2 : (64 : Int) ≤ x := by omega
          have k3 : ¬ (x : Int) ≤ 16777216 := by omega
          go_enter Tryd.func32, Tryd.ntmps32
          go_wp2
          go_ret
          exact ⟨by simp [h2, h3], rfl⟩
      · have k2 : ¬ (64 : Int) ≤ x := by omega
        go_enter Tryd.func32, Tryd.ntmps32
        go_wp2
        go_ret
        exact ⟨by simp [h2], rfl⟩
    · have k1 : ¬ (N : Int) = 0 := by omega
      go_enter Tryd.func32, Tryd.ntmps32
      go_wp2
      go_ret
      exact ⟨by simp [h1], rfl⟩
theorem isSize_yes (x y : Nat) (w : World) (h : okF x y) : Calls Tryd.prog 32 #[.int .u64 (x : Int), .int .u64 (y : Int)] w fun e w' => e = .returned (.bool true) ∧ w' = w := by
  have h1 := (okF_iff x y).1 h
  refine (isSize_any x y w (by omega) (by omega)).mono ?_
  rintro e w' ⟨rfl, rfl⟩
  exact ⟨by simp [h1.1, h1.2.1, h1.2.2.1, h1.2.2.2.1, h1.2.2.2.2], rfl⟩
theorem isSize_no (x y : Nat) (w : World) (hx : x < 18446744073709551616) (hy : y < 18446744073709551616) (h : ¬ okF x y) : Calls Tryd.prog 32 #[.int .u64 (x : Int), .int .u64 (y : Int)] w fun e w' => e = .returned (.bool false) ∧ w' = w := by
  rw [okF_iff] at h
  refine (isSize_any x y w hx hy).mono ?_
  rintro e w' ⟨rfl, rfl⟩
  refine ⟨?_, rfl⟩
  congr 2
  rw [Bool.eq_false_iff]
  intro hc
  simp only [Bool.and_eq_true, decide_eq_true_eq] at hc
  exact h ⟨hc.1.1.1.1, hc.1.1.1.2, hc.1.1.2, hc.1.2, hc.2⟩
end Go.Proofs.YtplfjfhpdfbpeaaDoor
/- Slices of texts, and of bytes, that the call makes by append. -/
namespace Go.Proofs.YtplfjfhpdfbpeaaDoor
open Go.RowKit
set_option linter.unusedSimpArgs false
set_option linter.unusedVariables false
theorem inf_str : (Tryd.prog.info? 9).map (fun i => (i.zero, i.size, i.bytes)) = some (some (.string ⟨#[]⟩), 1, 16) := by kernel_rfl
theorem inf_byte : (Tryd.prog.info? 5).map (fun i => (i.zero, i.size, i.bytes)) = some (some (.int .u8 0), 1, 1) := by kernel_rfl
/-- Texts as cells. -/
def sv (l : List ByteArray) : List Value := l.map fun x => Value.string x
theorem sv_append (a b : List ByteArray) : sv (a ++ b) = sv a ++ sv b := by simp [sv]
def bv (l : List UInt8) : List Value := l.map fun x : UInt8 => Value.int .u8 (x.toNat : Int)
theorem bv_append (a b : List UInt8) : bv (a ++ b) = bv a ++ bv b := by simp [bv]
theorem news_one (w : World) (p : Value) (T : TypeId) : ∀ (j : Nat) (u : Value), [p][j]? = some u → (w.alloc (.cells #[p] T)).cell? ((⟨w.heap.size, 0, none⟩ : Addr).add j) = some u := by
  intro j u h
  rw [WideShapes.add_plain, Nat.zero_add, World.cell?_alloc_new]
  simpa using h
theorem one_str (p : ByteArray) : ∀ u ∈ [Value.string p], u.oneCell' = true := by
  intro u hu
  simp at hu
  subst hu; rfl
theorem one_byte (n : Int) : ∀ u ∈ [Value.int .u8 n], u.oneCell' = true := by
  intro u hu
  simp at hu
  subst hu; rfl
theorem own_kept {B n : Nat} {w w' : World} {v : Value} {xs : List Value} {e : TypeId} (h : w.ownsRow B e 1 v n xs) (hb : Below w.heap.size w w') : w'.ownsRow B e 1 v n xs :=
  h.kept (gr_of_below hb none) (by cases v.ownBlock <;> simp)
theorem apn_bel {B n : Nat} {w wr w1 : World} {o : Obj} {v : Value} {xs : List Value} {e : TypeId} (hb : Below B w wr) (hz : B ≤ wr.heap.size) (ho : wr.ownsRow B e 1 v n xs) (hg : (wr.alloc o).grownBy w1 v.ownBlock) : Below B w w1 := by
  refine (hb.alloc hz o).grown hg (by simp; omega) (fun k hk => ?_)
  rcases ho.2 with ⟨rfl, _⟩ | ⟨g, cap, cur, rfl, hle, _⟩
  · cases hk
  · simp [Value.ownBlock] at hk; omega
theorem _root_.Go.World.ownsRow.lower {B B' n k : Nat} {w : World} {v : Value} {xs : List Value} {e : TypeId} (h : w.ownsRow B e k v n xs) (hB : B' ≤ B) : w.ownsRow B' e k v n xs := by
  refine ⟨h.1, ?_⟩
  rcases h.2 with h | ⟨g, cap, cur, h1, h2, h3⟩
  · exact .inl h
  · exact .inr ⟨g, cap, cur, h1, by omega, h3⟩
theorem own_txl {w : World} {B : Nat} {v : Value} {xs : List ByteArray} {e : TypeId} (h : w.ownsRow B e 1 v xs.length (sv xs)) : ∃ a c, v = .slice a xs.length c ∧ TxL w a xs ∧ (∀ b o s, a = some ⟨b, o, s⟩ → B ≤ b) := by
  rcases h.2 with ⟨rfl, h0⟩ | ⟨g, cap, cur, rfl, hle, hg, hn, _, hc, ht⟩
  · have : xs = [] := List.eq_nil_of_length_eq_zero h0
    subst this
    exact ⟨none, 0, rfl, fun i c hc => by simp at hc, fun b o s e => by cases e⟩
  · refine ⟨some ⟨g, 0, none⟩, cap, rfl, fun i c hi => ⟨g, 0, rfl, (Array.getElem?_eq_some_iff.1 hg).1, ?_⟩, fun b o s e => by cases e; exact hle⟩
    have hl : i < xs.length := (List.getElem?_eq_some_iff.1 hi).1
    have e := congrArg (·[i]?) ht
    rw [Nat.mul_one] at e
    simp only [List.getElem?_take, if_pos hl, sv, List.getElem?_map, hi, Option.map_some] at e
    simp only [World.cell?, hg, Nat.zero_add]
    rw [← Array.getElem?_toList]; exact e
end Go.Proofs.YtplfjfhpdfbpeaaDoor
