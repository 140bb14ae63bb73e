import Derived.Test.YteccnnpialaalaaDoorY1
import Derived.RegionTactic
import Derived.Deep.MidRow
import Derived.Lib.SmallJoins
import Derived.ChangeAlike
/- Plain facts: the checksum of 32 bits (no program in sight): a byte that is turned is told. -/
namespace Go.Proofs.YteccnnpialaalaaDoor
set_option linter.unusedSimpArgs false
set_option linter.unusedVariables false
open Go
def poly : BitVec 32 := 0xEDB88320#32
/-- One bit goes out. -/
def sh1 (n : BitVec 32) : BitVec 32 := (n >>> 1) ^^^ (if n.getLsbD 0 then poly else 0#32)
/-- So many bits go out. -/
def shN32 : Nat → BitVec 32 → BitVec 32
  | 0, n => n
  | k + 1, n => sh1 (shN32 k n)
/-- A byte more. -/
def cst (n : BitVec 32) (b : UInt8) : BitVec 32 := shN32 8 (n ^^^ BitVec.ofNat 32 b.toNat)
def crcR (n : BitVec 32) (l : List UInt8) : BitVec 32 := l.foldl cst n
/-- A checksum gone on with. -/
def onC (c : BitVec 32) (l : List UInt8) : BitVec 32 := ~~~ (crcR (~~~ c) l)
def crcC (l : List UInt8) : BitVec 32 := onC 0#32 l
theorem crcR_append (n : BitVec 32) (a b : List UInt8) : crcR n (a ++ b) = crcR (crcR n a) b := List.foldl_append
theorem crcR_snoc (n : BitVec 32) (a : List UInt8) (b : UInt8) : crcR n (a ++ [b]) = cst (crcR n a) b := by simp [crcR]
theorem onC_append (c : BitVec 32) (a b : List UInt8) : onC (onC c a) b = onC c (a ++ b) := by
  simp [onC, crcR_append]
theorem onC_crc (a b : List UInt8) : onC (crcC a) b = crcC (a ++ b) := onC_append _ _ _
theorem sh1_top (n : BitVec 32) : (sh1 n).getLsbD 31 = n.getLsbD 0 := by
  unfold sh1
  rw [BitVec.getLsbD_xor, BitVec.getLsbD_ushiftRight, BitVec.getLsbD_of_ge n (1 + 31) (by omega)]
  cases n.getLsbD 0
  · simp
  · simp [poly]
theorem sh1_inj {n m : BitVec 32} (h : sh1 n = sh1 m) : n = m := by
  have h0 : n.getLsbD 0 = m.getLsbD 0 := by rw [← sh1_top, ← sh1_top, h]
  have h1 : n >>> 1 = m >>> 1 := by
    unfold sh1 at h
    rw [h0] at h
    have := congrArg (· ^^^ (if m.getLsbD 0 then poly else 0#32)) h
    simpa [BitVec.xor_assoc] using this
  apply BitVec.eq_of_getLsbD_eq
  intro i hi
  cases i with
  | zero => exact h0
  | succ i =>
    have := congrArg (fun x => x.getLsbD i) h1
    simp only [BitVec.getLsbD_ushiftRight] at this
    rwa [Nat.add_comm 1 i] at this
theorem shN32_inj : ∀ (k : Nat) {n m : BitVec 32}, shN32 k n = shN32 k m → n = m
  | 0, _, _, h => h
  | k + 1, _, _, h => shN32_inj k (sh1_inj h)
theorem xor_right_inj {a b c : BitVec 32} (h : a ^^^ c = b ^^^ c) : a = b := by
  have := congrArg (· ^^^ c) h
  simpa [BitVec.xor_assoc] using this
theorem xor_left_inj {a b c : BitVec 32} (h : c ^^^ a = c ^^^ b) : a = b := by
  rw [BitVec.xor_comm c a, BitVec.xor_comm c b] at h
  exact xor_right_inj h
theorem cst_inj {n m : BitVec 32} {b : UInt8} (h : cst n b = cst m b) : n = m := xor_right_inj (shN32_inj 8 h)
theorem cst_byte {n : BitVec 32} {b c : UInt8} (h : cst n b = cst n c) : b = c := by
  have h2 := xor_left_inj (shN32_inj 8 h)
  have h3 := congrArg BitVec.toNat h2
  have hb := b.toNat_lt
  have hc := c.toNat_lt
  simp only [BitVec.toNat_ofNat] at h3
  rw [Nat.mod_eq_of_lt (by omega), Nat.mod_eq_of_lt (by omega)] at h3
  exact UInt8.toNat.inj h3
theorem crcR_inj : ∀ (l : List UInt8) {n m : BitVec 32}, crcR n l = crcR m l → n = m
  | [], _, _, h => h
  | b :: l, n, m, h => cst_inj (crcR_inj l h)
theorem crcC_turn (a r : List UInt8) (b c : UInt8) (h : crcC (a ++ b :: r) = crcC (a ++ c :: r)) : b = c := by
  unfold crcC onC at h
  have h1 : crcR (~~~ 0#32) (a ++ b :: r) = crcR (~~~ 0#32) (a ++ c :: r) := by
    have := congrArg (~~~ ·) h
    simpa using this
  rw [crcR_append, crcR_append] at h1
  exact cst_byte (crcR_inj r h1)
/-- A frame. -/
def frL (p : List UInt8) : List UInt8 := by8 (fixN 4 p.length) ++ (by8 (fixN 4 (crcC (by8 (fixN 4 p.length) ++ p)).toNat) ++ p)
def frm (p : ByteArray) : ByteArray := ⟨(frL (bl p)).toArray⟩
theorem bl_frm (p : ByteArray) : bl (frm p) = frL (bl p) := by simp [bl, frm]
theorem frL_length (p : List UInt8) : (frL p).length = 8 + p.length := by simp [frL, by8_length, fixN_length]; omega
theorem frm_size (p : ByteArray) : (frm p).size = 8 + p.size := by rw [← bl_length, bl_frm, frL_length, bl_length]
/-- Whether a frame stands at the front, its payload's length told first. -/
def ufOk (l : List UInt8) : Bool := decide (8 ≤ l.length ∧ fixV (l.take 4) ≤ 67108864 ∧ 8 + fixV (l.take 4) ≤ l.length ∧
  (crcC (l.take 4 ++ (l.drop 8).take (fixV (l.take 4)))).toNat = fixV ((l.drop 4).take 4))
def ufn (s : ByteArray) : Nat := fixV ((bl s).take 4)
def ufB (s : ByteArray) : Bool := ufOk (bl s)
/-- The payload, what stands behind it, the error. -/
def ufP (s : ByteArray) : ByteArray := if ufB s = true then s.extract 8 (8 + ufn s) else ⟨#[]⟩
def ufR (s : ByteArray) : ByteArray := if ufB s = true then s.extract (8 + ufn s) s.size else ⟨#[]⟩
def ufE (s : ByteArray) : Int := if ufB s = true then 0 else 4
theorem ufB_iff (s : ByteArray) : ufB s = true ↔ (8 ≤ s.size ∧ ufn s ≤ 67108864 ∧ 8 + ufn s ≤ s.size ∧
    (crcC ((bl s).take 4 ++ ((bl s).drop 8).take (ufn s))).toNat = fixV (((bl s).drop 4).take 4)) := by
  unfold ufB ufOk
  rw [decide_eq_true_iff, bl_length]; rfl
theorem uf_yes {s : ByteArray} (h : ufB s = true) : ufP s = s.extract 8 (8 + ufn s) ∧ ufR s = s.extract (8 + ufn s) s.size ∧ ufE s = 0 :=
  ⟨if_pos h, if_pos h, if_pos h⟩
theorem uf_no {s : ByteArray} (h : ufB s = false) : ufP s = ⟨#[]⟩ ∧ ufR s = ⟨#[]⟩ ∧ ufE s = 4 :=
  ⟨if_neg (by rw [h]; simp), if_neg (by rw [h]; simp), if_neg (by rw [h]; simp)⟩
theorem take4_front (a b : List UInt8) (h : a.length = 4) : (a ++ b).take 4 = a ∧ (a ++ b).drop 4 = b := by
  rw [← h]
  exact ⟨List.take_left, List.drop_left⟩
theorem fix4_len (n : Nat) : (by8 (fixN 4 n)).length = 4 := by rw [by8_length, fixN_length]
/-- The four parts of what opens with a frame. -/
theorem fr_parts (p t : List UInt8) : (frL p ++ t).take 4 = by8 (fixN 4 p.length) ∧ ((frL p ++ t).drop 4).take 4 = by8 (fixN 4 (crcC (by8 (fixN 4 p.length) ++ p)).toNat) ∧ (frL p ++ t).drop 8 = p ++ t := by
  have e1 := take4_front (by8 (fixN 4 p.length)) (by8 (fixN 4 (crcC (by8 (fixN 4 p.length) ++ p)).toNat) ++ (p ++ t)) (fix4_len _)
  have e2 := take4_front (by8 (fixN 4 (crcC (by8 (fixN 4 p.length) ++ p)).toNat)) (p ++ t) (fix4_len _)
  have e0 : frL p ++ t = by8 (fixN 4 p.length) ++ (by8 (fixN 4 (crcC (by8 (fixN 4 p.length) ++ p)).toNat) ++ (p ++ t)) := by simp [frL]
  refine ⟨by rw [e0, e1.1], by rw [e0, e1.2, e2.1], ?_⟩
  rw [show (8 : Nat) = 4 + 4 from rfl, ← List.drop_drop, e0, e1.2, e2.2]
theorem frame_ufn (p s t : ByteArray) (hs : s = frm p ++ t) (hp : p.size ≤ 67108864) : ufn s = p.size := by
  unfold ufn
  rw [hs, bl_append, bl_frm, (fr_parts _ _).1, bl_length, fixV_fixN 4 _ (by omega)]
/-- A frame that stands at the front is found. -/
theorem frame_uf (p s t : ByteArray) (hs : s = frm p ++ t) (hp : p.size ≤ 67108864) : ufB s = true ∧ ufP s = p ∧ ufR s = t := by
  have hn := frame_ufn p s t hs hp
  have hz : s.size = 8 + p.size + t.size := by rw [hs, ByteArray.size_append, frm_size]
  obtain ⟨e1, e2, e3⟩ := fr_parts (bl p) (bl t)
  have hbl : bl s = frL (bl p) ++ bl t := by rw [hs, bl_append, bl_frm]
  have hB : ufB s = true := by
    rw [ufB_iff]
    refine ⟨by omega, by omega, by omega, ?_⟩
    rw [hn, hbl, e1, e2, e3, fixV_fixN 4 _ (by have := (crcC (by8 (fixN 4 (bl p).length) ++ bl p)).isLt; omega)]
    congr 2
    rw [List.take_append_of_le_length (by rw [bl_length]; exact Nat.le_refl _), List.take_of_length_le (by rw [bl_length]; exact Nat.le_refl _)]
  obtain ⟨a1, a2, _⟩ := uf_yes hB
  refine ⟨hB, ?_, ?_⟩
  · rw [a1, hn]
    apply bl_inj
    rw [bl_extract, List.drop_take, hbl, e3, Nat.add_sub_cancel_left, List.take_append_of_le_length (by rw [bl_length]; exact Nat.le_refl _), List.take_of_length_le (by rw [bl_length]; exact Nat.le_refl _)]
  · rw [a2, hn]
    exact drop_front s (frm p) t _ hs (by rw [frm_size])
theorem fixV_cons4 (a b c d : UInt8) : fixV [a, b, c, d] = ((a.toNat * 256 + b.toNat) * 256 + c.toNat) * 256 + d.toNat := by simp [fixV]
theorem fixV_inj4 (x y : List UInt8) (hx : x.length = 4) (hy : y.length = 4) (h : fixV x = fixV y) : x = y := by
  match x, hx with
  | [a, b, c, d], _ =>
    match y, hy with
    | [a', b', c', d'], _ =>
      rw [fixV_cons4, fixV_cons4] at h
      have h1 := a.toNat_lt; have h2 := b.toNat_lt; have h3 := c.toNat_lt; have h4 := d.toNat_lt
      have g1 := a'.toNat_lt; have g2 := b'.toNat_lt; have g3 := c'.toNat_lt; have g4 := d'.toNat_lt
      have e1 : a.toNat = a'.toNat := by omega
      have e2 : b.toNat = b'.toNat := by omega
      have e3 : c.toNat = c'.toNat := by omega
      have e4 : d.toNat = d'.toNat := by omega
      rw [UInt8.toNat.inj e1, UInt8.toNat.inj e2, UInt8.toNat.inj e3, UInt8.toNat.inj e4]
/-- A byte of a frame's checksum or payload that is turned is told, whatever stands behind. -/
theorem turned_uf (p t s' : ByteArray) (j : Nat) (c : UInt8) (hp : p.size ≤ 67108864) (hj : 4 ≤ j) (hj2 : j < 8 + p.size) (hs : bl s' = (frL (bl p) ++ bl t).set j c)
    (hc : (frL (bl p) ++ bl t)[j]? ≠ some c) : ufB s' = false := by
  rw [Bool.eq_false_iff]
  intro hB
  rw [ufB_iff] at hB
  obtain ⟨_, _, hlen, hcrc⟩ := hB
  obtain ⟨e1, e2, e3⟩ := fr_parts (bl p) (bl t)
  have ht4 : (bl s').take 4 = (frL (bl p) ++ bl t).take 4 := by rw [hs, List.take_set_of_le hj]
  have hn : ufn s' = p.size := by
    unfold ufn
    rw [ht4, e1, bl_length, fixV_fixN 4 _ (by omega)]
  rw [hn, ht4, e1] at hcrc
  have hV := fixV_fixN 4 (crcC (by8 (fixN 4 (bl p).length) ++ bl p)).toNat (by have := (crcC (by8 (fixN 4 (bl p).length) ++ bl p)).isLt; omega)
  have hz : (frL (bl p) ++ bl t).length = 8 + p.size + t.size := by rw [List.length_append, frL_length, bl_length, bl_length]
  by_cases h8 : j < 8
  · have e8 : (bl s').drop 8 = bl p ++ bl t := by rw [hs, List.drop_set_of_lt h8, e3]
    rw [e8, List.take_append_of_le_length (by rw [bl_length]; exact Nat.le_refl _), List.take_of_length_le (by rw [bl_length]; exact Nat.le_refl _), ← hV, ← e2] at hcrc
    have hl1 : (((frL (bl p) ++ bl t).drop 4).take 4).length = 4 := by rw [e2, fix4_len]
    have hl2 : (((bl s').drop 4).take 4).length = 4 := by rw [hs]; simp only [List.length_take, List.length_drop, List.length_set]; omega
    have heq := fixV_inj4 _ _ hl1 hl2 hcrc
    apply hc
    have g1 : (((frL (bl p) ++ bl t).drop 4).take 4)[j - 4]? = (frL (bl p) ++ bl t)[j]? := by
      rw [List.getElem?_take_of_lt (by omega), List.getElem?_drop]; congr 1; omega
    have g2 : (((bl s').drop 4).take 4)[j - 4]? = some c := by
      rw [List.getElem?_take_of_lt (by omega), List.getElem?_drop, hs, show 4 + (j - 4) = j from by omega, List.getElem?_set_self (by omega)]
    rw [← g1, heq, g2]
  · have e4 : ((bl s').drop 4).take 4 = ((frL (bl p) ++ bl t).drop 4).take 4 := by
      rw [hs, List.drop_set, if_neg (by omega), List.take_set_of_le (by omega)]
    have e8 : (bl s').drop 8 = (bl p ++ bl t).set (j - 8) c := by
      rw [hs, List.drop_set, if_neg (by omega), e3]
    have hjp : j - 8 < (bl p).length := by rw [bl_length]; omega
    rw [e4, e2, hV, e8, List.set_append, if_pos hjp, List.take_append_of_le_length (by rw [List.length_set, bl_length]; exact Nat.le_refl _),
      List.take_of_length_le (by rw [List.length_set, bl_length]; exact Nat.le_refl _)] at hcrc
    have hsp : bl p = (bl p).take (j - 8) ++ (bl p)[j - 8] :: (bl p).drop (j - 8 + 1) := by
      rw [List.getElem_cons_drop, List.take_append_drop]
    have hst : (bl p).set (j - 8) c = (bl p).take (j - 8) ++ c :: (bl p).drop (j - 8 + 1) := List.set_eq_take_append_cons_drop .. |>.trans (if_pos hjp)
    have hq := BitVec.eq_of_toNat_eq hcrc
    rw [hst, ← List.append_assoc] at hq
    have hq2 : crcC ((by8 (fixN 4 (bl p).length) ++ (bl p).take (j - 8)) ++ c :: (bl p).drop (j - 8 + 1)) = crcC ((by8 (fixN 4 (bl p).length) ++ (bl p).take (j - 8)) ++ (bl p)[j - 8] :: (bl p).drop (j - 8 + 1)) := by
      rw [hq, List.append_assoc, ← hsp]
    have := crcC_turn _ _ _ _ hq2
    apply hc
    have g : (frL (bl p) ++ bl t)[j]? = some ((bl p)[j - 8]) := by
      have : (frL (bl p) ++ bl t)[j]? = ((frL (bl p) ++ bl t).drop 8)[j - 8]? := by rw [List.getElem?_drop]; congr 1; omega
      rw [this, e3, List.getElem?_append_left hjp, List.getElem?_eq_getElem hjp]
    rw [g, ← this]
/-- A frame that is cut short is none. -/
theorem cut_uf (p s : ByteArray) (k : Nat) (hp : p.size ≤ 67108864) (hk : k < 8 + p.size) (hs : bl s = (frL (bl p)).take k) : ufB s = false := by
  rw [Bool.eq_false_iff]
  intro hB
  rw [ufB_iff] at hB
  obtain ⟨h8, _, hlen, _⟩ := hB
  have hz : s.size = k := by rw [← bl_length, hs, List.length_take, frL_length, bl_length]; omega
  have e1 := (fr_parts (bl p) []).1
  rw [List.append_nil] at e1
  have hn : ufn s = p.size := by
    unfold ufn
    rw [hs, List.take_take, Nat.min_eq_left (by omega), e1, bl_length, fixV_fixN 4 _ (by omega)]
  omega
end Go.Proofs.YteccnnpialaalaaDoor
/- The walk of frame's closure: a byte more. -/
namespace Go.Proofs.YteccnnpialaalaaDoor
open Go.RowKit
set_option linter.unusedSimpArgs false
set_option linter.unusedVariables false
theorem ofByte (b : Nat) (h : b < 256) : (b : Int) = ((BitVec.ofNat 32 (UInt8.ofNat b).toNat).toNat : Int) := by
  rw [toNat_ofNat8 b h, BitVec.toNat_ofNat, Nat.mod_eq_of_lt (by omega)]
theorem one32 : (1 : Int) = ((1#32).toNat : Int) := by decide
theorem poly32 : (3988292384 : Int) = (poly.toNat : Int) := by decide
theorem neg32 (x : BitVec 32) : (-(x.toNat : Int)) % 4294967296 = ((-x).toNat : Int) := by
  rw [BitVec.toNat_neg]
  have := x.isLt
  omega
theorem out_bit (n : BitVec 32) : poly &&& -(n &&& 1#32) = if n.getLsbD 0 then poly else 0#32 := by
  have h : n &&& 1#32 = if n.getLsbD 0 then 1#32 else 0#32 := by
    apply BitVec.eq_of_getLsbD_eq
    intro i hi
    rw [BitVec.getLsbD_and]
    cases i with
    | zero => cases n.getLsbD 0 <;> simp
    | succ i => cases n.getLsbD 0 <;> simp [BitVec.getLsbD_one]
  rw [h]
  cases n.getLsbD 0
  · decide
  · decide
theorem sh1_raw (n : BitVec 32) : bits .xor .u32 ((n.toNat : Int) / 2) (bits .and .u32 3988292384 ((-(bits .and .u32 (n.toNat : Int) 1)) % 4294967296)) = ((sh1 n).toNat : Int) := by
  have e : (n.toNat : Int) / (2 : Int) = ((n >>> 1).toNat : Int) := by rw [BitVec.toNat_ushiftRight, Nat.shiftRight_eq_div_pow]; omega
  rw [e, one32, and32, neg32, poly32, and32, xor32, out_bit, sh1]
set_option maxHeartbeats 400000 in
set_option maxRecDepth 100000 in
theorem onStep_any (n : BitVec 32) (b : Nat) (c : Nat) (T : TypeId) (w : World) (hb : b < 256) (hB : Blk w c #[c32 n] T) :
    Calls Tryd.prog 73 #[.int .u8 b, .pointer (some ⟨c, 0, none⟩)] w fun e w' => e = .returned (.tuple #[]) ∧ Blk w' c #[c32 (cst n (UInt8.ofNat b))] T ∧ w.grownBy w' (some c) := by
  have h0 := hB.cell 0
  have hf := hB.frozen 0
  go_enter Tryd.func73, Tryd.ntmps73
  go_wp2
  go_loopw [7] (fun i wr => ∃ (k : Nat) (m : BitVec 32), k ≤ 8 ∧ i = .int .i64 k ∧ Blk wr c #[c32 m] T ∧ w.grownBy wr (some c) ∧ Hid (m = shN32 k (n ^^^ BitVec.ofNat 32 (UInt8.ofNat b).toNat))) (fun i _ => 8 - (intOf i).toNat)
  case atStart =>
    refine ⟨0, n ^^^ BitVec.ofNat 32 (UInt8.ofNat b).toNat, by omega, rfl, ?_, Lib.grownBy_setB (World.grownBy.refl _ _) 0 _, rfl⟩
    rw [ofByte b hb, xor32]
    exact hB.set 0 _
  case round =>
    obtain ⟨k, m, hk, rfl, hM, hg, HM⟩ := hrel
    have m0 := hM.cell 0
    have mf := hM.frozen 0
    by_cases hlt : k < 8
    · clear h0 hf
      go_wp2
      go_roundw
      case rel =>
        refine ⟨k + 1, sh1 m, by omega, by go_num, ?_, Lib.grownBy_setB hg 0 _, ?_⟩
        · rw [sh1_raw]; exact hM.set 0 _
        · rw [HM.out]; rfl
      case measure => simp [intOf]; omega
    · clear h0 hf
      go_wp2
      go_end0
      have hk8 : k = 8 := by omega
      subst hk8
      rw [HM.out] at hM
      exact ⟨rfl, hM, hg⟩
end Go.Proofs.YteccnnpialaalaaDoor
/- The walk of wire.PutFixed. -/
namespace Go.Proofs.YteccnnpialaalaaDoor
open Go.RowKit
set_option linter.unusedSimpArgs false
set_option linter.unusedVariables false
theorem ret_se {a b : ByteArray} {k : IntKind} {c : Int} (h : a = b) : Ending.returned (.tuple #[.string a, .int k c]) = .returned (.tuple #[.string b, .int k c]) := by rw [h]
theorem slice8 (a : Addr) (h : Int) (h0 : 0 ≤ h) (h2 : h ≤ 8) (w : World) :
    (Instr.sliceAt 98 (.pointer (some a)) none (some (.int .i64 h)) none).run Tryd.prog w = .ok (.slice (some a) h.toNat 8) w := by
  have e1 : Tryd.prog.elem 98 = 5 := by kernel_rfl
  have e2 : Tryd.prog.arrayLen 98 = 8 := by kernel_rfl
  have e0 : Tryd.prog.underlying 98 = some (.array (Tryd.prog.arrayLen 98) (Tryd.prog.elem 98)) := by kernel_rfl
  rw [run_sliceAt_array_h (P := Tryd.prog) w 98 a e0 .i64 h h0 (by rw [e2]; exact h2)]
  rw [e1, e2, sizeOf_u8]
  simp [slicedAt, Result.andThen, Addr.add]
theorem fix_next (n k d : Nat) (arr : Array Value) (b : Int) (hk : k < d) (hd : d ≤ 8) (hsz : arr.size = 8) (hall : ∀ j, j < 8 → ∃ z, arr[j]? = some (.int .u8 z))
    (harr : ∀ j, j < k → arr[d - 1 - j]? = some (.int .u8 (n / 256 ^ j % 256 : Nat))) (hb : b = (n / 256 ^ k % 256 : Nat)) :
    (arr.setIfInBounds (d - 1 - k) (.int .u8 b)).size = 8 ∧ (∀ j, j < 8 → ∃ z, (arr.setIfInBounds (d - 1 - k) (.int .u8 b))[j]? = some (.int .u8 z)) ∧
      ∀ j, j < k + 1 → (arr.setIfInBounds (d - 1 - k) (.int .u8 b))[d - 1 - j]? = some (.int .u8 (n / 256 ^ j % 256 : Nat)) := by
  refine ⟨by simp [hsz], fun j hj => ?_, fun j hj => ?_⟩
  · rw [Array.getElem?_setIfInBounds]
    split
    · exact ⟨b, by simp [hsz]; omega⟩
    · exact hall j hj
  · rw [Array.getElem?_setIfInBounds]
    split
    · rename_i e; have e : k = j := by omega
      subst e; rw [if_pos (by omega), hb]
    · exact harr j (by omega)
theorem fix_conv (n d : Nat) (arr : Array Value) (w : World) (T : TypeId) (hd : d ≤ 8) (hsz : arr.size = 8)
    (harr : ∀ j, j < d → arr[d - 1 - j]? = some (.int .u8 (n / 256 ^ j % 256 : Nat))) :
    (convert 48 9 (.slice (some ⟨w.heap.size, 0, none⟩) d 8)).run Tryd.prog (w.alloc (.cells arr T)) = .ok (.string (sb (fixN d n))) (w.alloc (.cells arr T)) := by
  rw [← sb_nums]
  refine run_convert_bytes_arg _ 48 5 Tryd.underlying48 Tryd.underlying5 _ 0 d 8 _ (by simp [fixN_length]) (fun i hi => ?_) 9 Tryd.underlying9
  rw [Nat.zero_add, World.cell?_alloc_new, List.getD, List.getElem?_map]
  have e1 := harr (d - 1 - i) (by omega)
  have e2 := fixN_get d n (d - 1 - i) (by omega)
  rw [show d - 1 - (d - 1 - i) = i from by omega] at e1 e2
  rw [e1, e2]
  rfl
set_option maxHeartbeats 400000 in
theorem putFixed_ok (s : ByteArray) (x : Int) (d : Nat) (w : World) (h0 : 0 ≤ x) (h1 : x ≤ 18446744073709551615) (hd1 : 1 ≤ d) (hd2 : d ≤ 8) (hfit : x.toNat < 256 ^ d) (hs : s.size ≤ 4611686018427387904) :
    Calls Tryd.prog 40 #[.string s, .int .u64 x, .int .i64 d] w fun e w' => e = .returned (.tuple #[.string (s ++ sb (fixN d x.toNat)), .int .i64 0]) ∧ Below w.heap.size w w' := by
  have hbl : (Lib.bitLen x.toNat : Int) ≤ 8 * (d : Int) := by have := (bitLen_fits x.toNat d (by omega)).2 hfit; omega
  have hiw : isW (d : Int) = true := isW_yes (by omega) (by omega)
  obtain ⟨n, hn⟩ : ∃ n, n = x.toNat := ⟨_, rfl⟩
  have HN : Hid (n = x.toNat) := hn
  clear hn hfit
  go_enter Tryd.func40, Tryd.ntmps40
  go_wp2_with (first | (go_at_call 58; refine (isWidth_any _ _).mono ?_; rintro e w' ⟨rfl, rfl⟩; rw [hiw]) | (go_at_call 57; refine (len64_any x _ h0 h1).mono ?_; rintro e w' ⟨rfl, rfl⟩))
  go_loopw [1, 21] (fun v i wr => ∃ (k y : Nat) (arr : Array Value), k ≤ d ∧ i = .int .i64 k ∧ v = .int .u64 y ∧ y < 2 ^ 64 ∧ wr = w'.alloc (.cells arr 98) ∧ Hid (y = n / 256 ^ k ∧ arr.size = 8 ∧ (∀ j, j < 8 → ∃ z, arr[j]? = some (.int .u8 z)) ∧ ∀ j, j < k → arr[d - 1 - j]? = some (.int .u8 (n / 256 ^ j % 256 : Nat)))) (fun _ i _ => 10 - (intOf i).toNat)
  case atStart =>
    refine ⟨0, x.toNat, _, Nat.zero_le _, rfl, by go_num, by omega, rfl, ⟨by simp [HN.out], by simp, fun j hj => ?_, fun j hj => by omega⟩⟩
    refine ⟨0, ?_⟩
    rw [show (#[Value.int .u8 0, Value.int .u8 0, Value.int .u8 0, Value.int .u8 0, Value.int .u8 0, Value.int .u8 0, Value.int .u8 0, Value.int .u8 0] : Array Value) = Array.replicate 8 (Value.int .u8 0) from rfl]
    simp [hj]
  case round =>
    obtain ⟨k, y, arr, hk, rfl, rfl, hy, rfl, HR⟩ := hrel
    by_cases hlt : k < d
    · obtain ⟨z, hz⟩ := HR.out.2.2.1 (d - 1 - k) (by omega)
      have hz' : arr[((d : Int) - 1 - k).toNat]? = some (.int .u8 z) := by rw [show ((d : Int) - 1 - k).toNat = d - 1 - k from by omega]; exact hz
      go_wp2
      go_roundw
      case rel => 
        obtain ⟨hy, a1, a2, a3⟩ := HR.out
        refine ⟨k + 1, y / 256, _, by omega, by go_num, by go_num, by omega, rfl, ⟨?_, ?_⟩⟩
        · rw [hy, Nat.div_div_eq_div_mul, Nat.pow_succ]
        · exact fix_next n k d arr _ (by omega) (by omega) a1 a2 a3 (by rw [← hy]; omega)
      case measure => simp [intOf]; omega
    · obtain ⟨z, hz⟩ := HR.out.2.2.1 (d - 1) (by omega)
      have hke : k = d := by omega
      subst hke
      have hc := fix_conv n k arr w' 98 (by omega) HR.out.2.1 HR.out.2.2.2
      have hsl := slice8 ⟨w'.heap.size, 0, none⟩ (k : Int) (by omega) (by omega)
      have hsb : (sb (fixN k n)).size ≤ 10 := by rw [sb_size, fixN_length]; omega
      go_wp2
      go_ret2
      exact ⟨ret_se (by rw [HN.out]), by go_grown⟩
set_option maxHeartbeats 400000 in
theorem putFixed_no (s : ByteArray) (x d : Int) (w : World) (h0 : 0 ≤ x) (h1 : x ≤ 18446744073709551615) (hno : isW d = true → 256 ^ d.toNat ≤ x.toNat) :
    Calls Tryd.prog 40 #[.string s, .int .u64 x, .int .i64 d] w fun e w' => e = .returned (.tuple #[.string ⟨#[]⟩, .int .i64 1]) ∧ w' = w := by
  have H : Hid (isW d = true → 256 ^ d.toNat ≤ x.toNat) := hno
  clear hno
  cases hiw : isW d
  · clear H
    go_enter Tryd.func40, Tryd.ntmps40
    go_wp2_with (go_at_call 58; refine (isWidth_any _ _).mono ?_; rintro e w' ⟨rfl, rfl⟩; rw [hiw])
    go_ret2
    exact ⟨rfl, rfl⟩
  · have hd := isW_iff.1 hiw
    have hb : 8 * d < (Lib.bitLen x.toNat : Int) := by
      have := bitLen_fits x.toNat d.toNat (by omega)
      have := H.out hiw
      omega
    clear H
    go_enter Tryd.func40, Tryd.ntmps40
    go_wp2_with (first | (go_at_call 58; refine (isWidth_any _ _).mono ?_; rintro e w' ⟨rfl, rfl⟩; rw [hiw]) | (go_at_call 57; refine (len64_any x _ h0 h1).mono ?_; rintro e w' ⟨rfl, rfl⟩))
    go_ret2
    exact ⟨rfl, rfl⟩
end Go.Proofs.YteccnnpialaalaaDoor
/- The walks of frame.On, Crc, sum, Frame. -/
namespace Go.Proofs.YteccnnpialaalaaDoor
open Go.RowKit
set_option linter.unusedSimpArgs false
set_option linter.unusedVariables false
set_option maxHeartbeats 400000 in
set_option maxRecDepth 100000 in
theorem on_any (c : BitVec 32) (s : ByteArray) (w : World) (hs : s.size ≤ maxLen) :
    Calls Tryd.prog 59 #[c32 c, .string s] w fun e w' => e = .returned (c32 (onC c (bl s))) ∧ Below w.heap.size w w' := by
  unfold maxLen at hs
  have hsg : IntKind.u32.signed = false := rfl
  have hmx := max32
  obtain ⟨d, hd⟩ : ∃ d, d = ~~~ c := ⟨_, rfl⟩
  have HD : Hid (d = ~~~ c) := hd
  clear hd
  go_enter Tryd.func59, Tryd.ntmps59
  go_wp2
  rw [not32, ← HD.out]
  go_loopw [13] (fun i wr => ∃ (k : Nat) (m : BitVec 32), k ≤ s.size ∧ i = .int .i64 k ∧ Blk wr w.heap.size #[c32 m] 81 ∧ Below w.heap.size w wr ∧ Hid (m = crcR d ((bl s).take k))) (fun i _ => s.size - (intOf i).toNat)
  case atStart => exact ⟨0, d, by omega, rfl, blk_new _ _, (Below.refl _ _).alloc (Nat.le_refl _) _, rfl⟩
  case round =>
    obtain ⟨k, m, hk, rfl, hM, hbel, HM⟩ := hrel
    by_cases hlt : k < s.size
    · have HB : Hid (Blk wr w.heap.size #[c32 m] 81) := hM
      have HL : Hid (Below w.heap.size w wr) := hbel
      have hz : w.heap.size < wr.heap.size := blk_lt hM
      clear hM hbel
      go_wp2_with fail
      refine (onStep_any m s[k].toNat w.heap.size 81 wr s[k].toNat_lt HB.out).mono ?_
      rintro e w1 ⟨rfl, hM1, hg1⟩
      rw [UInt8.ofNat_toNat] at hM1
      have HB1 : Hid (Blk w1 w.heap.size #[c32 (cst m s[k])] 81) := hM1
      have HG : Hid (wr.grownBy w1 (some w.heap.size)) := hg1
      clear hM1 hg1
      go_wp2
      go_roundw
      case rel =>
        refine ⟨k + 1, cst m s[k], by omega, by go_num, HB1.out, ?_, ?_⟩
        · exact HL.out.grown HG.out (by omega) (fun j hj => by cases hj; exact Nat.le_refl _)
        · show cst m s[k] = _
          rw [HM.out, take_snoc s k hlt, crcR_snoc]
      case measure => simp [intOf]; omega
    · have m0 := hM.cell 0
      have HL : Hid (Below w.heap.size w wr) := hbel
      clear hM hbel
      go_wp2
      go_ret
      have e : k = s.size := by omega
      refine ⟨ret_i32 ?_, HL.out⟩
      rw [not32, HM.out, e, HD.out, List.take_of_length_le (by rw [bl_length]; exact Nat.le_refl _)]
      rfl
set_option maxHeartbeats 400000 in
theorem crc_any (s : ByteArray) (w : World) (hs : s.size ≤ maxLen) :
    Calls Tryd.prog 60 #[.string s] w fun e w' => e = .returned (c32 (crcC (bl s))) ∧ Below w.heap.size w w' := by
  go_enter Tryd.func60, Tryd.ntmps60
  go_wp2_with fail
  refine (on_any 0#32 s _ hs).mono ?_
  rintro e w1 ⟨rfl, hb⟩
  go_wp2
  go_ret
  exact ⟨rfl, hb⟩
set_option maxHeartbeats 400000 in
theorem fsum_any (a s : ByteArray) (w : World) (ha : a.size ≤ maxLen) (hs : s.size ≤ maxLen) :
    Calls Tryd.prog 41 #[.string a, .string s] w fun e w' => e = .returned (c32 (crcC (bl a ++ bl s))) ∧ Below w.heap.size w w' := by
  go_enter Tryd.func41, Tryd.ntmps41
  go_wp2_with fail
  refine (crc_any a _ ha).mono ?_
  rintro e w1 ⟨rfl, hb⟩
  go_wp2_with fail
  refine (on_any _ s _ hs).mono ?_
  rintro e w2 ⟨rfl, hb2⟩
  rw [onC_crc]
  go_wp2
  go_ret
  exact ⟨rfl, hb.trans (hb2.mono hb.size)⟩
set_option maxHeartbeats 400000 in
theorem frame_no (p : ByteArray) (w : World) (hs : p.size ≤ maxLen) (hp : 67108864 < p.size) :
    Calls Tryd.prog 23 #[.string p] w fun e w' => e = .returned (.tuple #[.string ⟨#[]⟩, .int .i64 1]) ∧ w' = w := by
  unfold maxLen at hs
  go_enter Tryd.func23, Tryd.ntmps23
  go_wp2
  go_ret2
  exact ⟨rfl, rfl⟩
theorem emp_append (a : ByteArray) : (⟨#[]⟩ : ByteArray) ++ a = a := ByteArray.empty_append
theorem sb4_size (n : Nat) : (sb (fixN 4 n)).size = 4 := by rw [sb_size, fixN_length]
theorem frm_eq (p : ByteArray) : sb (fixN 4 p.size) ++ sb (fixN 4 (crcC (bl (sb (fixN 4 p.size)) ++ bl p)).toNat) ++ p = frm p := by
  apply bl_inj
  rw [bl_append, bl_append, bl_frm, bl_sb, bl_sb, frL, bl_length, List.append_assoc]
set_option maxHeartbeats 400000 in
theorem frame_ok (p : ByteArray) (w : World) (hp : p.size ≤ 67108864) :
    Calls Tryd.prog 23 #[.string p] w fun e w' => e = .returned (.tuple #[.string (frm p), .int .i64 0]) ∧ Below w.heap.size w w' := by
  go_enter Tryd.func23, Tryd.ntmps23
  go_wp2_with fail
  refine (putFixed_ok ⟨#[]⟩ p.size 4 _ (by omega) (by omega) (by omega) (by omega) (by rw [Int.toNat_natCast]; omega) (by decide)).mono ?_
  rintro e w1 ⟨rfl, hb1⟩
  rw [Int.toNat_natCast, emp_append]
  obtain ⟨a, ha⟩ : ∃ a, a = sb (fixN 4 p.size) := ⟨_, rfl⟩
  rw [← ha]
  have haz : a.size = 4 := by rw [ha]; exact sb4_size _
  have HA : Hid (a = sb (fixN 4 p.size)) := ha
  have HZ : Hid (a.size = 4) := haz
  have hal : a.size ≤ 4 := by omega
  clear ha haz
  go_wp2_with fail
  refine (fsum_any a p _ (by unfold maxLen; omega) (by unfold maxLen; omega)).mono ?_
  rintro e w2 ⟨rfl, hb2⟩
  obtain ⟨q, hq⟩ : ∃ q : BitVec 32, q = crcC (bl a ++ bl p) := ⟨_, rfl⟩
  rw [← hq]
  have HQ : Hid (q = crcC (bl a ++ bl p)) := hq
  have hlt := q.isLt
  clear hq
  go_wp2_with fail
  refine (putFixed_ok a q.toNat 4 _ (by omega) (by omega) (by omega) (by omega) (by rw [Int.toNat_natCast]; omega) (by omega)).mono ?_
  rintro e w3 ⟨rfl, hb3⟩
  rw [Int.toNat_natCast]
  obtain ⟨h, hh⟩ : ∃ h, h = a ++ sb (fixN 4 q.toNat) := ⟨_, rfl⟩
  rw [← hh]
  have hhz : h.size ≤ 8 := by rw [hh, append_size, sb4_size]; omega
  have HH : Hid (h = a ++ sb (fixN 4 q.toNat)) := hh
  clear hh
  go_wp2
  go_ret2
  refine ⟨ret_se ?_, ?_⟩
  · rw [HH.out, HQ.out, HA.out]; exact frm_eq p
  · exact (hb1.trans (hb2.mono hb1.size)).trans (hb3.mono (by have := hb1.size; have := hb2.size; omega))
end Go.Proofs.YteccnnpialaalaaDoor
/- The walks of wire.New and of the closure through which all is taken. -/
namespace Go.Proofs.YteccnnpialaalaaDoor
open Go.RowKit
set_option linter.unusedSimpArgs false
set_option linter.unusedVariables false
set_option maxHeartbeats 400000 in
theorem new_any (s : ByteArray) (w : World) :
    Calls Tryd.prog 47 #[.string s] w fun e w' => e = .returned (.pointer (some ⟨w.heap.size, 0, none⟩)) ∧ w' = w.alloc (.cells #[.string s] 105) := by
  go_enter Tryd.func47, Tryd.ntmps47
  go_wp2
  go_ret
  exact ⟨rfl, rfl⟩
set_option maxHeartbeats 400000 in
theorem taker_any (o : Option Addr) (w : World) :
    Calls Tryd.prog 75 #[.pointer o] w fun e w' => e = .returned (.func (Fn.func 82) #[] #[.pointer (some ⟨w.heap.size, 0, none⟩)]) ∧ w' = w.alloc (.cells #[.pointer o] 92) := by
  go_enter Tryd.func75, Tryd.ntmps75
  go_wp2
  go_ret
  exact ⟨rfl, rfl⟩
set_option maxHeartbeats 400000 in
theorem take1_no (s : ByteArray) (b c : Nat) (h n : Nat) (w : World) (hs : s.size ≤ maxLen) (hp : w.cell? ⟨c, 0, none⟩ = some (.pointer (some ⟨b, 0, none⟩))) (hc : w.cell? ⟨b, 0, none⟩ = some (.string s))
    (hh : h ≤ s.size) (hn : s.size - h < n) :
    Calls Tryd.prog 82 #[.int .i64 h, .int .u64 n, .pointer (some ⟨c, 0, none⟩)] w fun e w' => e = .returned (.tuple #[.string ⟨#[]⟩, .int .i64 4]) ∧ w' = w := by
  unfold maxLen at hs
  go_enter Tryd.func82, Tryd.ntmps82
  go_wp2
  go_ret2
  exact ⟨rfl, rfl⟩
set_option maxHeartbeats 400000 in
theorem take1_ok (s : ByteArray) (b c : Nat) (h n : Nat) (w : World) (hs : s.size ≤ maxLen) (hp : w.cell? ⟨c, 0, none⟩ = some (.pointer (some ⟨b, 0, none⟩))) (hc : w.cell? ⟨b, 0, none⟩ = some (.string s)) (hf : w.frozen? ⟨b, 0, none⟩ = false)
    (hh : h + n ≤ s.size) :
    Calls Tryd.prog 82 #[.int .i64 h, .int .u64 n, .pointer (some ⟨c, 0, none⟩)] w fun e w' => e = .returned (.tuple #[.string (s.extract h (h + n)), .int .i64 0]) ∧ w' = (w.setCell ⟨b, 0, none⟩ (.string (s.extract (h + n) s.size))).drew := by
  unfold maxLen at hs
  go_enter Tryd.func82, Tryd.ntmps82
  go_wp2
  go_region
  go_wp2
  go_ret2
  exact ⟨rfl, rfl⟩
/-- A call that turns the reader in block b alone: it holds s' now; whatever else was there is as it was. -/
structure Step (b : Nat) (w w' : World) (s' : ByteArray) : Prop where
  os : w'.os = w.os
  tape : w'.tape = w.tape
  output : w'.output = w.output
  size : w.heap.size ≤ w'.heap.size
  cell : w'.cell? ⟨b, 0, none⟩ = some (.string s')
  frozen : w'.frozen? ⟨b, 0, none⟩ = false
  block : ∀ k, k < w.heap.size → k ≠ b → w'.heap[k]? = w.heap[k]?
theorem Step.of_below {b : Nat} {w w' : World} {s : ByteArray} (h : Below w.heap.size w w') (hb : b < w.heap.size) (hc : w.cell? ⟨b, 0, none⟩ = some (.string s)) (hf : w.frozen? ⟨b, 0, none⟩ = false) : Step b w w' s :=
  ⟨h.os, h.tape, h.output, h.size, by rw [h.cell (p := ⟨b, 0, none⟩) hb]; exact hc, by rw [h.frozen (p := ⟨b, 0, none⟩) hb]; exact hf, fun k hk _ => h.block k hk⟩
theorem Step.of_set {b : Nat} {w w' : World} {s s' : ByteArray} (h : Below w.heap.size (w.setCell ⟨b, 0, none⟩ (.string s')) w') (hb : b < w.heap.size) (hc : w.cell? ⟨b, 0, none⟩ = some (.string s)) (hf : w.frozen? ⟨b, 0, none⟩ = false) : Step b w w' s' := by
  refine ⟨h.os, h.tape, h.output, by have := h.size; simpa [World.setCell] using this, ?_, ?_, fun k hk hne => ?_⟩
  · rw [h.cell (p := ⟨b, 0, none⟩) hb]; exact World.cell?_setCell_same' w _ _ (by rw [hc]; rfl)
  · rw [h.frozen (p := ⟨b, 0, none⟩) hb]; rw [← hf]; exact World.frozen?_setCell _ _ _ _
  · rw [h.block k hk]; exact Below.heap_setCell _ _ _ _ hne
/-- Behind a call that has turned the reader in block b alone, which the callers own blocks end below. -/
theorem Step.below {b B : Nat} {w w' : World} {s : ByteArray} (h : Step b w w' s) (hB : B ≤ b) (hB2 : B ≤ w.heap.size) : Below B w w' :=
  ⟨h.os, h.tape, h.output, h.size, fun k hk => h.block k (by omega) (by omega)⟩
end Go.Proofs.YteccnnpialaalaaDoor
/- What a reader's calls do to the world: small laws. -/
namespace Go.Proofs.YteccnnpialaalaaDoor
open Go.RowKit
set_option linter.unusedSimpArgs false
set_option linter.unusedVariables false
theorem al_ptr (w : World) (v : Value) (T : TypeId) : (w.alloc (.cells #[v] T)).cell? ⟨w.heap.size, 0, none⟩ = some v := by rw [World.cell?_alloc_new]; rfl
theorem al_cell {w : World} {b : Nat} {v : Value} (o : Obj) (hb : b < w.heap.size) (hc : w.cell? ⟨b, 0, none⟩ = some v) : (w.alloc o).cell? ⟨b, 0, none⟩ = some v := by rw [World.cell?_alloc_past _ _ _ hb]; exact hc
theorem al_frozen {w : World} {b : Nat} {v : Bool} (o : Obj) (hb : b < w.heap.size) (hc : w.frozen? ⟨b, 0, none⟩ = v) : (w.alloc o).frozen? ⟨b, 0, none⟩ = v := by
  rw [((Below.refl w.heap.size w).alloc (Nat.le_refl _) o).frozen (p := ⟨b, 0, none⟩) hb]; exact hc
/-- Behind the taker's box and its store. -/
theorem taken {w : World} {b : Nat} {s s' : ByteArray} (o : Obj) (hb : b < w.heap.size) (hc : w.cell? ⟨b, 0, none⟩ = some (.string s)) (hf : w.frozen? ⟨b, 0, none⟩ = false) :
    Step b w ((w.setCell ⟨b, 0, none⟩ (.string s')).alloc o).drew s' :=
  Step.of_set (((Below.refl _ _).alloc (by simp [World.setCell]) o).drew) hb hc hf
theorem untaken {w : World} {b : Nat} {s : ByteArray} (o : Obj) (hb : b < w.heap.size) (hc : w.cell? ⟨b, 0, none⟩ = some (.string s)) (hf : w.frozen? ⟨b, 0, none⟩ = false) :
    Step b w (w.alloc o) s := Step.of_below ((Below.refl _ _).alloc (Nat.le_refl _) _) hb hc hf
theorem still {w : World} {b : Nat} {s : ByteArray} (hb : b < w.heap.size) (hc : w.cell? ⟨b, 0, none⟩ = some (.string s)) (hf : w.frozen? ⟨b, 0, none⟩ = false) :
    Step b w w s := Step.of_below (Below.refl _ _) hb hc hf
end Go.Proofs.YteccnnpialaalaaDoor
/- The walks of a reader's Take. -/
namespace Go.Proofs.YteccnnpialaalaaDoor
open Go.RowKit
set_option linter.unusedSimpArgs false
set_option linter.unusedVariables false
set_option maxHeartbeats 400000 in
theorem take_arg (s : ByteArray) (b : Nat) (w : World) (hs : s.size ≤ maxLen) (hc : w.cell? ⟨b, 0, none⟩ = some (.string s)) (hf : w.frozen? ⟨b, 0, none⟩ = false) (hb : b < w.heap.size) (n : Int) (hn : n < 0) :
    Calls Tryd.prog 64 #[.pointer (some ⟨b, 0, none⟩), .int .i64 n] w fun e w' => e = .returned (.tuple #[.string ⟨#[]⟩, .int .i64 1]) ∧ Step b w w' s := by
  have HS := still hb hc hf
  go_enter Tryd.func64, Tryd.ntmps64
  go_wp2
  go_ret2
  exact ⟨rfl, HS⟩
set_option maxHeartbeats 400000 in
theorem take_no (s : ByteArray) (b : Nat) (w : World) (hs : s.size ≤ maxLen) (hc : w.cell? ⟨b, 0, none⟩ = some (.string s)) (hf : w.frozen? ⟨b, 0, none⟩ = false) (hb : b < w.heap.size) (n : Nat) (hn : s.size < n) (hn2 : n ≤ 9223372036854775807) :
    Calls Tryd.prog 64 #[.pointer (some ⟨b, 0, none⟩), .int .i64 n] w fun e w' => e = .returned (.tuple #[.string ⟨#[]⟩, .int .i64 4]) ∧ Step b w w' s := by
  have hs' := hs
  unfold maxLen at hs'
  go_enter Tryd.func64, Tryd.ntmps64
  go_wp2_with fail
  refine (taker_any _ _).mono ?_
  rintro e w1 ⟨rfl, rfl⟩
  go_wp2_with fail
  refine (take1_no s b w.heap.size 0 n _ hs (al_ptr _ _ _) (al_cell _ hb hc) (by omega) (by omega)).mono ?_
  rintro e w1 ⟨rfl, rfl⟩
  go_wp2
  go_ret2
  exact ⟨rfl, untaken _ hb hc hf⟩
set_option maxHeartbeats 400000 in
theorem take_ok (s : ByteArray) (b : Nat) (w : World) (hs : s.size ≤ maxLen) (hc : w.cell? ⟨b, 0, none⟩ = some (.string s)) (hf : w.frozen? ⟨b, 0, none⟩ = false) (hb : b < w.heap.size) (n : Nat) (hn : n ≤ s.size) :
    Calls Tryd.prog 64 #[.pointer (some ⟨b, 0, none⟩), .int .i64 n] w fun e w' => e = .returned (.tuple #[.string (s.extract 0 n), .int .i64 0]) ∧ Step b w w' (s.extract n s.size) := by
  have hs' := hs
  unfold maxLen at hs'
  go_enter Tryd.func64, Tryd.ntmps64
  go_wp2_with fail
  refine (taker_any _ _).mono ?_
  rintro e w1 ⟨rfl, rfl⟩
  go_wp2_with fail
  refine (take1_ok s b w.heap.size 0 n _ hs (al_ptr _ _ _) (al_cell _ hb hc) (al_frozen _ hb hf) (by omega)).mono ?_
  rintro e w1 ⟨rfl, rfl⟩
  rw [Nat.zero_add]
  go_wp2
  go_ret2
  exact ⟨rfl, taken _ hb hc hf⟩
set_option maxHeartbeats 400000 in
theorem take_nil (w : World) (n : Int) :
    Calls Tryd.prog 64 #[.pointer none, .int .i64 n] w fun e w' => e = .returned (.tuple #[.string ⟨#[]⟩, .int .i64 2]) ∧ w' = w := by
  go_enter Tryd.func64, Tryd.ntmps64
  go_wp2
  go_ret2
  exact ⟨rfl, rfl⟩
end Go.Proofs.YteccnnpialaalaaDoor
/- The walk of a reader's Fixed. -/
namespace Go.Proofs.YteccnnpialaalaaDoor
open Go.RowKit
set_option linter.unusedSimpArgs false
set_option linter.unusedVariables false
theorem ret_ue {a b : Nat} {k l : IntKind} {c : Int} (h : a = b) : Ending.returned (.tuple #[.int k a, .int l c]) = .returned (.tuple #[.int k b, .int l c]) := by rw [h]
set_option maxHeartbeats 400000 in
theorem fixed_nil (w : World) (m : Int) :
    Calls Tryd.prog 63 #[.pointer none, .int .i64 m] w fun e w' => e = .returned (.tuple #[.int .u64 0, .int .i64 2]) ∧ w' = w := by
  go_enter Tryd.func63, Tryd.ntmps63
  go_wp2
  go_ret2
  exact ⟨rfl, rfl⟩
set_option maxHeartbeats 400000 in
theorem fixed_arg (s : ByteArray) (b : Nat) (w : World) (hs : s.size ≤ maxLen) (hc : w.cell? ⟨b, 0, none⟩ = some (.string s)) (hf : w.frozen? ⟨b, 0, none⟩ = false) (hb : b < w.heap.size) (m : Int) (hm : isW m = false) :
    Calls Tryd.prog 63 #[.pointer (some ⟨b, 0, none⟩), .int .i64 m] w fun e w' => e = .returned (.tuple #[.int .u64 0, .int .i64 1]) ∧ Step b w w' s := by
  have HS := still hb hc hf
  go_enter Tryd.func63, Tryd.ntmps63
  go_wp2_with (go_at_call 58; refine (isWidth_any _ _).mono ?_; rintro e w' ⟨rfl, rfl⟩; rw [hm])
  go_ret2
  exact ⟨rfl, HS⟩
set_option maxHeartbeats 400000 in
theorem fixed_no (s : ByteArray) (b : Nat) (w : World) (hs : s.size ≤ maxLen) (hc : w.cell? ⟨b, 0, none⟩ = some (.string s)) (hf : w.frozen? ⟨b, 0, none⟩ = false) (hb : b < w.heap.size) (d : Nat) (hd1 : 1 ≤ d) (hd2 : d ≤ 8) (hl : s.size < d) :
    Calls Tryd.prog 63 #[.pointer (some ⟨b, 0, none⟩), .int .i64 d] w fun e w' => e = .returned (.tuple #[.int .u64 0, .int .i64 4]) ∧ Step b w w' s := by
  have hiw : isW (d : Int) = true := isW_yes (by omega) (by omega)
  go_enter Tryd.func63, Tryd.ntmps63
  go_wp2_with (go_at_call 58; refine (isWidth_any _ _).mono ?_; rintro e w' ⟨rfl, rfl⟩; rw [hiw])
  refine (taker_any _ _).mono ?_
  rintro e w1 ⟨rfl, rfl⟩
  go_wp2_with fail
  refine (take1_no s b w'.heap.size 0 d _ hs (al_ptr _ _ _) (al_cell _ hb hc) (by omega) (by omega)).mono ?_
  rintro e w1 ⟨rfl, rfl⟩
  go_wp2
  refine wp_loop_rounds 1 ?_
  rw [rounds_succ]
  go_wp2
  go_ret2
  exact ⟨rfl, untaken _ hb hc hf⟩
set_option maxHeartbeats 400000 in
theorem fixed_ok (s : ByteArray) (b : Nat) (w : World) (hs : s.size ≤ maxLen) (hc : w.cell? ⟨b, 0, none⟩ = some (.string s)) (hf : w.frozen? ⟨b, 0, none⟩ = false) (hb : b < w.heap.size) (d : Nat) (hd1 : 1 ≤ d) (hd2 : d ≤ 8) (hl : d ≤ s.size) :
    Calls Tryd.prog 63 #[.pointer (some ⟨b, 0, none⟩), .int .i64 d] w fun e w' => e = .returned (.tuple #[.int .u64 (fixV ((bl s).take d)), .int .i64 0]) ∧ Step b w w' (s.extract d s.size) := by
  have hiw : isW (d : Int) = true := isW_yes (by omega) (by omega)
  obtain ⟨t, ht⟩ : ∃ t, t = s.extract 0 d := ⟨_, rfl⟩
  have htz : t.size = d := by subst ht; simp; omega
  have HT : Hid (bl t = (bl s).take d) := by subst ht; exact extract_take s d hl
  go_enter Tryd.func63, Tryd.ntmps63
  go_wp2_with (go_at_call 58; refine (isWidth_any _ _).mono ?_; rintro e w' ⟨rfl, rfl⟩; rw [hiw])
  refine (taker_any _ _).mono ?_
  rintro e w1 ⟨rfl, rfl⟩
  go_wp2_with fail
  refine (take1_ok s b w'.heap.size 0 d _ hs (al_ptr _ _ _) (al_cell _ hb hc) (al_frozen _ hb hf) (by omega)).mono ?_
  rintro e w1 ⟨rfl, rfl⟩
  rw [Nat.zero_add, ← ht]
  clear ht
  have HW : Hid (Step b w' ((w'.setCell ⟨b, 0, none⟩ (.string (s.extract d s.size))).alloc (.cells #[.pointer (some ⟨b, 0, none⟩)] 92)).drew (s.extract d s.size)) := taken _ hb hc hf
  go_wp2
  go_loop [8, 25] (fun v i => ∃ (k acc : Nat), k ≤ d ∧ acc < 2 ^ 64 ∧ i = .int .i64 k ∧ v = .int .u64 acc ∧ Hid (acc = fixV ((bl t).take k))) (fun _ i => 10 - (intOf i).toNat)
  case atStart => exact ⟨0, 0, by omega, by omega, rfl, rfl, rfl⟩
  case round =>
    obtain ⟨k, acc, hk1, hacc, rfl, rfl, HR⟩ := hrel
    by_cases hlt : k < d
    · have hkt : k < t.size := by omega
      go_wp2
      go_round
      case rel =>
        have hlt256 := t[k].toNat_lt
        have hl : acc < 256 ^ k := by
          have := fixV_lt ((bl t).take k)
          rw [← HR.out, List.length_take, bl_length, htz, Nat.min_eq_left (by omega)] at this
          exact this
        obtain ⟨e1, e2⟩ := fixStep acc t[k].toNat k hlt256 (by omega) hl
        refine ⟨k + 1, _, by omega, e2, by go_num, ?_, ?_⟩
        · rw [← e1, show IntKind.u64.wrap (t[k].toNat : Int) = t[k].toNat from by rw [IntKind.wrap_u64]; omega]
        · rw [take_snoc t k hkt, fixV_snoc, ← HR.out]; rfl
      case measure => simp [intOf]; omega
    · go_wp2
      go_ret2
      refine ⟨ret_ue ?_, HW.out⟩
      have e : k = d := by omega
      rw [HR.out, HT.out, List.take_take, e, Nat.min_self]
end Go.Proofs.YteccnnpialaalaaDoor
