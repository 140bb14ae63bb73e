/- Plain facts: the checksum of 32 bits (no program in sight): a byte that is turned is told. -/
import Derived.Test.YtbfdggkoildfkaaP4
namespace Go.Proofs.Ytbfdggkoildfkaa
set_option linter.unusedSimpArgs false
set_option linter.unusedVariables false
open Go
def poly : BitVec 32 := 0xEDB88320#32
/-- One bit goes out. -/
def sh1 (n : BitVec 32) : BitVec 32 := (n >>> 1) ^^^ (if n.getLsbD 0 then poly else 0#32)
/-- So many bits go out. -/
def shN32 : Nat → BitVec 32 → BitVec 32
  | 0, n => n
  | k + 1, n => sh1 (shN32 k n)
/-- A byte more. -/
def cst (n : BitVec 32) (b : UInt8) : BitVec 32 := shN32 8 (n ^^^ BitVec.ofNat 32 b.toNat)
def crcR (n : BitVec 32) (l : List UInt8) : BitVec 32 := l.foldl cst n
/-- A checksum gone on with. -/
def onC (c : BitVec 32) (l : List UInt8) : BitVec 32 := ~~~ (crcR (~~~ c) l)
def crcC (l : List UInt8) : BitVec 32 := onC 0#32 l
theorem crcR_append (n : BitVec 32) (a b : List UInt8) : crcR n (a ++ b) = crcR (crcR n a) b := List.foldl_append
theorem crcR_snoc (n : BitVec 32) (a : List UInt8) (b : UInt8) : crcR n (a ++ [b]) = cst (crcR n a) b := by simp [crcR]
theorem onC_append (c : BitVec 32) (a b : List UInt8) : onC (onC c a) b = onC c (a ++ b) := by
  simp [onC, crcR_append]
theorem onC_crc (a b : List UInt8) : onC (crcC a) b = crcC (a ++ b) := onC_append _ _ _
theorem sh1_top (n : BitVec 32) : (sh1 n).getLsbD 31 = n.getLsbD 0 := by
  unfold sh1
  rw [BitVec.getLsbD_xor, BitVec.getLsbD_ushiftRight, BitVec.getLsbD_of_ge n (1 + 31) (by omega)]
  cases n.getLsbD 0
  · simp
  · simp [poly]
theorem sh1_inj {n m : BitVec 32} (h : sh1 n = sh1 m) : n = m := by
  have h0 : n.getLsbD 0 = m.getLsbD 0 := by rw [← sh1_top, ← sh1_top, h]
  have h1 : n >>> 1 = m >>> 1 := by
    unfold sh1 at h
    rw [h0] at h
    have := congrArg (· ^^^ (if m.getLsbD 0 then poly else 0#32)) h
    simpa [BitVec.xor_assoc] using this
  apply BitVec.eq_of_getLsbD_eq
  intro i hi
  cases i with
  | zero => exact h0
  | succ i =>
    have := congrArg (fun x => x.getLsbD i) h1
    simp only [BitVec.getLsbD_ushiftRight] at this
    rwa [Nat.add_comm 1 i] at this
theorem shN32_inj : ∀ (k : Nat) {n m : BitVec 32}, shN32 k n = shN32 k m → n = m
  | 0, _, _, h => h
  | k + 1, _, _, h => shN32_inj k (sh1_inj h)
theorem xor_right_inj {a b c : BitVec 32} (h : a ^^^ c = b ^^^ c) : a = b := by
  have := congrArg (· ^^^ c) h
  simpa [BitVec.xor_assoc] using this
theorem xor_left_inj {a b c : BitVec 32} (h : c ^^^ a = c ^^^ b) : a = b := by
  rw [BitVec.xor_comm c a, BitVec.xor_comm c b] at h
  exact xor_right_inj h
theorem cst_inj {n m : BitVec 32} {b : UInt8} (h : cst n b = cst m b) : n = m := xor_right_inj (shN32_inj 8 h)
theorem cst_byte {n : BitVec 32} {b c : UInt8} (h : cst n b = cst n c) : b = c := by
  have h2 := xor_left_inj (shN32_inj 8 h)
  have h3 := congrArg BitVec.toNat h2
  have hb := b.toNat_lt
  have hc := c.toNat_lt
  simp only [BitVec.toNat_ofNat] at h3
  rw [Nat.mod_eq_of_lt (by omega), Nat.mod_eq_of_lt (by omega)] at h3
  exact UInt8.toNat.inj h3
theorem crcR_inj : ∀ (l : List UInt8) {n m : BitVec 32}, crcR n l = crcR m l → n = m
  | [], _, _, h => h
  | b :: l, n, m, h => cst_inj (crcR_inj l h)
theorem crcC_turn (a r : List UInt8) (b c : UInt8) (h : crcC (a ++ b :: r) = crcC (a ++ c :: r)) : b = c := by
  unfold crcC onC at h
  have h1 : crcR (~~~ 0#32) (a ++ b :: r) = crcR (~~~ 0#32) (a ++ c :: r) := by
    have := congrArg (~~~ ·) h
    simpa using this
  rw [crcR_append, crcR_append] at h1
  exact cst_byte (crcR_inj r h1)
/-- A frame. -/
def frL (p : List UInt8) : List UInt8 := by8 (fixN 4 p.length) ++ (by8 (fixN 4 (crcC (by8 (fixN 4 p.length) ++ p)).toNat) ++ p)
def frm (p : ByteArray) : ByteArray := ⟨(frL (bl p)).toArray⟩
theorem bl_frm (p : ByteArray) : bl (frm p) = frL (bl p) := by simp [bl, frm]
theorem frL_length (p : List UInt8) : (frL p).length = 8 + p.length := by simp [frL, by8_length, fixN_length]; omega
theorem frm_size (p : ByteArray) : (frm p).size = 8 + p.size := by rw [← bl_length, bl_frm, frL_length, bl_length]
/-- Whether a frame stands at the front, its payload's length told first. -/
def ufOk (l : List UInt8) : Bool := decide (8 ≤ l.length ∧ fixV (l.take 4) ≤ 67108864 ∧ 8 + fixV (l.take 4) ≤ l.length ∧
  (crcC (l.take 4 ++ (l.drop 8).take (fixV (l.take 4)))).toNat = fixV ((l.drop 4).take 4))
def ufn (s : ByteArray) : Nat := fixV ((bl s).take 4)
def ufB (s : ByteArray) : Bool := ufOk (bl s)
/-- The payload, what stands behind it, the error. -/
def ufP (s : ByteArray) : ByteArray := if ufB s = true then s.extract 8 (8 + ufn s) else ⟨#[]⟩
def ufR (s : ByteArray) : ByteArray := if ufB s = true then s.extract (8 + ufn s) s.size else ⟨#[]⟩
def ufE (s : ByteArray) : Int := if ufB s = true then 0 else 4
theorem ufB_iff (s : ByteArray) : ufB s = true ↔ (8 ≤ s.size ∧ ufn s ≤ 67108864 ∧ 8 + ufn s ≤ s.size ∧
    (crcC ((bl s).take 4 ++ ((bl s).drop 8).take (ufn s))).toNat = fixV (((bl s).drop 4).take 4)) := by
  unfold ufB ufOk
  rw [decide_eq_true_iff, bl_length]; rfl
theorem uf_yes {s : ByteArray} (h : ufB s = true) : ufP s = s.extract 8 (8 + ufn s) ∧ ufR s = s.extract (8 + ufn s) s.size ∧ ufE s = 0 :=
  ⟨if_pos h, if_pos h, if_pos h⟩
theorem uf_no {s : ByteArray} (h : ufB s = false) : ufP s = ⟨#[]⟩ ∧ ufR s = ⟨#[]⟩ ∧ ufE s = 4 :=
  ⟨if_neg (by rw [h]; simp), if_neg (by rw [h]; simp), if_neg (by rw [h]; simp)⟩
theorem take4_front (a b : List UInt8) (h : a.length = 4) : (a ++ b).take 4 = a ∧ (a ++ b).drop 4 = b := by
  rw [← h]
  exact ⟨List.take_left, List.drop_left⟩
theorem fix4_len (n : Nat) : (by8 (fixN 4 n)).length = 4 := by rw [by8_length, fixN_length]
/-- The four parts of what opens with a frame. -/
theorem fr_parts (p t : List UInt8) : (frL p ++ t).take 4 = by8 (fixN 4 p.length) ∧ ((frL p ++ t).drop 4).take 4 = by8 (fixN 4 (crcC (by8 (fixN 4 p.length) ++ p)).toNat) ∧ (frL p ++ t).drop 8 = p ++ t := by
  have e1 := take4_front (by8 (fixN 4 p.length)) (by8 (fixN 4 (crcC (by8 (fixN 4 p.length) ++ p)).toNat) ++ (p ++ t)) (fix4_len _)
  have e2 := take4_front (by8 (fixN 4 (crcC (by8 (fixN 4 p.length) ++ p)).toNat)) (p ++ t) (fix4_len _)
  have e0 : frL p ++ t = by8 (fixN 4 p.length) ++ (by8 (fixN 4 (crcC (by8 (fixN 4 p.length) ++ p)).toNat) ++ (p ++ t)) := by simp [frL]
  refine ⟨by rw [e0, e1.1], by rw [e0, e1.2, e2.1], ?_⟩
  rw [show (8 : Nat) = 4 + 4 from rfl, ← List.drop_drop, e0, e1.2, e2.2]
theorem frame_ufn (p s t : ByteArray) (hs : s = frm p ++ t) (hp : p.size ≤ 67108864) : ufn s = p.size := by
  unfold ufn
  rw [hs, bl_append, bl_frm, (fr_parts _ _).1, bl_length, fixV_fixN 4 _ (by omega)]
/-- A frame that stands at the front is found. -/
theorem frame_uf (p s t : ByteArray) (hs : s = frm p ++ t) (hp : p.size ≤ 67108864) : ufB s = true ∧ ufP s = p ∧ ufR s = t := by
  have hn := frame_ufn p s t hs hp
  have hz : s.size = 8 + p.size + t.size := by rw [hs, ByteArray.size_append, frm_size]
  obtain ⟨e1, e2, e3⟩ := fr_parts (bl p) (bl t)
  have hbl : bl s = frL (bl p) ++ bl t := by rw [hs, bl_append, bl_frm]
  have hB : ufB s = true := by
    rw [ufB_iff]
    refine ⟨by omega, by omega, by omega, ?_⟩
    rw [hn, hbl, e1, e2, e3, fixV_fixN 4 _ (by have := (crcC (by8 (fixN 4 (bl p).length) ++ bl p)).isLt; omega)]
    congr 2
    rw [List.take_append_of_le_length (by rw [bl_length]; exact Nat.le_refl _), List.take_of_length_le (by rw [bl_length]; exact Nat.le_refl _)]
  obtain ⟨a1, a2, _⟩ := uf_yes hB
  refine ⟨hB, ?_, ?_⟩
  · rw [a1, hn]
    apply bl_inj
    rw [bl_extract, List.drop_take, hbl, e3, Nat.add_sub_cancel_left, List.take_append_of_le_length (by rw [bl_length]; exact Nat.le_refl _), List.take_of_length_le (by rw [bl_length]; exact Nat.le_refl _)]
  · rw [a2, hn]
    exact drop_front s (frm p) t _ hs (by rw [frm_size])
theorem fixV_cons4 (a b c d : UInt8) : fixV [a, b, c, d] = ((a.toNat * 256 + b.toNat) * 256 + c.toNat) * 256 + d.toNat := by simp [fixV]
theorem fixV_inj4 (x y : List UInt8) (hx : x.length = 4) (hy : y.length = 4) (h : fixV x = fixV y) : x = y := by
  match x, hx with
  | [a, b, c, d], _ =>
    match y, hy with
    | [a', b', c', d'], _ =>
      rw [fixV_cons4, fixV_cons4] at h
      have h1 := a.toNat_lt; have h2 := b.toNat_lt; have h3 := c.toNat_lt; have h4 := d.toNat_lt
      have g1 := a'.toNat_lt; have g2 := b'.toNat_lt; have g3 := c'.toNat_lt; have g4 := d'.toNat_lt
      have e1 : a.toNat = a'.toNat := by omega
      have e2 : b.toNat = b'.toNat := by omega
      have e3 : c.toNat = c'.toNat := by omega
      have e4 : d.toNat = d'.toNat := by omega
      rw [UInt8.toNat.inj e1, UInt8.toNat.inj e2, UInt8.toNat.inj e3, UInt8.toNat.inj e4]
/-- A byte of a frame's checksum or payload that is turned is told, whatever stands behind. -/
theorem turned_uf (p t s' : ByteArray) (j : Nat) (c : UInt8) (hp : p.size ≤ 67108864) (hj : 4 ≤ j) (hj2 : j < 8 + p.size) (hs : bl s' = (frL (bl p) ++ bl t).set j c)
    (hc : (frL (bl p) ++ bl t)[j]? ≠ some c) : ufB s' = false := by
  rw [Bool.eq_false_iff]
  intro hB
  rw [ufB_iff] at hB
  obtain ⟨_, _, hlen, hcrc⟩ := hB
  obtain ⟨e1, e2, e3⟩ := fr_parts (bl p) (bl t)
  have ht4 : (bl s').take 4 = (frL (bl p) ++ bl t).take 4 := by rw [hs, List.take_set_of_le hj]
  have hn : ufn s' = p.size := by
    unfold ufn
    rw [ht4, e1, bl_length, fixV_fixN 4 _ (by omega)]
  rw [hn, ht4, e1] at hcrc
  have hV := fixV_fixN 4 (crcC (by8 (fixN 4 (bl p).length) ++ bl p)).toNat (by have := (crcC (by8 (fixN 4 (bl p).length) ++ bl p)).isLt; omega)
  have hz : (frL (bl p) ++ bl t).length = 8 + p.size + t.size := by rw [List.length_append, frL_length, bl_length, bl_length]
  by_cases h8 : j < 8
  · have e8 : (bl s').drop 8 = bl p ++ bl t := by rw [hs, List.drop_set_of_lt h8, e3]
    rw [e8, List.take_append_of_le_length (by rw [bl_length]; exact Nat.le_refl _), List.take_of_length_le (by rw [bl_length]; exact Nat.le_refl _), ← hV, ← e2] at hcrc
    have hl1 : (((frL (bl p) ++ bl t).drop 4).take 4).length = 4 := by rw [e2, fix4_len]
    have hl2 : (((bl s').drop 4).take 4).length = 4 := by rw [hs]; simp only [List.length_take, List.length_drop, List.length_set]; omega
    have heq := fixV_inj4 _ _ hl1 hl2 hcrc
    apply hc
    have g1 : (((frL (bl p) ++ bl t).drop 4).take 4)[j - 4]? = (frL (bl p) ++ bl t)[j]? := by
      rw [List.getElem?_take_of_lt (by omega), List.getElem?_drop]; congr 1; omega
    have g2 : (((bl s').drop 4).take 4)[j - 4]? = some c := by
      rw [List.getElem?_take_of_lt (by omega), List.getElem?_drop, hs, show 4 + (j - 4) = j from by omega, List.getElem?_set_self (by omega)]
    rw [← g1, heq, g2]
  · have e4 : ((bl s').drop 4).take 4 = ((frL (bl p) ++ bl t).drop 4).take 4 := by
      rw [hs, List.drop_set, if_neg (by omega), List.take_set_of_le (by omega)]
    have e8 : (bl s').drop 8 = (bl p ++ bl t).set (j - 8) c := by
      rw [hs, List.drop_set, if_neg (by omega), e3]
    have hjp : j - 8 < (bl p).length := by rw [bl_length]; omega
    rw [e4, e2, hV, e8, List.set_append, if_pos hjp, List.take_append_of_le_length (by rw [List.length_set, bl_length]; exact Nat.le_refl _),
      List.take_of_length_le (by rw [List.length_set, bl_length]; exact Nat.le_refl _)] at hcrc
    have hsp : bl p = (bl p).take (j - 8) ++ (bl p)[j - 8] :: (bl p).drop (j - 8 + 1) := by
      rw [List.getElem_cons_drop, List.take_append_drop]
    have hst : (bl p).set (j - 8) c = (bl p).take (j - 8) ++ c :: (bl p).drop (j - 8 + 1) := List.set_eq_take_append_cons_drop .. |>.trans (if_pos hjp)
    have hq := BitVec.eq_of_toNat_eq hcrc
    rw [hst, ← List.append_assoc] at hq
    have hq2 : crcC ((by8 (fixN 4 (bl p).length) ++ (bl p).take (j - 8)) ++ c :: (bl p).drop (j - 8 + 1)) = crcC ((by8 (fixN 4 (bl p).length) ++ (bl p).take (j - 8)) ++ (bl p)[j - 8] :: (bl p).drop (j - 8 + 1)) := by
      rw [hq, List.append_assoc, ← hsp]
    have := crcC_turn _ _ _ _ hq2
    apply hc
    have g : (frL (bl p) ++ bl t)[j]? = some ((bl p)[j - 8]) := by
      have : (frL (bl p) ++ bl t)[j]? = ((frL (bl p) ++ bl t).drop 8)[j - 8]? := by rw [List.getElem?_drop]; congr 1; omega
      rw [this, e3, List.getElem?_append_left hjp, List.getElem?_eq_getElem hjp]
    rw [g, ← this]
/-- A frame that is cut short is none. -/
theorem cut_uf (p s : ByteArray) (k : Nat) (hp : p.size ≤ 67108864) (hk : k < 8 + p.size) (hs : bl s = (frL (bl p)).take k) : ufB s = false := by
  rw [Bool.eq_false_iff]
  intro hB
  rw [ufB_iff] at hB
  obtain ⟨h8, _, hlen, _⟩ := hB
  have hz : s.size = k := by rw [← bl_length, hs, List.length_take, frL_length, bl_length]; omega
  have e1 := (fr_parts (bl p) []).1
  rw [List.append_nil] at e1
  have hn : ufn s = p.size := by
    unfold ufn
    rw [hs, List.take_take, Nat.min_eq_left (by omega), e1, bl_length, fixV_fixN 4 _ (by omega)]
  omega
end Go.Proofs.Ytbfdggkoildfkaa
