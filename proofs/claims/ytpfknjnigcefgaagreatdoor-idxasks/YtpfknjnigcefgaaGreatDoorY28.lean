import Derived.Test.YtpfknjnigcefgaaGreatDoorY1
import Derived.Test.YtpfknjnigcefgaaGreatDoorY3
import Derived.Test.YtpfknjnigcefgaaGreatDoorY27
import Derived.RegionTactic
import Derived.Deep.MidRow
import Derived.Lib.SmallJoins
import Derived.Test.YtpfknjnigcefgaaGreatDoorY4
import Derived.Test.YtpfknjnigcefgaaGreatDoorY10
import Derived.Test.YtpfknjnigcefgaaGreatDoorY11
/- The walk of frame's closure: a byte more. -/
namespace Go.Proofs.YtpfknjnigcefgaaGreatDoor
open Go.RowKit
set_option linter.unusedSimpArgs false
set_option linter.unusedVariables false
theorem ofByte (b : Nat) (h : b < 256) : (b : Int) = ((BitVec.ofNat 32 (UInt8.ofNat b).toNat).toNat : Int) := by
  rw [toNat_ofNat8 b h, BitVec.toNat_ofNat, Nat.mod_eq_of_lt (by omega)]
theorem one32 : (1 : Int) = ((1#32).toNat : Int) := by decide
theorem poly32 : (3988292384 : Int) = (poly.toNat : Int) := by decide
theorem neg32 (x : BitVec 32) : (-(x.toNat : Int)) % 4294967296 = ((-x).toNat : Int) := by
  rw [BitVec.toNat_neg]
  have := x.isLt
  omega
theorem out_bit (n : BitVec 32) : poly &&& -(n &&& 1#32) = if n.getLsbD 0 then poly else 0#32 := by
  have h : n &&& 1#32 = if n.getLsbD 0 then 1#32 else 0#32 := by
    apply BitVec.eq_of_getLsbD_eq
    intro i hi
    rw [BitVec.getLsbD_and]
    cases i with
    | zero => cases n.getLsbD 0 <;> simp
    | succ i => cases n.getLsbD 0 <;> simp [BitVec.getLsbD_one]
  rw [h]
  cases n.getLsbD 0
  · decide
  · decide
theorem sh1_raw (n : BitVec 32) : bits .xor .u32 ((n.toNat : Int) / 2) (bits .and .u32 3988292384 ((-(bits .and .u32 (n.toNat : Int) 1)) % 4294967296)) = ((sh1 n).toNat : Int) := by
  have e : (n.toNat : Int) / (2 : Int) = ((n >>> 1).toNat : Int) := by rw [BitVec.toNat_ushiftRight, Nat.shiftRight_eq_div_pow]; omega
  rw [e, one32, and32, neg32, poly32, and32, xor32, out_bit, sh1]
set_option maxHeartbeats 400000 in
set_option maxRecDepth 100000 in
theorem onStep_any (n : BitVec 32) (b : Nat) (c : Nat) (T : TypeId) (w : World) (hb : b < 256) (hB : Blk w c #[c32 n] T) :
    Calls Tryz.prog 157 #[.int .u8 b, .pointer (some ⟨c, 0, none⟩)] w fun e w' => e = .returned (.tuple #[]) ∧ Blk w' c #[c32 (cst n (UInt8.ofNat b))] T ∧ w.grownBy w' (some c) := by
  have h0 := hB.cell 0
  have hf := hB.frozen 0
  go_enter Tryz.func157, Tryz.ntmps157
  go_wp2
  go_loopw [7] (fun i wr => ∃ (k : Nat) (m : BitVec 32), k ≤ 8 ∧ i = .int .i64 k ∧ Blk wr c #[c32 m] T ∧ w.grownBy wr (some c) ∧ Hid (m = shN32 k (n ^^^ BitVec.ofNat 32 (UInt8.ofNat b).toNat))) (fun i _ => 8 - (intOf i).toNat)
  case atStart =>
    refine ⟨0, n ^^^ BitVec.ofNat 32 (UInt8.ofNat b).toNat, by omega, rfl, ?_, Lib.grownBy_setB (World.grownBy.refl _ _) 0 _, rfl⟩
    rw [ofByte b hb, xor32]
    exact hB.set 0 _
  case round =>
    obtain ⟨k, m, hk, rfl, hM, hg, HM⟩ := hrel
    have m0 := hM.cell 0
    have mf := hM.frozen 0
    by_cases hlt : k < 8
    · clear h0 hf
      go_wp2
      go_roundw
      case rel =>
        refine ⟨k + 1, sh1 m, by omega, by go_num, ?_, Lib.grownBy_setB hg 0 _, ?_⟩
        · rw [sh1_raw]; exact hM.set 0 _
        · rw [HM.out]; rfl
      case measure => simp [intOf]; omega
    · clear h0 hf
      go_wp2
      go_end0
      have hk8 : k = 8 := by omega
      subst hk8
      rw [HM.out] at hM
      exact ⟨rfl, hM, hg⟩
end Go.Proofs.YtpfknjnigcefgaaGreatDoor
/- The walks of frame.On, Crc, sum, Frame. -/
namespace Go.Proofs.YtpfknjnigcefgaaGreatDoor
open Go.RowKit
set_option linter.unusedSimpArgs false
set_option linter.unusedVariables false
set_option maxHeartbeats 400000 in
set_option maxRecDepth 100000 in
theorem on_any (c : BitVec 32) (s : ByteArray) (w : World) (hs : s.size ≤ maxLen) :
    Calls Tryz.prog 154 #[c32 c, .string s] w fun e w' => e = .returned (c32 (onC c (bl s))) ∧ Below w.heap.size w w' := by
  unfold maxLen at hs
  have hsg : IntKind.u32.signed = false := rfl
  have hmx := max32
  obtain ⟨d, hd⟩ : ∃ d, d = ~~~ c := ⟨_, rfl⟩
  have HD : Hid (d = ~~~ c) := hd
  clear hd
  go_enter Tryz.func154, Tryz.ntmps154
  go_wp2
  rw [not32, ← HD.out]
  go_loopw [13] (fun i wr => ∃ (k : Nat) (m : BitVec 32), k ≤ s.size ∧ i = .int .i64 k ∧ Blk wr w.heap.size #[c32 m] 97 ∧ Below w.heap.size w wr ∧ Hid (m = crcR d ((bl s).take k))) (fun i _ => s.size - (intOf i).toNat)
  case atStart => exact ⟨0, d, by omega, rfl, blk_new _ _, (Below.refl _ _).alloc (Nat.le_refl _) _, rfl⟩
  case round =>
    obtain ⟨k, m, hk, rfl, hM, hbel, HM⟩ := hrel
    by_cases hlt : k < s.size
    · have HB : Hid (Blk wr w.heap.size #[c32 m] 97) := hM
      have HL : Hid (Below w.heap.size w wr) := hbel
      have hz : w.heap.size < wr.heap.size := blk_lt hM
      clear hM hbel
      go_wp2_with fail
      refine (onStep_any m s[k].toNat w.heap.size 97 wr s[k].toNat_lt HB.out).mono ?_
      rintro e w1 ⟨rfl, hM1, hg1⟩
      rw [UInt8.ofNat_toNat] at hM1
      have HB1 : Hid (Blk w1 w.heap.size #[c32 (cst m s[k])] 97) := hM1
      have HG : Hid (wr.grownBy w1 (some w.heap.size)) := hg1
      clear hM1 hg1
      go_wp2
      go_roundw
      case rel =>
        refine ⟨k + 1, cst m s[k], by omega, by go_num, HB1.out, ?_, ?_⟩
        · exact HL.out.grown HG.out (by omega) (fun j hj => by cases hj; exact Nat.le_refl _)
        · show cst m s[k] = _
          rw [HM.out, take_snoc s k hlt, crcR_snoc]
      case measure => simp [intOf]; omega
    · have m0 := hM.cell 0
      have HL : Hid (Below w.heap.size w wr) := hbel
      clear hM hbel
      go_wp2
      go_ret
      have e : k = s.size := by omega
      refine ⟨ret_i32 ?_, HL.out⟩
      rw [not32, HM.out, e, HD.out, List.take_of_length_le (by rw [bl_length]; exact Nat.le_refl _)]
      rfl
set_option maxHeartbeats 400000 in
theorem crc_any (s : ByteArray) (w : World) (hs : s.size ≤ maxLen) :
    Calls Tryz.prog 155 #[.string s] w fun e w' => e = .returned (c32 (crcC (bl s))) ∧ Below w.heap.size w w' := by
  go_enter Tryz.func155, Tryz.ntmps155
  go_wp2_with fail
  refine (on_any 0#32 s _ hs).mono ?_
  rintro e w1 ⟨rfl, hb⟩
  go_wp2
  go_ret
  exact ⟨rfl, hb⟩
set_option maxHeartbeats 400000 in
theorem fsum_any (a s : ByteArray) (w : World) (ha : a.size ≤ maxLen) (hs : s.size ≤ maxLen) :
    Calls Tryz.prog 148 #[.string a, .string s] w fun e w' => e = .returned (c32 (crcC (bl a ++ bl s))) ∧ Below w.heap.size w w' := by
  go_enter Tryz.func148, Tryz.ntmps148
  go_wp2_with fail
  refine (crc_any a _ ha).mono ?_
  rintro e w1 ⟨rfl, hb⟩
  go_wp2_with fail
  refine (on_any _ s _ hs).mono ?_
  rintro e w2 ⟨rfl, hb2⟩
  rw [onC_crc]
  go_wp2
  go_ret
  exact ⟨rfl, hb.trans (hb2.mono hb.size)⟩
set_option maxHeartbeats 400000 in
theorem frame_no (p : ByteArray) (w : World) (hs : p.size ≤ maxLen) (hp : 67108864 < p.size) :
    Calls Tryz.prog 133 #[.string p] w fun e w' => e = .returned (.tuple #[.string ⟨#[]⟩, .int .i64 1]) ∧ w' = w := by
  unfold maxLen at hs
  go_enter Tryz.func133, Tryz.ntmps133
  go_wp2
  go_ret2
  exact ⟨rfl, rfl⟩
theorem emp_append (a : ByteArray) : (⟨#[]⟩ : ByteArray) ++ a = a := ByteArray.empty_append
theorem sb4_size (n : Nat) : (sb (fixN 4 n)).size = 4 := by rw [sb_size, fixN_length]
theorem frm_eq (p : ByteArray) : sb (fixN 4 p.size) ++ sb (fixN 4 (crcC (bl (sb (fixN 4 p.size)) ++ bl p)).toNat) ++ p = frm p := by
  apply bl_inj
  rw [bl_append, bl_append, bl_frm, bl_sb, bl_sb, frL, bl_length, List.append_assoc]
set_option maxHeartbeats 400000 in
theorem frame_ok (p : ByteArray) (w : World) (hp : p.size ≤ 67108864) :
    Calls Tryz.prog 133 #[.string p] w fun e w' => e = .returned (.tuple #[.string (frm p), .int .i64 0]) ∧ Below w.heap.size w w' := by
  go_enter Tryz.func133, Tryz.ntmps133
  go_wp2_with fail
  refine (putFixed_ok ⟨#[]⟩ p.size 4 _ (by omega) (by omega) (by omega) (by omega) (by rw [Int.toNat_natCast]; omega) (by decide)).mono ?_
  rintro e w1 ⟨rfl, hb1⟩
  rw [Int.toNat_natCast, emp_append]
  obtain ⟨a, ha⟩ : ∃ a, a = sb (fixN 4 p.size) := ⟨_, rfl⟩
  rw [← ha]
  have haz : a.size = 4 := by rw [ha]; exact sb4_size _
  have HA : Hid (a = sb (fixN 4 p.size)) := ha
  have HZ : Hid (a.size = 4) := haz
  have hal : a.size ≤ 4 := by omega
  clear ha haz
  go_wp2_with fail
  refine (fsum_any a p _ (by unfold maxLen; omega) (by unfold maxLen; omega)).mono ?_
  rintro e w2 ⟨rfl, hb2⟩
  obtain ⟨q, hq⟩ : ∃ q : BitVec 32, q = crcC (bl a ++ bl p) := ⟨_, rfl⟩
  rw [← hq]
  have HQ : Hid (q = crcC (bl a ++ bl p)) := hq
  have hlt := q.isLt
  clear hq
  go_wp2_with fail
  refine (putFixed_ok a q.toNat 4 _ (by omega) (by omega) (by omega) (by omega) (by rw [Int.toNat_natCast]; omega) (by omega)).mono ?_
  rintro e w3 ⟨rfl, hb3⟩
  rw [Int.toNat_natCast]
  obtain ⟨h, hh⟩ : ∃ h, h = a ++ sb (fixN 4 q.toNat) := ⟨_, rfl⟩
  rw [← hh]
  have hhz : h.size ≤ 8 := by rw [hh, append_size, sb4_size]; omega
  have HH : Hid (h = a ++ sb (fixN 4 q.toNat)) := hh
  clear hh
  go_wp2
  go_ret2
  refine ⟨ret_se ?_, ?_⟩
  · rw [HH.out, HQ.out, HA.out]; exact frm_eq p
  · exact (hb1.trans (hb2.mono hb1.size)).trans (hb3.mono (by have := hb1.size; have := hb2.size; omega))
end Go.Proofs.YtpfknjnigcefgaaGreatDoor
/- The walk of frame.Unframe. -/
namespace Go.Proofs.YtpfknjnigcefgaaGreatDoor
open Go.RowKit
set_option linter.unusedSimpArgs false
set_option linter.unusedVariables false
theorem ret_uf {a b : ByteArray} {c : Int} {s : ByteArray} (h : ufP s = a ∧ ufR s = b ∧ ufE s = c) : Ending.returned (.tuple #[.string a, .string b, .int .i64 c]) = .returned (.tuple #[.string (ufP s), .string (ufR s), .int .i64 (ufE s)]) := by rw [h.1, h.2.1, h.2.2]
theorem uf_short {s : ByteArray} (h : s.size < 8) : ufB s = false := by
  rw [Bool.eq_false_iff]; intro h2; rw [ufB_iff] at h2; omega
theorem uf_long {s : ByteArray} (h : 67108864 < ufn s) : ufB s = false := by
  rw [Bool.eq_false_iff]; intro h2; rw [ufB_iff] at h2; omega
theorem uf_cut {s : ByteArray} (h : s.size < 8 + ufn s) : ufB s = false := by
  rw [Bool.eq_false_iff]; intro h2; rw [ufB_iff] at h2; omega
theorem uf_crc {s : ByteArray} (h : (crcC ((bl s).take 4 ++ ((bl s).drop 8).take (ufn s))).toNat ≠ fixV (((bl s).drop 4).take 4)) : ufB s = false := by
  rw [Bool.eq_false_iff]; intro h2; rw [ufB_iff] at h2; exact h h2.2.2.2
theorem fixV4_lt (l : List UInt8) : fixV (l.take 4) < 4294967296 := by
  have h := fixV_lt (l.take 4)
  have h2 : 256 ^ (l.take 4).length ≤ 256 ^ 4 := Nat.pow_le_pow_right (by omega) (List.length_take_le _ _)
  omega
theorem ufn_lt (s : ByteArray) : ufn s < 4294967296 := fixV4_lt _
set_option maxHeartbeats 400000 in
theorem unframe_4 (s : ByteArray) (w : World) (hs : s.size < 4) :
    Calls Tryz.prog 131 #[.string s] w fun e w' => e = .returned (.tuple #[.string (ufP s), .string (ufR s), .int .i64 (ufE s)]) ∧ Below w.heap.size w w' := by
  go_enter Tryz.func131, Tryz.ntmps131
  go_wp2_with fail
  refine (new_any _ _).mono ?_
  rintro e w1 ⟨rfl, rfl⟩
  go_wp2_with fail
  refine (fixed_no s w.heap.size _ (by unfold maxLen; omega) (al_ptr _ _ _) (by simp) (by simp) 4 (by omega) (by omega) (by omega)).mono ?_
  rintro e w2 ⟨rfl, h2⟩
  go_wp2
  go_ret3
  exact ⟨ret_uf (uf_no (uf_short (by omega))), ((Below.refl _ _).alloc (Nat.le_refl _) _).trans (h2.below (Nat.le_refl _) (by simp))⟩
theorem ext_size (s : ByteArray) (a : Nat) (h : a ≤ s.size) : (s.extract a s.size).size = s.size - a := by simp
theorem bl_drop (s : ByteArray) (a : Nat) : bl (s.extract a s.size) = (bl s).drop a := by
  rw [bl_extract, List.take_of_length_le (by rw [bl_length]; exact Nat.le_refl _)]
set_option maxHeartbeats 1000000 in
theorem unframe_8 (s : ByteArray) (w : World) (hm : s.size ≤ maxLen) (hs : 4 ≤ s.size) :
    Calls Tryz.prog 131 #[.string s] w fun e w' => e = .returned (.tuple #[.string (ufP s), .string (ufR s), .int .i64 (ufE s)]) ∧ Below w.heap.size w w' := by
  have hm' := hm
  unfold maxLen at hm'
  obtain ⟨n, hn⟩ : ∃ n, n = ufn s := ⟨_, rfl⟩
  have HN : Hid (n = ufn s) := hn
  have hnl : n < 4294967296 := by rw [hn]; exact ufn_lt s
  clear hn
  obtain ⟨r1, hr1⟩ : ∃ r, r = s.extract 4 s.size := ⟨_, rfl⟩
  have HR1 : Hid (r1 = s.extract 4 s.size) := hr1
  have HZ1 : Hid (r1.size = s.size - 4) := by rw [hr1]; exact ext_size s 4 hs
  clear hr1
  go_enter Tryz.func131, Tryz.ntmps131
  go_wp2_with fail
  refine (new_any _ _).mono ?_
  rintro e w1 ⟨rfl, rfl⟩
  go_wp2_with fail
  refine (fixed_ok s w.heap.size _ hm (al_ptr _ _ _) (by simp) (by simp) 4 (by omega) (by omega) (by omega)).mono ?_
  rintro e w2 ⟨rfl, h2⟩
  rw [show fixV ((bl s).take 4) = n from HN.out.symm]
  rw [← HR1.out] at h2
  have H2 : Hid (Step w.heap.size (w.alloc (.cells #[.string s] 167)) w2 r1) := h2
  have HB2 : Hid (Below w.heap.size w w2) := ((Below.refl _ _).alloc (Nat.le_refl _) _).trans (h2.below (Nat.le_refl _) (by simp))
  have hz2 : w.heap.size < w2.heap.size := by have := h2.size; simp at this; omega
  clear h2
  by_cases hbig : 67108864 < n
  · go_wp2
    go_ret3
    exact ⟨ret_uf (uf_no (uf_long (by rw [← HN.out]; exact hbig))), HB2.out⟩
  have hn26 : (n : Int) ≤ 67108864 := by omega
  clear hbig
  go_wp2_with fail
  by_cases h8 : s.size < 8
  · refine (fixed_no r1 w.heap.size _ (by rw [HZ1.out]; unfold maxLen; omega) H2.out.cell H2.out.frozen hz2 4 (by omega) (by omega) (by rw [HZ1.out]; omega)).mono ?_
    rintro e w3 ⟨rfl, h3⟩
    have HB3 : Hid (Below w.heap.size w w3) := HB2.out.trans (h3.below (Nat.le_refl _) (by omega))
    clear h3
    go_wp2
    go_ret3
    exact ⟨ret_uf (uf_no (uf_short (by omega))), HB3.out⟩
  have h8' : 8 ≤ s.size := by omega
  clear h8
  obtain ⟨r2, hr2⟩ : ∃ r, r = s.extract 8 s.size := ⟨_, rfl⟩
  have HR2 : Hid (r2 = s.extract 8 s.size) := hr2
  have HZ2 : Hid (r2.size = s.size - 8) := by rw [hr2]; exact ext_size s 8 h8'
  clear hr2
  obtain ⟨cv, hcv⟩ : ∃ cv, cv = fixV (((bl s).drop 4).take 4) := ⟨_, rfl⟩
  have HC : Hid (cv = fixV (((bl s).drop 4).take 4)) := hcv
  have hcl : cv < 4294967296 := by rw [hcv]; exact fixV4_lt _
  clear hcv
  refine (fixed_ok r1 w.heap.size _ (by rw [HZ1.out]; unfold maxLen; omega) H2.out.cell H2.out.frozen hz2 4 (by omega) (by omega) (by rw [HZ1.out]; omega)).mono ?_
  rintro e w3 ⟨rfl, h3⟩
  rw [show fixV ((bl r1).take 4) = cv from by rw [HC.out, HR1.out, bl_drop]]
  rw [show r1.extract 4 r1.size = r2 from by apply bl_inj; rw [bl_drop, HR1.out, HR2.out, bl_drop, bl_drop, List.drop_drop]] at h3
  have H3 : Hid (Step w.heap.size w2 w3 r2) := h3
  have HB3 : Hid (Below w.heap.size w w3) := HB2.out.trans (h3.below (Nat.le_refl _) (by omega))
  have hz3 : w.heap.size < w3.heap.size := by have := h3.size; omega
  clear h3
  go_wp2_with fail
  by_cases hcut : s.size < 8 + n
  · refine (take_no r2 w.heap.size _ (by rw [HZ2.out]; unfold maxLen; omega) H3.out.cell H3.out.frozen hz3 n (by rw [HZ2.out]; omega) (by omega)).mono ?_
    rintro e w4 ⟨rfl, h4⟩
    have HB4 : Hid (Below w.heap.size w w4) := HB3.out.trans (h4.below (Nat.le_refl _) (by omega))
    clear h4
    go_wp2
    go_ret3
    exact ⟨ret_uf (uf_no (uf_cut (by rw [← HN.out]; exact hcut))), HB4.out⟩
  have hcut' : 8 + n ≤ s.size := by omega
  clear hcut
  obtain ⟨p, hp⟩ : ∃ p, p = r2.extract 0 n := ⟨_, rfl⟩
  have HPb : Hid (bl p = ((bl s).drop 8).take n) := by rw [hp, bl_extract, List.drop_zero, HR2.out, bl_drop]; rfl
  have HPz : Hid (p.size = n) := by show p.size = n; rw [← bl_length, HPb.out, List.length_take, List.length_drop, bl_length]; omega
  have hpz : p.size ≤ 67108864 := by rw [HPz.out]; omega
  refine (take_ok r2 w.heap.size _ (by rw [HZ2.out]; unfold maxLen; omega) H3.out.cell H3.out.frozen hz3 n (by rw [HZ2.out]; omega)).mono ?_
  rintro e w4 ⟨rfl, h4⟩
  rw [← hp]
  clear hp
  have HB4 : Hid (Below w.heap.size w w4) := HB3.out.trans (h4.below (Nat.le_refl _) (by omega))
  have hz4 : w.heap.size < w4.heap.size := by have := h4.size; omega
  clear h4
  go_wp2_with fail
  refine (fsum_any _ p _ (by unfold maxLen; simp; omega) (by unfold maxLen; omega)).mono ?_
  rintro e w5 ⟨rfl, h5⟩
  have HB5 : Hid (Below w.heap.size w w5) := HB4.out.trans (h5.mono (by omega))
  clear h5
  obtain ⟨q, hq⟩ : ∃ q : BitVec 32, q = crcC (bl (s.extract 0 4) ++ bl p) := ⟨_, rfl⟩
  rw [← hq]
  have HQ : Hid (q.toNat = (crcC ((bl s).take 4 ++ ((bl s).drop 8).take (ufn s))).toNat) := by
    show q.toNat = _
    rw [hq, HPb.out, HN.out, extract_take s 4 hs]
  have hlt := q.isLt
  clear hq
  have hps : 8 + p.size ≤ s.size := by rw [HPz.out]; exact hcut'
  by_cases hne : q.toNat = cv
  · have hb : ((q.toNat : Int) != (cv : Int)) = false := by rw [bne_eq_false_iff_eq]; omega
    have HE : Hid (q.toNat = cv) := hne
    clear hne
    go_wp2
    go_region
    go_wp2
    go_ret3
    have hok : ufB s = true := by
      rw [ufB_iff, ← HN.out]
      refine ⟨h8', by omega, hcut', ?_⟩
      rw [HN.out, ← HQ.out, ← HC.out]; exact HE.out
    refine ⟨ret_uf ?_, ?_⟩
    · obtain ⟨a, b, c⟩ := uf_yes hok
      refine ⟨?_, ?_, c⟩
      · rw [a]
        apply bl_inj
        rw [HPb.out, bl_extract, List.drop_take, Nat.add_sub_cancel_left, HN.out]
      · rw [b, ← HN.out, HPz.out]
    · exact HB5.out.drew
  · have hb : ((q.toNat : Int) != (cv : Int)) = true := by rw [bne_iff_ne]; omega
    have HE : Hid (¬ q.toNat = cv) := hne
    clear hne
    go_wp2
    go_ret3
    exact ⟨ret_uf (uf_no (uf_crc (by rw [← HQ.out, ← HC.out]; exact HE.out))), HB5.out⟩
theorem unframe_any (s : ByteArray) (w : World) (hm : s.size ≤ maxLen) :
    Calls Tryz.prog 131 #[.string s] w fun e w' => e = .returned (.tuple #[.string (ufP s), .string (ufR s), .int .i64 (ufE s)]) ∧ Below w.heap.size w w' := by
  by_cases h : s.size < 4
  · exact unframe_4 s w h
  · exact unframe_8 s w hm (by omega)
end Go.Proofs.YtpfknjnigcefgaaGreatDoor
/- wire.Len. -/
namespace Go.Proofs.YtpfknjnigcefgaaGreatDoor
open Go.RowKit
set_option linter.unusedSimpArgs false
set_option linter.unusedVariables false
set_option maxHeartbeats 400000 in
theorem len_any (x : Int) (w : World) (h0 : 0 ≤ x) (h1 : x ≤ 18446744073709551615) :
    Calls Tryz.prog 134 #[.int .u64 x] w fun e w' => e = .returned (.int .i64 (slen x.toNat)) ∧ w' = w := by
  have hb := bitLen_le64 x.toNat (by omega)
  go_enter Tryz.func134, Tryz.ntmps134
  go_wp2_with (go_at_call 100; refine (len64_any x _ h0 h1).mono ?_; rintro e w' ⟨rfl, rfl⟩)
  all_goals go_ret
  all_goals refine ⟨ret_int ?_, rfl⟩
  all_goals unfold slen
  all_goals omega
end Go.Proofs.YtpfknjnigcefgaaGreatDoor
/- The walks of wire.Put, PutText, PutFixed: what each returns; nothing that was there has turned. -/
namespace Go.Proofs.YtpfknjnigcefgaaGreatDoor
open Go.RowKit
set_option linter.unusedSimpArgs false
set_option linter.unusedVariables false
theorem slice10 (a : Addr) (h : Int) (h0 : 0 ≤ h) (h2 : h ≤ 10) (w : World) :
    (Instr.sliceAt 187 (.pointer (some a)) none (some (.int .i64 h)) none).run Tryz.prog w = .ok (.slice (some a) h.toNat 10) w := by
  have e1 : Tryz.prog.elem 187 = 5 := by kernel_rfl
  have e2 : Tryz.prog.arrayLen 187 = 10 := by kernel_rfl
  have e0 : Tryz.prog.underlying 187 = some (.array (Tryz.prog.arrayLen 187) (Tryz.prog.elem 187)) := by kernel_rfl
  rw [run_sliceAt_array_h (P := Tryz.prog) w 187 a e0 .i64 h h0 (by rw [e2]; exact h2)]
  rw [e1, e2, sizeOf_u8]
  simp [slicedAt, Result.andThen, Addr.add]
theorem put_next (n k : Nat) (arr : Array Value) (b : Int) (hk : k < 9) (hsz : arr.size = 10) (hall : ∀ j, j < 10 → ∃ z, arr[j]? = some (.int .u8 z))
    (harr : ∀ j, j < k → arr[j]? = some (.int .u8 (n / 128 ^ j % 128 + 128 : Nat))) (hb : b = (n / 128 ^ k % 128 + 128 : Nat)) :
    (arr.setIfInBounds k (.int .u8 b)).size = 10 ∧ (∀ j, j < 10 → ∃ z, (arr.setIfInBounds k (.int .u8 b))[j]? = some (.int .u8 z)) ∧
      ∀ j, j < k + 1 → (arr.setIfInBounds k (.int .u8 b))[j]? = some (.int .u8 (n / 128 ^ j % 128 + 128 : Nat)) := by
  refine ⟨by simp [hsz], fun j hj => ?_, fun j hj => ?_⟩
  · rw [Array.getElem?_setIfInBounds]
    split
    · exact ⟨b, by simp [hsz]; omega⟩
    · exact hall j hj
  · rw [Array.getElem?_setIfInBounds]
    split
    · rename_i e; subst e; rw [if_pos (by omega), hb]
    · exact harr j (by omega)
theorem put_conv (n k : Nat) (arr : Array Value) (w : World) (T : TypeId) (hk : k ≤ 9) (hsz : arr.size = 10) (hsl : slen n = k + 1) (hn : n < 2 ^ 64)
    (harr : ∀ j, j < k → arr[j]? = some (.int .u8 (n / 128 ^ j % 128 + 128 : Nat))) :
    (convert 82 9 (.slice (some ⟨w.heap.size, 0, none⟩) (k + 1) 10)).run Tryz.prog (w.alloc (.cells (arr.setIfInBounds k (.int .u8 ((n / 128 ^ k : Nat) % 256))) T)) =
      .ok (.string (sb (encS n))) (w.alloc (.cells (arr.setIfInBounds k (.int .u8 ((n / 128 ^ k : Nat) % 256))) T)) := by
  have he : encS n = encN k n := by unfold encS; rw [hsl]; rfl
  rw [he, ← sb_nums]
  refine run_convert_bytes_arg _ 82 5 Tryz.underlying82 Tryz.underlying5 _ 0 (k + 1) 10 _ (by simp [encN_length]) (fun i hi => ?_) 9 Tryz.underlying9
  have hh := slen_hi n hn
  rw [hsl, Nat.pow_succ] at hh
  have hl : n / 128 ^ k < 128 := by rw [Nat.div_lt_iff_lt_mul (Nat.pow_pos (by omega))]; rw [Nat.mul_comm]; exact hh
  rw [Nat.zero_add]
  rw [World.cell?_alloc_new, Array.getElem?_setIfInBounds, List.getD, List.getElem?_map]
  by_cases e : k = i
  · subst e
    rw [if_pos rfl, if_pos (by omega), encN_last]
    simp only [Option.map_some, Option.getD_some]
    congr 2
    show ((n / 128 ^ k : Nat) : Int) % 256 = ((n / 128 ^ k : Nat) : Int)
    generalize n / 128 ^ k = q at hl
    omega
  · rw [if_neg e, encN_get k n i (by omega), harr i (by omega)]
    rfl
set_option maxHeartbeats 400000 in
theorem put_any (s : ByteArray) (x : Int) (w : World) (h0 : 0 ≤ x) (h1 : x ≤ 18446744073709551615) (hs : s.size ≤ 4611686018427387904) :
    Calls Tryz.prog 110 #[.string s, .int .u64 x] w fun e w' => e = .returned (.string (s ++ sb (encS x.toNat))) ∧ Below w.heap.size w w' := by
  have hl1 := slen_pos x.toNat
  have hl2 := slen_le x.toNat (by omega)
  obtain ⟨n, hn⟩ : ∃ n, n = x.toNat := ⟨_, rfl⟩
  have HN : Hid (n = x.toNat) := hn
  clear hn
  go_enter Tryz.func110, Tryz.ntmps110
  go_wp2_with (go_at_call 134; refine (len_any x _ h0 h1).mono ?_; rintro e w' ⟨rfl, rfl⟩)
  go_loopw [1, 12] (fun v i wr => ∃ (k y : Nat) (arr : Array Value), k ≤ slen x.toNat - 1 ∧ i = .int .i64 k ∧ v = .int .u64 y ∧ y < 2 ^ 64 ∧ wr = w.alloc (.cells arr 187) ∧ Hid (y = n / 128 ^ k ∧ arr.size = 10 ∧ (∀ j, j < 10 → ∃ z, arr[j]? = some (.int .u8 z)) ∧ ∀ j, j < k → arr[j]? = some (.int .u8 (n / 128 ^ j % 128 + 128 : Nat)))) (fun _ i _ => 10 - (intOf i).toNat)
  case atStart =>
    refine ⟨0, x.toNat, _, Nat.zero_le _, rfl, by go_num, by omega, rfl, ⟨by simp [HN.out], by simp, fun j hj => ?_, fun j hj => by omega⟩⟩
    refine ⟨0, ?_⟩
    rw [show (#[Value.int .u8 0, Value.int .u8 0, Value.int .u8 0, Value.int .u8 0, Value.int .u8 0, Value.int .u8 0, Value.int .u8 0, Value.int .u8 0, Value.int .u8 0, Value.int .u8 0] : Array Value) = Array.replicate 10 (Value.int .u8 0) from rfl]
    simp [hj]
  case round =>
    obtain ⟨k, y, arr, hk, rfl, rfl, hy, rfl, HR⟩ := hrel
    by_cases hlt : k < slen x.toNat - 1
    · obtain ⟨z, hz⟩ := HR.out.2.2.1 k (by omega)
      go_wp2
      go_roundw
      case rel => 
        obtain ⟨hy, a1, a2, a3⟩ := HR.out
        refine ⟨k + 1, y / 128, _, by omega, by go_num, by go_num, by omega, rfl, ⟨?_, ?_⟩⟩
        · rw [hy, Nat.div_div_eq_div_mul, Nat.pow_succ]
        · exact put_next n k arr _ (by omega) a1 a2 a3 (by rw [u8_or_128, hy])
      case measure => simp [intOf]; omega
    · obtain ⟨z, hz⟩ := HR.out.2.2.1 k (by omega)
      have hke : (slen x.toNat : Int) - 1 = k := by omega
      have hc := put_conv n k arr w 187 (by omega) HR.out.2.1 (by rw [HN.out]; omega) (by rw [HN.out]; omega) HR.out.2.2.2
      rw [← HR.out.1] at hc
      have hsl := slice10 ⟨w.heap.size, 0, none⟩ ((k : Int) + 1) (by omega) (by omega)
      have hsb : (sb (encS n)).size ≤ 10 := by rw [sb_size, encS_length, HN.out]; exact hl2
      go_wp2
      go_ret
      exact ⟨ret_str (by rw [HN.out]), by go_grown⟩
end Go.Proofs.YtpfknjnigcefgaaGreatDoor
