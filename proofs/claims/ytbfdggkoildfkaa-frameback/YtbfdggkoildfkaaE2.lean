/- The walks of frame.On, Crc, sum, Frame. -/
import Derived.Test.YtbfdggkoildfkaaE1
import Derived.Test.YtbfdggkoildfkaaW3F
namespace Go.Proofs.Ytbfdggkoildfkaa
open Go.RowKit
set_option linter.unusedSimpArgs false
set_option linter.unusedVariables false
set_option maxHeartbeats 400000 in
set_option maxRecDepth 100000 in
theorem on_any (c : BitVec 32) (s : ByteArray) (w : World) (hs : s.size ≤ maxLen) :
    Calls Try.prog 13 #[c32 c, .string s] w fun e w' => e = .returned (c32 (onC c (bl s))) ∧ Below w.heap.size w w' := by
  unfold maxLen at hs
  have hsg : IntKind.u32.signed = false := rfl
  have hmx := max32
  obtain ⟨d, hd⟩ : ∃ d, d = ~~~ c := ⟨_, rfl⟩
  have HD : Hid (d = ~~~ c) := hd
  clear hd
  go_enter Try.func13, Try.ntmps13
  go_wp2
  rw [not32, ← HD.out]
  go_loopw [13] (fun i wr => ∃ (k : Nat) (m : BitVec 32), k ≤ s.size ∧ i = .int .i64 k ∧ Blk wr w.heap.size #[c32 m] 22 ∧ Below w.heap.size w wr ∧ Hid (m = crcR d ((bl s).take k))) (fun i _ => s.size - (intOf i).toNat)
  case atStart => exact ⟨0, d, by omega, rfl, blk_new _ _, (Below.refl _ _).alloc (Nat.le_refl _) _, rfl⟩
  case round =>
    obtain ⟨k, m, hk, rfl, hM, hbel, HM⟩ := hrel
    by_cases hlt : k < s.size
    · have HB : Hid (Blk wr w.heap.size #[c32 m] 22) := hM
      have HL : Hid (Below w.heap.size w wr) := hbel
      have hz : w.heap.size < wr.heap.size := blk_lt hM
      clear hM hbel
      go_wp2_with fail
      refine (onStep_any m s[k].toNat w.heap.size 22 wr s[k].toNat_lt HB.out).mono ?_
      rintro e w1 ⟨rfl, hM1, hg1⟩
      rw [UInt8.ofNat_toNat] at hM1
      have HB1 : Hid (Blk w1 w.heap.size #[c32 (cst m s[k])] 22) := hM1
      have HG : Hid (wr.grownBy w1 (some w.heap.size)) := hg1
      clear hM1 hg1
      go_wp2
      go_roundw
      case rel =>
        refine ⟨k + 1, cst m s[k], by omega, by go_num, HB1.out, ?_, ?_⟩
        · exact HL.out.grown HG.out (by omega) (fun j hj => by cases hj; exact Nat.le_refl _)
        · show cst m s[k] = _
          rw [HM.out, take_snoc s k hlt, crcR_snoc]
      case measure => simp [intOf]; omega
    · have m0 := hM.cell 0
      have HL : Hid (Below w.heap.size w wr) := hbel
      clear hM hbel
      go_wp2
      go_ret
      have e : k = s.size := by omega
      refine ⟨ret_i32 ?_, HL.out⟩
      rw [not32, HM.out, e, HD.out, List.take_of_length_le (by rw [bl_length]; exact Nat.le_refl _)]
      rfl
set_option maxHeartbeats 400000 in
theorem crc_any (s : ByteArray) (w : World) (hs : s.size ≤ maxLen) :
    Calls Try.prog 11 #[.string s] w fun e w' => e = .returned (c32 (crcC (bl s))) ∧ Below w.heap.size w w' := by
  go_enter Try.func11, Try.ntmps11
  go_wp2_with fail
  refine (on_any 0#32 s _ hs).mono ?_
  rintro e w1 ⟨rfl, hb⟩
  go_wp2
  go_ret
  exact ⟨rfl, hb⟩
set_option maxHeartbeats 400000 in
theorem sum_any (a s : ByteArray) (w : World) (ha : a.size ≤ maxLen) (hs : s.size ≤ maxLen) :
    Calls Try.prog 18 #[.string a, .string s] w fun e w' => e = .returned (c32 (crcC (bl a ++ bl s))) ∧ Below w.heap.size w w' := by
  go_enter Try.func18, Try.ntmps18
  go_wp2_with fail
  refine (crc_any a _ ha).mono ?_
  rintro e w1 ⟨rfl, hb⟩
  go_wp2_with fail
  refine (on_any _ s _ hs).mono ?_
  rintro e w2 ⟨rfl, hb2⟩
  rw [onC_crc]
  go_wp2
  go_ret
  exact ⟨rfl, hb.trans (hb2.mono hb.size)⟩
set_option maxHeartbeats 400000 in
theorem frame_no (p : ByteArray) (w : World) (hs : p.size ≤ maxLen) (hp : 67108864 < p.size) :
    Calls Try.prog 5 #[.string p] w fun e w' => e = .returned (.tuple #[.string ⟨#[]⟩, .int .i64 1]) ∧ w' = w := by
  unfold maxLen at hs
  go_enter Try.func5, Try.ntmps5
  go_wp2
  go_ret2
  exact ⟨rfl, rfl⟩
theorem emp_append (a : ByteArray) : (⟨#[]⟩ : ByteArray) ++ a = a := ByteArray.empty_append
theorem sb4_size (n : Nat) : (sb (fixN 4 n)).size = 4 := by rw [sb_size, fixN_length]
theorem frm_eq (p : ByteArray) : sb (fixN 4 p.size) ++ sb (fixN 4 (crcC (bl (sb (fixN 4 p.size)) ++ bl p)).toNat) ++ p = frm p := by
  apply bl_inj
  rw [bl_append, bl_append, bl_frm, bl_sb, bl_sb, frL, bl_length, List.append_assoc]
set_option maxHeartbeats 400000 in
theorem frame_ok (p : ByteArray) (w : World) (hp : p.size ≤ 67108864) :
    Calls Try.prog 5 #[.string p] w fun e w' => e = .returned (.tuple #[.string (frm p), .int .i64 0]) ∧ Below w.heap.size w w' := by
  go_enter Try.func5, Try.ntmps5
  go_wp2_with fail
  refine (putFixed_ok ⟨#[]⟩ p.size 4 _ (by omega) (by omega) (by omega) (by omega) (by rw [Int.toNat_natCast]; omega) (by decide)).mono ?_
  rintro e w1 ⟨rfl, hb1⟩
  rw [Int.toNat_natCast, emp_append]
  obtain ⟨a, ha⟩ : ∃ a, a = sb (fixN 4 p.size) := ⟨_, rfl⟩
  rw [← ha]
  have haz : a.size = 4 := by rw [ha]; exact sb4_size _
  have HA : Hid (a = sb (fixN 4 p.size)) := ha
  have HZ : Hid (a.size = 4) := haz
  have hal : a.size ≤ 4 := by omega
  clear ha haz
  go_wp2_with fail
  refine (sum_any a p _ (by unfold maxLen; omega) (by unfold maxLen; omega)).mono ?_
  rintro e w2 ⟨rfl, hb2⟩
  obtain ⟨q, hq⟩ : ∃ q : BitVec 32, q = crcC (bl a ++ bl p) := ⟨_, rfl⟩
  rw [← hq]
  have HQ : Hid (q = crcC (bl a ++ bl p)) := hq
  have hlt := q.isLt
  clear hq
  go_wp2_with fail
  refine (putFixed_ok a q.toNat 4 _ (by omega) (by omega) (by omega) (by omega) (by rw [Int.toNat_natCast]; omega) (by omega)).mono ?_
  rintro e w3 ⟨rfl, hb3⟩
  rw [Int.toNat_natCast]
  obtain ⟨h, hh⟩ : ∃ h, h = a ++ sb (fixN 4 q.toNat) := ⟨_, rfl⟩
  rw [← hh]
  have hhz : h.size ≤ 8 := by rw [hh, append_size, sb4_size]; omega
  have HH : Hid (h = a ++ sb (fixN 4 q.toNat)) := hh
  clear hh
  go_wp2
  go_ret2
  refine ⟨ret_se ?_, ?_⟩
  · rw [HH.out, HQ.out, HA.out]; exact frm_eq p
  · exact (hb1.trans (hb2.mono hb1.size)).trans (hb3.mono (by have := hb1.size; have := hb2.size; omega))
end Go.Proofs.Ytbfdggkoildfkaa
