/- The walks of the document's own step, On, Crc (munimentref03). -/
import Derived.Test.YtbfdggkoildfkaaE3
namespace Go.Proofs.Ytbfdggkoildfkaa
open Go.RowKit
set_option linter.unusedSimpArgs false
set_option linter.unusedVariables false
theorem half_raw (m : BitVec 32) : (m.toNat : Int) / (2 : Int) = ((m >>> 1).toNat : Int) := by rw [BitVec.toNat_ushiftRight, Nat.shiftRight_eq_div_pow]; omega
theorem lsb_mod (m : BitVec 32) : m.getLsbD 0 = decide (m.toNat % 2 = 1) := by
  rw [BitVec.getLsbD, Nat.testBit_zero]
theorem sh1_odd (m : BitVec 32) (h : m.toNat % 2 = 1) : bits .xor .u32 ((m.toNat : Int) / 2) 3988292384 = ((sh1 m).toNat : Int) := by
  rw [half_raw, poly32, xor32, sh1, lsb_mod, decide_eq_true h, if_pos rfl]
theorem sh1_even (m : BitVec 32) (h : ¬ m.toNat % 2 = 1) : (m.toNat : Int) / 2 = ((sh1 m).toNat : Int) := by
  rw [half_raw, sh1, lsb_mod, decide_eq_false h]
  simp
set_option maxHeartbeats 400000 in
set_option maxRecDepth 100000 in
theorem rstep_any (n : BitVec 32) (b : Nat) (w : World) (hb : b < 256) :
    Calls Try.prog 25 #[c32 n, .int .u8 b] w fun e w' => e = .returned (c32 (cst n (UInt8.ofNat b))) ∧ w' = w := by
  obtain ⟨m0, hm0⟩ : ∃ m0, m0 = n ^^^ BitVec.ofNat 32 (UInt8.ofNat b).toNat := ⟨_, rfl⟩
  have HX : Hid (bits .xor .u32 (n.toNat : Int) (b : Int) = (m0.toNat : Int)) := by rw [hm0, ← xor32, ← ofByte b hb]; rfl
  have HM : Hid (m0 = n ^^^ BitVec.ofNat 32 (UInt8.ofNat b).toNat) := hm0
  clear hm0
  go_enter Try.func25, Try.ntmps25
  go_wp2
  rw [HX.out]
  go_loop [0, 5] (fun v i => ∃ (k : Nat) (m : BitVec 32), k ≤ 8 ∧ i = .int .i64 k ∧ v = c32 m ∧ Hid (m = shN32 k m0)) (fun _ i => 8 - (intOf i).toNat)
  case atStart => exact ⟨0, m0, by omega, rfl, rfl, rfl⟩
  case round =>
    obtain ⟨k, m, hk, rfl, rfl, HR⟩ := hrel
    have hlt32 := m.isLt
    by_cases hlt : k < 8
    · by_cases ho : m.toNat % 2 = 1
      · have h1 : (((m.toNat : Int) % 2) == 1) = true := by rw [beq_iff_eq]; omega
        have HO : Hid (m.toNat % 2 = 1) := ho
        clear ho
        go_wp2
        go_round
        case rel => exact ⟨k + 1, sh1 m, by omega, by go_num, by rw [sh1_odd m HO.out], by show sh1 m = _; rw [HR.out]; rfl⟩
        case measure => simp [intOf]; omega
      · have h1 : (((m.toNat : Int) % 2) == 1) = false := by rw [beq_eq_false_iff_ne]; omega
        have HO : Hid (¬ m.toNat % 2 = 1) := ho
        clear ho
        go_wp2
        go_round
        case rel => exact ⟨k + 1, sh1 m, by omega, by go_num, by rw [sh1_even m HO.out], by show sh1 m = _; rw [HR.out]; rfl⟩
        case measure => simp [intOf]; omega
    · go_wp2
      go_ret
      have e : k = 8 := by omega
      refine ⟨ret_i32 ?_, rfl⟩
      rw [HR.out, e, HM.out]; rfl
set_option maxHeartbeats 400000 in
set_option maxRecDepth 100000 in
theorem ron_any (c : BitVec 32) (s : ByteArray) (w : World) (hs : s.size ≤ maxLen) :
    Calls Try.prog 14 #[c32 c, .string s] w fun e w' => e = .returned (c32 (onC c (bl s))) ∧ w' = w := by
  unfold maxLen at hs
  have hsg : IntKind.u32.signed = false := rfl
  have hmx := max32
  obtain ⟨d, hd⟩ : ∃ d, d = ~~~ c := ⟨_, rfl⟩
  have HD : Hid (d = ~~~ c) := hd
  clear hd
  go_enter Try.func14, Try.ntmps14
  go_wp2
  rw [not32, ← HD.out]
  go_loop [5, 6] (fun v i => ∃ (k : Nat) (m : BitVec 32), k ≤ s.size ∧ i = .int .i64 k ∧ v = c32 m ∧ Hid (m = crcR d ((bl s).take k))) (fun _ i => s.size - (intOf i).toNat)
  case atStart => exact ⟨0, d, by omega, rfl, rfl, rfl⟩
  case round =>
    obtain ⟨k, m, hk, rfl, rfl, HM⟩ := hrel
    by_cases hlt : k < s.size
    · go_wp2_with fail
      refine (rstep_any m s[k].toNat _ s[k].toNat_lt).mono ?_
      rintro e w1 ⟨rfl, hw1⟩
      subst hw1
      rw [UInt8.ofNat_toNat]
      go_wp2
      go_round
      case rel => exact ⟨k + 1, cst m s[k], by omega, by go_num, rfl, by show cst m s[k] = _; rw [HM.out, take_snoc s k hlt, crcR_snoc]⟩
      case measure => simp [intOf]; omega
    · go_wp2
      go_ret
      have e : k = s.size := by omega
      refine ⟨ret_i32 ?_, rfl⟩
      rw [not32, HM.out, e, HD.out, List.take_of_length_le (by rw [bl_length]; exact Nat.le_refl _)]
      rfl
set_option maxHeartbeats 400000 in
theorem rcrc_any (s : ByteArray) (w : World) (hs : s.size ≤ maxLen) :
    Calls Try.prog 12 #[.string s] w fun e w' => e = .returned (c32 (crcC (bl s))) ∧ w' = w := by
  go_enter Try.func12, Try.ntmps12
  go_wp2_with fail
  refine (ron_any 0#32 s _ hs).mono ?_
  rintro e w1 ⟨rfl, hb⟩
  subst hb
  go_wp2
  go_ret
  exact ⟨rfl, rfl⟩
end Go.Proofs.Ytbfdggkoildfkaa
