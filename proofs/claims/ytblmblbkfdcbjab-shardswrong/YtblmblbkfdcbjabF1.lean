/- The walks of package field's numbers: twice, Times, Plus, power, inverse, Over, Power. -/
import Derived.Test.YtblmblbkfdcbjabRows
import Derived.WalkKit
import Derived.WalkSpells
import Derived.WalkLawsBesides
import Derived.Handy
import Derived.Deep.QuietTactic
import Derived.BigQuiet
import Derived.Test.YtblmblbkfdcbjabK2
namespace Go.Proofs.Ytblmblbkfdcbjab
open Go.RowKit
set_option linter.unusedSimpArgs false
set_option linter.unusedVariables false
theorem ret_n {k : IntKind} {a b : Int} (h : a = b) : Ending.returned (.int k a) = .returned (.int k b) := by rw [h]
/-- A byte as a value. -/
abbrev c8 (x : UInt8) : Value := .int .u8 (x.toNat : Int)
theorem xor8 (x y : UInt8) : bits .xor .u8 (x.toNat : Int) (y.toNat : Int) = ((x ^^^ y).toNat : Int) := by
  rw [u8_xor_nat _ _ x.toNat_lt y.toNat_lt, UInt8.toNat_xor]
theorem low8 (x : UInt8) : bits .and .u8 (x.toNat : Int) 1 = ((x.toNat % 2 : Nat) : Int) := by
  have h : (1 : Int) = ((1 : Nat) : Int) := rfl
  rw [h, u8_and_nat _ _ x.toNat_lt (by omega), Nat.and_one_is_mod]
theorem top8 (x : UInt8) : bits .and .u8 (x.toNat : Int) 128 = if x.toBitVec.getLsbD 7 then 128 else 0 := by
  revert x
  exact all8 (by decide +kernel)
theorem dbl_out (x : UInt8) (h : x.toBitVec.getLsbD 7 = true) : bits .xor .u8 ((x.toNat : Int) * 2 % 256) 29 = ((dbl x).toNat : Int) := by
  revert x
  exact all8 (by decide +kernel)
theorem dbl_in (x : UInt8) (h : x.toBitVec.getLsbD 7 = false) : (x.toNat : Int) * 2 % 256 = ((dbl x).toNat : Int) := by
  revert x
  exact all8 (by decide +kernel)
set_option maxHeartbeats 400000 in
theorem twice_any (a : UInt8) (w : World) :
    Calls Try.prog 40 #[c8 a] w fun e w' => e = .returned (c8 (dbl a)) ∧ w' = w := by
  have ha := a.toNat_lt
  have h7 := top8 a
  have HO := dbl_out a
  have HI := dbl_in a
  cases hb : a.toBitVec.getLsbD 7
  · have h8 : bits .and .u8 (a.toNat : Int) 128 = 0 := by rw [h7, hb]; rfl
    have HE : Hid ((a.toNat : Int) * 2 % 256 = ((dbl a).toNat : Int)) := HI hb
    clear h7 HO HI hb
    go_enter Try.func40, Try.ntmps40
    go_wp2
    go_ret
    exact ⟨ret_n HE.out, rfl⟩
  · have h8 : bits .and .u8 (a.toNat : Int) 128 = 128 := by rw [h7, hb]; rfl
    have HE : Hid (bits .xor .u8 ((a.toNat : Int) * 2 % 256) 29 = ((dbl a).toNat : Int)) := HO hb
    clear h7 HO HI hb
    go_enter Try.func40, Try.ntmps40
    go_wp2
    go_ret
    exact ⟨ret_n HE.out, rfl⟩
theorem plus_any (a b : UInt8) (w : World) :
    Calls Try.prog 27 #[c8 a, c8 b] w fun e w' => e = .returned (c8 (a ^^^ b)) ∧ w' = w := by
  have ha := a.toNat_lt
  have hb := b.toNat_lt
  go_enter Try.func27, Try.ntmps27
  go_wp2
  go_ret
  exact ⟨ret_n (xor8 a b), rfl⟩
theorem shr8 (y : UInt8) : (y.toNat : Int) / (2 : Int) = ((y >>> 1).toNat : Int) := by rw [shr_toNat]; omega
theorem xor_sel (a b c : UInt8) (q : Bool) (h : low b = q) (n : Nat) (x : UInt8) : c ^^^ mulF (n + 1) x b = (c ^^^ (if q then x else 0)) ^^^ mulF n (dbl x) (b >>> 1) := by
  rw [mulF, h, UInt8.xor_assoc]
set_option maxHeartbeats 400000 in
theorem times_any (a b : UInt8) (w : World) :
    Calls Try.prog 37 #[c8 a, c8 b] w fun e w' => e = .returned (c8 (mul a b)) ∧ w' = w := by
  go_enter Try.func37, Try.ntmps37
  go_wp2
  go_loop [0, 1, 5] (fun t0 t1 t5 => ∃ (n : Nat) (x y p : UInt8), y.toNat < 2 ^ n ∧ t0 = c8 x ∧ t1 = c8 y ∧ t5 = c8 p ∧ Hid (mul a b = p ^^^ mulF n x y)) (fun _ t1 _ => (intOf t1).toNat)
  case atStart => exact ⟨8, a, b, 0, b.toNat_lt, rfl, rfl, rfl, by show mul a b = _; rw [UInt8.zero_xor]; rfl⟩
  case round =>
    obtain ⟨n, x, y, p, hy, rfl, rfl, rfl, HM⟩ := hrel
    have hx8 := x.toNat_lt
    have hy8 := y.toNat_lt
    have hp8 := p.toNat_lt
    have HS := shr8 y
    by_cases h0 : y.toNat = 0
    · have h0' : (((y.toNat : Int)) == 0) = true := by rw [beq_iff_eq]; omega
      have hy0 : y = 0 := UInt8.toNat_inj.1 (by simpa using h0)
      have HE : Hid (mul a b = p) := by
        show mul a b = p
        rw [HM.out, hy0, mulF_zero, UInt8.xor_zero]
      clear HM hy HS hy0 h0
      go_wp2
      go_ret
      exact ⟨ret_n (by rw [HE.out]), rfl⟩
    · have h0' : (((y.toNat : Int)) == 0) = false := by rw [beq_eq_false_iff_ne]; omega
      obtain ⟨m, rfl⟩ : ∃ m, n = m + 1 := by
        cases n with
        | zero => rw [Nat.pow_zero] at hy; omega
        | succ m => exact ⟨m, rfl⟩
      have hs := shr_toNat y
      have hy2 : (y >>> 1).toNat < 2 ^ m := by
        rw [hs, Nat.div_lt_iff_lt_mul (by omega), ← Nat.pow_succ]; exact hy
      have hl := low_toNat y
      have hb := low8 y
      have HS2 : Hid ((y.toNat : Int) / (2 : Int) = ((y >>> 1).toNat : Int)) := HS
      have HS3 : Hid ((y >>> 1).toNat = y.toNat / 2) := hs
      by_cases ho : y.toNat % 2 = 1
      · have hb1 : bits .and .u8 (y.toNat : Int) 1 = 1 := by rw [hb, ho]; rfl
        have HN : Hid (mul a b = (p ^^^ x) ^^^ mulF m (dbl x) (y >>> 1)) := by
          show mul a b = _
          rw [HM.out, xor_sel a y p true (by rw [hl]; simp [ho]) m x, if_pos rfl]
        clear HS hs hl hb ho HM hy
        go_wp2_with (go_at_call 40; refine (twice_any x _).mono ?_; rintro e w' ⟨rfl, rfl⟩)
        go_round
        case rel => exact ⟨m, dbl x, y >>> 1, p ^^^ x, hy2, rfl, by rw [HS2.out], by rw [xor8], HN.out⟩
        case measure => have := HS3.out; simp [intOf]; omega
      · have hb1 : bits .and .u8 (y.toNat : Int) 1 = 0 := by rw [hb, show y.toNat % 2 = 0 from by omega]; rfl
        have HN : Hid (mul a b = p ^^^ mulF m (dbl x) (y >>> 1)) := by
          show mul a b = _
          rw [HM.out, xor_sel a y p false (by rw [hl]; simp [ho]) m x]; simp
        clear HS hs hl hb ho HM hy
        go_wp2_with (go_at_call 40; refine (twice_any x _).mono ?_; rintro e w' ⟨rfl, rfl⟩)
        go_round
        case rel => exact ⟨m, dbl x, y >>> 1, p, hy2, rfl, by rw [HS2.out], rfl, HN.out⟩
        case measure => have := HS3.out; simp [intOf]; omega
end Go.Proofs.Ytblmblbkfdcbjab
