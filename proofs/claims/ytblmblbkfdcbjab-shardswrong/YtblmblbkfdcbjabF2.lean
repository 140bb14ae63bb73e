/- The walks of package field's powers: power, inverse, Over, Power. -/
import Derived.Test.YtblmblbkfdcbjabF1
namespace Go.Proofs.Ytblmblbkfdcbjab
open Go.RowKit
set_option linter.unusedSimpArgs false
set_option linter.unusedVariables false
theorem and1_64 (n : Nat) (h : n < 255) : bits .and .i64 (n : Int) 1 = ((n % 2 : Nat) : Int) := by
  have key : ∀ k : Fin 255, bits .and .i64 (k.val : Int) 1 = ((k.val % 2 : Nat) : Int) := by decide +kernel
  exact key ⟨n, h⟩
theorem pow_odd (p x : UInt8) (n : Nat) (h : n % 2 = 1) : mul p (pw x n) = mul (mul p x) (pw (mul x x) (n / 2)) := by
  rw [pw_sq, mul_assoc]
  conv => lhs; rw [show n = 1 + 2 * (n / 2) from by omega, pw_add, pw_one]
theorem pow_even (p x : UInt8) (n : Nat) (h : ¬ n % 2 = 1) : mul p (pw x n) = mul p (pw (mul x x) (n / 2)) := by
  rw [pw_sq, show 2 * (n / 2) = n from by omega]
/-- What the loop of power keeps. -/
def PwR (a : UInt8) (n : Int) (t0 t1 t5 : Value) : Prop := ∃ (x p : UInt8) (k : Nat), k < 255 ∧ t0 = c8 x ∧ t1 = .int .i64 k ∧ t5 = c8 p ∧ Hid (pwZ a n = mul p (pw x k))
set_option maxHeartbeats 1000000 in
theorem power_any (a : UInt8) (n : Int) (w : World) (h1 : -9223372036854775808 ≤ n) (h2 : n ≤ 9223372036854775807) :
    Calls Try.prog 38 #[c8 a, .int .i64 n] w fun e w' => e = .returned (c8 (pwZ a n)) ∧ w' = w := by
  obtain ⟨t, ht⟩ : ∃ t, n.tmod 255 = t := ⟨_, rfl⟩
  obtain ⟨k, hk255, hk⟩ : ∃ k : Nat, k < 255 ∧ (n % 255).toNat = k := ⟨_, by omega, rfl⟩
  have hz : pwZ a n = pw a k := by rw [pwZ, hk]
  have HZ : Hid (pwZ a n = mul 1 (pw a k)) := by show pwZ a n = _; rw [hz, one_mul]
  have hcase : (0 ≤ t ∧ t = (k : Int)) ∨ (t < 0 ∧ t + 255 = (k : Int)) := by
    rcases Int.lt_or_le n 0 with hn | hn
    · have e : n.tmod 255 = -((-n) % 255) := by
        have := Int.neg_tmod (-n) 255
        rw [Int.neg_neg] at this
        rw [this, Int.tmod_eq_emod_of_nonneg (by omega)]
      omega
    · rw [Int.tmod_eq_emod_of_nonneg hn] at ht
      omega
  clear hz hk h1 h2
  rcases hcase with ⟨h0, hk⟩ | ⟨h0, hk⟩
  · subst hk
    go_enter Try.func38, Try.ntmps38
    go_wp2_with fail
    go_loop [0, 1, 5] (fun t0 t1 t5 => PwR a n t0 t1 t5) (fun _ t1 _ => (intOf t1).toNat)
    case atStart => exact ⟨a, 1, k, hk255, rfl, rfl, rfl, HZ.out⟩
    case round =>
      obtain ⟨x, p, m, hm, rfl, rfl, rfl, HP⟩ := hrel
      clear ht h0
      have HB : Hid (bits .and .i64 (m : Int) 1 = ((m % 2 : Nat) : Int)) := and1_64 m hm
      by_cases hm0 : m = 0
      · subst hm0
        have HE : Hid (pwZ a n = p) := by show pwZ a n = p; rw [HP.out, pw, mul_one]
        clear HP HZ
        go_wp2
        go_ret
        exact ⟨ret_n (by rw [HE.out]), rfl⟩
      · have h0' : ((m : Int) == 0) = false := by rw [beq_eq_false_iff_ne]; omega
        by_cases ho : m % 2 = 1
        · have hb1 : bits .and .i64 (m : Int) 1 = 1 := by rw [HB.out, ho]; rfl
          have HN : Hid (pwZ a n = mul (mul p x) (pw (mul x x) (m / 2))) := by show pwZ a n = _; rw [HP.out, pow_odd p x m ho]
          clear HP HZ HB ho
          go_wp2_with fail
          refine (times_any p x _).mono ?_
          rintro e w1 ⟨rfl, hw⟩
          subst hw
          go_wp2_with fail
          refine (times_any x x _).mono ?_
          rintro e w1 ⟨rfl, hw⟩
          subst hw
          go_wp2
          go_round
          case rel => exact ⟨mul x x, mul p x, m / 2, by omega, rfl, by go_num, rfl, HN.out⟩
          case measure => simp [intOf]; omega
        · have hb1 : bits .and .i64 (m : Int) 1 = 0 := by rw [HB.out, show m % 2 = 0 from by omega]; rfl
          have HN : Hid (pwZ a n = mul p (pw (mul x x) (m / 2))) := by show pwZ a n = _; rw [HP.out, pow_even p x m ho]
          clear HP HZ HB ho
          go_wp2_with fail
          refine (times_any x x _).mono ?_
          rintro e w1 ⟨rfl, hw⟩
          subst hw
          go_wp2
          go_round
          case rel => exact ⟨mul x x, p, m / 2, by omega, rfl, by go_num, rfl, HN.out⟩
          case measure => simp [intOf]; omega
  · go_enter Try.func38, Try.ntmps38
    go_wp2_with fail
    go_loop [0, 1, 5] (fun t0 t1 t5 => PwR a n t0 t1 t5) (fun _ t1 _ => (intOf t1).toNat)
    case atStart => exact ⟨a, 1, k, hk255, rfl, rfl, rfl, HZ.out⟩
    case round =>
      obtain ⟨x, p, m, hm, rfl, rfl, rfl, HP⟩ := hrel
      clear ht h0 hk
      have HB : Hid (bits .and .i64 (m : Int) 1 = ((m % 2 : Nat) : Int)) := and1_64 m hm
      by_cases hm0 : m = 0
      · subst hm0
        have HE : Hid (pwZ a n = p) := by show pwZ a n = p; rw [HP.out, pw, mul_one]
        clear HP HZ
        go_wp2
        go_ret
        exact ⟨ret_n (by rw [HE.out]), rfl⟩
      · have h0' : ((m : Int) == 0) = false := by rw [beq_eq_false_iff_ne]; omega
        by_cases ho : m % 2 = 1
        · have hb1 : bits .and .i64 (m : Int) 1 = 1 := by rw [HB.out, ho]; rfl
          have HN : Hid (pwZ a n = mul (mul p x) (pw (mul x x) (m / 2))) := by show pwZ a n = _; rw [HP.out, pow_odd p x m ho]
          clear HP HZ HB ho
          go_wp2_with fail
          refine (times_any p x _).mono ?_
          rintro e w1 ⟨rfl, hw⟩
          subst hw
          go_wp2_with fail
          refine (times_any x x _).mono ?_
          rintro e w1 ⟨rfl, hw⟩
          subst hw
          go_wp2
          go_round
          case rel => exact ⟨mul x x, mul p x, m / 2, by omega, rfl, by go_num, rfl, HN.out⟩
          case measure => simp [intOf]; omega
        · have hb1 : bits .and .i64 (m : Int) 1 = 0 := by rw [HB.out, show m % 2 = 0 from by omega]; rfl
          have HN : Hid (pwZ a n = mul p (pw (mul x x) (m / 2))) := by show pwZ a n = _; rw [HP.out, pow_even p x m ho]
          clear HP HZ HB ho
          go_wp2_with fail
          refine (times_any x x _).mono ?_
          rintro e w1 ⟨rfl, hw⟩
          subst hw
          go_wp2
          go_round
          case rel => exact ⟨mul x x, p, m / 2, by omega, rfl, by go_num, rfl, HN.out⟩
          case measure => simp [intOf]; omega
theorem inverse_any (a : UInt8) (w : World) :
    Calls Try.prog 29 #[c8 a] w fun e w' => e = .returned (c8 (inv a)) ∧ w' = w := by
  go_enter Try.func29, Try.ntmps29
  go_wp2_with (go_at_call 38; refine (power_any a (-1) _ (by omega) (by omega)).mono ?_; rintro e w' ⟨rfl, rfl⟩)
  go_ret
  exact ⟨rfl, rfl⟩
/-- What Over answers. -/
def ovV (a b : UInt8) : UInt8 := if b = 0 then 0 else mul a (inv b)
def ovE (b : UInt8) : Nat := if b = 0 then 1 else 0
/-- What Power answers. -/
def poV (a : UInt8) (n : Int) : UInt8 := if a = 0 then (if n = 0 then 1 else 0) else pwZ a n
def poE (a : UInt8) (n : Int) : Nat := if a = 0 ∧ n < 0 then 1 else 0
end Go.Proofs.Ytblmblbkfdcbjab
