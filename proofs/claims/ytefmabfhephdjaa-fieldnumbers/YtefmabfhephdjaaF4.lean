/- The document's own Power; FieldNumbers. -/
import Derived.Test.YtefmabfhephdjaaF3
namespace Go.Proofs.Ytefmabfhephdjaa
open Go.RowKit
set_option linter.unusedSimpArgs false
set_option linter.unusedVariables false
set_option maxHeartbeats 1000000 in
theorem rpower_any (a : UInt8) (n : Int) (w : World) (h1 : -9223372036854775808 ≤ n) (h2 : n ≤ 9223372036854775807) :
    Calls Try.prog 10 #[c8 a, .int .i64 n] w fun e w' => e = .returned (.tuple #[c8 (poV a n), .int .i64 (poE a n)]) ∧ w' = w := by
  have ha8 := a.toNat_lt
  by_cases hn0 : n = 0
  · subst hn0
    have HV : Hid (poV a 0 = 1) := by show poV a 0 = 1; unfold poV; rw [if_pos rfl]; split <;> rfl
    have HE : Hid (poE a 0 = 0) := if_neg (by omega)
    go_enter Try.func10, Try.ntmps10
    go_wp2
    go_ret2
    exact ⟨by rw [HV.out, HE.out]; rfl, rfl⟩
  have hnb : (n == 0) = false := by rw [beq_eq_false_iff_ne]; exact hn0
  by_cases h0 : a = 0
  · subst h0
    have HV : Hid (poV 0 n = 0) := by show poV 0 n = 0; unfold poV; rw [if_pos rfl, if_neg hn0]
    rcases Int.lt_or_le n 0 with hn | hn
    · have HE : Hid (poE 0 n = 1) := if_pos ⟨rfl, hn⟩
      clear hn0
      go_enter Try.func10, Try.ntmps10
      go_wp2
      go_ret2
      exact ⟨by rw [HV.out, HE.out]; rfl, rfl⟩
    · have HE : Hid (poE 0 n = 0) := if_neg (by omega)
      have hl : ¬ n < 0 := by omega
      clear hn0
      go_enter Try.func10, Try.ntmps10
      go_wp2
      go_ret2
      exact ⟨by rw [HV.out, HE.out]; rfl, rfl⟩
  · have hn : ¬ a.toNat = 0 := fun e => h0 (UInt8.toNat_inj.1 (by simpa using e))
    have h0' : (((a.toNat : Int)) == 0) = false := by rw [beq_eq_false_iff_ne]; omega
    have HE : Hid (poE a n = 0) := if_neg (fun h => h0 h.1)
    obtain ⟨t, ht⟩ : ∃ t, n.tmod 255 = t := ⟨_, rfl⟩
    obtain ⟨k, hk255, hk⟩ : ∃ k : Nat, k < 255 ∧ (n % 255).toNat = k := ⟨_, by omega, rfl⟩
    have HZ : Hid (poV a n = pw a k) := by show poV a n = _; rw [show poV a n = pwZ a n from if_neg h0, pwZ, hk]
    have hcase : (0 ≤ t ∧ t = (k : Int)) ∨ (t < 0 ∧ t + 255 = (k : Int)) := by
      rcases Int.lt_or_le n 0 with hn | hn
      · have e : n.tmod 255 = -((-n) % 255) := by
          have := Int.neg_tmod (-n) 255
          rw [Int.neg_neg] at this
          rw [this, Int.tmod_eq_emod_of_nonneg (by omega)]
        omega
      · rw [Int.tmod_eq_emod_of_nonneg hn] at ht
        omega
    clear hn0 h0 hn hk h1 h2
    rcases hcase with ⟨hs, hk⟩ | ⟨hs, hk⟩
    · subst hk
      go_enter Try.func10, Try.ntmps10
      go_wp2
      go_loop [7, 8] (fun p i => ∃ j : Nat, j ≤ k ∧ i = .int .i64 j ∧ p = c8 (pw a j)) (fun _ i => k - (intOf i).toNat)
      case atStart => exact ⟨0, by omega, rfl, rfl⟩
      case round =>
        obtain ⟨j, hj, rfl, rfl⟩ := hrel
        clear ht
        by_cases hlt : j < k
        · go_wp2_with fail
          refine (rtimes_any (pw a j) a _).mono ?_
          rintro e w1 ⟨rfl, hw⟩
          subst hw
          go_wp2
          go_round
          case rel => exact ⟨j + 1, by omega, by go_num, rfl⟩
          case measure => simp [intOf]; omega
        · have hjk : j = k := by omega
          subst hjk
          go_wp2
          go_ret2
          exact ⟨by rw [HE.out, HZ.out]; rfl, rfl⟩
    · go_enter Try.func10, Try.ntmps10
      go_wp2
      go_loop [7, 8] (fun p i => ∃ j : Nat, j ≤ k ∧ i = .int .i64 j ∧ p = c8 (pw a j)) (fun _ i => k - (intOf i).toNat)
      case atStart => exact ⟨0, by omega, rfl, rfl⟩
      case round =>
        obtain ⟨j, hj, rfl, rfl⟩ := hrel
        clear ht hs hk
        by_cases hlt : j < k
        · go_wp2_with fail
          refine (rtimes_any (pw a j) a _).mono ?_
          rintro e w1 ⟨rfl, hw⟩
          subst hw
          go_wp2
          go_round
          case rel => exact ⟨j + 1, by omega, by go_num, rfl⟩
          case measure => simp [intOf]; omega
        · have hjk : j = k := by omega
          subst hjk
          go_wp2
          go_ret2
          exact ⟨by rw [HE.out, HZ.out]; rfl, rfl⟩
end Go.Proofs.Ytefmabfhephdjaa
