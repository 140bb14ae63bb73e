/- The document's own Times, Over, Power (munimentref06). -/
import Derived.Test.YtblmblbkfdcbjaaF2
namespace Go.Proofs.Ytblmblbkfdcbjaa
open Go.RowKit
set_option linter.unusedSimpArgs false
set_option linter.unusedVariables false
theorem xorW (x y : BitVec 32) : bits .xor .u32 (x.toNat : Int) (y.toNat : Int) = ((x ^^^ y).toNat : Int) := by
  rw [u32_xor_nat _ _ (by have := x.isLt; omega) (by have := y.isLt; omega), BitVec.toNat_xor]
theorem shlW (a : UInt8) (k : Nat) : (a.toNat : Int) * 2 ^ k % 4294967296 = ((w32 a <<< k).toNat : Int) := by
  rw [BitVec.toNat_shiftLeft, Nat.shiftLeft_eq, w32_toNat]
  show _ = ((a.toNat * 2 ^ k % 2 ^ 32 : Nat) : Int)
  simp
theorem shlP (k : Nat) : (285 : Int) * 2 ^ k % 4294967296 = ((285#32 <<< k).toNat : Int) := by
  rw [BitVec.toNat_shiftLeft, Nat.shiftLeft_eq]
  show _ = ((285 * 2 ^ k % 2 ^ 32 : Nat) : Int)
  simp
set_option maxHeartbeats 1000000 in
theorem rtimes_any (a b : UInt8) (w : World) :
    Calls Try.prog 34 #[c8 a, c8 b] w fun e w' => e = .returned (c8 (mul a b)) ∧ w' = w := by
  have ha8 := a.toNat_lt
  have hb8 := b.toNat_lt
  go_enter Try.func34, Try.ntmps34
  go_wp2
  go_loop [5, 6] (fun v i => ∃ (k : Nat) (n : BitVec 32), k ≤ 8 ∧ i = .int .i64 k ∧ v = .int .u32 n.toNat ∧ n.toNat < 2 ^ 15 ∧ Hid (valS 15 n = mulS k a b)) (fun _ i => 8 - (intOf i).toNat)
  case atStart => exact ⟨0, 0#32, by omega, rfl, rfl, by decide, by show valS 15 0#32 = 0; decide⟩
  case round =>
    obtain ⟨k, n, hk, rfl, rfl, hn, HV⟩ := hrel
    by_cases hlt : k < 8
    · by_cases ho : b.toNat / 2 ^ k % 2 = 1
      · have hst := first_step n a b k hlt hn HV.out ho
        have h1 : (((b.toNat : Int) / 2 ^ k).tmod 2 == 1) = true := by
          rw [beq_iff_eq, Int.tmod_eq_emod_of_nonneg (Int.ediv_nonneg (by omega) (Int.pow_nonneg (by omega)))]; exact_mod_cast ho
        have HS : Hid ((n ^^^ w32 a <<< k).toNat < 2 ^ 15 ∧ valS 15 (n ^^^ w32 a <<< k) = mulS (k + 1) a b) := hst
        clear hst ho HV
        go_wp2
        go_round
        case rel => exact ⟨k + 1, n ^^^ w32 a <<< k, by omega, by go_num, by rw [shlW, xorW], HS.out.1, HS.out.2⟩
        case measure => simp [intOf]; omega
      · have h1 : (((b.toNat : Int) / 2 ^ k).tmod 2 == 1) = false := by
          rw [beq_eq_false_iff_ne, Int.tmod_eq_emod_of_nonneg (Int.ediv_nonneg (by omega) (Int.pow_nonneg (by omega)))]; exact_mod_cast ho
        have HS : Hid (valS 15 n = mulS (k + 1) a b) := first_skip n a b k HV.out ho
        clear ho HV
        go_wp2
        go_round
        case rel => exact ⟨k + 1, n, by omega, by go_num, rfl, hn, HS.out⟩
        case measure => simp [intOf]; omega
    · have hk8 : k = 8 := by omega
      subst hk8
      go_wp2
      go_loop [5, 7] (fun v i => ∃ (j k : Nat) (n : BitVec 32), k = j + 7 ∧ j ≤ 7 ∧ i = .int .i64 k ∧ v = .int .u32 n.toNat ∧ Hid (n.toNat < 2 ^ (j + 8)) ∧ Hid (valS 15 n = mulS 8 a b)) (fun _ i => (intOf i).toNat)
      case atStart => exact ⟨7, 14, n, rfl, by omega, rfl, rfl, hn, HV.out⟩
      case round =>
        clear HV hn
        obtain ⟨j, k, m, hkj, hj, rfl, rfl, HN, HV⟩ := hrel
        have hm32 := m.isLt
        by_cases h8 : 8 ≤ k
        · obtain ⟨l, rfl⟩ : ∃ l, j = l + 1 := ⟨j - 1, by omega⟩
          have hsub : (k : Int) - 8 = (l : Int) := by omega
          have hkl : k = l + 8 := by omega
          by_cases ho : m.toNat / 2 ^ k % 2 = 1
          · have hst := second_step m (mulS 8 a b) l (by omega) HN.out HV.out (by rw [← hkl]; exact ho)
            have h1 : (((m.toNat : Int) / 2 ^ k).tmod 2 == 1) = true := by
              rw [beq_iff_eq, Int.tmod_eq_emod_of_nonneg (Int.ediv_nonneg (by omega) (Int.pow_nonneg (by omega)))]; exact_mod_cast ho
            have HS : Hid ((m ^^^ 285#32 <<< l).toNat < 2 ^ (l + 8) ∧ valS 15 (m ^^^ 285#32 <<< l) = mulS 8 a b) := hst
            have HK : Hid (k = l + 8) := hkl
            clear hst ho HV HN hkj hkl
            go_wp2
            go_round
            case rel => exact ⟨l, k - 1, m ^^^ 285#32 <<< l, by have := HK.out; omega, by omega, by go_num, by rw [shlP, xorW], HS.out.1, HS.out.2⟩
            case measure => simp [intOf]; omega
          · have h1 : (((m.toNat : Int) / 2 ^ k).tmod 2 == 1) = false := by
              rw [beq_eq_false_iff_ne, Int.tmod_eq_emod_of_nonneg (Int.ediv_nonneg (by omega) (Int.pow_nonneg (by omega)))]; exact_mod_cast ho
            have HS : Hid (m.toNat < 2 ^ (l + 8)) := second_skip m.toNat l HN.out (by rw [← hkl]; exact ho)
            have HK : Hid (k = l + 8) := hkl
            clear ho HN hkj hkl
            go_wp2
            go_round
            case rel => exact ⟨l, k - 1, m, by have := HK.out; omega, by omega, by go_num, rfl, HS.out, HV.out⟩
            case measure => simp [intOf]; omega
        · have hj0 : j = 0 := by omega
          subst hj0
          have he := val_end m a b HN.out HV.out
          have hlt2 : m.toNat < 256 := HN.out
          have HE : Hid (m.toNat = (mul a b).toNat) := he
          clear he HN HV hkj
          go_wp2
          go_ret
          exact ⟨ret_n (by rw [← HE.out]), rfl⟩
/-- What the document's Over answers is the same. -/
theorem over_sought (a b x : UInt8) (hb : b ≠ 0) (h : mul x b = a) : x = mul a (inv b) := by
  rw [← h, mul_assoc, inv_mul b hb, mul_one]
set_option maxHeartbeats 400000 in
theorem rover_any (a b : UInt8) (w : World) :
    Calls Try.prog 57 #[c8 a, c8 b] w fun e w' => e = .returned (.tuple #[c8 (ovV a b), .int .i64 (ovE b)]) ∧ w' = w := by
  have hb8 := b.toNat_lt
  by_cases h0 : b = 0
  · subst h0
    go_enter Try.func57, Try.ntmps57
    go_wp2
    go_ret2
    exact ⟨rfl, rfl⟩
  · have hn : ¬ b.toNat = 0 := fun e => h0 (UInt8.toNat_inj.1 (by simpa using e))
    have h0' : (((b.toNat : Int)) == 0) = false := by rw [beq_eq_false_iff_ne]; omega
    have HV : Hid (ovV a b = mul a (inv b)) := if_neg h0
    have HE : Hid (ovE b = 0) := if_neg h0
    have HB : Hid (b ≠ 0) := h0
    obtain ⟨t, ht⟩ : ∃ t, t = mul a (inv b) := ⟨_, rfl⟩
    have HT : Hid (t = mul a (inv b)) := ht
    have HT2 : Hid (mul t b = a) := by show mul t b = a; rw [ht, mul_assoc, mul_inv b h0, mul_one]
    have ht8 := t.toNat_lt
    clear h0 hn ht
    go_enter Try.func57, Try.ntmps57
    go_wp2
    go_loop [6] (fun v => ∃ x : UInt8, x.toNat ≤ t.toNat ∧ v = .int .i64 x.toNat) (fun v => 256 - (intOf v).toNat)
    case atStart => exact ⟨0, by simp, rfl⟩
    case round =>
      obtain ⟨x, hx, rfl⟩ := hrel
      have hx8 := x.toNat_lt
      go_wp2_with fail
      refine (rtimes_any x b _).mono ?_
      rintro e w1 ⟨rfl, hw⟩
      subst hw
      obtain ⟨z, hz⟩ : ∃ z, mul x b = z := ⟨_, rfl⟩
      rw [hz]
      have HZ : Hid (mul x b = z) := hz
      clear hz
      by_cases hza : z = a
      · have h1 : ((z.toNat : Int) == (a.toNat : Int)) = true := by rw [hza]; simp
        have hxt : x = t := by rw [HT.out]; exact over_sought a b x HB.out (by rw [HZ.out, hza])
        have HX : Hid (x = mul a (inv b)) := by show x = _; rw [hxt, HT.out]
        clear hza hxt HZ
        go_wp2
        go_ret2
        exact ⟨by rw [HV.out, HE.out, ← HX.out]; rfl, rfl⟩
      · have h1 : ((z.toNat : Int) == (a.toNat : Int)) = false := by
          rw [beq_eq_false_iff_ne]
          intro e
          exact hza (UInt8.toNat_inj.1 (by omega))
        have hxt : x.toNat < t.toNat := by
          rcases Nat.lt_or_eq_of_le hx with h | h
          · exact h
          · exfalso
            apply hza
            rw [← HZ.out, UInt8.toNat_inj.1 h]
            exact HT2.out
        clear hza
        go_wp2
        go_round
        case rel => exact ⟨UInt8.ofNat (x.toNat + 1), by simp; omega, by simp; omega⟩
        case measure => simp [intOf]; omega
end Go.Proofs.Ytblmblbkfdcbjaa
