/- The walk of the document's Of. -/
import Derived.Test.YtdinhnpobdfnoaaV2A
namespace Go.Proofs.Ytdinhnpobdfnoaa
open Go.RowKit
set_option linter.unusedSimpArgs false
set_option linter.unusedVariables false
theorem wn_text (s : ByteArray) (j p : Nat) (hp : p + 64 = s.size + j) (h : p < s.size) : wn (tby s) j = (s[p]'h).toNat := by
  unfold wn
  rw [tby_len, if_neg (by omega), show s.size + j - 64 = p from by omega, List.getD, List.getElem?_eq_getElem (by rw [tby_len]; exact h)]
  rfl
theorem wn_none (s : ByteArray) (j : Nat) (h : s.size + j < 64) : wn (tby s) j = 0 := by
  unfold wn
  rw [tby_len, if_pos h]
set_option maxHeartbeats 1000000 in
set_option maxRecDepth 100000 in
theorem rOf_any (s : ByteArray) (w : World) (hs : s.size ≤ maxLen) : Calls Try.prog 39 #[.string s] w fun e w' => e = .returned (.int .u32 (dgR (tby s) : Int)) ∧ w' = w := by
  unfold maxLen at hs
  go_enter Try.func39, Try.ntmps39
  go_wp2
  go_loop [3, 4, 5] (fun a b c => ∃ k i lo hi : Nat, k ≤ 64 ∧ i = k + 1 ∧ lo ≤ k * 286 ∧ hi ≤ k * 18304 ∧ a = .int .u32 (lo : Int) ∧ b = .int .u32 (hi : Int) ∧ c = .int .i64 (i : Int) ∧ Hid (lo = smN (fun i => wn (tby s) i + 31) k) ∧ Hid (hi = smN (fun i => (i + 1) * (wn (tby s) i + 31)) k)) (fun _ _ c => 65 - (intOf c).toNat)
  case atStart => exact ⟨0, 1, 0, 0, by omega, rfl, by omega, by omega, rfl, rfl, rfl, rfl, rfl⟩
  case round =>
    obtain ⟨k, i, lo, hi, hk, hi1, hlo, hhi, rfl, rfl, rfl, HL, HH⟩ := hrel
    by_cases hlt : k < 64
    · have hiz : (i : Int) ≤ 64 := by omega
      have hi0 : (1 : Int) ≤ i := by omega
      have hw := wn_lt (tby s) k
      have HL2 : Hid (lo + (wn (tby s) k + 31) = smN (fun i => wn (tby s) i + 31) (k + 1)) := by show _ = _; rw [smN, HL.out]
      have HH2 : Hid (hi + i * (wn (tby s) k + 31) = smN (fun i => (i + 1) * (wn (tby s) i + 31)) (k + 1)) := by show _ = _; rw [smN, HH.out, hi1]
      have hm1 : i * (wn (tby s) k + 31) ≤ 18304 := Nat.le_trans (Nat.mul_le_mul (show i ≤ 64 by omega) (show wn (tby s) k + 31 ≤ 286 by omega)) (by omega)
      have HI : Hid (i = k + 1) := hi1
      have hlo2 : lo ≤ 20000 := by omega
      have hhi2 : hi ≤ 2000000 := by omega
      have Hlo : Hid (lo ≤ k * 286 ∧ hi ≤ k * 18304) := ⟨hlo, hhi⟩
      by_cases hge : 64 ≤ s.size + k
      · obtain ⟨p, hp⟩ : ∃ p, p + 64 = s.size + k := ⟨s.size + k - 64, by omega⟩
        have hps : p < s.size := by omega
        have hpz : (s.size : Int) - 64 + i - 1 = p := by omega
        have HW : Hid (wn (tby s) k = s[p].toNat) := wn_text s k p hp hps
        rw [HW.out] at HL2 HH2 hm1 hw
        have hp0 : (0 : Int) ≤ p := by omega
        clear hp hge hi1 hlo hhi HL HH
        obtain ⟨q, hq⟩ : ∃ q, s[p].toNat = q := ⟨_, rfl⟩
        rw [hq] at HL2 HH2 hm1 hw
        obtain ⟨M, hM⟩ : ∃ M, i * (q + 31) = M := ⟨_, rfl⟩
        have hMz : (i : Int) * (31 + (q : Int)) = M := by rw [← hM, Int.natCast_mul, show ((q + 31 : Nat) : Int) = 31 + (q : Int) from by omega]
        rw [hM] at HH2 hm1
        clear hM
        go_wp2
        go_round
        case rel => exact ⟨k + 1, i + 1, lo + (q + 31), hi + M, by omega, by have := HI.out; omega, by have := Hlo.out; omega, by have := Hlo.out; omega, by go_num, by go_num, by go_num, HL2.out, HH2.out⟩
        case measure => simp [intOf]; omega
      · have HW : Hid (wn (tby s) k = 0) := wn_none s k (by omega)
        rw [HW.out] at HL2 HH2 hm1 hw
        have hpz : ¬ (s.size : Int) - 64 + i - 1 ≥ 0 := by omega
        clear hge hi1 hlo hhi HL HH
        go_wp2
        go_round
        case rel => exact ⟨k + 1, i + 1, lo + 31, hi + i * 31, by omega, by have := HI.out; omega, by have := Hlo.out; omega, by have := Hlo.out; omega, by go_num, by go_num, by go_num, HL2.out, HH2.out⟩
        case measure => simp [intOf]; omega
    · have hk64 : k = 64 := by omega
      subst hk64
      subst hi1
      have hl2 : lo ≤ 20000 := by omega
      have hh2 : hi ≤ 2000000 := by omega
      have HE : Hid ((dgR (tby s) : Int) = (lo : Int) % 65536 * 65536 + (hi : Int) % 65536) := by
        show _ = _
        have e1 : lo = loS (tby s) := HL.out
        have e2 : hi = hiS (tby s) := HH.out
        unfold dgR lo6 hi6
        rw [← e1, ← e2]; omega
      clear HL HH
      go_wp2
      go_ret
      exact ⟨ret_r (by rw [HE.out]), rfl⟩
set_option maxHeartbeats 1000000 in
set_option maxRecDepth 100000 in
theorem rOnes_any (N : Nat) (w : World) (hN : N < 4294967296) : Calls Try.prog 38 #[.int .u32 (N : Int)] w fun e w' => e = .returned (.int .i64 (onN 32 N : Int)) ∧ w' = w := by
  go_enter Try.func38, Try.ntmps38
  go_wp2
  go_loop [0, 3] (fun v u => ∃ k m : Nat, m < 4294967296 ∧ k ≤ 32 ∧ v = .int .u32 (m : Int) ∧ u = .int .i64 (k : Int) ∧ Hid (OnW N k m)) (fun _ u => 32 - (intOf u).toNat)
  case atStart => exact ⟨0, N, hN, by omega, rfl, rfl, ⟨by simp, by simpa using hN, by omega⟩⟩
  case round =>
    obtain ⟨k, m, hm, hk, rfl, rfl, HO⟩ := hrel
    by_cases hk3 : k < 32
    · by_cases hlt : m % 2 = 1
      · have hb1 : (m : Int) % 2 = 1 := by omega
        have HN : Hid (OnW N (k + 1) (m / 2)) := HO.out.next hlt
        have HC : Hid ((m : Int) / 2 = ((m / 2 : Nat) : Int)) := by show _ = _; omega
        clear hlt HO
        go_wp2
        go_round
        case rel => exact ⟨k + 1, m / 2, by omega, by omega, by first | rfl | (rw [← HC.out]), by go_num, HN.out⟩
        case measure => simp [intOf]; omega
      · have hb1 : (m : Int) % 2 = 0 := by omega
        have HE : Hid (onN 32 N = k) := HO.out.stop (by omega)
        clear hlt HO
        go_wp2
        go_ret
        exact ⟨ret_r (by rw [HE.out]), rfl⟩
    · have hk32 : k = 32 := by omega
      subst hk32
      have HE : Hid (onN 32 N = 32) := HO.out.end
      clear HO
      go_wp2
      go_ret
      exact ⟨ret_r (by rw [HE.out]; rfl), rfl⟩
end Go.Proofs.Ytdinhnpobdfnoaa
