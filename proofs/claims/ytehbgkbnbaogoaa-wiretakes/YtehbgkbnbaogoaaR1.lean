/- The walk of the document's own short (munimentref01). -/
import Derived.Test.YtehbgkbnbaogoaaW10
namespace Go.Proofs.Ytehbgkbnbaogoaa
open Go.RowKit
set_option linter.unusedSimpArgs false
set_option linter.unusedVariables false
theorem raccStep (acc b k : Nat) (hb : b < 256) (hacc : acc < 128 ^ k) (hk : k ≤ 8 ∨ (k = 9 ∧ b % 128 ≤ 1)) :
    IntKind.u64.wrap ((acc : Int) + IntKind.u64.wrap ((b : Int) % 128 * 2 ^ (7 * k))) = ((acc + b % 128 * 128 ^ k : Nat) : Int) ∧ acc + b % 128 * 128 ^ k < 2 ^ 64 := by
  have h2 := (accStep acc b k hb hacc hk).2
  refine ⟨?_, h2⟩
  have e2 : ((b : Int) % 128) * 2 ^ (7 * k) = ((b % 128 * 128 ^ k : Nat) : Int) := by
    rw [pow128, Int.natCast_mul, Int.natCast_pow]; rfl
  rw [e2, IntKind.wrap_u64, IntKind.wrap_u64]
  generalize b % 128 * 128 ^ k = q at h2 ⊢
  omega
theorem rsh_good (s : ByteArray) (k acc : Nat) (H : decS (bl s) = dec k acc ((bl s).drop k) ∧ (k ≤ 9 → acc < 128 ^ k)) (h : k < s.size) (hk : k < 10) (hb : s[k].toNat < 128)
    (hc : ¬ ((s[k].toNat = 0 ∧ 0 < k) ∨ (1 < s[k].toNat ∧ k = 9))) :
    IntKind.u64.wrap ((acc : Int) + IntKind.u64.wrap ((s[k].toNat : Int) % 128 * 2 ^ (7 * k))) = shN s ∧ (k : Int) + 1 = shK s := by
  obtain ⟨H1, H2⟩ := H
  rw [dec_good s k acc h hk hb hc] at H1
  have e := (raccStep acc s[k].toNat k (by omega) (H2 (by omega)) (by omega)).1
  refine sh_some s _ _ _ _ H1 ?_ (by omega)
  rw [e, Nat.mod_eq_of_lt hb]
theorem rsh_nine (s : ByteArray) (k acc : Nat) (H : decS (bl s) = dec k acc ((bl s).drop k) ∧ (k ≤ 9 → acc < 128 ^ k)) (h : k < s.size) (hk : k = 9) (hb : s[k].toNat ≤ 1) (hc : ¬ s[k].toNat = 0) :
    IntKind.u64.wrap ((acc : Int) + (s[k].toNat : Int) % 128 * 9223372036854775808) = shN s ∧ (10 : Int) = shK s := by
  have e := rsh_good s k acc H h (by omega) (by omega) (by omega)
  rw [show 7 * k = 63 from by omega, show (k : Int) + 1 = 10 from by omega] at e
  rw [← e.1, ← e.2]
  refine ⟨?_, rfl⟩
  congr 2
  rw [IntKind.wrap_u64]
  omega
theorem rsh_zero (s : ByteArray) (k acc : Nat) (H : decS (bl s) = dec k acc ((bl s).drop k) ∧ (k ≤ 9 → acc < 128 ^ k)) (h : k < s.size) (hk : ¬ 0 < k) (hb : s[k].toNat = 0) :
    IntKind.u64.wrap ((acc : Int) + IntKind.u64.wrap 0) = shN s ∧ (k : Int) + 1 = shK s := by
  have e := rsh_good s k acc H h (by omega) (by omega) (by omega)
  rw [hb] at e
  simpa using e
set_option maxHeartbeats 800000 in
set_option maxRecDepth 100000 in
theorem rshort_any (s : ByteArray) (w : World) (hs : s.size ≤ maxLen) :
    Calls Try.prog 30 #[.string s] w fun e w' => e = .returned (.tuple #[.int .u64 (shN s), .int .i64 (shK s)]) ∧ w' = w := by
  unfold maxLen at hs
  go_enter Try.func30, Try.ntmps30
  go_wp2
  go_loop [4, 5] (fun v i => ∃ (k acc : Nat), k ≤ s.size ∧ k ≤ 10 ∧ acc < 2 ^ 64 ∧ i = .int .i64 k ∧ v = .int .u64 acc ∧ Hid (decS (bl s) = dec k acc ((bl s).drop k) ∧ (k ≤ 9 → acc < 128 ^ k))) (fun _ i => 10 - (intOf i).toNat)
  case atStart => exact ⟨0, 0, by omega, by omega, by omega, rfl, rfl, ⟨rfl, fun _ => by omega⟩⟩
  case round =>
    obtain ⟨k, acc, hk1, hk2, hacc, rfl, rfl, HR⟩ := hrel
    by_cases hlt : k < s.size ∧ k < 10
    · obtain ⟨g1, g2⟩ := hlt
      have hB := s[k].toNat_lt
      by_cases hb : (128 : Int) ≤ s[k].toNat
      · by_cases h9 : k = 9
        · have h9' : ((k : Int) == 9) = true := by simp [h9]
          have H9 : Hid (k = 9) := h9
          clear h9
          go_wp2
          go_ret2
          refine ⟨ret_sh s _ _ (sh_none s ?_), rfl⟩
          rw [HR.out.1, dec_more s k acc g1 g2 (by omega), dec_ten _ _ _ (by have := H9.out; omega)]
        · have h9' : ((k : Int) == 9) = false := by rw [beq_eq_false_iff_ne]; omega
          have H9 : Hid (¬ k = 9) := h9
          clear h9
          go_wp2
          go_round
          case rel =>
            obtain ⟨R1, R2⟩ := HR.out
            rw [dec_more s k acc g1 g2 (by omega)] at R1
            have h9 := H9.out
            obtain ⟨e1, e2⟩ := raccStep acc s[k].toNat k hB (R2 (by omega)) (by omega)
            exact ⟨k + 1, _, by omega, by omega, e2, by go_num, by rw [e1], ⟨R1, fun _ => accNext _ _ _ (R2 (by omega))⟩⟩
          case measure => simp [intOf]; omega
      · have hb2 : (s[k].toNat : Int) < 128 := by omega
        go_wp2
        all_goals go_ret2
        all_goals refine ⟨ret_sh s _ _ ?_, rfl⟩
        all_goals first
          | exact rsh_good s k acc HR.out g1 g2 (by omega) (by omega)
          | exact sh_none s (by rw [HR.out.1]; exact dec_bad s k acc g1 g2 (by omega) (by omega))
          | exact rsh_nine s k acc HR.out g1 (by omega) (by omega) (by omega)
          | exact rsh_zero s k acc HR.out g1 (by omega) (by omega)
    · by_cases hl : k < s.size
      · go_wp2
        go_ret2
        refine ⟨ret_sh s _ _ (sh_none s ?_), rfl⟩
        rw [HR.out.1]
        exact dec_ten _ _ _ (by omega)
      · go_wp2
        go_ret2
        refine ⟨ret_sh s _ _ (sh_none s ?_), rfl⟩
        rw [HR.out.1, List.drop_of_length_le (by rw [bl_length]; omega)]; rfl
end Go.Proofs.Ytehbgkbnbaogoaa
