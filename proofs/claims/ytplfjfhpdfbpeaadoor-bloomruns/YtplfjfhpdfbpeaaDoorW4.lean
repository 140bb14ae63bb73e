/- The walk of wire.short. -/
import Derived.Test.YtplfjfhpdfbpeaaDoorW1F
import Derived.Test.YtplfjfhpdfbpeaaDoorP2
namespace Go.Proofs.YtplfjfhpdfbpeaaDoor
open Go.RowKit
set_option linter.unusedSimpArgs false
set_option linter.unusedVariables false
theorem ret_sh (s : ByteArray) (a b : Int) (h : (a = shN s) ∧ b = shK s) : Ending.returned (.tuple #[.int .u64 a, .int .i64 b]) = .returned (.tuple #[.int .u64 (shN s), .int .i64 (shK s)]) := by rw [h.1, h.2]
theorem sh_none (s : ByteArray) (h : decS (bl s) = none) : (0 : Int) = shN s ∧ (0 : Int) = shK s := by simp [shN, shK, h]
theorem sh_some (s : ByteArray) (n k : Nat) (a b : Int) (h : decS (bl s) = some (n, k)) (ha : a = n) (hb : b = k) : a = shN s ∧ b = shK s := by simp [shN, shK, h, ha, hb]
theorem sh_good (s : ByteArray) (k acc : Nat) (H : decS (bl s) = dec k acc ((bl s).drop k) ∧ (k ≤ 9 → acc < 128 ^ k)) (h : k < s.size) (hk : k < 10) (hb : s[k].toNat < 128)
    (hc : ¬ ((s[k].toNat = 0 ∧ 0 < k) ∨ (1 < s[k].toNat ∧ k = 9))) :
    bits .or .u64 (acc : Int) (IntKind.u64.wrap (IntKind.u64.wrap (bits .and .u8 (s[k].toNat : Int) 127) * 2 ^ (7 * k))) = shN s ∧ (k : Int) + 1 = shK s := by
  obtain ⟨H1, H2⟩ := H
  rw [dec_good s k acc h hk hb hc] at H1
  have e := (accStep acc s[k].toNat k (by omega) (H2 (by omega)) (by omega)).1
  refine sh_some s _ _ _ _ H1 ?_ (by omega)
  rw [e, Nat.mod_eq_of_lt hb]
theorem sh_zero (s : ByteArray) (k acc : Nat) (H : decS (bl s) = dec k acc ((bl s).drop k) ∧ (k ≤ 9 → acc < 128 ^ k)) (h : k < s.size) (hk : k = 0) (hb : s[k].toNat = 0) :
    bits .or .u64 (acc : Int) (IntKind.u64.wrap (IntKind.u64.wrap (bits .and .u8 0 127))) = shN s ∧ (1 : Int) = shK s := by
  subst hk
  have e := sh_good s 0 acc H h (by omega) (by omega) (by omega)
  rw [hb] at e
  simpa using e
set_option maxHeartbeats 800000 in
theorem short_any (s : ByteArray) (w : World) (hs : s.size ≤ maxLen) :
    Calls Tryd.prog 54 #[.string s] w fun e w' => e = .returned (.tuple #[.int .u64 (shN s), .int .i64 (shK s)]) ∧ w' = w := by
  unfold maxLen at hs
  go_enter Tryd.func54, Tryd.ntmps54
  go_wp2
  all_goals
    go_loop [2, 9] (fun v i => ∃ (k acc : Nat), k ≤ s.size ∧ k ≤ 10 ∧ acc < 2 ^ 64 ∧ i = .int .i64 k ∧ v = .int .u64 acc ∧ Hid (decS (bl s) = dec k acc ((bl s).drop k) ∧ (k ≤ 9 → acc < 128 ^ k))) (fun _ i => 10 - (intOf i).toNat)
    case atStart => exact ⟨0, 0, by omega, by omega, by omega, rfl, rfl, ⟨rfl, fun _ => by omega⟩⟩
    case round =>
      obtain ⟨k, acc, hk1, hk2, hacc, rfl, rfl, HR⟩ := hrel
      by_cases hlt : k < s.size ∧ k < 10
      · obtain ⟨g1, g2⟩ := hlt
        by_cases hb : (128 : Int) ≤ s[k].toNat
        · go_wp2
          go_round
          case rel =>
            obtain ⟨R1, R2⟩ := HR.out
            have hlt256 := s[k].toNat_lt
            rw [dec_more s k acc g1 g2 (by omega)] at R1
            by_cases h9 : k = 9
            · obtain ⟨m, hm, hm2⟩ := bits_or_lt (acc : Int) (IntKind.u64.wrap (IntKind.u64.wrap (bits .and .u8 (s[k].toNat : Int) 127) * 2 ^ (7 * k)))
              refine ⟨k + 1, m, by omega, by omega, hm2, by go_num, by rw [hm], ⟨?_, fun h => by omega⟩⟩
              rw [R1, dec_ten _ _ _ (by omega), dec_ten _ _ _ (by omega)]
            · obtain ⟨e1, e2⟩ := accStep acc s[k].toNat k hlt256 (R2 (by omega)) (by omega)
              exact ⟨k + 1, _, by omega, by omega, e2, by go_num, by rw [e1], ⟨R1, fun _ => accNext _ _ _ (R2 (by omega))⟩⟩
          case measure => simp [intOf]; omega
        · go_wp2
          all_goals go_ret2
          all_goals refine ⟨ret_sh s _ _ ?_, rfl⟩
          all_goals first
            | exact sh_good s k acc HR.out g1 g2 (by omega) (by simp_all; omega)
            | exact sh_none s (by rw [HR.out.1]; exact dec_bad s k acc g1 g2 (by omega) (by simp_all; omega))
            | exact sh_zero s k acc HR.out g1 (by assumption) (by assumption)
      · go_wp2
        go_ret2
        refine ⟨ret_sh s _ _ (sh_none s ?_), rfl⟩
        rw [HR.out.1]
        by_cases e : k = 10
        · exact dec_ten _ _ _ (by omega)
        · rw [List.drop_of_length_le (by rw [bl_length]; omega)]; rfl
end Go.Proofs.YtplfjfhpdfbpeaaDoor
