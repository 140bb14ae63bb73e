/- bloom: Ones. -/
import Derived.Test.YtplfjfhpdfbpeaaDoorBQ4
import Derived.Test.YtplfjfhpdfbpeaaDoorBM2
namespace Go.Proofs.YtplfjfhpdfbpeaaDoor
open Go.RowKit
set_option linter.unusedSimpArgs false
set_option linter.unusedVariables false
theorem tabP_size : Lib.pop8tab.size = 256 := by decide +kernel
theorem tabP8 : ∀ B : Fin 256, wrap64 ((Lib.pop8tab[B.val]'(by rw [tabP_size]; exact B.isLt)).toNat : Int) = (popN B.val : Int) := by decide +kernel
set_option maxHeartbeats 1000000 in
set_option maxRecDepth 100000 in
theorem ones8 (B : Nat) (hb : B < 256) (w : World) : Calls Tryd.prog 44 #[.int .u8 (B : Int)] w fun e w' => e = .returned (.int .i64 (popN B : Int)) ∧ w' = w := by
  have HT : Hid _ := tabP8 ⟨B, hb⟩
  go_enter Tryd.func44, Tryd.ntmps44
  go_wp2
  go_ret
  refine ⟨?_, rfl⟩
  show Ending.returned (.int .i64 _) = _
  have := HT.out
  rw [← this]
set_option maxHeartbeats 1000000 in
set_option maxRecDepth 100000 in
theorem ones_any14 (f g n k : Nat) (s : List UInt8) (w : World) (h : FlS w f g n k s) :
    Calls Tryd.prog 21 #[.pointer (some ⟨f, 0, none⟩)] w fun e w' => e = .returned (.int .i64 (onR s : Int)) ∧ w' = w := by
  have hl := h.len
  have hn := okF_le h.ok
  obtain ⟨c, ht, hc⟩ := h.top
  have c2 : w.cell? ⟨f, 2, none⟩ = some (.slice (some ⟨g, 0, none⟩) s.length c) := by rw [ht.cell]; rfl
  have HR : Hid (Rw w g s) := h.row
  obtain ⟨L, hL⟩ : ∃ L, s.length = L := ⟨_, rfl⟩
  have HL : Hid (s.length = L) := hL
  rw [hL] at c2 hl hc
  clear ht h hL
  go_enter Tryd.func21, Tryd.ntmps21
  go_wp2
  go_loopw [3, 13] (fun v t wr => ∃ i m : Nat, i ≤ L ∧ t = .int .i64 i ∧ v = .int .i64 m ∧ m ≤ 8 * i ∧ Hid (onR (s.take i) = m) ∧ wr = w) (fun _ t _ => L - (intOf t).toNat)
  case atStart => exact ⟨0, 0, Nat.zero_le _, rfl, rfl, by omega, by simp [onR, Hid], rfl⟩
  case round =>
    obtain ⟨i, m, hi, rfl, rfl, hm, HM, rfl⟩ := hrel
    by_cases hlt : i < L
    · have r1 := HR.out.cell i (by rw [HL.out]; exact hlt)
      have HN : Hid _ := onR_take s i (by rw [HL.out]; exact hlt)
      obtain ⟨B, hB⟩ : ∃ B, (s.getD i 0).toNat = B := ⟨_, rfl⟩
      have hB2 : B < 256 := by rw [← hB]; exact UInt8.toNat_lt _
      rw [hB] at r1 HN
      have hp := popN_le B
      obtain ⟨q, hq⟩ : ∃ q, popN B = q := ⟨_, rfl⟩
      have HO : Hid (∀ u, Calls Tryd.prog 44 #[.int .u8 (B : Int)] u fun e w' => e = .returned (.int .i64 (q : Int)) ∧ w' = u) := by rw [← hq]; exact fun u => ones8 B hB2 u
      rw [hq] at hp HN
      clear hB hq
      go_wp2_with fail
      refine (HO.out _).mono ?_
      rintro e w1 ⟨rfl, hw⟩
      subst hw
      go_wp2
      go_roundw
      case rel => exact ⟨i + 1, m + q, by omega, by go_num, by go_num, by omega, by show _ = _; rw [HN.out, HM.out], trivial⟩
      case measure => simp [intOf]; omega
    · have hik : i = L := by omega
      have HK : Hid (onR s = m) := by
        have h := HM.out
        rw [hik, ← HL.out, List.take_length] at h
        exact h
      clear hik
      go_wp2
      go_ret
      exact ⟨by rw [HK.out]; rfl, rfl⟩
end Go.Proofs.YtplfjfhpdfbpeaaDoor
