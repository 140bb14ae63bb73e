/- The Go library's ParseUint at base 16 and 8 bits: N18's walk with another number (made of it by replacing). -/
import Derived.Test.YtobecfeelamlmaaDoorN18
namespace Go.Proofs.YtobecfeelamlmaaDoor
open Go.RowKit
set_option linter.unusedSimpArgs false
set_option linter.unusedVariables false
set_option maxHeartbeats 1000000 in
set_option maxRecDepth 100000 in
theorem iparse8 (s : ByteArray) (w : World) (hs : s.size ≤ 4398046511104) (h0 : 0 < s.size) :
    Calls Tryd.prog 50 #[.string s, .int .i64 16, .int .i64 8] w fun e w' => PuA 255 s e ∧ Below w.heap.size w w' := by
  have hne : (s.toList == []) = false := by
    rw [Lib.toList_data, beq_eq_false_iff_ne]
    intro e
    have := congrArg List.length e
    rw [data_len, List.length_nil] at this
    omega
  obtain ⟨cap, W, hcv, hbW, hcap, hcell⟩ := conv_cells s w
  have HBW : Hid (Below w.heap.size w W) := hbW
  have HCE : Hid (∀ j (hj : j < s.size), W.cell? ⟨w.heap.size, j, none⟩ = some (.int .u8 (s[j].toNat : Int))) := hcell
  clear hbW hcell
  go_enter Tryd.func50, Tryd.ntmps50
  go_wp2
  generalize hCUT : (1152921504606846976 : Int) = CUT
  generalize hMX : (255 : Int) = MX
  generalize hMN : (255 : Nat) = MN at *
  have HC : Hid (1152921504606846976 = CUT ∧ 255 = MX ∧ 255 = MN) := ⟨hCUT, hMX, hMN⟩
  clear hCUT hMX hMN
  go_loopw [12, 13, 101] (fun us n i wr => ∃ (k v : Nat), k ≤ s.size ∧ v ≤ MN ∧ us = .bool false ∧ n = .int .u64 v ∧ i = .int .i64 k ∧ wr = W ∧ Hid (hexP MN 0 s.data.toList = hexP MN v (s.data.toList.drop k))) (fun _ _ i _ => s.size - (intOf i).toNat)
  case atStart => exact ⟨0, 0, by omega, by omega, rfl, rfl, rfl, rfl, by (show _ = _; rw [List.drop_zero])⟩
  case round =>
    obtain ⟨k, v, hk, hv, rfl, rfl, rfl, rfl, HR⟩ := hrel
    by_cases hlt : k < s.size
    · have hc := HCE.out k hlt
      have hst := hexP_at MN v s k hlt
      have hc256 : (s[k]'hlt).toNat < 256 := (s[k]'hlt).toNat_lt
      have hl256 := low5_lt ⟨(s[k]'hlt).toNat, hc256⟩
      simp only at hl256
      have hlw := lower_any (s[k]'hlt)
      obtain ⟨c, hcc⟩ : ∃ c, (s[k]'hlt).toNat = c := ⟨_, rfl⟩
      rw [hcc] at hc hst hc256 hl256 hlw
      clear hcc
      by_cases cA : 48 ≤ c ∧ c ≤ 57
      · have hd : dgv c = some (c - 48) := by unfold dgv; rw [if_pos cA]
        have a1 : (48 : Int) ≤ c := by omega
        have a2 : (c : Int) ≤ 57 := by omega
        rw [hd] at hst
        by_cases hm : 16 * v + (c - 48) ≤ MN
        · simp only [if_pos hm] at hst
          have HN : Hid (hexP MN 0 s.data.toList = hexP MN (16 * v + (c - 48)) (s.data.toList.drop (k + 1))) := by (show _ = _; rw [HR.out, hst])
          have HM : Hid (16 * v + (c - 48) ≤ MN) := hm
          have hC := HC.out
          have q1 : (v : Int) < CUT := by omega
          have q2 : (v : Int) * 16 + ((c : Int) - 48) ≤ MX := by omega
          have q3 : (v : Int) * 16 ≤ (v : Int) * 16 + ((c : Int) - 48) := by omega
          have q4 : (0 : Int) ≤ (v : Int) * 16 := by omega
          have q5 : IntKind.u64.wrap ((v : Int) * 16) = (v : Int) * 16 := by rw [IntKind.wrap_u64]; omega
          have q6 : IntKind.u64.wrap ((v : Int) * 16 + ((c : Int) - 48)) = (v : Int) * 16 + ((c : Int) - 48) := by rw [IntKind.wrap_u64]; omega
          have q7 : (c : Int) - 48 < 16 := by omega
          have q8 : IntKind.u8.wrap ((c : Int) - 48) = (c : Int) - 48 := by rw [IntKind.wrap_u8']; omega
          clear hC
          clear hd hst HR hm hv
          go_wp2
          refine ⟨⟨k + 1, 16 * v + (c - 48), by omega, HM.out, rfl, by congr 1; omega, by congr 1, trivial, HN.out⟩, by simp only [intOf]; omega⟩
        · simp only [if_neg hm] at hst
          have HN : Hid (hexP MN 0 s.data.toList = none) := by (show _ = _; rw [HR.out, hst])
          have hC := HC.out
          have q1 : (v : Int) < CUT := by omega
          have q2 : ¬ (v : Int) * 16 + ((c : Int) - 48) ≤ MX := by omega
          have q3 : (v : Int) * 16 ≤ (v : Int) * 16 + ((c : Int) - 48) := by omega
          have q4 : (0 : Int) ≤ (v : Int) * 16 := by omega
          have q5 : IntKind.u64.wrap ((v : Int) * 16) = (v : Int) * 16 := by rw [IntKind.wrap_u64]; omega
          have q6 : IntKind.u64.wrap ((v : Int) * 16 + ((c : Int) - 48)) = (v : Int) * 16 + ((c : Int) - 48) := by rw [IntKind.wrap_u64]; omega
          have q7 : (c : Int) - 48 < 16 := by omega
          have q8 : IntKind.u8.wrap ((c : Int) - 48) = (c : Int) - 48 := by rw [IntKind.wrap_u8']; omega
          clear hC
          clear hd hst HR hm hv
          go_wp2
          go_ret2
          obtain ⟨_, hX, hM⟩ := HC.out
          subst hM
          subst hX
          exact ⟨⟨255, _, rfl, Nat.le_refl _, .inr ⟨HN.out, 1, rfl, .inl rfl⟩⟩, HBW.out⟩
      · obtain ⟨L, hL⟩ : ∃ L, low5 c = L := ⟨_, rfl⟩
        rw [hL] at hlw hl256
        obtain ⟨b95, h95⟩ : ∃ b95, ((c : Int) == 95) = b95 := ⟨_, rfl⟩
        by_cases c8 : (48 : Int) ≤ c
        · have c9 : ¬ (c : Int) ≤ 57 := by omega
          by_cases cL : 97 ≤ L ∧ L ≤ 102
          · have hd : dgv c = some (L - 87) := by unfold dgv; rw [if_neg cA, hL, if_pos cL]
            rw [hd] at hst
            have l1 : (97 : Int) ≤ L := by omega
            have l2 : (L : Int) ≤ 122 := by omega
            by_cases hm : 16 * v + (L - 87) ≤ MN
            · simp only [if_pos hm] at hst
              have HN : Hid (hexP MN 0 s.data.toList = hexP MN (16 * v + (L - 87)) (s.data.toList.drop (k + 1))) := by (show _ = _; rw [HR.out, hst])
              have HM : Hid (16 * v + (L - 87) ≤ MN) := hm
              have hC := HC.out
              have q1 : (v : Int) < CUT := by omega
              have q2 : (v : Int) * 16 + ((L : Int) - 97 + 10) ≤ MX := by omega
              have q3 : (v : Int) * 16 ≤ (v : Int) * 16 + ((L : Int) - 97 + 10) := by omega
              have q4 : (0 : Int) ≤ (v : Int) * 16 := by omega
              have q5 : IntKind.u64.wrap ((v : Int) * 16) = (v : Int) * 16 := by rw [IntKind.wrap_u64]; omega
              have q6 : IntKind.u64.wrap ((v : Int) * 16 + ((L : Int) - 97 + 10)) = (v : Int) * 16 + ((L : Int) - 97 + 10) := by rw [IntKind.wrap_u64]; omega
              have q7 : (L : Int) - 97 + 10 < 16 := by omega
              have q8 : IntKind.u8.wrap ((L : Int) - 97 + 10) = (L : Int) - 97 + 10 := by rw [IntKind.wrap_u8']; omega
              have q9 : IntKind.u8.wrap ((L : Int) - 97) = (L : Int) - 97 := by rw [IntKind.wrap_u8']; omega
              clear hC
              clear hd hst HR hm hv hL
              go_wp2_with (go_at_call 64; refine (hlw _).mono ?_; rintro e w1 ⟨rfl, hw⟩; subst hw)
              all_goals refine ⟨⟨k + 1, 16 * v + (L - 87), by omega, HM.out, rfl, by congr 1; omega, by congr 1, trivial, HN.out⟩, by simp only [intOf]; omega⟩
            · simp only [if_neg hm] at hst
              have HN : Hid (hexP MN 0 s.data.toList = none) := by (show _ = _; rw [HR.out, hst])
              have hC := HC.out
              have q1 : (v : Int) < CUT := by omega
              have q2 : ¬ (v : Int) * 16 + ((L : Int) - 97 + 10) ≤ MX := by omega
              have q3 : (v : Int) * 16 ≤ (v : Int) * 16 + ((L : Int) - 97 + 10) := by omega
              have q4 : (0 : Int) ≤ (v : Int) * 16 := by omega
              have q5 : IntKind.u64.wrap ((v : Int) * 16) = (v : Int) * 16 := by rw [IntKind.wrap_u64]; omega
              have q6 : IntKind.u64.wrap ((v : Int) * 16 + ((L : Int) - 97 + 10)) = (v : Int) * 16 + ((L : Int) - 97 + 10) := by rw [IntKind.wrap_u64]; omega
              have q7 : (L : Int) - 97 + 10 < 16 := by omega
              have q8 : IntKind.u8.wrap ((L : Int) - 97 + 10) = (L : Int) - 97 + 10 := by rw [IntKind.wrap_u8']; omega
              have q9 : IntKind.u8.wrap ((L : Int) - 97) = (L : Int) - 97 := by rw [IntKind.wrap_u8']; omega
              clear hC
              clear hd hst HR hm hv hL
              go_wp2_with (go_at_call 64; refine (hlw _).mono ?_; rintro e w1 ⟨rfl, hw⟩; subst hw)
              all_goals go_ret2
              all_goals obtain ⟨_, hX, hM⟩ := HC.out
              all_goals subst hM
              all_goals subst hX
              all_goals exact ⟨⟨255, _, rfl, Nat.le_refl _, .inr ⟨HN.out, 1, rfl, .inl rfl⟩⟩, HBW.out⟩
          · have hd : dgv c = none := by unfold dgv; rw [if_neg cA, hL, if_neg cL]
            rw [hd] at hst
            have HN : Hid (hexP MN 0 s.data.toList = none) := by (show _ = _; rw [HR.out, hst])
            clear hd hst HR hv hL
            by_cases l1 : (97 : Int) ≤ L
            · by_cases l2 : (L : Int) ≤ 122
              · have q7 : ¬ (L : Int) - 97 + 10 < 16 := by omega
                have q8 : IntKind.u8.wrap ((L : Int) - 97 + 10) = (L : Int) - 97 + 10 := by rw [IntKind.wrap_u8']; omega
                have q9 : IntKind.u8.wrap ((L : Int) - 97) = (L : Int) - 97 := by rw [IntKind.wrap_u8']; omega
                go_wp2_with (go_at_call 64; refine (hlw _).mono ?_; rintro e w1 ⟨rfl, hw⟩; subst hw)
                all_goals go_ret2
                all_goals obtain ⟨_, hX, hM⟩ := HC.out
                all_goals subst hM
                all_goals exact ⟨⟨0, _, rfl, Nat.zero_le _, .inr ⟨HN.out, 2, rfl, .inr rfl⟩⟩, HBW.out⟩
              · go_wp2_with (go_at_call 64; refine (hlw _).mono ?_; rintro e w1 ⟨rfl, hw⟩; subst hw)
                all_goals go_ret2
                all_goals obtain ⟨_, hX, hM⟩ := HC.out
                all_goals subst hM
                all_goals exact ⟨⟨0, _, rfl, Nat.zero_le _, .inr ⟨HN.out, 2, rfl, .inr rfl⟩⟩, HBW.out⟩
            · go_wp2_with (go_at_call 64; refine (hlw _).mono ?_; rintro e w1 ⟨rfl, hw⟩; subst hw)
              all_goals go_ret2
              all_goals obtain ⟨_, hX, hM⟩ := HC.out
              all_goals subst hM
              all_goals exact ⟨⟨0, _, rfl, Nat.zero_le _, .inr ⟨HN.out, 2, rfl, .inr rfl⟩⟩, HBW.out⟩
        · by_cases cL : 97 ≤ L ∧ L ≤ 102
          · have hd : dgv c = some (L - 87) := by unfold dgv; rw [if_neg cA, hL, if_pos cL]
            rw [hd] at hst
            have l1 : (97 : Int) ≤ L := by omega
            have l2 : (L : Int) ≤ 122 := by omega
            by_cases hm : 16 * v + (L - 87) ≤ MN
            · simp only [if_pos hm] at hst
              have HN : Hid (hexP MN 0 s.data.toList = hexP MN (16 * v + (L - 87)) (s.data.toList.drop (k + 1))) := by (show _ = _; rw [HR.out, hst])
              have HM : Hid (16 * v + (L - 87) ≤ MN) := hm
              have hC := HC.out
              have q1 : (v : Int) < CUT := by omega
              have q2 : (v : Int) * 16 + ((L : Int) - 97 + 10) ≤ MX := by omega
              have q3 : (v : Int) * 16 ≤ (v : Int) * 16 + ((L : Int) - 97 + 10) := by omega
              have q4 : (0 : Int) ≤ (v : Int) * 16 := by omega
              have q5 : IntKind.u64.wrap ((v : Int) * 16) = (v : Int) * 16 := by rw [IntKind.wrap_u64]; omega
              have q6 : IntKind.u64.wrap ((v : Int) * 16 + ((L : Int) - 97 + 10)) = (v : Int) * 16 + ((L : Int) - 97 + 10) := by rw [IntKind.wrap_u64]; omega
              have q7 : (L : Int) - 97 + 10 < 16 := by omega
              have q8 : IntKind.u8.wrap ((L : Int) - 97 + 10) = (L : Int) - 97 + 10 := by rw [IntKind.wrap_u8']; omega
              have q9 : IntKind.u8.wrap ((L : Int) - 97) = (L : Int) - 97 := by rw [IntKind.wrap_u8']; omega
              clear hC
              clear hd hst HR hm hv hL
              go_wp2_with (go_at_call 64; refine (hlw _).mono ?_; rintro e w1 ⟨rfl, hw⟩; subst hw)
              all_goals refine ⟨⟨k + 1, 16 * v + (L - 87), by omega, HM.out, rfl, by congr 1; omega, by congr 1, trivial, HN.out⟩, by simp only [intOf]; omega⟩
            · simp only [if_neg hm] at hst
              have HN : Hid (hexP MN 0 s.data.toList = none) := by (show _ = _; rw [HR.out, hst])
              have hC := HC.out
              have q1 : (v : Int) < CUT := by omega
              have q2 : ¬ (v : Int) * 16 + ((L : Int) - 97 + 10) ≤ MX := by omega
              have q3 : (v : Int) * 16 ≤ (v : Int) * 16 + ((L : Int) - 97 + 10) := by omega
              have q4 : (0 : Int) ≤ (v : Int) * 16 := by omega
              have q5 : IntKind.u64.wrap ((v : Int) * 16) = (v : Int) * 16 := by rw [IntKind.wrap_u64]; omega
              have q6 : IntKind.u64.wrap ((v : Int) * 16 + ((L : Int) - 97 + 10)) = (v : Int) * 16 + ((L : Int) - 97 + 10) := by rw [IntKind.wrap_u64]; omega
              have q7 : (L : Int) - 97 + 10 < 16 := by omega
              have q8 : IntKind.u8.wrap ((L : Int) - 97 + 10) = (L : Int) - 97 + 10 := by rw [IntKind.wrap_u8']; omega
              have q9 : IntKind.u8.wrap ((L : Int) - 97) = (L : Int) - 97 := by rw [IntKind.wrap_u8']; omega
              clear hC
              clear hd hst HR hm hv hL
              go_wp2_with (go_at_call 64; refine (hlw _).mono ?_; rintro e w1 ⟨rfl, hw⟩; subst hw)
              all_goals go_ret2
              all_goals obtain ⟨_, hX, hM⟩ := HC.out
              all_goals subst hM
              all_goals subst hX
              all_goals exact ⟨⟨255, _, rfl, Nat.le_refl _, .inr ⟨HN.out, 1, rfl, .inl rfl⟩⟩, HBW.out⟩
          · have hd : dgv c = none := by unfold dgv; rw [if_neg cA, hL, if_neg cL]
            rw [hd] at hst
            have HN : Hid (hexP MN 0 s.data.toList = none) := by (show _ = _; rw [HR.out, hst])
            clear hd hst HR hv hL
            by_cases l1 : (97 : Int) ≤ L
            · by_cases l2 : (L : Int) ≤ 122
              · have q7 : ¬ (L : Int) - 97 + 10 < 16 := by omega
                have q8 : IntKind.u8.wrap ((L : Int) - 97 + 10) = (L : Int) - 97 + 10 := by rw [IntKind.wrap_u8']; omega
                have q9 : IntKind.u8.wrap ((L : Int) - 97) = (L : Int) - 97 := by rw [IntKind.wrap_u8']; omega
                go_wp2_with (go_at_call 64; refine (hlw _).mono ?_; rintro e w1 ⟨rfl, hw⟩; subst hw)
                all_goals go_ret2
                all_goals obtain ⟨_, hX, hM⟩ := HC.out
                all_goals subst hM
                all_goals exact ⟨⟨0, _, rfl, Nat.zero_le _, .inr ⟨HN.out, 2, rfl, .inr rfl⟩⟩, HBW.out⟩
              · go_wp2_with (go_at_call 64; refine (hlw _).mono ?_; rintro e w1 ⟨rfl, hw⟩; subst hw)
                all_goals go_ret2
                all_goals obtain ⟨_, hX, hM⟩ := HC.out
                all_goals subst hM
                all_goals exact ⟨⟨0, _, rfl, Nat.zero_le _, .inr ⟨HN.out, 2, rfl, .inr rfl⟩⟩, HBW.out⟩
            · go_wp2_with (go_at_call 64; refine (hlw _).mono ?_; rintro e w1 ⟨rfl, hw⟩; subst hw)
              all_goals go_ret2
              all_goals obtain ⟨_, hX, hM⟩ := HC.out
              all_goals subst hM
              all_goals exact ⟨⟨0, _, rfl, Nat.zero_le _, .inr ⟨HN.out, 2, rfl, .inr rfl⟩⟩, HBW.out⟩
    · have hke : k = s.size := by omega
      have HE : Hid (hexP MN 0 s.data.toList = some v) := by
        show _ = _
        rw [HR.out, List.drop_eq_nil_of_le (by rw [data_len]; omega)]; rfl
      clear HR
      have HVV : Hid (v ≤ MN) := hv
      go_wp2
      go_ret2
      obtain ⟨_, _, hM⟩ := HC.out
      subst hM
      exact ⟨⟨v, .nilIface, rfl, HVV.out, .inl ⟨HE.out, rfl⟩⟩, HBW.out⟩
end Go.Proofs.YtobecfeelamlmaaDoor
