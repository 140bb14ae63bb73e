/- munimentlaw02.DigestNone: calls on no sum, and at the ends of blocks: the law returns true; the three tables start as the program's text lays them (the card ties them). -/
import Derived.Test.YtbfdggkoildfkaaDoorZ2
import Derived.Test.YtbfdggkoildfkaaDoorP11
import Derived.Test.YtbfdggkoildfkaaDoorT2
namespace Go.Proofs.YtbfdggkoildfkaaDoor
open Go.ChangeShapes Go.WideShapes Go.ChangeAt Go.RowKit
set_option linter.unusedSimpArgs false
set_option linter.unusedVariables false
theorem less_zz (w : World) : Calls Tryd.prog 16 #[.agg z32c, .agg z32c] w fun e w' => e = .returned (.bool false) ∧ Below w.heap.size w w' := by
  have h := less_any z32s z32s w z32s_size z32s_size
  rw [z32s_idc] at h
  have e : lessB z32s z32s = false := by
    have h0 := cmpB_refl z32s.data.toList
    unfold lessB cmpId; rw [h0]; rfl
  rwa [e] at h
set_option maxRecDepth 100000 in
set_option maxHeartbeats 2000000 in
theorem none_walk (w : World) (hA : All w) : Calls Tryd.prog 6 #[] w fun e w' => e = .returned (.bool true) ∧ Below w.heap.size w w' := by
  have HA : Hid (All w) := hA
  clear hA
  have hz := zero_id
  go_enter Tryd.func6, Tryd.ntmps6
  go_wp2_with fail
  refine (write_nil _ _).mono ?_
  rintro e w0 ⟨rfl, hw0⟩
  subst hw0
  go_wp2_with fail
  refine (stsum_nil _).mono ?_
  rintro e w1 ⟨rfl, h1⟩
  have H1 : Hid (Below w0.heap.size w0 w1) := h1
  clear h1
  go_wp2_with (refine wpList_store_abs rfl 23 (.tmp 3) (.tmp 14) rfl z32c _ 23 w1.heap.size rfl rfl rfl (info_32 z32c_size) rfl z32c_one ?_; intro w2 HBk HG hz2)
  have H2 : Hid (Below w0.heap.size w0 w2) := H1.out.grown HG.out H1.out.size (fun k hk => by cases hk)
  have z2 : w0.heap.size ≤ w2.heap.size := H2.out.size
  clear HBk HG hz2 H1
  refine (parse_bad ⟨#[]⟩ w2 (by decide) (by decide)).mono ?_
  rintro e w3 ⟨rfl, h3⟩
  have H3 : Hid (Below w0.heap.size w0 w3) := H2.out.trans (h3.mono z2)
  clear h3
  go_wp2_with (refine wpList_store_abs rfl 23 (.tmp 5) (.tmp 18) rfl z32c _ 23 w3.heap.size rfl rfl rfl (info_32 z32c_size) rfl z32c_one ?_; intro w4 HBk HG hz4)
  have H4 : Hid (Below w0.heap.size w0 w4) := H3.out.grown HG.out H3.out.size (fun k hk => by cases hk)
  clear HBk HG hz4 H3 H2 z2
  go_loopw [7, 8] (fun v i wr => ∃ (k : Nat) (a : ByteArray), k ≤ 130 ∧ i = .int .i64 k ∧ v = .string a ∧ a.size ≤ k ∧ Hid (Below w0.heap.size w0 wr)) (fun _ i _ => 140 - (intOf i).toNat)
  case atStart => exact ⟨0, ⟨#[]⟩, by omega, rfl, rfl, by decide, H4.out⟩
  case round =>
    clear H4
    obtain ⟨k, a, hk, rfl, rfl, haz, HR⟩ := hrel
    have zr : w0.heap.size ≤ wr.heap.size := HR.out.size
    by_cases hlt : k < 130
    · obtain ⟨q, hq⟩ : ∃ q, q = sb (sha (byl a)) := ⟨_, rfl⟩
      have hqz : q.size = 32 := by rw [hq]; exact sha_size _
      have qn := neq_ids q q hqz hqz
      have HQ : Hid (sb (sha (byl a)) = q) := hq.symm
      clear hq
      go_wp2_with fail
      refine (sum_id a wr (HA.out.below HR.out).l (by omega)).mono ?_
      rintro e w5 ⟨rfl, h5⟩
      rw [HQ.out]
      have H5 : Hid (Below w0.heap.size w0 w5) := HR.out.trans (h5.mono zr)
      have z5 : w0.heap.size ≤ w5.heap.size := H5.out.size
      clear h5
      go_wp2_with fail
      refine (quick_id a w5 (by omega)).mono ?_
      rintro e w6 ⟨rfl, h6⟩
      rw [HQ.out]
      have H6 : Hid (Below w0.heap.size w0 w6) := H5.out.trans (h6.mono z5)
      clear h6 H5 z5 HR
      go_wp2
      go_roundw
      case rel => exact ⟨k + 1, a ++ ⟨#[97]⟩, by omega, by go_num, rfl, by rw [append_size, show (⟨#[97]⟩ : ByteArray).size = 1 from rfl]; omega, H6.out⟩
      case measure => simp [intOf]; omega
    · go_wp2_with fail
      refine (wrote_nil _).mono ?_
      rintro e w5 ⟨rfl, hw5⟩
      subst hw5
      go_wp2_with fail
      refine (sum_id ⟨#[]⟩ w5 (HA.out.below HR.out).l (by decide)).mono ?_
      rintro e w6 ⟨rfl, h6⟩
      have H6 : Hid (Below w0.heap.size w0 w6) := HR.out.trans (h6.mono HR.out.size)
      have z6 : w0.heap.size ≤ w6.heap.size := H6.out.size
      obtain ⟨q, hq⟩ : ∃ q, q = sb (sha (byl ⟨#[]⟩)) := ⟨_, rfl⟩
      have hqz : q.size = 32 := by rw [hq]; exact sha_size _
      have HQ : Hid (sb (sha (byl ⟨#[]⟩)) = q) := hq.symm
      rw [← hq]
      clear h6 hq
      go_wp2_with fail
      refine (text_any q w6 hqz (HA.out.below H6.out)).mono ?_
      rintro e w7 ⟨rfl, h7⟩
      rw [← HQ.out, nil_text]
      have H7 : Hid (Below w0.heap.size w0 w7) := H6.out.trans (h7.mono z6)
      have z7 : w0.heap.size ≤ w7.heap.size := H7.out.size
      clear h7 H6 z6
      go_wp2_with fail
      refine (less_zz w7).mono ?_
      rintro e w8 ⟨rfl, h8⟩
      have H8 : Hid (Below w0.heap.size w0 w8) := H7.out.trans (h8.mono z7)
      have z8 : w0.heap.size ≤ w8.heap.size := H8.out.size
      clear h8 H7 z7
      go_wp2_with fail
      refine (awake_any w8 (HA.out.below H8.out)).mono ?_
      rintro e w9 ⟨rfl, h9⟩
      have H9 : Hid (Below w0.heap.size w0 w9) := H8.out.trans (h9.mono z8)
      clear h9
      go_wp2
      go_ret
      exact ⟨rfl, H9.out⟩
end Go.Proofs.YtbfdggkoildfkaaDoor
