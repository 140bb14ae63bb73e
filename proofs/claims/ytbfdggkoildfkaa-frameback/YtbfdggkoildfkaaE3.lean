/- The walk of frame.Unframe. -/
import Derived.Test.YtbfdggkoildfkaaE2
import Derived.Test.YtbfdggkoildfkaaW6T
import Derived.Test.YtbfdggkoildfkaaW8F
namespace Go.Proofs.Ytbfdggkoildfkaa
open Go.RowKit
set_option linter.unusedSimpArgs false
set_option linter.unusedVariables false
theorem ret_uf {a b : ByteArray} {c : Int} {s : ByteArray} (h : ufP s = a ∧ ufR s = b ∧ ufE s = c) : Ending.returned (.tuple #[.string a, .string b, .int .i64 c]) = .returned (.tuple #[.string (ufP s), .string (ufR s), .int .i64 (ufE s)]) := by rw [h.1, h.2.1, h.2.2]
theorem uf_short {s : ByteArray} (h : s.size < 8) : ufB s = false := by
  rw [Bool.eq_false_iff]; intro h2; rw [ufB_iff] at h2; omega
theorem uf_long {s : ByteArray} (h : 67108864 < ufn s) : ufB s = false := by
  rw [Bool.eq_false_iff]; intro h2; rw [ufB_iff] at h2; omega
theorem uf_cut {s : ByteArray} (h : s.size < 8 + ufn s) : ufB s = false := by
  rw [Bool.eq_false_iff]; intro h2; rw [ufB_iff] at h2; omega
theorem uf_crc {s : ByteArray} (h : (crcC ((bl s).take 4 ++ ((bl s).drop 8).take (ufn s))).toNat ≠ fixV (((bl s).drop 4).take 4)) : ufB s = false := by
  rw [Bool.eq_false_iff]; intro h2; rw [ufB_iff] at h2; exact h h2.2.2.2
theorem fixV4_lt (l : List UInt8) : fixV (l.take 4) < 4294967296 := by
  have h := fixV_lt (l.take 4)
  have h2 : 256 ^ (l.take 4).length ≤ 256 ^ 4 := Nat.pow_le_pow_right (by omega) (List.length_take_le _ _)
  omega
theorem ufn_lt (s : ByteArray) : ufn s < 4294967296 := fixV4_lt _
set_option maxHeartbeats 400000 in
theorem unframe_4 (s : ByteArray) (w : World) (hs : s.size < 4) :
    Calls Try.prog 7 #[.string s] w fun e w' => e = .returned (.tuple #[.string (ufP s), .string (ufR s), .int .i64 (ufE s)]) ∧ Below w.heap.size w w' := by
  go_enter Try.func7, Try.ntmps7
  go_wp2_with fail
  refine (new_any _ _).mono ?_
  rintro e w1 ⟨rfl, rfl⟩
  go_wp2_with fail
  refine (fixed_no s w.heap.size _ (by unfold maxLen; omega) (al_ptr _ _ _) (by simp) (by simp) 4 (by omega) (by omega) (by omega)).mono ?_
  rintro e w2 ⟨rfl, h2⟩
  go_wp2
  go_ret3
  exact ⟨ret_uf (uf_no (uf_short (by omega))), ((Below.refl _ _).alloc (Nat.le_refl _) _).trans (h2.below (Nat.le_refl _) (by simp))⟩
theorem ext_size (s : ByteArray) (a : Nat) (h : a ≤ s.size) : (s.extract a s.size).size = s.size - a := by simp
theorem bl_drop (s : ByteArray) (a : Nat) : bl (s.extract a s.size) = (bl s).drop a := by
  rw [bl_extract, List.take_of_length_le (by rw [bl_length]; exact Nat.le_refl _)]
set_option maxHeartbeats 1000000 in
theorem unframe_8 (s : ByteArray) (w : World) (hm : s.size ≤ maxLen) (hs : 4 ≤ s.size) :
    Calls Try.prog 7 #[.string s] w fun e w' => e = .returned (.tuple #[.string (ufP s), .string (ufR s), .int .i64 (ufE s)]) ∧ Below w.heap.size w w' := by
  have hm' := hm
  unfold maxLen at hm'
  obtain ⟨n, hn⟩ : ∃ n, n = ufn s := ⟨_, rfl⟩
  have HN : Hid (n = ufn s) := hn
  have hnl : n < 4294967296 := by rw [hn]; exact ufn_lt s
  clear hn
  obtain ⟨r1, hr1⟩ : ∃ r, r = s.extract 4 s.size := ⟨_, rfl⟩
  have HR1 : Hid (r1 = s.extract 4 s.size) := hr1
  have HZ1 : Hid (r1.size = s.size - 4) := by rw [hr1]; exact ext_size s 4 hs
  clear hr1
  go_enter Try.func7, Try.ntmps7
  go_wp2_with fail
  refine (new_any _ _).mono ?_
  rintro e w1 ⟨rfl, rfl⟩
  go_wp2_with fail
  refine (fixed_ok s w.heap.size _ hm (al_ptr _ _ _) (by simp) (by simp) 4 (by omega) (by omega) (by omega)).mono ?_
  rintro e w2 ⟨rfl, h2⟩
  rw [show fixV ((bl s).take 4) = n from HN.out.symm]
  rw [← HR1.out] at h2
  have H2 : Hid (Step w.heap.size (w.alloc (.cells #[.string s] 58)) w2 r1) := h2
  have HB2 : Hid (Below w.heap.size w w2) := ((Below.refl _ _).alloc (Nat.le_refl _) _).trans (h2.below (Nat.le_refl _) (by simp))
  have hz2 : w.heap.size < w2.heap.size := by have := h2.size; simp at this; omega
  clear h2
  by_cases hbig : 67108864 < n
  · go_wp2
    go_ret3
    exact ⟨ret_uf (uf_no (uf_long (by rw [← HN.out]; exact hbig))), HB2.out⟩
  have hn26 : (n : Int) ≤ 67108864 := by omega
  clear hbig
  go_wp2_with fail
  by_cases h8 : s.size < 8
  · refine (fixed_no r1 w.heap.size _ (by rw [HZ1.out]; unfold maxLen; omega) H2.out.cell H2.out.frozen hz2 4 (by omega) (by omega) (by rw [HZ1.out]; omega)).mono ?_
    rintro e w3 ⟨rfl, h3⟩
    have HB3 : Hid (Below w.heap.size w w3) := HB2.out.trans (h3.below (Nat.le_refl _) (by omega))
    clear h3
    go_wp2
    go_ret3
    exact ⟨ret_uf (uf_no (uf_short (by omega))), HB3.out⟩
  have h8' : 8 ≤ s.size := by omega
  clear h8
  obtain ⟨r2, hr2⟩ : ∃ r, r = s.extract 8 s.size := ⟨_, rfl⟩
  have HR2 : Hid (r2 = s.extract 8 s.size) := hr2
  have HZ2 : Hid (r2.size = s.size - 8) := by rw [hr2]; exact ext_size s 8 h8'
  clear hr2
  obtain ⟨cv, hcv⟩ : ∃ cv, cv = fixV (((bl s).drop 4).take 4) := ⟨_, rfl⟩
  have HC : Hid (cv = fixV (((bl s).drop 4).take 4)) := hcv
  have hcl : cv < 4294967296 := by rw [hcv]; exact fixV4_lt _
  clear hcv
  refine (fixed_ok r1 w.heap.size _ (by rw [HZ1.out]; unfold maxLen; omega) H2.out.cell H2.out.frozen hz2 4 (by omega) (by omega) (by rw [HZ1.out]; omega)).mono ?_
  rintro e w3 ⟨rfl, h3⟩
  rw [show fixV ((bl r1).take 4) = cv from by rw [HC.out, HR1.out, bl_drop]]
  rw [show r1.extract 4 r1.size = r2 from by apply bl_inj; rw [bl_drop, HR1.out, HR2.out, bl_drop, bl_drop, List.drop_drop]] at h3
  have H3 : Hid (Step w.heap.size w2 w3 r2) := h3
  have HB3 : Hid (Below w.heap.size w w3) := HB2.out.trans (h3.below (Nat.le_refl _) (by omega))
  have hz3 : w.heap.size < w3.heap.size := by have := h3.size; omega
  clear h3
  go_wp2_with fail
  by_cases hcut : s.size < 8 + n
  · refine (take_no r2 w.heap.size _ (by rw [HZ2.out]; unfold maxLen; omega) H3.out.cell H3.out.frozen hz3 n (by rw [HZ2.out]; omega) (by omega)).mono ?_
    rintro e w4 ⟨rfl, h4⟩
    have HB4 : Hid (Below w.heap.size w w4) := HB3.out.trans (h4.below (Nat.le_refl _) (by omega))
    clear h4
    go_wp2
    go_ret3
    exact ⟨ret_uf (uf_no (uf_cut (by rw [← HN.out]; exact hcut))), HB4.out⟩
  have hcut' : 8 + n ≤ s.size := by omega
  clear hcut
  obtain ⟨p, hp⟩ : ∃ p, p = r2.extract 0 n := ⟨_, rfl⟩
  have HPb : Hid (bl p = ((bl s).drop 8).take n) := by rw [hp, bl_extract, List.drop_zero, HR2.out, bl_drop]; rfl
  have HPz : Hid (p.size = n) := by show p.size = n; rw [← bl_length, HPb.out, List.length_take, List.length_drop, bl_length]; omega
  have hpz : p.size ≤ 67108864 := by rw [HPz.out]; omega
  refine (take_ok r2 w.heap.size _ (by rw [HZ2.out]; unfold maxLen; omega) H3.out.cell H3.out.frozen hz3 n (by rw [HZ2.out]; omega)).mono ?_
  rintro e w4 ⟨rfl, h4⟩
  rw [← hp]
  clear hp
  have HB4 : Hid (Below w.heap.size w w4) := HB3.out.trans (h4.below (Nat.le_refl _) (by omega))
  have hz4 : w.heap.size < w4.heap.size := by have := h4.size; omega
  clear h4
  go_wp2_with fail
  refine (sum_any _ p _ (by unfold maxLen; simp; omega) (by unfold maxLen; omega)).mono ?_
  rintro e w5 ⟨rfl, h5⟩
  have HB5 : Hid (Below w.heap.size w w5) := HB4.out.trans (h5.mono (by omega))
  clear h5
  obtain ⟨q, hq⟩ : ∃ q : BitVec 32, q = crcC (bl (s.extract 0 4) ++ bl p) := ⟨_, rfl⟩
  rw [← hq]
  have HQ : Hid (q.toNat = (crcC ((bl s).take 4 ++ ((bl s).drop 8).take (ufn s))).toNat) := by
    show q.toNat = _
    rw [hq, HPb.out, HN.out, extract_take s 4 hs]
  have hlt := q.isLt
  clear hq
  have hps : 8 + p.size ≤ s.size := by rw [HPz.out]; exact hcut'
  by_cases hne : q.toNat = cv
  · have hb : ((q.toNat : Int) != (cv : Int)) = false := by rw [bne_eq_false_iff_eq]; omega
    have HE : Hid (q.toNat = cv) := hne
    clear hne
    go_wp2
    go_region
    go_wp2
    go_ret3
    have hok : ufB s = true := by
      rw [ufB_iff, ← HN.out]
      refine ⟨h8', by omega, hcut', ?_⟩
      rw [HN.out, ← HQ.out, ← HC.out]; exact HE.out
    refine ⟨ret_uf ?_, ?_⟩
    · obtain ⟨a, b, c⟩ := uf_yes hok
      refine ⟨?_, ?_, c⟩
      · rw [a]
        apply bl_inj
        rw [HPb.out, bl_extract, List.drop_take, Nat.add_sub_cancel_left, HN.out]
      · rw [b, ← HN.out, HPz.out]
    · exact HB5.out.drew
  · have hb : ((q.toNat : Int) != (cv : Int)) = true := by rw [bne_iff_ne]; omega
    have HE : Hid (¬ q.toNat = cv) := hne
    clear hne
    go_wp2
    go_ret3
    exact ⟨ret_uf (uf_no (uf_crc (by rw [← HQ.out, ← HC.out]; exact HE.out))), HB5.out⟩
theorem unframe_any (s : ByteArray) (w : World) (hm : s.size ≤ maxLen) :
    Calls Try.prog 7 #[.string s] w fun e w' => e = .returned (.tuple #[.string (ufP s), .string (ufR s), .int .i64 (ufE s)]) ∧ Below w.heap.size w w' := by
  by_cases h : s.size < 4
  · exact unframe_4 s w h
  · exact unframe_8 s w hm (by omega)
end Go.Proofs.Ytbfdggkoildfkaa
