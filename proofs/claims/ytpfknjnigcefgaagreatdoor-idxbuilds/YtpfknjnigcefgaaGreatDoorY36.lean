import Derived.Test.YtpfknjnigcefgaaGreatDoorY30
import Derived.Test.YtpfknjnigcefgaaGreatDoorY35
import Derived.Test.YtpfknjnigcefgaaGreatDoorY6
import Derived.Deep.AppendLies
import Derived.Test.YtpfknjnigcefgaaGreatDoorY7
/- The walk of the document's own Unframe (munimentref03). -/
namespace Go.Proofs.YtpfknjnigcefgaaGreatDoor
open Go.RowKit
set_option linter.unusedSimpArgs false
set_option linter.unusedVariables false
set_option maxHeartbeats 400000 in
theorem runframe_4 (s : ByteArray) (w : World) (hs : s.size < 4) :
    Calls Tryz.prog 138 #[.string s] w fun e w' => e = .returned (.tuple #[.string (ufP s), .string (ufR s), .int .i64 (ufE s)]) ∧ Below w.heap.size w w' := by
  go_enter Tryz.func138, Tryz.ntmps138
  go_wp2_with fail
  refine (rfixed_no s w.heap.size _ (by unfold maxLen; omega) (al_ptr _ _ _) (by simp) (by simp) 4 (by omega) (by omega) (by omega)).mono ?_
  rintro e w2 ⟨rfl, h2⟩
  have HB2 : Hid (Below w.heap.size w w2) := ((Below.refl _ _).alloc (Nat.le_refl _) _).trans (h2.below (Nat.le_refl _) (by simp))
  have hz2 : w.heap.size < w2.heap.size := by have := h2.size; simp at this; omega
  have H2 : Hid (Step w.heap.size (w.alloc (.cells #[.string s] 85)) w2 s) := h2
  clear h2
  go_wp2_with fail
  refine (rfixed_no s w.heap.size _ (by unfold maxLen; omega) H2.out.cell H2.out.frozen hz2 4 (by omega) (by omega) (by omega)).mono ?_
  rintro e w3 ⟨rfl, h3⟩
  have HB3 : Hid (Below w.heap.size w w3) := HB2.out.trans (h3.below (Nat.le_refl _) (by omega))
  clear h3
  go_wp2
  go_ret3
  exact ⟨ret_uf (uf_no (uf_short (by omega))), HB3.out⟩
set_option maxHeartbeats 1000000 in
theorem runframe_8 (s : ByteArray) (w : World) (hm : s.size ≤ maxLen) (hs : 4 ≤ s.size) :
    Calls Tryz.prog 138 #[.string s] w fun e w' => e = .returned (.tuple #[.string (ufP s), .string (ufR s), .int .i64 (ufE s)]) ∧ Below w.heap.size w w' := by
  have hm' := hm
  unfold maxLen at hm'
  obtain ⟨n, hn⟩ : ∃ n, n = ufn s := ⟨_, rfl⟩
  have HN : Hid (n = ufn s) := hn
  have hnl : n < 4294967296 := by rw [hn]; exact ufn_lt s
  clear hn
  obtain ⟨r1, hr1⟩ : ∃ r, r = s.extract 4 s.size := ⟨_, rfl⟩
  have HR1 : Hid (r1 = s.extract 4 s.size) := hr1
  have HZ1 : Hid (r1.size = s.size - 4) := by rw [hr1]; exact ext_size s 4 hs
  clear hr1
  go_enter Tryz.func138, Tryz.ntmps138
  go_wp2_with fail
  refine (rfixed_ok s w.heap.size _ hm (al_ptr _ _ _) (by simp) (by simp) 4 (by omega) (by omega) (by omega)).mono ?_
  rintro e w2 ⟨rfl, h2⟩
  rw [show fixV ((bl s).take 4) = n from HN.out.symm]
  rw [← HR1.out] at h2
  have H2 : Hid (Step w.heap.size (w.alloc (.cells #[.string s] 85)) w2 r1) := h2
  have HB2 : Hid (Below w.heap.size w w2) := ((Below.refl _ _).alloc (Nat.le_refl _) _).trans (h2.below (Nat.le_refl _) (by simp))
  have hz2 : w.heap.size < w2.heap.size := by have := h2.size; simp at this; omega
  clear h2
  go_wp2_with fail
  by_cases h8 : s.size < 8
  · refine (rfixed_no r1 w.heap.size _ (by rw [HZ1.out]; unfold maxLen; omega) H2.out.cell H2.out.frozen hz2 4 (by omega) (by omega) (by rw [HZ1.out]; omega)).mono ?_
    rintro e w3 ⟨rfl, h3⟩
    have HB3 : Hid (Below w.heap.size w w3) := HB2.out.trans (h3.below (Nat.le_refl _) (by omega))
    clear h3
    go_wp2
    go_ret3
    exact ⟨ret_uf (uf_no (uf_short (by omega))), HB3.out⟩
  have h8' : 8 ≤ s.size := by omega
  clear h8
  obtain ⟨r2, hr2⟩ : ∃ r, r = s.extract 8 s.size := ⟨_, rfl⟩
  have HR2 : Hid (r2 = s.extract 8 s.size) := hr2
  have HZ2 : Hid (r2.size = s.size - 8) := by rw [hr2]; exact ext_size s 8 h8'
  have hz2' : r2.size + 8 ≤ s.size := by rw [HZ2.out]; omega
  clear hr2
  obtain ⟨cv, hcv⟩ : ∃ cv, cv = fixV (((bl s).drop 4).take 4) := ⟨_, rfl⟩
  have HC : Hid (cv = fixV (((bl s).drop 4).take 4)) := hcv
  have hcl : cv < 4294967296 := by rw [hcv]; exact fixV4_lt _
  clear hcv
  refine (rfixed_ok r1 w.heap.size _ (by rw [HZ1.out]; unfold maxLen; omega) H2.out.cell H2.out.frozen hz2 4 (by omega) (by omega) (by rw [HZ1.out]; omega)).mono ?_
  rintro e w3 ⟨rfl, h3⟩
  rw [show fixV ((bl r1).take 4) = cv from by rw [HC.out, HR1.out, bl_drop]]
  rw [show r1.extract 4 r1.size = r2 from by apply bl_inj; rw [bl_drop, HR1.out, HR2.out, bl_drop, bl_drop, List.drop_drop]] at h3
  have HB3 : Hid (Below w.heap.size w w3) := HB2.out.trans (h3.below (Nat.le_refl _) (by omega))
  have hz3 : w.heap.size < w3.heap.size := by have := h3.size; omega
  have hc3 : w3.cell? ⟨w.heap.size, 0, none⟩ = some (.string r2) := h3.cell
  clear h3
  by_cases hbig : 67108864 < n
  · go_wp2
    go_ret3
    exact ⟨ret_uf (uf_no (uf_long (by rw [← HN.out]; exact hbig))), HB3.out⟩
  have hn26 : (n : Int) ≤ 67108864 := by omega
  clear hbig
  by_cases hcut : r2.size < n
  · have hcut' : (r2.size : Int) < n := by omega
    go_wp2
    go_ret3
    exact ⟨ret_uf (uf_no (uf_cut (by rw [← HN.out]; have := HZ2.out; omega))), HB3.out⟩
  have hcut' : n ≤ r2.size := by omega
  clear hcut
  go_wp2_with fail
  obtain ⟨p, hp⟩ : ∃ p, p = r2.extract 0 n := ⟨_, rfl⟩
  have HPb : Hid (bl p = ((bl s).drop 8).take n) := by rw [hp, bl_extract, List.drop_zero, HR2.out, bl_drop]; rfl
  have hps : 8 + n ≤ s.size := by omega
  have HPz : Hid (p.size = n) := by show p.size = n; rw [← bl_length, HPb.out, List.length_take, List.length_drop, bl_length]; omega
  have hpz : p.size ≤ 67108864 := by rw [HPz.out]; omega
  rw [← hp]
  clear hp
  have hpe : (s.extract 0 4 ++ p).size ≤ 67108868 := by rw [append_size]; simp; omega
  refine (rcrc_any (s.extract 0 4 ++ p) _ (by unfold maxLen; omega)).mono ?_
  rintro e w5 ⟨rfl, hw5⟩
  subst hw5
  obtain ⟨q, hq⟩ : ∃ q : BitVec 32, q = crcC (bl (s.extract 0 4 ++ p)) := ⟨_, rfl⟩
  rw [← hq]
  have HQ : Hid (q.toNat = (crcC ((bl s).take 4 ++ ((bl s).drop 8).take (ufn s))).toNat) := by
    show q.toNat = _
    rw [hq, bl_append, HPb.out, HN.out, extract_take s 4 hs]
  have hlt := q.isLt
  clear hq hpe
  by_cases hne : q.toNat = cv
  · have hb : ((q.toNat : Int) != (cv : Int)) = false := by rw [bne_eq_false_iff_eq]; omega
    have HE : Hid (q.toNat = cv) := hne
    clear hne
    go_wp2
    go_region
    go_wp2
    go_ret3
    have hok : ufB s = true := by
      rw [ufB_iff, ← HN.out]
      refine ⟨h8', by omega, hps, ?_⟩
      rw [HN.out, ← HQ.out, ← HC.out]; exact HE.out
    refine ⟨ret_uf ?_, ?_⟩
    · obtain ⟨a, b, c⟩ := uf_yes hok
      refine ⟨?_, ?_, c⟩
      · rw [a]
        apply bl_inj
        rw [HPb.out, bl_extract, List.drop_take, Nat.add_sub_cancel_left, HN.out]
      · rw [b, ← HN.out]
        apply bl_inj
        rw [bl_drop, bl_drop, HR2.out, bl_drop, List.drop_drop]
    · exact HB3.out.drew
  · have hb : ((q.toNat : Int) != (cv : Int)) = true := by rw [bne_iff_ne]; omega
    have HE : Hid (¬ q.toNat = cv) := hne
    clear hne
    go_wp2
    go_ret3
    exact ⟨ret_uf (uf_no (uf_crc (by rw [← HQ.out, ← HC.out]; exact HE.out))), HB3.out⟩
theorem runframe_any (s : ByteArray) (w : World) (hm : s.size ≤ maxLen) :
    Calls Tryz.prog 138 #[.string s] w fun e w' => e = .returned (.tuple #[.string (ufP s), .string (ufR s), .int .i64 (ufE s)]) ∧ Below w.heap.size w w' := by
  by_cases h : s.size < 4
  · exact runframe_4 s w h
  · exact runframe_8 s w hm (by omega)
end Go.Proofs.YtpfknjnigcefgaaGreatDoor
/- The document's own at. -/
namespace Go.Proofs.YtpfknjnigcefgaaGreatDoor
open Go.RowKit
set_option linter.unusedSimpArgs false
set_option linter.unusedVariables false
/-- How many bytes the record at the front has. -/
def atN (s : ByteArray) : Nat := if atB s = true then 9 + (atO s).p.size else 0
theorem inf_rob : (Tryz.prog.info? 163).map (·.size) = some 2 := by kernel_rfl
theorem ret_at {s : ByteArray} {k : Int} {p : ByteArray} {n : Int} (h : ((ftO s).k.toNat : Int) = k ∧ (ftO s).p = p ∧ (atN s : Int) = n) :
    Ending.returned (.tuple #[.agg #[.int .u8 k, .string p], .int .i64 n]) = .returned (.tuple #[.agg #[.int .u8 ((ftO s).k.toNat : Int), .string (ftO s).p], .int .i64 (atN s : Int)]) := by
  obtain ⟨h1, h2, h3⟩ := h
  rw [h1, h2, h3]
theorem at_no {s : ByteArray} (h : atB s = false) : ((ftO s).k.toNat : Int) = 0 ∧ (ftO s).p = ⟨#[]⟩ ∧ (atN s : Int) = 0 := by
  simp [ftO, atN, h]
theorem ob_one (k : Int) (p : ByteArray) : (#[Value.int .u8 k, Value.string p]).all (·.oneCell') = true := by simp [Value.oneCell']
set_option maxHeartbeats 1000000 in
set_option maxRecDepth 100000 in
theorem rat_any (s : ByteArray) (w : World) (hs : s.size ≤ maxLen) :
    Calls Tryz.prog 112 #[.string s] w fun e w' => e = .returned (.tuple #[.agg #[.int .u8 ((ftO s).k.toNat : Int), .string (ftO s).p], .int .i64 (atN s : Int)]) ∧ Below w.heap.size w w' := by
  have hu := uf_len s
  cases hB : ufB s with
  | false =>
    obtain ⟨e1, e2, e3⟩ := uf_no hB
    have hat : atB s = false := by simp [atB, hB]
    have HAT : Hid (atB s = false) := hat
    clear hB hat hu
    go_enter Tryz.func112, Tryz.ntmps112
    go_wp2_with fail
    refine (runframe_any s _ hs).mono ?_
    rintro e w1 ⟨rfl, hb⟩
    rw [e1, e2, e3]
    clear e1 e2 e3
    have hbk : Bk w1 w.heap.size #[.int .u8 0, .string ⟨#[]⟩] 163 := (bk_new _ _ _).below hb (by rw [al_size]; omega)
    have b0 : w1.cell? ⟨w.heap.size, 0, none⟩ = some (.int .u8 0) := by rw [hbk.cell]; rfl
    have b1 : w1.cell? ⟨w.heap.size, 1, none⟩ = some (.string ⟨#[]⟩) := by rw [hbk.cell]; rfl
    have f0 := hbk.frozen 0
    have f1 := hbk.frozen 1
    have HK : Hid (Bk w1 w.heap.size #[.int .u8 0, .string ⟨#[]⟩] 163) := hbk
    have HB : Hid (Below w.heap.size w w1) := ((Below.refl _ _).alloc (Nat.le_refl _) _).trans (hb.mono (by rw [al_size]; omega))
    clear hb hbk
    go_wp2
    refine bodyPost_ret (res_cell_tmp (u := 3) rfl _ _ w.heap.size 163 #[.int .u8 0, .string ⟨#[]⟩] (0, 0) _ rfl (st2 HK.out _ _) Tryz.underlying163 rfl inf_rob) rfl ⟨ret_at (at_no HAT.out), ?_⟩
    exact below_own HB.out HB.out.size (gr2 _ _ _ _) (Nat.le_refl _)
  | true =>
    obtain ⟨_, _, e3⟩ := uf_yes hB
    obtain ⟨P, hP⟩ : ∃ P, P = ufP s := ⟨_, rfl⟩
    obtain ⟨R, hR⟩ : ∃ R, R = ufR s := ⟨_, rfl⟩
    rw [← hP, ← hR] at hu
    have HP : Hid (P = ufP s) := hP
    have HR : Hid (R = ufR s) := hR
    have HU : Hid (ufB s = true) := hB
    have hu1 := hu.1
    have hu2 := hu.2
    unfold maxLen at hs
    clear hB hu
    go_enter Tryz.func112, Tryz.ntmps112
    go_wp2_with fail
    refine (runframe_any s _ (by unfold maxLen; exact hs)).mono ?_
    rintro e w1 ⟨rfl, hb⟩
    rw [e3, ← hP, ← hR]
    clear e3 hP hR
    have hbk : Bk w1 w.heap.size #[.int .u8 0, .string ⟨#[]⟩] 163 := (bk_new _ _ _).below hb (by rw [al_size]; omega)
    have b0 : w1.cell? ⟨w.heap.size, 0, none⟩ = some (.int .u8 0) := by rw [hbk.cell]; rfl
    have b1 : w1.cell? ⟨w.heap.size, 1, none⟩ = some (.string ⟨#[]⟩) := by rw [hbk.cell]; rfl
    have f0 := hbk.frozen 0
    have f1 := hbk.frozen 1
    have HK : Hid (Bk w1 w.heap.size #[.int .u8 0, .string ⟨#[]⟩] 163) := hbk
    have HB : Hid (Below w.heap.size w w1) := ((Below.refl _ _).alloc (Nat.le_refl _) _).trans (hb.mono (by rw [al_size]; omega))
    have hlt := hbk.lt
    clear hb hbk
    by_cases h0 : P.size = 0
    · obtain rfl : P = ⟨#[]⟩ := by
        apply bl_inj
        rw [show bl ⟨#[]⟩ = [] from rfl]
        exact List.eq_nil_of_length_eq_zero (by rw [bl_length]; exact h0)
      have hat : atB s = false := by rw [atB, ← HP.out]; simp; intro _ h; exact absurd h (by decide)
      have HAT : Hid (atB s = false) := hat
      clear hat h0
      go_wp2
      refine bodyPost_ret (res_cell_tmp (u := 3) rfl _ _ w.heap.size 163 #[.int .u8 0, .string ⟨#[]⟩] (0, 0) _ rfl (st2 HK.out _ _) Tryz.underlying163 rfl inf_rob) rfl ⟨ret_at (at_no HAT.out), ?_⟩
      exact below_own HB.out HB.out.size (gr2 _ _ _ _) (Nat.le_refl _)
    have hps : 0 < P.size := by omega
    have hpz : (0 : Int) < (P.size : Int) := by omega
    have hpz1 : (1 : Int) ≤ (P.size : Int) := by omega
    have hpe : ((P.size : Int) == 0) = false := by rw [beq_eq_false_iff_ne]; omega
    clear h0
    have hx1 : (P.extract 1 P.size).size ≤ 67108864 := by
      rw [← bl_length, bl_extract, List.length_drop, List.length_take, bl_length]; omega
    have HO : Hid (atO s = ⟨P[0], P.extract 1 P.size⟩) := by
      show atO s = _
      unfold atO
      rw [← HP.out, frmO]
      congr 1
      have : (bl P)[0]? = some P[0] := by rw [bl, Array.getElem?_toList]; exact Array.getElem?_eq_getElem (by exact hps)
      cases hd : bl P with
      | nil => rw [hd] at this; simp at this
      | cons a r => rw [hd] at this; simpa using this
    have HX : Hid (P.size ≤ 67108864 ∧ 0 < P.size) := ⟨hu1, hps⟩
    have H3 := fun W => rcheck11 ⟨P[0], P.extract 1 P.size⟩ W (by unfold maxLen; simp only; omega)
    simp only at H3
    have HDR : Hid (KN w1 #[.int .u8 0, .string ⟨#[]⟩] 163 none w1.drew) := (Below.refl _ _).drew
    go_wp2_with fail
    refine wp_region_new (KN w1 #[.int .u8 0, .string ⟨#[]⟩] 163) 6 5 _ (by kernel_rfl) (by kernel_rfl) rfl rfl (fun a W hW => ⟨_, _, by kernel_rfl, hW.made⟩) HDR.out ?_
    simp only [List.take_succ_cons, List.take_zero, List.drop_succ_cons, List.drop_zero, skipL, Nat.reduceAdd, Nat.reduceBEq, Bool.false_eq_true, if_false, if_true]
    refine wpQF_val rfl (.string P) (fun ov W hW => by go_simp) ?_; simp only [Act.put, List.setIfInBounds_toArray, List.set_cons_zero, List.set_cons_succ]
    refine wpQF_val rfl (.int .u8 ((P[0]'hps).toNat : Int)) (fun ov W hW => by go_simp) ?_; simp only [Act.put, List.setIfInBounds_toArray, List.set_cons_zero, List.set_cons_succ]
    refine wpQF_val rfl (.string P) (fun ov W hW => by go_simp) ?_; simp only [Act.put, List.setIfInBounds_toArray, List.set_cons_zero, List.set_cons_succ]
    refine wpQF_val rfl (.string (P.extract 1 P.size)) (fun ov W hW => by go_simp) ?_; simp only [Act.put, List.setIfInBounds_toArray, List.set_cons_zero, List.set_cons_succ]
    refine wpQF_val rfl (.agg #[.int .u8 ((P[0]'hps).toNat : Int), .string (P.extract 1 P.size)]) (fun ov W hW => by go_simp) ?_; simp only [Act.put, List.setIfInBounds_toArray, List.set_cons_zero, List.set_cons_succ]
    intro v w5 h5
    obtain ⟨gi, rfl, hgi, hbi, hb5⟩ := h5
    have HB5 : Hid (Below w1.heap.size w1 w5) := hb5
    have HK5 : Hid (Bk w5 gi #[.int .u8 0, .string ⟨#[]⟩] 163) := hbi
    obtain ⟨k, hk⟩ : ∃ k, k = P[0] := ⟨_, rfl⟩
    obtain ⟨p, hp⟩ : ∃ p, p = P.extract 1 P.size := ⟨_, rfl⟩
    rw [← hk, ← hp] at HO H3
    rw [← hp] at hx1
    simp only [← hk, ← hp]
    have hpP : p.size + 1 = P.size := by rw [hp, ← bl_length, bl_extract, List.length_drop, List.length_take, bl_length]; omega
    clear hb5 hbi HDR hk hp
    simp only [Act.put, List.setIfInBounds_toArray, List.set_cons_zero, List.set_cons_succ]
    refine wpList_sto rfl 163 (.tmp 7) (.tmp 26) rfl gi #[.int .u8 (k.toNat : Int), .string p] #[.int .u8 0, .string ⟨#[]⟩] 163 rfl rfl HK5.out inf_rob rfl (ob_one _ _) ?_
    intro w6 HK6 HG
    simp only [Act.put]
    have h6 : Below w1.heap.size w1 w6 := below_own HB5.out HB5.out.size HG.out hgi
    have HB6 : Hid (Below w.heap.size w w6) := HB.out.trans (h6.mono HB.out.size)
    have HK6' : Hid (Bk w6 w.heap.size #[.int .u8 0, .string ⟨#[]⟩] 163) := HK.out.below h6 HK.out.lt
    have c0 : w6.cell? ⟨gi, 0, none⟩ = some (.int .u8 (k.toNat : Int)) := by rw [HK6.out.cell]; rfl
    have c1 : w6.cell? ⟨gi, 1, none⟩ = some (.string p) := by rw [HK6.out.cell]; rfl
    have HC : Hid (Bk w6 gi #[.int .u8 (k.toNat : Int), .string p] 163) := HK6
    clear HG HK5 HB5 HB HK h6 b0 b1 f0 f1 HK6
    go_wp2_with fail
    refine (H3 _).mono ?_
    rintro e w3 ⟨rfl, hb3⟩
    have hbk : Bk w3 w.heap.size #[.int .u8 0, .string ⟨#[]⟩] 163 := HK6'.out.below hb3 HK6'.out.lt
    have hbi : Bk w3 gi #[.int .u8 (k.toNat : Int), .string p] 163 := HC.out.below hb3 HC.out.lt
    have HB3 : Hid (Below w.heap.size w w3) := HB6.out.trans (hb3.mono HB6.out.size)
    have HK3 : Hid (Bk w3 w.heap.size #[.int .u8 0, .string ⟨#[]⟩] 163) := hbk
    have b0 : w3.cell? ⟨w.heap.size, 0, none⟩ = some (.int .u8 0) := by rw [hbk.cell]; rfl
    have b1 : w3.cell? ⟨w.heap.size, 1, none⟩ = some (.string ⟨#[]⟩) := by rw [hbk.cell]; rfl
    have i0 : w3.cell? ⟨gi, 0, none⟩ = some (.int .u8 (k.toNat : Int)) := by rw [hbi.cell]; rfl
    have i1 : w3.cell? ⟨gi, 1, none⟩ = some (.string p) := by rw [hbi.cell]; rfl
    have f0 := hbk.frozen 0
    have f1 := hbk.frozen 1
    have hlt3 := hbk.lt
    clear hb3 hbk hbi H3 hlt c0 c1 HC HK6' HB6
    cases hok : okO ⟨k, p⟩ with
    | true =>
      have hck : ckO ⟨k, p⟩ = 0 := by rw [ckO, if_pos hok]
      rw [hck]
      have hat : atB s = true := by
        rw [atB_iff, HO.out, ← HP.out]
        exact ⟨HU.out, hps, hok⟩
      have hft : (ftO s) = ⟨k, p⟩ := by rw [ftO, if_pos hat]; exact HO.out
      have hfit := at_fits hat
      rw [HO.out] at hfit
      have hRs : R.size + (9 + p.size) = s.size := by
        have h1 := hfit.1
        rw [HR.out, hfit.2.1, frmO_size]
        simp only at h1 ⊢
        omega
      have HN : Hid (((ftO s).k.toNat : Int) = (k.toNat : Int) ∧ (ftO s).p = p ∧ (atN s : Int) = 9 + (p.size : Int)) := by
        refine ⟨by rw [hft], by rw [hft], ?_⟩
        rw [atN, if_pos hat, HO.out]
        simp only
        omega
      have hsub : (s.size : Int) - (R.size : Int) = 9 + (p.size : Int) := by omega
      clear hok hck hat hft hfit hRs
      go_wp2
      refine bodyPost_ret (res_cell_tmp (u := 3) rfl _ _ w.heap.size 163 #[.int .u8 (k.toNat : Int), .string p] (0, 0) _ rfl (st2 HK3.out _ _) Tryz.underlying163 rfl inf_rob) rfl ⟨ret_at HN.out, ?_⟩
      exact below_own HB3.out HB3.out.size (gr2 _ _ _ _) (Nat.le_refl _)
    | false =>
      have hck : ckO ⟨k, p⟩ = 1 := by rw [ckO, if_neg (by rw [hok]; simp)]
      rw [hck]
      have HAT : Hid (atB s = false) := by
        show atB s = false
        rw [Bool.eq_false_iff]
        intro h
        rw [atB_iff, HO.out, hok] at h
        cases h.2.2
      clear hok hck
      go_wp2
      refine bodyPost_ret (res_cell_tmp (u := 3) rfl _ _ w.heap.size 163 #[.int .u8 0, .string ⟨#[]⟩] (0, 0) _ rfl (st2 HK3.out _ _) Tryz.underlying163 rfl inf_rob) rfl ⟨ret_at (at_no HAT.out), ?_⟩
      exact below_own HB3.out HB3.out.size (gr2 _ _ _ _) (Nat.le_refl _)
end Go.Proofs.YtpfknjnigcefgaaGreatDoor
/- The walks of the document's own Unhex and Hex (munimentref01), for texts of at most 1048576 bytes. -/
namespace Go.Proofs.YtpfknjnigcefgaaGreatDoor
open Go.RowKit
set_option linter.unusedSimpArgs false
set_option linter.unusedVariables false
theorem news_oneR (w : World) (a : Value) (T : TypeId) : ∀ (j : Nat) (u : Value), [a][j]? = some u → (w.alloc (.cells #[a] T)).cell? ((⟨w.heap.size, 0, none⟩ : Addr).add j) = some u := by
  intro j u h
  rw [WideShapes.add_plain, Nat.zero_add, World.cell?_alloc_new]
  simpa using h
theorem one_one (a : Int) : ∀ u ∈ [Value.int .u8 a], u.oneCell' = true := by
  intro u hu
  simp at hu
  subst hu; rfl
theorem app_below {B n : Nat} {w wr w1 : World} {o : Obj} {v : Value} {xs : List Value} {e : TypeId} (hb : Below B w wr) (hz : B ≤ wr.heap.size) (ho : wr.ownsRow B e 1 v n xs) (hg : (wr.alloc o).grownBy w1 v.ownBlock) : Below B w w1 := by
  refine (hb.alloc hz o).grown hg (by simp; omega) (fun k hk => ?_)
  rcases ho.2 with ⟨rfl, _⟩ | ⟨g, cap, cur, rfl, hle, _⟩
  · cases hk
  · simp [Value.ownBlock] at hk; omega
set_option maxHeartbeats 400000 in
theorem runhex_odd (s : ByteArray) (w : World) (hs : s.size ≤ 140737488351232) (ho : s.size % 2 = 1) :
    Calls Tryz.prog 87 #[.string s] w fun e w' => e = .returned (.tuple #[.string (uhS s), .int .i64 (uhE s)]) ∧ w' = w := by
  have HN := uh_none (unhexL_odd _ (bl s) (Nat.le_refl _) (by rw [bl_length]; exact ho))
  rw [HN.1, HN.2]
  clear HN
  have h1 : (((s.size : Int) % 2) == 1) = true := by rw [beq_iff_eq]; omega
  go_enter Tryz.func87, Tryz.ntmps87
  go_wp2
  go_ret2
  exact ⟨rfl, rfl⟩
set_option maxHeartbeats 800000 in
set_option maxRecDepth 100000 in
theorem runhex_even (s : ByteArray) (w : World) (n : Nat) (hs : s.size ≤ 140737488351232) (ho : s.size = 2 * n) :
    Calls Tryz.prog 87 #[.string s] w fun e w' => e = .returned (.tuple #[.string (uhS s), .int .i64 (uhE s)]) ∧ Below w.heap.size w w' := by
  have h1 : (((s.size : Int) % 2) == 1) = false := by rw [beq_eq_false_iff_ne]; omega
  have HO : Hid (s.size = 2 * n) := ho
  have hn2 : 2 * n ≤ 140737488351232 := by omega
  clear ho
  obtain ⟨i0, hi, hz0, hz1, hz2⟩ := info_parts info_u8
  go_enter Tryz.func87, Tryz.ntmps87
  go_wp2
  go_loopw [4, 5] (fun v i wr => ∃ (k : Nat) (m : List Nat), k ≤ n ∧ i = .int .i64 (2 * (k : Int)) ∧ wr.ownsRow w.heap.size 5 1 v k (bvX m) ∧ Hid (m.length = k ∧ unhexL (bl s) = (unhexL ((bl s).drop (2 * k))).map (m ++ ·)) ∧ Below w.heap.size w wr) (fun _ i _ => (2 * n - (intOf i).toNat))
  case atStart => exact ⟨0, [], by omega, rfl, World.ownsRow_nil _ _ _ _, ⟨rfl, by simp⟩, Below.refl _ _⟩
  case round =>
    obtain ⟨k, m, hk, rfl, hown, HR, hbel⟩ := hrel
    have hb0 := hbel.size
    by_cases hlt : k < n
    · have g1 : 2 * k < s.size := by have := HO.out; omega
      have g2 : 2 * k + 1 < s.size := by have := HO.out; omega
      cases ea : dvl s[2 * k].toNat with
      | none =>
        have HA : Hid (dvl s[2 * k].toNat = none) := ea
        clear ea
        go_wp2_with fail
        refine (digit_any _ _ (by exact s[2 * k].toNat_lt)).mono ?_
        rintro e w1 ⟨rfl, hw1⟩
        subst hw1
        rw [HA.out]
        go_wp2_with fail
        refine (digit_any _ _ (by exact s[2 * k + 1].toNat_lt)).mono ?_
        rintro e w1 ⟨rfl, hw1⟩
        subst hw1
        go_wp2
        go_ret2
        refine ⟨ret_uh ?_, hbel⟩
        have hn := uh_none (unhex_bad s (2 * k) m g2 HR.out.2 (Or.inl HA.out))
        exact ⟨hn.1.symm, hn.2.symm⟩
      | some x =>
        have HA : Hid (dvl s[2 * k].toNat = some x) := ea
        clear ea
        have hx := (dvl_some HA.out).1
        cases eb : dvl s[2 * k + 1].toNat with
        | none =>
          have HB : Hid (dvl s[2 * k + 1].toNat = none) := eb
          clear eb
          go_wp2_with fail
          refine (digit_any _ _ (by exact s[2 * k].toNat_lt)).mono ?_
          rintro e w1 ⟨rfl, hw1⟩
          subst hw1
          rw [HA.out]
          go_wp2_with fail
          refine (digit_any _ _ (by exact s[2 * k + 1].toNat_lt)).mono ?_
          rintro e w1 ⟨rfl, hw1⟩
          subst hw1
          rw [HB.out]
          go_wp2
          go_ret2
          refine ⟨ret_uh ?_, hbel⟩
          have hn := uh_none (unhex_bad s (2 * k) m g2 HR.out.2 (Or.inr HB.out))
          exact ⟨hn.1.symm, hn.2.symm⟩
        | some y =>
          have HB : Hid (dvl s[2 * k + 1].toNat = some y) := eb
          clear eb
          have hy := (dvl_some HB.out).1
          go_wp2_with fail
          refine (digit_any _ _ (by exact s[2 * k].toNat_lt)).mono ?_
          rintro e w1 ⟨rfl, hw1⟩
          subst hw1
          rw [HA.out]
          go_wp2_with fail
          refine (digit_any _ _ (by exact s[2 * k + 1].toNat_lt)).mono ?_
          rintro e w1 ⟨rfl, hw1⟩
          subst hw1
          rw [HB.out]
          go_wp2_with (at_builtin; refine wpList_append_own _ rfl _ _ 82 rfl w.heap.size 5 i0 (.int .u8 0) 1 1 Tryz.underlying82 hi hz0 hz1 hz2 rfl (by decide) _ _ _ rfl (hown.alloc _) ⟨w1.heap.size, 0, none⟩ 1 1 [.int .u8 (16 * (x : Int) + y)] rfl rfl ?c1 ?c2 ?c3 ?c4 ?c5 ?_)
          case c1 => exact news_oneR _ _ _
          case c2 => exact one_one _
          case c3 => unfold maxLen; omega
          case c4 => omega
          case c5 => simp; omega
          intro v' w7 hown1 hgrow _
          go_wp2
          go_roundw
          case rel =>
            obtain ⟨a2, a5⟩ := HR.out
            refine ⟨k + 1, m ++ [x * 16 + y], by omega, by go_num, ?_, ⟨by simp [a2], unhex_step s (2 * k) m x y g2 a5 HA.out HB.out⟩, ?_⟩
            · rw [bvX_append]
              have e : bvX [x * 16 + y] = [.int .u8 (16 * (x : Int) + y)] := by
                show [Value.int .u8 ((x * 16 + y : Nat) : Int)] = _
                congr 2; omega
              rw [e]; exact hown1
            · exact app_below hbel hb0 hown hgrow
          case measure => simp [intOf]; omega
    · have hkn : k = n := by omega
      subst hkn
      have hc := own_conv hown
      have hform : (∃ g c, u4 = .slice (some ⟨g, 0, none⟩) k c) ∨ u4 = .slice none 0 0 := by
        rcases hown.2 with ⟨h, _⟩ | ⟨g, c, _, h, _⟩
        · exact Or.inr h
        · exact Or.inl ⟨g, c, h⟩
      have HR2 : Hid (unhexL (bl s) = (unhexL ((bl s).drop (2 * k))).map (m ++ ·)) := HR.out.2
      have hend : (s.size : Int) ≤ 2 * (k : Int) := by have := HO.out; omega
      clear hown HR
      rcases hform with ⟨g, c, hv⟩ | hv
      · subst hv
        go_wp2
        go_ret2
        refine ⟨ret_uh ?_, hbel⟩
        have hn := uh_some (unhex_all s (2 * k) m (by have := HO.out; omega) HR2.out)
        exact ⟨hn.1.symm, hn.2.symm⟩
      · subst hv
        go_wp2
        go_ret2
        refine ⟨ret_uh ?_, hbel⟩
        have hn := uh_some (unhex_all s (2 * k) m (by have := HO.out; omega) HR2.out)
        exact ⟨hn.1.symm, hn.2.symm⟩
end Go.Proofs.YtpfknjnigcefgaaGreatDoor
/- The walk of the document's own Hex (munimentref01), for texts of at most 1048576 bytes. -/
namespace Go.Proofs.YtpfknjnigcefgaaGreatDoor
open Go.RowKit
set_option linter.unusedSimpArgs false
set_option linter.unusedVariables false
theorem tab_get (v : Nat) (h : v < (⟨#[48, 49, 50, 51, 52, 53, 54, 55, 56, 57, 97, 98, 99, 100, 101, 102]⟩ : ByteArray).size) : ((⟨#[48, 49, 50, 51, 52, 53, 54, 55, 56, 57, 97, 98, 99, 100, 101, 102]⟩ : ByteArray)[v]'h).toNat = dg v := by
  have : ∀ v : Fin 16, ((⟨#[48, 49, 50, 51, 52, 53, 54, 55, 56, 57, 97, 98, 99, 100, 101, 102]⟩ : ByteArray)[v.val]'v.isLt).toNat = dg v.val := by decide
  exact this ⟨v, h⟩
theorem rhex_own (s : ByteArray) (k : Nat) (hk : k < s.size) {w1 : World} {base : Nat} {v : Value} (h : w1.ownsRow base 5 1 v (2 * k + 2) (bvX (hexL ((bl s).take k)) ++ [.int .u8 (dg (s[k].toNat / 16) : Nat), .int .u8 (dg (s[k].toNat % 16) : Nat)])) :
    w1.ownsRow base 5 1 v (2 * (k + 1)) (bvX (hexL ((bl s).take (k + 1)))) := by
  have e : bvX (hexL ((bl s).take (k + 1))) = bvX (hexL ((bl s).take k)) ++ [.int .u8 (dg (s[k].toNat / 16) : Nat), .int .u8 (dg (s[k].toNat % 16) : Nat)] := by
    rw [take_snoc s k hk, hexL_append, bvX_append]; rfl
  rw [e, show 2 * (k + 1) = 2 * k + 2 from by omega]
  exact h
theorem app_below_drew {B n : Nat} {w wr w1 : World} {o : Obj} {v : Value} {xs : List Value} {e : TypeId} (hb : Below B w wr) (hz : B ≤ wr.heap.size) (ho : wr.ownsRow B e 1 v n xs) (hg : ((wr.alloc o).drew).grownBy w1 v.ownBlock) : Below B w w1 := by
  refine ((hb.alloc hz o).drew).grown hg (by show B ≤ (wr.alloc o).heap.size; simp; omega) (fun k hk => ?_)
  rcases ho.2 with ⟨rfl, _⟩ | ⟨g, cap, cur, rfl, hle, _⟩
  · cases hk
  · simp [Value.ownBlock] at hk; omega
set_option maxHeartbeats 800000 in
set_option maxRecDepth 100000 in
theorem rhex_any (s : ByteArray) (w : World) (hs : s.size ≤ 1048576) :
    Calls Tryz.prog 90 #[.string s] w fun e w' => e = .returned (.string (sb (hexL (bl s)))) ∧ Below w.heap.size w w' := by
  obtain ⟨i0, hi, hz0, hz1, hz2⟩ := info_parts info_u8
  have hsz16 : (⟨#[48, 49, 50, 51, 52, 53, 54, 55, 56, 57, 97, 98, 99, 100, 101, 102]⟩ : ByteArray).size = 16 := rfl
  go_enter Tryz.func90, Tryz.ntmps90
  go_wp2
  go_loopw [3, 4] (fun v i wr => ∃ k : Nat, k ≤ s.size ∧ i = .int .i64 k ∧ wr.ownsRow w.heap.size 5 1 v (2 * k) (bvX (hexL ((bl s).take k))) ∧ Below w.heap.size w wr) (fun _ i _ => s.size - (intOf i).toNat)
  case atStart => exact ⟨0, by omega, rfl, World.ownsRow_nil _ _ _ _, Below.refl _ _⟩
  case round =>
    obtain ⟨k, hk, rfl, hown, hbel⟩ := hrel
    have hb0 := hbel.size
    by_cases hlt : k < s.size
    · have hlt256 : s[k].toNat < 256 := s[k].toNat_lt
      have hq1 : IntKind.u8.wrap ((s[k].toNat : Int) / 16) = (s[k].toNat : Int) / 16 := by rw [IntKind.wrap_u8']; omega
      have hq2 : ((s[k].toNat : Int)).tmod 16 = (s[k].toNat : Int) % 16 := Int.tmod_eq_emod_of_nonneg (by omega)
      have hv1 : ((⟨#[48, 49, 50, 51, 52, 53, 54, 55, 56, 57, 97, 98, 99, 100, 101, 102]⟩ : ByteArray)[((s[k].toNat : Int) / 16).toNat]'(by show _ < 16; omega)).toNat = dg (s[k].toNat / 16) := by
        rw [tab_get]; congr 1
      have hv2 : ((⟨#[48, 49, 50, 51, 52, 53, 54, 55, 56, 57, 97, 98, 99, 100, 101, 102]⟩ : ByteArray)[((s[k].toNat : Int) % 16).toNat]'(by show _ < 16; omega)).toNat = dg (s[k].toNat % 16) := by
        rw [tab_get]; congr 1
      have b1 : (0 : Int) ≤ (s[k].toNat : Int) / 16 := by omega
      have b2 : (s[k].toNat : Int) / 16 < 16 := by have := s[k].toNat_lt; omega
      have b3 : (s[k].toNat : Int) % 16 < 16 := by omega
      have b4 : (0 : Int) ≤ (s[k].toNat : Int) % 16 := by omega
      go_wp2_with fail
      go_region_held3 (fun w' => True) (trivial)
        ((refine step_append_lies _ (by rfl) _ _ _ (by rfl) w.heap.size 5 i0 (.int .u8 0) 1 1 Tryz.underlying82 hi hz0 hz1 hz2 rfl (by decide) u3 (2 * k) _ (by rfl) (own_drew hown _) ⟨wr.heap.size, 0, none⟩ 2 2 [.int .u8 (dg (s[k].toNat / 16) : Nat), .int .u8 (dg (s[k].toNat % 16) : Nat)] (by rfl) rfl (news_two wr _ _ _) (one_two _ _) (by omega) (by unfold maxLen; omega) (by omega) (by show w.heap.size ≤ (wr.alloc _).heap.size; simp; omega) (wr.heap.size + 1) (by show (wr.alloc _).heap.size = _; simp) ?_; intro g cap w1 hown1 hgrow hat hlt1))
      all_goals go_wp2
      all_goals go_roundw
      all_goals first
        | exact ⟨k + 1, by omega, by go_num, rhex_own s k hlt hown1, app_below_drew hbel hb0 hown hgrow⟩
        | (simp [intOf]; omega)
    · have hke : k = s.size := by omega
      subst hke
      have hc := own_conv hown
      rw [List.take_of_length_le (by rw [bl_length]; exact Nat.le_refl _)] at hc
      have hform : (∃ g c, u3 = .slice (some ⟨g, 0, none⟩) (2 * s.size) c) ∨ u3 = .slice none 0 0 := by
        rcases hown.2 with ⟨h, _⟩ | ⟨g, c, _, h, _⟩
        · exact Or.inr h
        · exact Or.inl ⟨g, c, h⟩
      clear hown
      rcases hform with ⟨g, c, hv⟩ | hv
      · subst hv
        go_wp2
        go_ret
        exact ⟨rfl, hbel⟩
      · subst hv
        go_wp2
        go_ret
        exact ⟨rfl, hbel⟩
end Go.Proofs.YtpfknjnigcefgaaGreatDoor
/- The document's own Text (munimentref02). -/
namespace Go.Proofs.YtpfknjnigcefgaaGreatDoor
open Go.RowKit
set_option linter.unusedSimpArgs false
set_option linter.unusedVariables false
set_option maxHeartbeats 1000000 in
set_option maxRecDepth 100000 in
theorem rText_any (s : ByteArray) (w : World) (hs : s.size = 32) :
    Calls Tryz.prog 49 #[.agg (idc s)] w fun e w' => e = .returned (.string (sb (hexL (bl s)))) ∧ Below w.heap.size w w' := by
  have h1 := slice32 w.heap.size
  have h2 := conv32 s w.heap.size 23 (w.alloc (.cells (idc s) 23)) hs (blk_new _ _)
  go_enter Tryz.func49, Tryz.ntmps49
  go_wp2_with (go_at_call 90; refine (rhex_any s _ (by omega)).mono ?_; rintro e w1 ⟨rfl, hb1⟩)
  go_ret
  exact ⟨rfl, ((Below.refl _ _).alloc (Nat.le_refl _) _).trans (hb1.mono (by rw [alloc_size]; omega))⟩
end Go.Proofs.YtpfknjnigcefgaaGreatDoor
