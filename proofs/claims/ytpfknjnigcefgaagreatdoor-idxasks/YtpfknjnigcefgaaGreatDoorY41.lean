import Derived.Test.YtpfknjnigcefgaaGreatDoorY40
import Derived.Test.YtpfknjnigcefgaaGreatDoorY32
import Derived.Test.YtpfknjnigcefgaaGreatDoorY35
import Derived.Test.YtpfknjnigcefgaaGreatDoorY34
/- The document's own at. -/
namespace Go.Proofs.YtpfknjnigcefgaaGreatDoor
open Go.RowKit
set_option linter.unusedSimpArgs false
set_option linter.unusedVariables false
/-- How many bytes the record at the front has. -/
def atN (s : ByteArray) : Nat := if atB s = true then 9 + (atO s).p.size else 0
theorem inf_rob : (Tryz.prog.info? 163).map (·.size) = some 2 := by kernel_rfl
theorem ret_at {s : ByteArray} {k : Int} {p : ByteArray} {n : Int} (h : ((ftO s).k.toNat : Int) = k ∧ (ftO s).p = p ∧ (atN s : Int) = n) :
    Ending.returned (.tuple #[.agg #[.int .u8 k, .string p], .int .i64 n]) = .returned (.tuple #[.agg #[.int .u8 ((ftO s).k.toNat : Int), .string (ftO s).p], .int .i64 (atN s : Int)]) := by
  obtain ⟨h1, h2, h3⟩ := h
  rw [h1, h2, h3]
theorem at_no {s : ByteArray} (h : atB s = false) : ((ftO s).k.toNat : Int) = 0 ∧ (ftO s).p = ⟨#[]⟩ ∧ (atN s : Int) = 0 := by
  simp [ftO, atN, h]
theorem ob_one (k : Int) (p : ByteArray) : (#[Value.int .u8 k, Value.string p]).all (·.oneCell') = true := by simp [Value.oneCell']
set_option maxHeartbeats 1000000 in
set_option maxRecDepth 100000 in
theorem rat_any (s : ByteArray) (w : World) (hs : s.size ≤ maxLen) :
    Calls Tryz.prog 112 #[.string s] w fun e w' => e = .returned (.tuple #[.agg #[.int .u8 ((ftO s).k.toNat : Int), .string (ftO s).p], .int .i64 (atN s : Int)]) ∧ Below w.heap.size w w' := by
  have hu := uf_len s
  cases hB : ufB s with
  | false =>
    obtain ⟨e1, e2, e3⟩ := uf_no hB
    have hat : atB s = false := by simp [atB, hB]
    have HAT : Hid (atB s = false) := hat
    clear hB hat hu
    go_enter Tryz.func112, Tryz.ntmps112
    go_wp2_with fail
    refine (runframe_any s _ hs).mono ?_
    rintro e w1 ⟨rfl, hb⟩
    rw [e1, e2, e3]
    clear e1 e2 e3
    have hbk : Bk w1 w.heap.size #[.int .u8 0, .string ⟨#[]⟩] 163 := (bk_new _ _ _).below hb (by rw [al_size]; omega)
    have b0 : w1.cell? ⟨w.heap.size, 0, none⟩ = some (.int .u8 0) := by rw [hbk.cell]; rfl
    have b1 : w1.cell? ⟨w.heap.size, 1, none⟩ = some (.string ⟨#[]⟩) := by rw [hbk.cell]; rfl
    have f0 := hbk.frozen 0
    have f1 := hbk.frozen 1
    have HK : Hid (Bk w1 w.heap.size #[.int .u8 0, .string ⟨#[]⟩] 163) := hbk
    have HB : Hid (Below w.heap.size w w1) := ((Below.refl _ _).alloc (Nat.le_refl _) _).trans (hb.mono (by rw [al_size]; omega))
    clear hb hbk
    go_wp2
    refine bodyPost_ret (res_cell_tmp (u := 3) rfl _ _ w.heap.size 163 #[.int .u8 0, .string ⟨#[]⟩] (0, 0) _ rfl (st2 HK.out _ _) Tryz.underlying163 rfl inf_rob) rfl ⟨ret_at (at_no HAT.out), ?_⟩
    exact below_own HB.out HB.out.size (gr2 _ _ _ _) (Nat.le_refl _)
  | true =>
    obtain ⟨_, _, e3⟩ := uf_yes hB
    obtain ⟨P, hP⟩ : ∃ P, P = ufP s := ⟨_, rfl⟩
    obtain ⟨R, hR⟩ : ∃ R, R = ufR s := ⟨_, rfl⟩
    rw [← hP, ← hR] at hu
    have HP : Hid (P = ufP s) := hP
    have HR : Hid (R = ufR s) := hR
    have HU : Hid (ufB s = true) := hB
    have hu1 := hu.1
    have hu2 := hu.2
    unfold maxLen at hs
    clear hB hu
    go_enter Tryz.func112, Tryz.ntmps112
    go_wp2_with fail
    refine (runframe_any s _ (by unfold maxLen; exact hs)).mono ?_
    rintro e w1 ⟨rfl, hb⟩
    rw [e3, ← hP, ← hR]
    clear e3 hP hR
    have hbk : Bk w1 w.heap.size #[.int .u8 0, .string ⟨#[]⟩] 163 := (bk_new _ _ _).below hb (by rw [al_size]; omega)
    have b0 : w1.cell? ⟨w.heap.size, 0, none⟩ = some (.int .u8 0) := by rw [hbk.cell]; rfl
    have b1 : w1.cell? ⟨w.heap.size, 1, none⟩ = some (.string ⟨#[]⟩) := by rw [hbk.cell]; rfl
    have f0 := hbk.frozen 0
    have f1 := hbk.frozen 1
    have HK : Hid (Bk w1 w.heap.size #[.int .u8 0, .string ⟨#[]⟩] 163) := hbk
    have HB : Hid (Below w.heap.size w w1) := ((Below.refl _ _).alloc (Nat.le_refl _) _).trans (hb.mono (by rw [al_size]; omega))
    have hlt := hbk.lt
    clear hb hbk
    by_cases h0 : P.size = 0
    · obtain rfl : P = ⟨#[]⟩ := by
        apply bl_inj
        rw [show bl ⟨#[]⟩ = [] from rfl]
        exact List.eq_nil_of_length_eq_zero (by rw [bl_length]; exact h0)
      have hat : atB s = false := by rw [atB, ← HP.out]; simp; intro _ h; exact absurd h (by decide)
      have HAT : Hid (atB s = false) := hat
      clear hat h0
      go_wp2
      refine bodyPost_ret (res_cell_tmp (u := 3) rfl _ _ w.heap.size 163 #[.int .u8 0, .string ⟨#[]⟩] (0, 0) _ rfl (st2 HK.out _ _) Tryz.underlying163 rfl inf_rob) rfl ⟨ret_at (at_no HAT.out), ?_⟩
      exact below_own HB.out HB.out.size (gr2 _ _ _ _) (Nat.le_refl _)
    have hps : 0 < P.size := by omega
    have hpz : (0 : Int) < (P.size : Int) := by omega
    have hpz1 : (1 : Int) ≤ (P.size : Int) := by omega
    have hpe : ((P.size : Int) == 0) = false := by rw [beq_eq_false_iff_ne]; omega
    clear h0
    have hx1 : (P.extract 1 P.size).size ≤ 67108864 := by
      rw [← bl_length, bl_extract, List.length_drop, List.length_take, bl_length]; omega
    have HO : Hid (atO s = ⟨P[0], P.extract 1 P.size⟩) := by
      show atO s = _
      unfold atO
      rw [← HP.out, frmO]
      congr 1
      have : (bl P)[0]? = some P[0] := by rw [bl, Array.getElem?_toList]; exact Array.getElem?_eq_getElem (by exact hps)
      cases hd : bl P with
      | nil => rw [hd] at this; simp at this
      | cons a r => rw [hd] at this; simpa using this
    have HX : Hid (P.size ≤ 67108864 ∧ 0 < P.size) := ⟨hu1, hps⟩
    have H3 := fun W => rcheck11 ⟨P[0], P.extract 1 P.size⟩ W (by unfold maxLen; simp only; omega)
    simp only at H3
    have HDR : Hid (KN w1 #[.int .u8 0, .string ⟨#[]⟩] 163 none w1.drew) := (Below.refl _ _).drew
    go_wp2_with fail
    refine wp_region_new (KN w1 #[.int .u8 0, .string ⟨#[]⟩] 163) 6 5 _ (by kernel_rfl) (by kernel_rfl) rfl rfl (fun a W hW => ⟨_, _, by kernel_rfl, hW.made⟩) HDR.out ?_
    simp only [List.take_succ_cons, List.take_zero, List.drop_succ_cons, List.drop_zero, skipL, Nat.reduceAdd, Nat.reduceBEq, Bool.false_eq_true, if_false, if_true]
    refine wpQF_val rfl (.string P) (fun ov W hW => by go_simp) ?_; simp only [Act.put, List.setIfInBounds_toArray, List.set_cons_zero, List.set_cons_succ]
    refine wpQF_val rfl (.int .u8 ((P[0]'hps).toNat : Int)) (fun ov W hW => by go_simp) ?_; simp only [Act.put, List.setIfInBounds_toArray, List.set_cons_zero, List.set_cons_succ]
    refine wpQF_val rfl (.string P) (fun ov W hW => by go_simp) ?_; simp only [Act.put, List.setIfInBounds_toArray, List.set_cons_zero, List.set_cons_succ]
    refine wpQF_val rfl (.string (P.extract 1 P.size)) (fun ov W hW => by go_simp) ?_; simp only [Act.put, List.setIfInBounds_toArray, List.set_cons_zero, List.set_cons_succ]
    refine wpQF_val rfl (.agg #[.int .u8 ((P[0]'hps).toNat : Int), .string (P.extract 1 P.size)]) (fun ov W hW => by go_simp) ?_; simp only [Act.put, List.setIfInBounds_toArray, List.set_cons_zero, List.set_cons_succ]
    intro v w5 h5
    obtain ⟨gi, rfl, hgi, hbi, hb5⟩ := h5
    have HB5 : Hid (Below w1.heap.size w1 w5) := hb5
    have HK5 : Hid (Bk w5 gi #[.int .u8 0, .string ⟨#[]⟩] 163) := hbi
    obtain ⟨k, hk⟩ : ∃ k, k = P[0] := ⟨_, rfl⟩
    obtain ⟨p, hp⟩ : ∃ p, p = P.extract 1 P.size := ⟨_, rfl⟩
    rw [← hk, ← hp] at HO H3
    rw [← hp] at hx1
    simp only [← hk, ← hp]
    have hpP : p.size + 1 = P.size := by rw [hp, ← bl_length, bl_extract, List.length_drop, List.length_take, bl_length]; omega
    clear hb5 hbi HDR hk hp
    simp only [Act.put, List.setIfInBounds_toArray, List.set_cons_zero, List.set_cons_succ]
    refine wpList_sto rfl 163 (.tmp 7) (.tmp 26) rfl gi #[.int .u8 (k.toNat : Int), .string p] #[.int .u8 0, .string ⟨#[]⟩] 163 rfl rfl HK5.out inf_rob rfl (ob_one _ _) ?_
    intro w6 HK6 HG
    simp only [Act.put]
    have h6 : Below w1.heap.size w1 w6 := below_own HB5.out HB5.out.size HG.out hgi
    have HB6 : Hid (Below w.heap.size w w6) := HB.out.trans (h6.mono HB.out.size)
    have HK6' : Hid (Bk w6 w.heap.size #[.int .u8 0, .string ⟨#[]⟩] 163) := HK.out.below h6 HK.out.lt
    have c0 : w6.cell? ⟨gi, 0, none⟩ = some (.int .u8 (k.toNat : Int)) := by rw [HK6.out.cell]; rfl
    have c1 : w6.cell? ⟨gi, 1, none⟩ = some (.string p) := by rw [HK6.out.cell]; rfl
    have HC : Hid (Bk w6 gi #[.int .u8 (k.toNat : Int), .string p] 163) := HK6
    clear HG HK5 HB5 HB HK h6 b0 b1 f0 f1 HK6
    go_wp2_with fail
    refine (H3 _).mono ?_
    rintro e w3 ⟨rfl, hb3⟩
    have hbk : Bk w3 w.heap.size #[.int .u8 0, .string ⟨#[]⟩] 163 := HK6'.out.below hb3 HK6'.out.lt
    have hbi : Bk w3 gi #[.int .u8 (k.toNat : Int), .string p] 163 := HC.out.below hb3 HC.out.lt
    have HB3 : Hid (Below w.heap.size w w3) := HB6.out.trans (hb3.mono HB6.out.size)
    have HK3 : Hid (Bk w3 w.heap.size #[.int .u8 0, .string ⟨#[]⟩] 163) := hbk
    have b0 : w3.cell? ⟨w.heap.size, 0, none⟩ = some (.int .u8 0) := by rw [hbk.cell]; rfl
    have b1 : w3.cell? ⟨w.heap.size, 1, none⟩ = some (.string ⟨#[]⟩) := by rw [hbk.cell]; rfl
    have i0 : w3.cell? ⟨gi, 0, none⟩ = some (.int .u8 (k.toNat : Int)) := by rw [hbi.cell]; rfl
    have i1 : w3.cell? ⟨gi, 1, none⟩ = some (.string p) := by rw [hbi.cell]; rfl
    have f0 := hbk.frozen 0
    have f1 := hbk.frozen 1
    have hlt3 := hbk.lt
    clear hb3 hbk hbi H3 hlt c0 c1 HC HK6' HB6
    cases hok : okO ⟨k, p⟩ with
    | true =>
      have hck : ckO ⟨k, p⟩ = 0 := by rw [ckO, if_pos hok]
      rw [hck]
      have hat : atB s = true := by
        rw [atB_iff, HO.out, ← HP.out]
        exact ⟨HU.out, hps, hok⟩
      have hft : (ftO s) = ⟨k, p⟩ := by rw [ftO, if_pos hat]; exact HO.out
      have hfit := at_fits hat
      rw [HO.out] at hfit
      have hRs : R.size + (9 + p.size) = s.size := by
        have h1 := hfit.1
        rw [HR.out, hfit.2.1, frmO_size]
        simp only at h1 ⊢
        omega
      have HN : Hid (((ftO s).k.toNat : Int) = (k.toNat : Int) ∧ (ftO s).p = p ∧ (atN s : Int) = 9 + (p.size : Int)) := by
        refine ⟨by rw [hft], by rw [hft], ?_⟩
        rw [atN, if_pos hat, HO.out]
        simp only
        omega
      have hsub : (s.size : Int) - (R.size : Int) = 9 + (p.size : Int) := by omega
      clear hok hck hat hft hfit hRs
      go_wp2
      refine bodyPost_ret (res_cell_tmp (u := 3) rfl _ _ w.heap.size 163 #[.int .u8 (k.toNat : Int), .string p] (0, 0) _ rfl (st2 HK3.out _ _) Tryz.underlying163 rfl inf_rob) rfl ⟨ret_at HN.out, ?_⟩
      exact below_own HB3.out HB3.out.size (gr2 _ _ _ _) (Nat.le_refl _)
    | false =>
      have hck : ckO ⟨k, p⟩ = 1 := by rw [ckO, if_neg (by rw [hok]; simp)]
      rw [hck]
      have HAT : Hid (atB s = false) := by
        show atB s = false
        rw [Bool.eq_false_iff]
        intro h
        rw [atB_iff, HO.out, hok] at h
        cases h.2.2
      clear hok hck
      go_wp2
      refine bodyPost_ret (res_cell_tmp (u := 3) rfl _ _ w.heap.size 163 #[.int .u8 0, .string ⟨#[]⟩] (0, 0) _ rfl (st2 HK3.out _ _) Tryz.underlying163 rfl inf_rob) rfl ⟨ret_at (at_no HAT.out), ?_⟩
      exact below_own HB3.out HB3.out.size (gr2 _ _ _ _) (Nat.le_refl _)
end Go.Proofs.YtpfknjnigcefgaaGreatDoor
/- The document's own Read, One, Span, Label, Sum, Fits (munimentref11). -/
namespace Go.Proofs.YtpfknjnigcefgaaGreatDoor
open Go.RowKit
set_option linter.unusedSimpArgs false
set_option linter.unusedVariables false
theorem atN_zero {s : ByteArray} : ((atN s : Int) == 0) = !atB s := by
  unfold atN
  cases h : atB s with
  | true => rw [if_pos rfl]; simp; omega
  | false => simp
theorem ft_at (s : ByteArray) : (atB s = true ∧ ftO s = atO s ∧ ftE s = 0) ∨ (atB s = false ∧ ftO s = ⟨0, ⟨#[]⟩⟩ ∧ ftE s = 4) := by
  cases h : atB s with
  | true => exact .inl ⟨rfl, by simp [ftO, h], by simp [ftE, h]⟩
  | false => exact .inr ⟨rfl, by simp [ftO, h], by simp [ftE, h]⟩
/-- One record, by its length. -/
theorem on_at (s : ByteArray) : (atB s = true ∧ (atN s : Int) = (s.size : Int) ∧ onO s = atO s ∧ onE s = 0) ∨ ((atB s = false ∨ (atB s = true ∧ ¬ (atN s : Int) = (s.size : Int))) ∧ onO s = ⟨0, ⟨#[]⟩⟩ ∧ onE s = 4) := by
  cases h : atB s with
  | false => exact .inr ⟨.inl rfl, by simp [onO, h], by simp [onE, h]⟩
  | true =>
    have hf := at_fits h
    have hn : atN s = 9 + (atO s).p.size := by rw [atN, if_pos h]
    have hr : ufR s = ⟨#[]⟩ ↔ atN s = s.size := by
      rw [hf.2.1, hn]
      generalize (atO s).p.size = z at hf
      have h1 := hf.1
      constructor
      · intro e
        have := congrArg ByteArray.size e
        rw [frmO_size] at this
        have h0 : (⟨#[]⟩ : ByteArray).size = 0 := rfl
        rw [h0] at this
        omega
      · intro e
        apply bl_inj
        have : (frmO s (9 + z)).size = 0 := by rw [frmO_size]; omega
        exact (List.eq_nil_of_length_eq_zero (by rw [bl_length]; exact this)).trans rfl
    by_cases e : atN s = s.size
    · exact .inl ⟨rfl, by omega, by rw [onO, if_pos ⟨h, hr.2 e⟩], by rw [onE, if_pos ⟨h, hr.2 e⟩]⟩
    · exact .inr ⟨.inr ⟨rfl, by omega⟩, by rw [onO, if_neg (fun q => e (hr.1 q.2))], by rw [onE, if_neg (fun q => e (hr.1 q.2))]⟩
theorem rspan_any (e : Ent) (w : World) (he : e.id.size = 32) (ho : e.off ≤ 140737488355328) (hz : e.sz ≤ 140737488355328) :
    Calls Tryz.prog 76 #[.agg (enC e)] w fun r w' => r = .returned (.tuple #[.int .i64 (e.off : Int), .int .i64 (9 + (e.sz : Int))]) ∧ Below w.heap.size w w' := by
  have hb : Bk (w.alloc (.cells (enC e) 56)) w.heap.size (enC e) 56 := bk_new _ _ _
  obtain ⟨_, q1, q2⟩ := enC_at e he
  have c1 : (w.alloc (.cells (enC e) 56)).cell? ⟨w.heap.size, 33, none⟩ = some (.int .i64 (e.off : Int)) := by rw [hb.cell]; exact q1
  have c2 : (w.alloc (.cells (enC e) 56)).cell? ⟨w.heap.size, 34, none⟩ = some (.int .i64 (e.sz : Int)) := by rw [hb.cell]; exact q2
  have HB : Hid (Below w.heap.size w (w.alloc (.cells (enC e) 56))) := (Below.refl _ _).alloc (Nat.le_refl _) _
  clear hb q1 q2
  generalize enC e = C at c1 c2 HB ⊢
  obtain ⟨i, k, a, n⟩ := e
  simp only at c1 c2 ho hz ⊢
  go_enter Tryz.func76, Tryz.ntmps76
  go_wp2
  go_region
  go_wp2
  go_ret2
  exact ⟨rfl, HB.out.drew⟩
theorem quick_id11 (s : ByteArray) (w : World) (hs : s.size ≤ 140737488351232) : Calls Tryz.prog 19 #[.string s] w fun e w' => e = .returned (.agg (idc (sb (sha (byl s))))) ∧ Below w.heap.size w w' := by
  have := quick_any s w hs
  rw [shc_idc] at this
  exact this
end Go.Proofs.YtpfknjnigcefgaaGreatDoor
/- The document's own Sum (munimentref11). -/
namespace Go.Proofs.YtpfknjnigcefgaaGreatDoor
open Go.RowKit
set_option linter.unusedSimpArgs false
set_option linter.unusedVariables false
theorem hexd_len11 (t : ByteArray) (h : uhE t = 0) : 2 * (uhS t).size = t.size := by
  have e := congrArg ByteArray.size (hex_uh t h)
  rw [sb_size, hexL_length, bl_length] at e
  omega
theorem ex_bl (s : ByteArray) (a b : Nat) : bl (s.extract a b) = ((bl s).take b).drop a := bl_extract s a b
theorem tk11 (s : ByteArray) : (bl s).take s.size = bl s := List.take_of_length_le (by rw [bl_length]; exact Nat.le_refl _)
theorem lbF_size : lbF.size = 5 := rfl
theorem lbE_size : lbE.size = 3 := rfl
/-- A label's three parts. -/
def isL (s : ByteArray) : Prop := s.size = 72 ∧ s.extract 0 5 = lbF ∧ s.extract 69 s.size = lbE
theorem smp_yes {s : ByteArray} (h : isL s) : smD s = s.extract 5 69 ∧ (s.extract 5 69).size = 64 ∧ smB11 s = decide (uhE (s.extract 5 69) = 0) := by
  obtain ⟨h1, h2, h3⟩ := h
  have p : pfB s lbF = true := by
    rw [pfB, lbF_size, h2]; simp [h1]
  have hc : cpX s lbF = s.extract 5 s.size := by rw [cpX, if_pos p, lbF_size]
  have hcs : (cpX s lbF).size = 67 := by
    rw [hc, ← bl_length, ex_bl, List.length_drop, List.length_take, bl_length]; omega
  have e1 : (cpX s lbF).extract ((cpX s lbF).size - lbE.size) (cpX s lbF).size = lbE := by
    rw [hcs, lbE_size]
    apply bl_inj
    rw [← h3, ex_bl, hc, ex_bl, ex_bl, tk11, List.take_of_length_le (by rw [List.length_drop, bl_length]; omega), List.drop_drop]
  have q : sfB (cpX s lbF) lbE = true := by
    rw [sfB, e1]; rw [hcs, lbE_size]; simp
  have hd : smD s = s.extract 5 69 := by
    rw [smD, csX, if_pos q, hcs, lbE_size, hc]
    apply bl_inj
    rw [ex_bl, ex_bl, ex_bl, tk11, List.drop_zero, List.drop_take]
  have hz : (s.extract 5 69).size = 64 := by
    rw [← bl_length, ex_bl, List.length_drop, List.length_take, bl_length]; omega
  refine ⟨hd, hz, ?_⟩
  rw [smB11, p, q, hd, prE, if_pos hz]
  simp
theorem sm_not {s : ByteArray} (h : ¬ isL s) : smA s = z32c ∧ smEp s = 10 := by
  have : smB11 s = false := by
    rw [Bool.eq_false_iff]
    intro hb
    rw [smB11, Bool.and_eq_true, Bool.and_eq_true] at hb
    obtain ⟨⟨p, q⟩, r⟩ := hb
    have r := of_decide_eq_true r
    have r6 : (smD s).size = 64 := by
      unfold prE at r
      split at r
      · assumption
      · cases r
    have p1 : 5 ≤ s.size := pfB_le p
    have hc : cpX s lbF = s.extract 5 s.size := by rw [cpX, if_pos p, lbF_size]
    have hcs : (cpX s lbF).size = s.size - 5 := by
      rw [hc, ← bl_length, ex_bl, List.length_drop, List.length_take, bl_length]; omega
    have q1 : 3 ≤ (cpX s lbF).size := sfB_le q
    have hd : (smD s).size = s.size - 5 - 3 := by
      rw [smD, csX, if_pos q, ← bl_length, ex_bl, List.length_drop, List.length_take, bl_length, lbE_size]; omega
    have h72 : s.size = 72 := by omega
    refine h ⟨h72, ?_, ?_⟩
    · have := p
      simp [pfB, lbF_size] at this
      exact bl_inj this.2
    · have := q
      simp [sfB, lbE_size] at this
      have e := this.2
      rw [hcs, hc, ex_bl, ex_bl, tk11, List.take_of_length_le (by rw [List.length_drop, bl_length]; omega), List.drop_drop, show 5 + (s.size - 5 - 3) = 69 from by omega] at e
      apply bl_inj
      rw [← e, ex_bl, tk11]
  rw [smA, smEp, this]
  exact ⟨rfl, rfl⟩
end Go.Proofs.YtpfknjnigcefgaaGreatDoor
/- The document's Sums. -/
namespace Go.Proofs.YtpfknjnigcefgaaGreatDoor
open Go.RowKit
set_option linter.unusedSimpArgs false
set_option linter.unusedVariables false
theorem IsLb.parts {s f g : ByteArray} (h : IsLb s f g) : s.size = 136 ∧ s.extract 0 4 = xF ∧ (bl s)[68]? = some 45 ∧ s.extract 133 136 = xE ∧ f = s.extract 4 68 ∧ g = s.extract 69 133 := by
  obtain ⟨h1, h2, h3, _, _⟩ := h
  have hb : bl s = [105, 100, 120, 45] ++ ((bl f ++ 45 :: bl g) ++ [46, 105, 120]) := by rw [h1, lbI_bl]
  have lf : (bl f).length = 64 := by rw [bl_length, h2]
  have lg : (bl g).length = 64 := by rw [bl_length, h3]
  have e1 : bl s = ([105, 100, 120, 45] ++ bl f) ++ (45 :: (bl g ++ [46, 105, 120])) := by rw [hb]; simp
  have e2 : bl s = (([105, 100, 120, 45] ++ bl f) ++ [45]) ++ (bl g ++ [46, 105, 120]) := by rw [hb]; simp
  have e3 : bl s = ((([105, 100, 120, 45] ++ bl f) ++ [45]) ++ bl g) ++ [46, 105, 120] := by rw [hb]; simp
  refine ⟨?_, ?_, ?_, ?_, ?_, ?_⟩
  · rw [← bl_length, hb]; simp [lf, lg]
  · apply bl_inj; rw [bl_extract, hb]; rfl
  · rw [e1, List.getElem?_append_right (by simp [lf])]; simp [lf]
  · apply bl_inj; rw [bl_extract, List.take_of_length_le (by rw [hb]; simp [lf, lg]), e3, List.drop_left' (by simp [lf, lg])]; rfl
  · apply bl_inj; rw [bl_extract, e1, List.take_left' (by simp [lf]), List.drop_left' (by simp)]
  · apply bl_inj
    rw [bl_extract, e3, List.take_left' (by simp [lf, lg]), List.drop_left' (by simp [lf])]
theorem isLb_of {s : ByteArray} (h1 : s.size = 136) (h2 : s.extract 0 4 = xF) (h3 : (bl s)[68]? = some 45) (h4 : s.extract 133 136 = xE) : s = lbI (s.extract 4 68) (s.extract 69 133) ∧ (s.extract 4 68).size = 64 ∧ (s.extract 69 133).size = 64 := by
  have hl : (bl s).length = 136 := by rw [bl_length, h1]
  refine ⟨?_, by rw [ByteArray.size_extract]; omega, by rw [ByteArray.size_extract]; omega⟩
  apply bl_inj
  rw [lbI_bl]
  have q1 : (bl s).take 4 = [105, 100, 120, 45] := by
    have := congrArg bl h2
    rw [bl_extract, List.drop_zero] at this
    rw [this]; rfl
  have q4 : (bl s).drop 133 = [46, 105, 120] := by
    have := congrArg bl h4
    rw [bl_extract, List.take_of_length_le (by omega)] at this
    rw [this]; rfl
  have q2 : bl (s.extract 4 68) = ((bl s).take 68).drop 4 := bl_extract ..
  have q3 : bl (s.extract 69 133) = ((bl s).take 133).drop 69 := bl_extract ..
  have r1 : (bl s).drop 68 = 45 :: (bl s).drop 69 := by
    obtain ⟨hx, hv⟩ := List.getElem?_eq_some_iff.1 h3
    rw [List.drop_eq_getElem_cons hx, hv]
  have r2 : (bl s).drop 69 = ((bl s).take 133).drop 69 ++ (bl s).drop 133 := by
    have e : bl s = (bl s).take 133 ++ (bl s).drop 133 := (List.take_append_drop 133 _).symm
    conv => lhs; rw [e]
    rw [List.drop_append_of_le_length (by rw [List.length_take, hl]; decide)]
  have r3 : bl s = (bl s).take 4 ++ (((bl s).take 68).drop 4 ++ (bl s).drop 68) := by
    have e : bl s = (bl s).take 68 ++ (bl s).drop 68 := (List.take_append_drop 68 _).symm
    have e2 : (bl s).take 68 = (bl s).take 4 ++ ((bl s).take 68).drop 4 := by
      have := (List.take_append_drop 4 ((bl s).take 68)).symm
      rw [List.take_take] at this
      exact this
    rw [← List.append_assoc, ← e2, ← e]
  rw [q2, q3]
  conv => lhs; rw [r3, r1, r2, q1, q4]
  simp
theorem str_is {x : ByteArray} {l : List UInt8} (h : bl x = l) : (x.toList == l) = true := by rw [beq_iff_eq, Lib.toList_data]; exact h
theorem str_no {x : ByteArray} {l : List UInt8} (h : bl x ≠ l) : (x.toList == l) = false := by rw [beq_eq_false_iff_ne, Lib.toList_data]; exact h
/-- What the document's Parse tells. -/
def rpA (t : ByteArray) : Array Value := if uhE t = 0 ∧ (uhS t).size = 32 then idc (uhS t) else z32c
def rpE (t : ByteArray) : Int := if uhE t = 0 ∧ (uhS t).size = 32 then 0 else 4
theorem rparse13 (t : ByteArray) (w : World) (ht : t.size ≤ 140737488351232) : Calls Tryz.prog 45 #[.string t] w fun e w' => e = .returned (.tuple #[.agg (rpA t), .int .i64 (rpE t)]) ∧ Below w.heap.size w w' := by
  by_cases h : uhE t = 0 ∧ (uhS t).size = 32
  · rw [rpA, rpE, if_pos h, if_pos h]; exact rParse_good t w ht h.1 h.2
  · rw [rpA, rpE, if_neg h, if_neg h]; exact rParse_bad t w ht h
theorem rpA_size (t : ByteArray) : (rpA t).size = 32 := by
  unfold rpA; split
  · next h => rw [idc_size]; exact h.2
  · exact z32c_size
theorem rpA_one (t : ByteArray) : (rpA t).all (·.oneCell') = true := by
  unfold rpA; split
  · exact idc_allX _
  · exact z32c_one
theorem rpE_val (t : ByteArray) : rpE t = 0 ∨ rpE t = 4 := by unfold rpE; split <;> simp
theorem rp_64 {t : ByteArray} (h : t.size = 64) : (rpE t = 0 → uhE t = 0 ∧ rpA t = pid t) ∧ (uhE t = 0 → rpE t = 0) := by
  constructor
  · intro q
    have hh : uhE t = 0 ∧ (uhS t).size = 32 := by
      unfold rpE at q
      split at q
      · assumption
      · omega
    exact ⟨hh.1, by rw [rpA, if_pos hh, pid_ok t hh.2]⟩
  · intro q
    have := hexd_len11 t q
    rw [rpE, if_pos ⟨q, by omega⟩]
set_option maxHeartbeats 2000000 in
set_option maxRecDepth 100000 in
theorem rsums13_no (s : ByteArray) (w : World) (hs : s.size ≤ 140737488351232) (h : ¬ (s.size = 136 ∧ s.extract 0 4 = xF ∧ (bl s)[68]? = some 45 ∧ s.extract 133 136 = xE)) :
    Calls Tryz.prog 15 #[.string s] w fun e w' => SmI s e ∧ Below w.heap.size w w' := by
  have HN : Hid (∀ f g, ¬ IsLb s f g) := fun f g hl => by
    obtain ⟨a, b, c, d, _⟩ := hl.parts
    exact h ⟨a, b, c, d⟩
  have hz := zero_id
  have hbz : ∀ w, (Instr.build 23 #[]).run Tryz.prog w = .ok (.agg z32c) w := fun w => by kernel_rfl
  have S0 : Hid (SU w z32c z32c ((w.alloc (.cells z32c 23)).alloc (.cells z32c 23))) := by
    have := bk_new (w.alloc (.cells z32c 23)) z32c 23
    rw [al_size] at this
    exact ⟨(bk_new _ _ _).alloc _, this, ((Below.refl _ _).alloc (Nat.le_refl _) _).alloc (by rw [al_size]; omega) _⟩
  by_cases h1 : s.size = 136
  · have e1 : ((s.size : Int) != 136) = false := by rw [bne_eq_false_iff_eq]; omega
    have z4 : (4 : Int) ≤ (s.size : Int) := by omega
    have z68 : (68 : Int) < (s.size : Int) := by omega
    have z133 : (133 : Int) ≤ (s.size : Int) := by omega
    obtain ⟨M, hM⟩ : ∃ M, s.extract 0 4 = M := ⟨_, rfl⟩
    by_cases h2 : M = xF
    · have e2 : (M.toList == [105, 100, 120, 45]) = true := str_is (by rw [h2]; rfl)
      have h68 : 68 < s.size := by omega
      obtain ⟨c, hc⟩ : ∃ c : Nat, (s[68]'h68).toNat = c := ⟨_, rfl⟩
      have hc256 : c < 256 := by rw [← hc]; exact UInt8.toNat_lt _
      by_cases h3 : c = 45
      · have e3 : ((c : Int) != 45) = false := by rw [bne_eq_false_iff_eq]; omega
        obtain ⟨T, hT⟩ : ∃ T, s.extract 133 s.size = T := ⟨_, rfl⟩
        have e4 : (T.toList == [46, 105, 120]) = false := str_no (fun q => h ⟨h1, by rw [hM, h2], by
          rw [List.getElem?_eq_getElem (by rw [bl_length]; exact h68)]
          congr 1
          apply UInt8.toNat_inj.1
          rw [show ((bl s)[68]'(by rw [bl_length]; exact h68)) = s[68]'h68 from rfl, hc, h3]; rfl, by
          rw [← h1, hT]
          exact bl_inj (by rw [q]; rfl)⟩)
        clear h h1 h2 h3
        go_enter Tryz.func15, Tryz.ntmps15
        go_wp2_with (first
          | (refine wpList_bdX0 rfl 23 rfl (.agg z32c) (hbz _) ?_)
          | (refine wpList_stoX rfl 23 (.tmp 2) (.tmp 27) rfl w.heap.size z32c z32c 23 rfl rfl S0.out.b2 (info_32 z32c_size) rfl z32c_one ?_; intro w7 HB7 HG7; have S7 : Hid (SU w z32c z32c w7) := S0.out.put2 HG7.out HB7.out)
          | (refine wpList_stoX rfl 23 (.tmp 3) (.tmp 28) rfl (w.heap.size + 1) z32c z32c 23 rfl rfl S7.out.b3 (info_32 z32c_size) rfl z32c_one ?_; intro w8 HB8 HG8; have S8 : Hid (SU w z32c z32c w8) := S7.out.put3 HG8.out HB8.out)
          | fail)
        refine bodyPost_ret (results_cct rfl _ _ w.heap.size (w.heap.size + 1) 23 z32c z32c (0, 0) _ rfl rfl S8.out.b2 S8.out.b3 Tryz.underlying23 rfl (info_32 z32c_size) (info_32 z32c_size)) rfl ⟨.inr ⟨HN.out, rfl⟩, S8.out.bel⟩
      · have e3 : ((c : Int) != 45) = true := by rw [bne_iff_ne]; omega
        clear h h1 h2 h3
        go_enter Tryz.func15, Tryz.ntmps15
        go_wp2_with (first
          | (refine wpList_bdX0 rfl 23 rfl (.agg z32c) (hbz _) ?_)
          | (refine wpList_stoX rfl 23 (.tmp 2) (.tmp 27) rfl w.heap.size z32c z32c 23 rfl rfl S0.out.b2 (info_32 z32c_size) rfl z32c_one ?_; intro w7 HB7 HG7; have S7 : Hid (SU w z32c z32c w7) := S0.out.put2 HG7.out HB7.out)
          | (refine wpList_stoX rfl 23 (.tmp 3) (.tmp 28) rfl (w.heap.size + 1) z32c z32c 23 rfl rfl S7.out.b3 (info_32 z32c_size) rfl z32c_one ?_; intro w8 HB8 HG8; have S8 : Hid (SU w z32c z32c w8) := S7.out.put3 HG8.out HB8.out)
          | fail)
        refine bodyPost_ret (results_cct rfl _ _ w.heap.size (w.heap.size + 1) 23 z32c z32c (0, 0) _ rfl rfl S8.out.b2 S8.out.b3 Tryz.underlying23 rfl (info_32 z32c_size) (info_32 z32c_size)) rfl ⟨.inr ⟨HN.out, rfl⟩, S8.out.bel⟩
    · have e2 : (M.toList == [105, 100, 120, 45]) = false := str_no (fun q => h2 (bl_inj (by rw [q]; rfl)))
      clear h h1 h2
      go_enter Tryz.func15, Tryz.ntmps15
      go_wp2_with (first
        | (refine wpList_bdX0 rfl 23 rfl (.agg z32c) (hbz _) ?_)
        | (refine wpList_stoX rfl 23 (.tmp 2) (.tmp 27) rfl w.heap.size z32c z32c 23 rfl rfl S0.out.b2 (info_32 z32c_size) rfl z32c_one ?_; intro w7 HB7 HG7; have S7 : Hid (SU w z32c z32c w7) := S0.out.put2 HG7.out HB7.out)
        | (refine wpList_stoX rfl 23 (.tmp 3) (.tmp 28) rfl (w.heap.size + 1) z32c z32c 23 rfl rfl S7.out.b3 (info_32 z32c_size) rfl z32c_one ?_; intro w8 HB8 HG8; have S8 : Hid (SU w z32c z32c w8) := S7.out.put3 HG8.out HB8.out)
        | fail)
      refine bodyPost_ret (results_cct rfl _ _ w.heap.size (w.heap.size + 1) 23 z32c z32c (0, 0) _ rfl rfl S8.out.b2 S8.out.b3 Tryz.underlying23 rfl (info_32 z32c_size) (info_32 z32c_size)) rfl ⟨.inr ⟨HN.out, rfl⟩, S8.out.bel⟩
  · have e1 : ((s.size : Int) != 136) = true := by rw [bne_iff_ne]; omega
    clear h h1
    go_enter Tryz.func15, Tryz.ntmps15
    go_wp2_with (first
      | (refine wpList_bdX0 rfl 23 rfl (.agg z32c) (hbz _) ?_)
      | (refine wpList_stoX rfl 23 (.tmp 2) (.tmp 27) rfl w.heap.size z32c z32c 23 rfl rfl S0.out.b2 (info_32 z32c_size) rfl z32c_one ?_; intro w7 HB7 HG7; have S7 : Hid (SU w z32c z32c w7) := S0.out.put2 HG7.out HB7.out)
      | (refine wpList_stoX rfl 23 (.tmp 3) (.tmp 28) rfl (w.heap.size + 1) z32c z32c 23 rfl rfl S7.out.b3 (info_32 z32c_size) rfl z32c_one ?_; intro w8 HB8 HG8; have S8 : Hid (SU w z32c z32c w8) := S7.out.put3 HG8.out HB8.out)
      | fail)
    refine bodyPost_ret (results_cct rfl _ _ w.heap.size (w.heap.size + 1) 23 z32c z32c (0, 0) _ rfl rfl S8.out.b2 S8.out.b3 Tryz.underlying23 rfl (info_32 z32c_size) (info_32 z32c_size)) rfl ⟨.inr ⟨HN.out, rfl⟩, S8.out.bel⟩
end Go.Proofs.YtpfknjnigcefgaaGreatDoor
