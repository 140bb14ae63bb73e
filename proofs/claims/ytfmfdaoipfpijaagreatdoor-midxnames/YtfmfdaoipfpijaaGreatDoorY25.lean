import Derived.Test.YtfmfdaoipfpijaaGreatDoorY24
import Derived.Test.YtfmfdaoipfpijaaGreatDoorY5
import Derived.Test.YtfmfdaoipfpijaaGreatDoorY22
import Derived.Test.YtfmfdaoipfpijaaGreatDoorY13
import Derived.Test.YtfmfdaoipfpijaaGreatDoorY18
import Derived.Test.YtfmfdaoipfpijaaGreatDoorY8
import Derived.Test.YtfmfdaoipfpijaaGreatDoorY10
import Derived.Test.YtfmfdaoipfpijaaGreatDoorY23
import Derived.Test.YtfmfdaoipfpijaaGreatDoorY15
/- midx.Name. -/
namespace Go.Proofs.YtfmfdaoipfpijaaGreatDoor
open Go.RowKit
set_option linter.unusedSimpArgs false
set_option linter.unusedVariables false
def mnF : ByteArray := ⟨#[109, 105, 100, 120, 45]⟩
def mnE : ByteArray := ⟨#[46, 109, 120]⟩
/-- The name of a merged index's file. -/
def mnm (s : ByteArray) : ByteArray := mnF ++ sb (hexL (bl (sb (sha (byl s))))) ++ mnE
set_option maxHeartbeats 1000000 in
set_option maxRecDepth 100000 in
theorem mname_any (s : ByteArray) (w : World) (hs : s.size ≤ 140737488351232) (hA : All w) :
    Calls Tryz.prog 11 #[.string s] w fun e w' => e = .returned (.string (mnm s)) ∧ Below w.heap.size w w' := by
  obtain ⟨x, hx⟩ : ∃ x, x = sb (sha (byl s)) := ⟨_, rfl⟩
  have hxz : x.size = 32 := by rw [hx]; exact sha_size _
  obtain ⟨t, ht⟩ : ∃ t, t = sb (hexL (bl x)) := ⟨_, rfl⟩
  have htz : t.size = 64 := by rw [ht, sb_size, hexL_length, bl_length, hxz]
  have HS : Hid (Calls Tryz.prog 23 #[.string s] w fun e w' => e = .returned (.agg (idc x)) ∧ Below w.heap.size w w') := by rw [hx]; exact sum_id s w hA.l (by omega)
  have HT : Hid (∀ W, Below w.heap.size w W → Calls Tryz.prog 24 #[.agg (idc x)] W fun e w' => e = .returned (.string t) ∧ Below w.heap.size w w') := fun W hW => by
    rw [ht]
    exact (text_any x W hxz (hA.below hW)).mono fun e w' q => ⟨q.1, hW.trans (q.2.mono hW.size)⟩
  have HR : Hid (mnm s = mnF ++ t ++ mnE) := by show _ = _; rw [mnm, ht, hx]
  obtain ⟨D, hD⟩ : ∃ D, idc x = D := ⟨_, rfl⟩
  rw [hD] at HS HT
  have h1 : (⟨#[109, 105, 100, 120, 45]⟩ : ByteArray) = mnF := rfl
  have h2 : (⟨#[46, 109, 120]⟩ : ByteArray) = mnE := rfl
  have z1 : mnF.size = 5 := rfl
  have z2 : mnE.size = 3 := rfl
  clear hx ht hD hA
  go_enter Tryz.func11, Tryz.ntmps11
  go_wp2_with fail
  refine HS.out.mono ?_
  rintro e w1 ⟨rfl, b1⟩
  go_wp2_with fail
  refine (HT.out _ b1).mono ?_
  rintro e w2 ⟨rfl, b2⟩
  go_wp2
  go_ret
  exact ⟨ret_sQ HR.out, b2⟩
end Go.Proofs.YtfmfdaoipfpijaaGreatDoor
/- The name of a merged index's file, taken apart. -/
namespace Go.Proofs.YtfmfdaoipfpijaaGreatDoor
open Go.RowKit
set_option linter.unusedSimpArgs false
set_option linter.unusedVariables false
theorem bl_exM (s : ByteArray) (i j : Nat) : bl (s.extract i j) = ((bl s).drop i).take (j - i) := by
  unfold bl
  rw [ByteArray.data_extract, Array.toList_extract]
theorem pfQ_iff (s q : ByteArray) : pfQ s q = true ↔ ∃ r, s = q ++ r := by
  unfold pfQ
  rw [Bool.and_eq_true, decide_eq_true_eq, beq_iff_eq]
  constructor
  · rintro ⟨h1, h2⟩
    refine ⟨s.extract q.size s.size, ?_⟩
    apply bl_inj
    rw [bl_append, ← h2, bl_exM, bl_exM, List.drop_zero, Nat.sub_zero, List.take_of_length_le (l := (bl s).drop q.size) (by rw [List.length_drop, bl_length]; omega), List.take_append_drop]
  · rintro ⟨r, rfl⟩
    refine ⟨by rw [ByteArray.size_append]; omega, ?_⟩
    rw [bl_exM, bl_append, List.drop_zero, Nat.sub_zero, List.take_left' (bl_length q)]
theorem cpQ_eq (q r : ByteArray) : cpQ (q ++ r) q = r := by
  rw [cpQ, if_pos ((pfQ_iff _ _).2 ⟨r, rfl⟩)]
  apply bl_inj
  rw [bl_exM, bl_append, List.drop_left' (bl_length q), List.take_of_length_le (by rw [bl_length, ByteArray.size_append]; omega)]
theorem sfQ_iff (s q : ByteArray) : sfQ s q = true ↔ ∃ r, s = r ++ q := by
  unfold sfQ
  rw [Bool.and_eq_true, decide_eq_true_eq, beq_iff_eq]
  constructor
  · rintro ⟨h1, h2⟩
    refine ⟨s.extract 0 (s.size - q.size), ?_⟩
    apply bl_inj
    rw [bl_append, ← h2, bl_exM, bl_exM, List.drop_zero, Nat.sub_zero, List.take_of_length_le (l := (bl s).drop (s.size - q.size)) (by rw [List.length_drop, bl_length]; omega), List.take_append_drop]
  · rintro ⟨r, rfl⟩
    refine ⟨by rw [ByteArray.size_append]; omega, ?_⟩
    rw [bl_exM, bl_append, ByteArray.size_append, List.drop_left' (by rw [bl_length]; omega), List.take_of_length_le (by rw [bl_length]; omega)]
theorem csQ_eq (r q : ByteArray) : csQ (r ++ q) q = r := by
  rw [csQ, if_pos ((sfQ_iff _ _).2 ⟨r, rfl⟩)]
  apply bl_inj
  rw [bl_exM, bl_append, ByteArray.size_append, List.drop_zero, List.take_left' (by rw [bl_length]; omega)]
/-- What stands between front and back; whether a name has the form. -/
def mnD (s : ByteArray) : ByteArray := csQ (cpQ s mnF) mnE
def mnB (s : ByteArray) : Bool := pfQ s mnF && sfQ (cpQ s mnF) mnE && decide (prEQ (mnD s) = 0)
theorem mnD_eq (d : ByteArray) : mnD (mnF ++ (d ++ mnE)) = d := by rw [mnD, cpQ_eq, csQ_eq]
theorem mnB_iff (s : ByteArray) : mnB s = true ↔ ∃ d, s = mnF ++ (d ++ mnE) ∧ d.size = 64 ∧ uhE d = 0 := by
  unfold mnB
  rw [Bool.and_eq_true, Bool.and_eq_true, decide_eq_true_eq]
  constructor
  · rintro ⟨⟨h1, h2⟩, h3⟩
    obtain ⟨r, rfl⟩ := (pfQ_iff _ _).1 h1
    rw [cpQ_eq] at h2
    obtain ⟨d, rfl⟩ := (sfQ_iff _ _).1 h2
    rw [mnD_eq, prEQ] at h3
    refine ⟨d, rfl, ?_⟩
    by_cases h : d.size = 64
    · rw [if_pos h] at h3; exact ⟨h, h3⟩
    · rw [if_neg h] at h3; omega
  · rintro ⟨d, rfl, h1, h2⟩
    refine ⟨⟨(pfQ_iff _ _).2 ⟨_, rfl⟩, ?_⟩, ?_⟩
    · rw [cpQ_eq]; exact (sfQ_iff _ _).2 ⟨_, rfl⟩
    · rw [mnD_eq, prEQ, if_pos h1]; exact h2
/-- The digits say a name just if they are its own. -/
theorem prA_iff (d x : ByteArray) (h1 : d.size = 64) (h2 : uhE d = 0) (hx : x.size = 32) : prAQ d = idc x ↔ d = sb (hexL (bl x)) := by
  have hd := hex_uh d h2
  have hz : (uhS d).size = 32 := by
    have := congrArg ByteArray.size hd
    rw [sb_size, hexL_length, bl_length, h1] at this
    omega
  rw [prAQ, if_pos h1, pid_ok d hz]
  constructor
  · intro e
    rw [← idc_inj e, hd]
  · intro e
    rw [e, (uh_hex x).1]
theorem mnm_parts (s : ByteArray) : mnm s = mnF ++ (sb (hexL (bl (sb (sha (byl s))))) ++ mnE) := by
  apply bl_inj
  rw [mnm]
  simp only [bl_append, List.append_assoc]
theorem mnm_iff {nm : ByteArray} (h : mnB nm = true) (s : ByteArray) : prAQ (mnD nm) = idc (sb (sha (byl s))) ↔ nm = mnm s := by
  obtain ⟨d, rfl, h1, h2⟩ := (mnB_iff nm).1 h
  rw [mnD_eq, prA_iff d _ h1 h2 (sha_size _), mnm_parts]
  constructor
  · intro e; rw [e]
  · intro e
    have := congrArg mnD e
    rwa [mnD_eq, mnD_eq] at this
theorem mnm_form (s : ByteArray) : mnB (mnm s) = true := by
  rw [mnB_iff, mnm_parts]
  refine ⟨_, rfl, ?_, (uh_hex _).2⟩
  rw [sb_size, hexL_length, bl_length, sha_size]
end Go.Proofs.YtfmfdaoipfpijaaGreatDoor
/- midx.Open. -/
namespace Go.Proofs.YtfmfdaoipfpijaaGreatDoor
open Go.RowKit
set_option linter.unusedSimpArgs false
set_option linter.unusedVariables false
/-- What Open tells. -/
def MpS (S : ByteArray) (e : Ending) (w' : World) : Prop :=
  (e = .returned (.tuple #[.pointer none, .int .i64 4]) ∧ ∀ ps l, ¬ IsMx S ps l) ∨ ∃ g ps l, e = .returned (.tuple #[.pointer (some ⟨g, 0, none⟩), .int .i64 0]) ∧ IsMx S ps l ∧ MxS w' g ps l
theorem okX_zMr : okX zMr.e = false := by decide
set_option maxHeartbeats 4000000 in
set_option maxRecDepth 100000 in
theorem mopen_any (S : ByteArray) (w : World) (hS : S.size ≤ 140737488351232) :
    Calls Tryz.prog 6 #[.string S] w fun e w' => MpS S e w' ∧ Below w.heap.size w w' := by
  obtain ⟨ps, hps⟩ : ∃ ps, tkPs (bl S) = ps := ⟨_, rfl⟩
  obtain ⟨l, hl⟩ : ∃ l, tkMs (bl S) = l := ⟨_, rfl⟩
  have HT := mtake_any S w hS
  rw [hps, hl] at HT
  have HQ : Hid (∀ ps' l', IsMx S ps' l' → ps' = ps ∧ l' = l) := fun ps' l' h => by
    have := h.take
    rw [hps, hl] at this
    exact ⟨this.1.symm, this.2.symm⟩
  have HP : Hid (ps.length ≤ 4096 ∧ l.length ≤ 1048576 ∧ ∀ r ∈ l, r = zMr ∨ r.p ∈ ps) := by
    refine ⟨?_, ?_, ?_⟩
    · rw [← hps, tkPs_len]; exact (tkPn_le _).1
    · rw [← hl, tkMs_len]; exact (tkMn_le _).1
    · rw [← hl, ← hps]; exact tkMs_mem _
  have HTK : Hid (Calls Tryz.prog 18 #[.string S] w fun e w' => ∃ g, e = .returned (.pointer (some ⟨g, 0, none⟩)) ∧ w.heap.size ≤ g ∧ MxS w' g ps l ∧ Below w.heap.size w w') := HT
  clear HT hps hl hS
  go_enter Tryz.func6, Tryz.ntmps6
  go_wp2_with fail
  refine HTK.out.mono ?_
  rintro e w1 ⟨g, rfl, _, hM1, hb1⟩
  have H1 : Hid (MxS w1 g ps l ∧ Below w.heap.size w w1) := ⟨hM1, hb1⟩
  clear hM1 hb1 HTK
  go_wp2_with fail
  refine (mmayBe_any g ps l w1 H1.out.1).mono ?_
  rintro e w2 ⟨⟨b, rfl, hb⟩, hb2⟩
  have H2 : Hid (MxS w2 g ps l ∧ Below w.heap.size w w2) := ⟨H1.out.1.below hb2, H1.out.2.trans (hb2.mono H1.out.2.size)⟩
  have HB : Hid (b = true ↔ RiN ps ∧ RiM l ∧ ∀ r ∈ l, okX r.e = true) := hb
  clear hb2 hb H1
  cases b with
  | false =>
    have HN : Hid (∀ ps' l', ¬ IsMx S ps' l') := fun ps' l' h => by
      obtain ⟨rfl, rfl⟩ := HQ.out _ _ h
      exact absurd (HB.out.2 ⟨h.ok.pri, h.ok.ri, h.ok.ok⟩) (by decide)
    clear HB HQ HP
    go_wp2
    go_ret2
    exact ⟨.inl ⟨rfl, HN.out⟩, H2.out.2⟩
  | true =>
    have HOK : Hid (OkM ps l) := by
      obtain ⟨q1, q2, q3⟩ := HB.out.1 rfl
      obtain ⟨gp, gr, k1, k2, k3⟩ := H2.out.1.row
      exact { psz := fun p hp => (by obtain ⟨i, hi⟩ := List.getElem?_of_mem hp; exact (k2 i p hi).1), pri := q1, pln := HP.out.1, ok := q3, id := fun r hr => (k3.ids r hr).2, ri := q2, len := HP.out.2.1,
              mem := fun r hr => (by
                rcases HP.out.2.2 r hr with e | e
                · have := q3 r hr; rw [e, okX_zMr] at this; cases this
                · exact e) }
    obtain ⟨R, hR⟩ : ∃ R : ByteArray, (⟨(mxB ps l).toArray⟩ : ByteArray) = R := ⟨_, rfl⟩
    have HBY : Hid (Calls Tryz.prog 17 #[.pointer (some ⟨g, 0, none⟩)] w2 fun e w' => e = .returned (.string R) ∧ Below w2.heap.size w2 w') := by rw [← hR]; exact mbytes_any g ps l w2 H2.out.1.w HOK.out
    have HR : Hid ((⟨(mxB ps l).toArray⟩ : ByteArray) = R) := hR
    clear hR HB HP
    go_wp2_with fail
    refine HBY.out.mono ?_
    rintro e w3 ⟨rfl, hb3⟩
    have H3 : Hid (MxS w3 g ps l ∧ Below w.heap.size w w3) := ⟨H2.out.1.below hb3, H2.out.2.trans (hb3.mono H2.out.2.size)⟩
    clear hb3 H2 HBY
    by_cases hEq : R = S
    · have HIS : Hid (IsMx S ps l) := ⟨HOK.out, by rw [← hEq, ← HR.out]; rfl⟩
      have hbq : (R.toList == S.toList) = true := by rw [hEq]; simp
      clear hEq HR HOK
      go_wp2
      go_ret2
      exact ⟨.inr ⟨g, ps, l, rfl, HIS.out, H3.out.1⟩, H3.out.2⟩
    · have HN : Hid (∀ ps' l', ¬ IsMx S ps' l') := fun ps' l' h => by
        obtain ⟨rfl, rfl⟩ := HQ.out _ _ h
        apply hEq
        rw [← HR.out]
        apply bl_inj
        rw [h.bs]; rfl
      have hbq := str_neX hEq
      clear hEq HR HOK
      go_wp2
      go_ret2
      exact ⟨.inl ⟨rfl, HN.out⟩, H3.out.2⟩
end Go.Proofs.YtfmfdaoipfpijaaGreatDoor
/- midx.sumOf, Check. -/
namespace Go.Proofs.YtfmfdaoipfpijaaGreatDoor
open Go.RowKit
set_option linter.unusedSimpArgs false
set_option linter.unusedVariables false
theorem ret_abM {A : Array Value} {a b : Bool} (h : b = a) : Ending.returned (.tuple #[.agg A, .bool a]) = .returned (.tuple #[.agg A, .bool b]) := by rw [h]
set_option maxHeartbeats 2000000 in
set_option maxRecDepth 100000 in
theorem msumOf_any (s : ByteArray) (w : World) (hs : s.size ≤ 140737488351232) (hA : All w) :
    Calls Tryz.prog 22 #[.string s] w fun e w' => e = .returned (.tuple #[.agg (prAQ (mnD s)), .bool (mnB s)]) ∧ Below w.heap.size w w' := by
  have HA : Hid (All w) := hA
  have z1 := cpQ_size s mnF
  have z2 := csQ_size (cpQ s mnF) mnE
  have HP := fun W => cutPQ s mnF W (by omega) (by decide)
  have HS := fun W => cutSQ (cpQ s mnF) mnE W (by omega) (by decide)
  have HPa := fun W hW => parseQ (mnD s) W (by unfold mnD; omega) hW
  obtain ⟨d1, hd1⟩ : ∃ d, d = cpQ s mnF := ⟨_, rfl⟩
  obtain ⟨d2, hd2⟩ : ∃ d, d = csQ (cpQ s mnF) mnE := ⟨_, rfl⟩
  obtain ⟨bp, hbp⟩ : ∃ b, b = pfQ s mnF := ⟨_, rfl⟩
  obtain ⟨bs, hbs⟩ : ∃ b, b = sfQ (cpQ s mnF) mnE := ⟨_, rfl⟩
  have HB : Hid (mnB s = (bp && bs && decide (prEQ d2 = 0))) := by show _ = _; rw [mnB, mnD, hbp, hbs, hd2]
  have hnd : mnD s = d2 := by rw [mnD, hd2]
  rw [← hd2, ← hbs, ← hd1] at HS
  rw [← hd1, ← hbp] at HP
  rw [hnd] at HPa ⊢
  obtain ⟨A, hAd⟩ : ∃ A, A = prAQ d2 := ⟨_, rfl⟩
  obtain ⟨er, her⟩ : ∃ e, e = prEQ d2 := ⟨_, rfl⟩
  have hAz : A.size = 32 := by rw [hAd]; exact prAQ_size _
  have hA1 : A.all (·.oneCell') = true := by rw [hAd]; exact prAQ_one _
  rw [← hAd, ← her] at HPa
  rw [← her] at HB
  rw [← hAd]
  have HI : Hid ((Tryz.prog.info? 24).map (·.size) = some A.size) := info_32 hAz
  have HZ : Hid (z32c.size = A.size ∧ A.all (·.oneCell') = true) := ⟨by rw [hAz]; exact z32c_size, hA1⟩
  have HP' : Hid (∀ W, Calls Tryz.prog 55 #[.string s, .string ⟨#[109, 105, 100, 120, 45]⟩] W fun e w' => e = .returned (.tuple #[.string d1, .bool bp]) ∧ w' = W) := HP
  have HS' : Hid (∀ W, Calls Tryz.prog 56 #[.string d1, .string ⟨#[46, 109, 120]⟩] W fun e w' => e = .returned (.tuple #[.string d2, .bool bs]) ∧ w' = W) := HS
  have HPP : Hid (∀ W, All W → Calls Tryz.prog 57 #[.string d2] W fun e w' => e = .returned (.tuple #[.agg A, .int .i64 er]) ∧ Below W.heap.size W w') := HPa
  obtain ⟨bo, hbo⟩ : ∃ b : Bool, (er == 0) = b := ⟨_, rfl⟩
  have HB2 : Hid (mnB s = (bp && bs && bo)) := by show _ = _; rw [HB.out, ← hbo]; congr 1
  have hz := zero_id
  have R0 : Hid (Bk (w.alloc (.cells z32c 24)) w.heap.size z32c 24 ∧ Below w.heap.size w (w.alloc (.cells z32c 24))) := ⟨bk_new _ _ _, (Below.refl _ _).alloc (Nat.le_refl _) _⟩
  clear hA z1 z2 HP HS HPa hd1 hd2 hbp hbs hnd hAd her hAz hA1 HB
  go_enter Tryz.func22, Tryz.ntmps22
  go_wp2_with fail
  obtain ⟨w0, hw0⟩ : ∃ w0, w.alloc (.cells z32c 24) = w0 := ⟨_, rfl⟩
  rw [hw0] at R0 ⊢
  have HA0 : Hid (All w0) := HA.out.below R0.out.2
  clear hw0 HA
  refine (HP'.out _).mono ?_
  rintro e w1 ⟨rfl, hw⟩
  obtain rfl : w0 = w1 := hw.symm
  go_wp2_with fail
  refine (HS'.out _).mono ?_
  rintro e w1 ⟨rfl, hw⟩
  obtain rfl : w0 = w1 := hw.symm
  go_wp2_with fail
  refine (HPP.out _ HA0.out).mono ?_
  rintro e w2 ⟨rfl, b2⟩
  have H2 : Hid (Bk w2 w.heap.size z32c 24 ∧ Below w.heap.size w w2) := ⟨R0.out.1.below b2 R0.out.1.lt, R0.out.2.trans (b2.mono R0.out.2.size)⟩
  have H3 : Hid (Bk (w2.alloc (.cells A 24)) w2.heap.size A 24 ∧ Bk (w2.alloc (.cells A 24)) w.heap.size z32c 24 ∧ Below w.heap.size w (w2.alloc (.cells A 24))) := ⟨bk_new _ _ _, H2.out.1.alloc _, H2.out.2.alloc H2.out.2.size _⟩
  clear b2 HP' HS' HPP HA0 R0
  cases bp <;> cases bs <;> cases bo
  all_goals
    go_wp2_with (first
      | (refine wpList_store_new rfl 24 (.tmp 8) (.tmp 23) rfl A _ 24 w2.heap.size rfl rfl rfl HI.out HZ.out.1 HZ.out.2 ?_)
      | (refine wpList_get rfl 24 (.tmp 8) rfl w2.heap.size 0 A A 24 _ rfl H3.out.1 (fun j v hv => by rw [Nat.zero_add]; exact hv) Tryz.underlying24 rfl HI.out ?_)
      | (refine wpList_stoX rfl 24 (.tmp 2) (.tmp 25) rfl w.heap.size A z32c 24 rfl rfl H3.out.2.1 HI.out HZ.out.1 HZ.out.2 ?_; intro w5 HB5 HG5)
      | fail)
    refine bodyPost_ret (results_cell_tmp_row rfl _ _ w.heap.size 24 A (0, 0) _ rfl HB5.out Tryz.underlying24 rfl HI.out) rfl ⟨ret_abM HB2.out, ?_⟩
    exact below_own H3.out.2.2 H3.out.2.2.size HG5.out (Nat.le_refl _)
/-- What Check tells. -/
def CkM (nm s : ByteArray) (e : Int) : Prop :=
  (mnB nm = false ∧ e = 10) ∨ (mnB nm = true ∧ nm ≠ mnm s ∧ e = 9) ∨ (mnB nm = true ∧ nm = mnm s ∧ ((∃ ps l, IsMx s ps l) ∧ e = 0 ∨ (∀ ps l, ¬ IsMx s ps l) ∧ e = 4))
theorem CkM.one {nm s : ByteArray} {e e' : Int} (h : CkM nm s e) (h' : CkM nm s e') : e = e' := by
  rcases h with ⟨a, b⟩ | ⟨a, b, c⟩ | ⟨a, b, ⟨⟨p, l, q⟩, c⟩ | ⟨q, c⟩⟩ <;> rcases h' with ⟨a', b'⟩ | ⟨a', b', c'⟩ | ⟨a', b', ⟨⟨p', l', q'⟩, c'⟩ | ⟨q', c'⟩⟩ <;> first
    | omega
    | exact absurd (a.symm.trans a') (by decide)
    | exact absurd b' b
    | exact absurd b b'
    | exact absurd q' (q _ _)
    | exact absurd q (q' _ _)
/-- A name that lies in a block. -/
structure CkC (w : World) (r : Nat) (A : Array Value) (W : World) : Prop where
  bk : Bk W r A 24
  bel : Below w.heap.size w W
theorem CkC.next {w W W' : World} {r : Nat} {A : Array Value} (h : CkC w r A W) (hb : Below W.heap.size W W') : CkC w r A W' := ⟨h.bk.below hb h.bk.lt, h.bel.trans (hb.mono h.bel.size)⟩
set_option maxHeartbeats 2000000 in
set_option maxRecDepth 100000 in
theorem mcheck_any (nm s : ByteArray) (w : World) (hn : nm.size ≤ 140737488351232) (hs : s.size ≤ 140737488351232) (hA : All w) :
    Calls Tryz.prog 10 #[.string nm, .string s] w fun e w' => ∃ er, e = .returned (.int .i64 er) ∧ CkM nm s er ∧ Below w.heap.size w w' := by
  have HA : Hid (All w) := hA
  have HSU := msumOf_any nm w hn hA
  have hz := zero_id
  cases hb : mnB nm with
  | false =>
    rw [hb] at HSU
    have HR : Hid (CkM nm s 10) := .inl ⟨hb, rfl⟩
    obtain ⟨A, hAd⟩ : ∃ A, A = prAQ (mnD nm) := ⟨_, rfl⟩
    have HI : Hid ((Tryz.prog.info? 24).map (·.size) = some A.size ∧ z32c.size = A.size ∧ A.all (·.oneCell') = true) := by rw [hAd]; exact ⟨info_32 (prAQ_size _), by rw [prAQ_size]; exact z32c_size, prAQ_one _⟩
    rw [← hAd] at HSU
    have HSU' : Hid (Calls Tryz.prog 22 #[.string nm] w fun e w' => e = .returned (.tuple #[.agg A, .bool false]) ∧ Below w.heap.size w w') := HSU
    clear HSU hAd hb hA
    go_enter Tryz.func10, Tryz.ntmps10
    go_wp2_with fail
    refine HSU'.out.mono ?_
    rintro e w1 ⟨rfl, b1⟩
    have H1 : Hid (Below w.heap.size w (w1.alloc (.cells A 24))) := b1.alloc b1.size _
    clear b1
    go_wp2_with (first
      | (refine wpList_store_new rfl 24 (.tmp 5) (.tmp 12) rfl A _ 24 w1.heap.size rfl rfl rfl HI.out.1 HI.out.2.1 HI.out.2.2 ?_)
      | fail)
    go_ret
    exact ⟨10, rfl, HR.out, H1.out⟩
  | true =>
    rw [hb] at HSU
    obtain ⟨x, hx⟩ : ∃ x, x = sb (sha (byl s)) := ⟨_, rfl⟩
    have hx32 : x.size = 32 := by rw [hx]; exact sha_size _
    obtain ⟨y, hy, hy32⟩ : ∃ y, prAQ (mnD nm) = idc y ∧ y.size = 32 := by
      obtain ⟨d, rfl, h1, h2⟩ := (mnB_iff nm).1 hb
      have hd := hex_uh d h2
      have hz : (uhS d).size = 32 := by
        have := congrArg ByteArray.size hd
        rw [sb_size, hexL_length, bl_length, h1] at this
        omega
      exact ⟨uhS d, by rw [mnD_eq, prAQ, if_pos h1, pid_ok d hz], hz⟩
    have hiff := mnm_iff hb s
    rw [hy, ← hx] at hiff
    rw [hy] at HSU
    have HSM : Hid (∀ W, Below w.heap.size w W → Calls Tryz.prog 23 #[.string s] W fun e w' => e = .returned (.agg (idc x)) ∧ Below W.heap.size W w') := fun W hW => by rw [hx]; exact sum_id s W (HA.out.below hW).l (by omega)
    have hNE := neq_ids y x hy32 hx32
    have hI : (Tryz.prog.info? 24).map (·.size) = some (idc y).size ∧ z32c.size = (idc y).size ∧ (idc y).all (·.oneCell') = true := ⟨info_32 (by rw [idc_size, hy32]), by rw [idc_size, hy32]; exact z32c_size, idc_allX y⟩
    obtain ⟨A, hAe⟩ : ∃ A, idc y = A := ⟨_, rfl⟩
    obtain ⟨X, hXe⟩ : ∃ X, idc x = X := ⟨_, rfl⟩
    have HEQ : Hid (decide (y = x) = true ↔ nm = mnm s) := by
      show _ ↔ _
      rw [decide_eq_true_iff, ← hiff]
      exact ⟨fun e => by rw [e], fun e => idc_inj e⟩
    rw [hAe] at HSU hNE hI
    rw [hXe] at HSM hNE
    have HI : Hid ((Tryz.prog.info? 24).map (·.size) = some A.size ∧ z32c.size = A.size ∧ A.all (·.oneCell') = true) := hI
    obtain ⟨q, hq⟩ : ∃ q : Bool, decide (y = x) = q := ⟨_, rfl⟩
    rw [hq] at hNE HEQ
    have HSU' : Hid (Calls Tryz.prog 22 #[.string nm] w fun e w' => e = .returned (.tuple #[.agg A, .bool true]) ∧ Below w.heap.size w w') := HSU
    have HOP : Hid (∀ W, Calls Tryz.prog 6 #[.string s] W fun e w' => MpS s e w' ∧ Below W.heap.size W w') := fun W => mopen_any s W hs
    have HMB : Hid (mnB nm = true) := hb
    clear HSU hb hA hx hx32 hy hy32 hiff hI hAe hXe hq
    go_enter Tryz.func10, Tryz.ntmps10
    go_wp2_with fail
    refine HSU'.out.mono ?_
    rintro e w1 ⟨rfl, b1⟩
    have H1 : Hid (CkC w w1.heap.size A (w1.alloc (.cells A 24))) := ⟨bk_new _ _ _, b1.alloc b1.size _⟩
    clear b1 HSU'
    have C1 : Hid (∀ W, CkC w w1.heap.size A W → Calls Tryz.prog 23 #[.string s] W fun e w' => e = .returned (.agg X) ∧ CkC w w1.heap.size A w') := fun W hW => (HSM.out W hW.bel).mono fun e w' q => ⟨q.1, hW.next q.2⟩
    go_wp2_with (first
      | (refine wpList_store_new rfl 24 (.tmp 5) (.tmp 12) rfl A _ 24 w1.heap.size rfl rfl rfl HI.out.1 HI.out.2.1 HI.out.2.2 ?_)
      | fail)
    refine region_class10 (CkC w w1.heap.size A) (by kernel_rfl) (by kernel_rfl) (H1.out.next ((Below.refl _ _).drew)) ?_
    try simp only [Act.put, List.setIfInBounds_toArray, List.set_cons_zero, List.set_cons_succ]
    repeat (first
      | go_big_quiet_skip
      | (go_big_quiet_want
         first
           | (refine quiet_row 24 _ rfl w1.heap.size 0 A A 24 _ rfl (fun _ h => h.bk) (fun j v hv => by rw [Nat.zero_add]; exact hv) Tryz.underlying24 rfl HI.out.1 ?_; go_big_quiet_on; simp only [Act.put, List.setIfInBounds_toArray, List.set_cons_zero, List.set_cons_succ])
           | (refine quiet_call10 (.agg X) 23 #[.string s] ?_ ?_ ?_; (focus (intro W hW; go_simp; done)); (focus (intro W hW; exact C1.out W hW)); go_big_quiet_on; simp only [Act.put, List.setIfInBounds_toArray, List.set_cons_zero, List.set_cons_succ])
           | (refine quiet_val10 (.bool (!q)) ?_ ?_; (focus (intro W hW; go_simp; done)); go_big_quiet_on; simp only [Act.put, List.setIfInBounds_toArray, List.set_cons_zero, List.set_cons_succ])
           | (go_big_quiet_op; go_big_quiet_on)))
    refine wpQuiet_nil ?_
    intro w9 hw9
    have H9 : Hid (Below w.heap.size w w9) := hw9.bel
    clear hw9 H1 C1 hNE HSM
    cases q with
    | false =>
      have HR : Hid (CkM nm s 9) := .inr (.inl ⟨HMB.out, fun e => (by have := HEQ.out.2 e; cases this), rfl⟩)
      go_wp2
      go_ret
      exact ⟨9, rfl, HR.out, H9.out⟩
    | true =>
      have HNM : Hid (nm = mnm s) := HEQ.out.1 rfl
      go_wp2_with fail
      refine (HOP.out w9).mono ?_
      rintro e w10 ⟨hM, b10⟩
      have H10 : Hid (Below w.heap.size w w10) := H9.out.trans (b10.mono H9.out.size)
      clear b10 HEQ
      rcases hM with ⟨rfl, hno⟩ | ⟨g, ps, l, rfl, hyes, _⟩
      · have HR : Hid (CkM nm s 4) := .inr (.inr ⟨HMB.out, HNM.out, .inr ⟨hno, rfl⟩⟩)
        clear hno
        go_wp2
        go_ret
        exact ⟨4, rfl, HR.out, H10.out⟩
      · have HR : Hid (CkM nm s 0) := .inr (.inr ⟨HMB.out, HNM.out, .inl ⟨⟨ps, l, hyes⟩, rfl⟩⟩)
        clear hyes
        go_wp2
        go_ret
        exact ⟨0, rfl, HR.out, H10.out⟩
end Go.Proofs.YtfmfdaoipfpijaaGreatDoor
/- The walk of MidxNames. -/
namespace Go.Proofs.YtfmfdaoipfpijaaGreatDoor
open Go.RowKit
set_option linter.unusedSimpArgs false
set_option linter.unusedVariables false
theorem mlen_nil (w : World) : Calls Tryz.prog 7 #[.pointer none] w fun e w' => e = .returned (.int .i64 0) ∧ w' = w := by
  go_enter Tryz.func7, Tryz.ntmps7
  go_wp2
  go_ret
  exact ⟨rfl, rfl⟩
theorem mpacks_nil (w : World) : Calls Tryz.prog 8 #[.pointer none] w fun e w' => e = .returned (.slice none 0 0) ∧ w' = w := by
  go_enter Tryz.func8, Tryz.ntmps8
  go_wp2
  go_ret
  exact ⟨rfl, rfl⟩
theorem mall_nil (w : World) : Calls Tryz.prog 9 #[.pointer none] w fun e w' => e = .returned (.slice none 0 0) ∧ w' = w := by
  go_enter Tryz.func9, Tryz.ntmps9
  go_wp2
  go_ret
  exact ⟨rfl, rfl⟩
set_option maxHeartbeats 2000000 in
set_option maxRecDepth 100000 in
theorem mfind_nil (D : Array Value) (w : World) : Calls Tryz.prog 4 #[.pointer none, .agg D] w fun e w' => e = .returned (.tuple #[.agg z67, .int .i64 2]) ∧ Below w.heap.size w w' := by
  have hbz := build_mz
  have H6 : Hid (Bk (((w.alloc (.cells #[.pointer none] 22)).alloc (.cells D 24)).alloc (.cells Tryz.zeroCells28 28)) (w.heap.size + 1 + 1) z67 28 ∧ Below w.heap.size w (((w.alloc (.cells #[.pointer none] 22)).alloc (.cells D 24)).alloc (.cells Tryz.zeroCells28 28))) := by
    have q3 := bk_new ((w.alloc (.cells #[.pointer none] 22)).alloc (.cells D 24)) Tryz.zeroCells28 28
    rw [al_size, al_size, zc67] at q3
    rw [zc67]
    exact ⟨q3, (((Below.refl _ _).alloc (Nat.le_refl _) _).alloc (by rw [al_size]; omega) _).alloc (by rw [al_size, al_size]; omega) _⟩
  go_enter Tryz.func4, Tryz.ntmps4
  go_wp2_with (first
    | (refine wpList_bdX0 rfl 28 rfl (.agg z67) (hbz _) ?_)
    | (refine wpList_stoX rfl 28 (.tmp 4) (.tmp 10) rfl (w.heap.size + 1 + 1) z67 z67 28 rfl rfl H6.out.1 inf_mr67 rfl (by rw [z67_is]; exact mrC_all _) ?_; intro w7 HB7 HG7)
    | fail)
  refine bodyPost_ret (results_cell_tmp_row rfl _ _ (w.heap.size + 1 + 1) 28 z67 (0, 0) _ rfl HB7.out Tryz.underlying28 rfl inf_mr67) rfl ⟨rfl, ?_⟩
  exact below_own H6.out.2 H6.out.2.size HG7.out (by omega)
/-- The index of nothing. -/
def nM : ByteArray := ⟨(mxB [] []).toArray⟩
theorem nM_size : nM.size = 1036 := by decide +kernel
theorem nM_ok : OkM [] [] := ⟨fun p h => (by cases h), List.Pairwise.nil, by decide, fun r h => (by cases h), fun r h => (by cases h), List.Pairwise.nil, by decide, fun r h => (by cases h)⟩
theorem nM_is : IsMx nM [] [] := ⟨nM_ok, rfl⟩
theorem ixs_no {x : ByteArray} (h0 : ∀ s l, ¬ IsIx x s l) (xs : List (ByteArray × List Xe)) : ¬ Ixs [x] xs := fun h => by
  have hl := h.len
  cases xs with
  | nil => cases hl
  | cons q r => exact h0 _ _ (h.ix 0 x q rfl rfl)
theorem mgR_nil {e : Ending} (h : MgR [] e) : e = .returned (.tuple #[.string nM, .int .i64 0]) := by
  rcases h with ⟨h, _⟩ | ⟨_, k, xs, t, h, _⟩ | ⟨_, k, xs, t, s, l, h, _⟩ | ⟨_, xs, d, hx, _, hd, hl, _⟩ | ⟨_, xs, ps, l, hx, hu, hm, hok, he⟩
  · simp at h
  · simp at h
  · simp at h
  · obtain rfl := hx.one Ixs.nil
    cases d with
    | nil => simp at hl
    | cons r d => obtain ⟨q, hq, _⟩ := hd.src r (List.mem_cons_self ..); cases hq
  · obtain rfl := hx.one Ixs.nil
    have hz : Mgd [] [] [] := Hld.nil.mgd (ss := []) (by simp) (fun p => by simp) (List.Perm.refl _) List.Pairwise.nil (List.Perm.refl _) List.Pairwise.nil
    obtain ⟨rfl, rfl⟩ := hm.one List.Pairwise.nil (fun q hq => by cases hq) hz
    exact he
theorem mgR_one {x : ByteArray} {e : Ending} (h0 : ∀ s l, ¬ IsIx x s l) (h : MgR [x] e) : e = .returned (.tuple #[.string ⟨#[]⟩, .int .i64 4]) := by
  rcases h with ⟨h, _⟩ | ⟨_, k, xs, t, _, _, _, _, he⟩ | ⟨_, k, xs, t, s, l, h, _, _, hi, _⟩ | ⟨_, xs, d, hx, _⟩ | ⟨_, xs, ps, l, hx, _⟩
  · simp at h
  · exact he
  · have hk := (List.getElem?_eq_some_iff.1 h).1
    simp at hk
    subst hk
    simp at h
    subst h
    exact absurd hi (h0 _ _)
  · exact absurd hx (ixs_no h0 _)
  · exact absurd hx (ixs_no h0 _)
theorem noIx_x : ∀ s l, ¬ IsIx (⟨#[120]⟩ : ByteArray) s l := fun s l h => by
  have h1 := (isIx_size h).1
  have h2 : (⟨#[120]⟩ : ByteArray).size = 1 := rfl
  omega
theorem merge_nil (w : World) : Calls Tryz.prog 5 #[.slice none 0 0] w fun e w' => e = .returned (.tuple #[.string nM, .int .i64 0]) ∧ Below w.heap.size w w' :=
  (merge_any none 0 0 [] w (fun i x h => by simp at h) rfl (by omega) (fun t h => by cases h)).mono fun e w' q => ⟨mgR_nil q.1, q.2⟩
theorem merge_x (g : Nat) (w : World) (hb : Bk w g #[.string ⟨#[120]⟩] 9) : Calls Tryz.prog 5 #[.slice (some ⟨g, 0, none⟩) 1 1] w fun e w' => e = .returned (.tuple #[.string ⟨#[]⟩, .int .i64 4]) ∧ Below w.heap.size w w' :=
  (merge_any (some ⟨g, 0, none⟩) 1 1 [⟨#[120]⟩] w (Bk.txl (xs := [⟨#[120]⟩]) hb) rfl (by omega) (fun t h => by rw [List.mem_singleton.1 h]; decide)).mono fun e w' q => ⟨mgR_one noIx_x q.1, q.2⟩
theorem merge_big (a : Option Addr) (w : World) : Calls Tryz.prog 5 #[.slice a 4097 4097] w fun e w' => e = .returned (.tuple #[.string ⟨#[]⟩, .int .i64 1]) ∧ w' = w := by
  go_enter Tryz.func5, Tryz.ntmps5
  go_wp2
  go_ret2
  exact ⟨rfl, rfl⟩
theorem open_nM (w : World) : Calls Tryz.prog 6 #[.string nM] w fun e w' => ∃ g, e = .returned (.tuple #[.pointer (some ⟨g, 0, none⟩), .int .i64 0]) ∧ MxS w' g [] [] ∧ Below w.heap.size w w' := by
  refine (mopen_any nM w (by rw [nM_size]; decide)).mono ?_
  rintro e w' ⟨⟨_, h⟩ | ⟨g, ps, l, h1, h2, h3⟩, hb⟩
  · exact absurd nM_is (h _ _)
  · obtain ⟨rfl, rfl⟩ := h2.one nM_is
    exact ⟨g, h1, h3, hb⟩
theorem mnB_x : mnB ⟨#[120]⟩ = false := by decide +kernel
theorem mnm_sz (s : ByteArray) : (mnm s).size ≤ 140737488351232 := by
  have h1 : mnF.size = 5 := rfl
  have h2 : mnE.size = 3 := rfl
  have h3 : (sb (hexL (bl (sb (sha (byl s)))))).size = 64 := by rw [sb_size, hexL_length, bl_length, sha_size]
  rw [mnm, ByteArray.size_append, ByteArray.size_append]
  omega
theorem inf_st15 : (Tryz.prog.info? 9).map (fun i => (i.zero, i.size, i.bytes)) = some (some (.string ⟨#[]⟩), 1, 16) := by kernel_rfl
theorem make_str (u : World) : ∃ C, (Instr.makeSlice 36 (.int .i64 4097) (.int .i64 4097)).run Tryz.prog u = .ok (.slice (some ⟨u.heap.size, 0, none⟩) 4097 4097) (u.alloc (.cells C 9)) := by
  obtain ⟨i0, hi, hz0, hz1, hz2⟩ := info_parts inf_st15
  have h := run_make u 36 9 i0 (.string ⟨#[]⟩) Tryz.underlying36 hi hz0 .i64 .i64 4097 4097 (by omega) (Int.le_refl _) (by rw [hz2]; decide) (by omega)
  exact ⟨_, h⟩
end Go.Proofs.YtfmfdaoipfpijaaGreatDoor
/- MidxNames: the walk. -/
namespace Go.Proofs.YtfmfdaoipfpijaaGreatDoor
open Go.RowKit
set_option linter.unusedSimpArgs false
set_option linter.unusedVariables false
set_option maxHeartbeats 8000000 in
set_option maxRecDepth 100000 in
theorem names15_walk (w : World) (hA : All w) : Calls Tryz.prog 3 #[] w fun e w' => e = .returned (.bool true) ∧ Below w.heap.size w w' := by
  have hbi : ∀ w, (Instr.build 24 #[]).run Tryz.prog w = .ok (.agg z32c) w := fun w => by kernel_rfl
  have HFI : Hid (∀ u, Calls Tryz.prog 4 #[.pointer none, .agg z32c] u fun e w' => e = .returned (.tuple #[.agg z67, .int .i64 2]) ∧ Below u.heap.size u w') := fun u => mfind_nil _ u
  have HMN : Hid (∀ u, Calls Tryz.prog 5 #[.slice none 0 0] u fun e w' => e = .returned (.tuple #[.string nM, .int .i64 0]) ∧ Below u.heap.size u w') := merge_nil
  have HOP : Hid (∀ u, Calls Tryz.prog 6 #[.string nM] u fun e w' => ∃ g, e = .returned (.tuple #[.pointer (some ⟨g, 0, none⟩), .int .i64 0]) ∧ MxS w' g [] [] ∧ Below u.heap.size u w') := open_nM
  have HCX : Hid (∀ u, Below w.heap.size w u → Calls Tryz.prog 10 #[.string ⟨#[120]⟩, .string nM] u fun e w' => e = .returned (.int .i64 10) ∧ Below u.heap.size u w') := fun u hb => by
    refine (mcheck_any ⟨#[120]⟩ nM u (by decide) (by rw [nM_size]; decide) (hA.below hb)).mono ?_
    rintro e w' ⟨er, rfl, ⟨_, rfl⟩ | ⟨h, _⟩ | ⟨h, _⟩, hb'⟩
    · exact ⟨rfl, hb'⟩
    · rw [mnB_x] at h; cases h
    · rw [mnB_x] at h; cases h
  have HNM : Hid (∀ u, Below w.heap.size w u → Calls Tryz.prog 11 #[.string nM] u fun e w' => e = .returned (.string (mnm nM)) ∧ Below u.heap.size u w') := fun u hb => mname_any nM u (by rw [nM_size]; decide) (hA.below hb)
  have HCN : Hid (∀ u, Below w.heap.size w u → Calls Tryz.prog 10 #[.string (mnm nM), .string nM] u fun e w' => e = .returned (.int .i64 0) ∧ Below u.heap.size u w') := fun u hb => by
    refine (mcheck_any (mnm nM) nM u (mnm_sz _) (by rw [nM_size]; decide) (hA.below hb)).mono ?_
    rintro e w' ⟨er, rfl, ⟨h, _⟩ | ⟨_, h, _⟩ | ⟨_, _, ⟨_, rfl⟩ | ⟨h, _⟩⟩, hb'⟩
    · rw [mnm_form] at h; cases h
    · exact absurd rfl h
    · exact ⟨rfl, hb'⟩
    · exact absurd nM_is (h _ _)
  have hsz := nM_size
  obtain ⟨S, hS⟩ : ∃ S, nM = S := ⟨_, rfl⟩
  obtain ⟨N, hN⟩ : ∃ N, mnm nM = N := ⟨_, rfl⟩
  rw [hN] at HNM HCN
  rw [hS] at HMN HOP HCX HNM HCN hsz
  have hsi : (S.size : Int) = 1036 := by omega
  clear hA hS hN
  go_enter Tryz.func3, Tryz.ntmps3
  go_wp2_with (first
    | (refine wpList_bdX0 rfl 24 rfl (.agg z32c) (hbi _) ?_)
    | fail)
  refine (HFI.out _).mono ?_
  rintro e w1 ⟨rfl, b1⟩
  have H1 : Hid (Below w.heap.size w (w1.alloc (.cells z67 28))) := b1.alloc b1.size _
  clear b1 HFI
  go_wp2_with (first
    | (refine wpList_store_new rfl 28 (.tmp 2) (.tmp 16) rfl z67 _ 28 w1.heap.size rfl rfl rfl inf_mr67 (by rw [z67_size]; kernel_rfl) (by rw [z67_is]; exact mrC_all _) ?_)
    | fail)
  obtain ⟨w2, hw2⟩ : ∃ u, w1.alloc (.cells z67 28) = u := ⟨_, rfl⟩
  rw [hw2] at H1 ⊢
  clear hw2
  refine (HMN.out _).mono ?_
  rintro e w3 ⟨rfl, b3⟩
  have H3 : Hid (Below w.heap.size w w3) := H1.out.trans (b3.mono H1.out.size)
  clear b3 H1 HMN
  go_wp2_with fail
  refine (HOP.out _).mono ?_
  rintro e w4 ⟨g, rfl, hx, b4⟩
  have H4 : Hid (Below w.heap.size w w4 ∧ MxS w4 g [] []) := ⟨H3.out.trans (b4.mono H3.out.size), hx⟩
  clear b4 hx H3 HOP
  obtain ⟨C, hC⟩ := make_str w4
  have H5 : Hid (Below w.heap.size w (w4.alloc (.cells C 9)) ∧ MxS (w4.alloc (.cells C 9)) g [] []) := ⟨H4.out.1.alloc H4.out.1.size _, H4.out.2.below ((Below.refl _ _).alloc (Nat.le_refl _) _)⟩
  clear H4
  go_wp2_with fail
  refine (merge_big _ _).mono ?_
  rintro e w6 ⟨rfl, hw5⟩
  obtain ⟨w5, hw6⟩ : ∃ u, w4.alloc (.cells C 9) = u := ⟨_, rfl⟩
  rw [hw6] at H5 hw5
  obtain rfl := hw5.symm
  clear hw6 hC
  have H6 : Hid (Below w.heap.size w (w5.alloc (.cells #[.string ⟨#[120]⟩] 9)) ∧ MxS (w5.alloc (.cells #[.string ⟨#[120]⟩] 9)) g [] [] ∧ Bk (w5.alloc (.cells #[.string ⟨#[120]⟩] 9)) w5.heap.size #[.string ⟨#[120]⟩] 9) := ⟨H5.out.1.alloc H5.out.1.size _, H5.out.2.below ((Below.refl _ _).alloc (Nat.le_refl _) _), bk_new _ _ _⟩
  clear H5
  go_wp2_with fail
  refine (merge_x _ _ H6.out.2.2).mono ?_
  rintro e w7 ⟨rfl, b7⟩
  have H7 : Hid (Below w.heap.size w w7 ∧ MxS w7 g [] []) := ⟨H6.out.1.trans (b7.mono H6.out.1.size), H6.out.2.1.below b7⟩
  clear b7 H6
  go_wp2_with fail
  refine (mlen_nil _).mono ?_
  rintro e w8 ⟨rfl, hw⟩
  obtain rfl : w7 = w8 := hw.symm
  go_wp2_with fail
  refine (mpacks_nil _).mono ?_
  rintro e w8 ⟨rfl, hw⟩
  obtain rfl : w7 = w8 := hw.symm
  go_wp2_with fail
  refine (mall_nil _).mono ?_
  rintro e w8 ⟨rfl, hw⟩
  obtain rfl : w7 = w8 := hw.symm
  go_wp2_with fail
  refine (mlen_any _ _ _ _ H7.out.2).mono ?_
  rintro e w8 ⟨rfl, hw⟩
  obtain rfl : w7 = w8 := hw.symm
  go_wp2_with fail
  refine (mpacks_any _ _ _ _ H7.out.2).mono ?_
  rintro e w8 ⟨v, rfl, ho, b8⟩
  have H8 : Hid (Below w.heap.size w w8) := H7.out.1.trans (b8.mono H7.out.1.size)
  obtain ⟨va, vc, rfl⟩ : ∃ va vc, v = .slice va 0 vc := by
    rcases ho.2 with ⟨h1, h0⟩ | ⟨g, cap, cur, h1, _⟩
    · exact ⟨none, 0, h1⟩
    · exact ⟨_, _, h1⟩
  clear ho b8 H7
  go_wp2_with fail
  refine (HCX.out _ H8.out).mono ?_
  rintro e w9 ⟨rfl, b9⟩
  have H9 : Hid (Below w.heap.size w w9) := H8.out.trans (b9.mono H8.out.size)
  clear b9 H8
  go_wp2_with fail
  refine (HNM.out _ H9.out).mono ?_
  rintro e w10 ⟨rfl, b10⟩
  have H10 : Hid (Below w.heap.size w w10) := H9.out.trans (b10.mono H9.out.size)
  clear b10 H9
  go_wp2_with fail
  refine (HCN.out _ H10.out).mono ?_
  rintro e w11 ⟨rfl, b11⟩
  have H11 : Hid (Below w.heap.size w w11) := H10.out.trans (b11.mono H10.out.size)
  go_wp2
  go_ret
  exact ⟨rfl, H11.out⟩
end Go.Proofs.YtfmfdaoipfpijaaGreatDoor
