import Derived.Test.YtpfknjnigcefgaaGreatDoorY36
import Derived.Test.YtpfknjnigcefgaaGreatDoorY26
import Derived.Test.YtpfknjnigcefgaaGreatDoorY29
import Derived.Test.YtpfknjnigcefgaaGreatDoorY30
/- The document's own Parse (munimentref02). -/
namespace Go.Proofs.YtpfknjnigcefgaaGreatDoor
open Go.RowKit
set_option linter.unusedSimpArgs false
set_option linter.unusedVariables false
theorem runhex_all (s : ByteArray) (w : World) (hs : s.size ≤ 140737488351232) :
    Calls Tryz.prog 87 #[.string s] w fun e w' => e = .returned (.tuple #[.string (uhS s), .int .i64 (uhE s)]) ∧ Below w.heap.size w w' := by
  by_cases h : s.size % 2 = 1
  · exact (runhex_odd s w (by omega) h).mono fun e w' ⟨he, hw'⟩ => ⟨he, by subst hw'; exact Below.refl _ _⟩
  · exact runhex_even s w (s.size / 2) (by omega) (by omega)
theorem runhex_size (s : ByteArray) : (uhS s).size ≤ s.size := by
  cases e : unhexL (bl s) with
  | none => rw [(uh_none e).1]; exact Nat.zero_le _
  | some m =>
    have := (hex_unhex _ _ (Nat.le_refl _) m e).2
    rw [bl_length] at this
    rw [(uh_some e).1, sb_size]
    omega
/-- What Parse's two names are, wherever it stands. -/
def SP (w : World) (A : Array Value) (W : World) : Prop :=
  Blk W w.heap.size z32c 23 ∧ Blk W (w.heap.size + 1) A 23 ∧ Below w.heap.size w W
theorem SP.below {w W W' : World} {A : Array Value} (h : SP w A W) (hb : Below W.heap.size W W') : SP w A W' :=
  ⟨h.1.grown (grown_of_below hb none) (by simp), h.2.1.grown (grown_of_below hb none) (by simp), h.2.2.trans (hb.mono h.2.2.size)⟩
theorem SP.new (w : World) : SP w z32c ((w.alloc (.cells z32c 23)).alloc (.cells z32c 23)) := by
  have g2 := World.grownBy_alloc (w.alloc (.cells z32c 23)) (.cells z32c 23) none
  have e := blk_new (w.alloc (.cells z32c 23)) (.cells z32c 23)
  rw [alloc_size] at e
  exact ⟨Blk.grown (blk_new w (.cells z32c 23)) g2 (by simp), e, ((Below.refl _ _).alloc (Nat.le_refl _) _).alloc (by rw [alloc_size]; omega) _⟩
set_option maxHeartbeats 1000000 in
set_option maxRecDepth 100000 in
theorem rParse_bad (t : ByteArray) (w : World) (ht : t.size ≤ 140737488351232) (hbad : ¬ (uhE t = 0 ∧ (uhS t).size = 32)) :
    Calls Tryz.prog 45 #[.string t] w fun e w' => e = .returned (.tuple #[.agg z32c, .int .i64 4]) ∧ Below w.heap.size w w' := by
  go_enter Tryz.func45, Tryz.ntmps45
  go_wp2_with fail
  refine Calls.mono (runhex_all t ((w.alloc (.cells z32c 23)).alloc (.cells z32c 23)) ht) ?_
  rintro e w1 ⟨rfl, hb⟩
  have HP : Hid (SP w z32c w1) := (SP.new w).below hb
  have hsz : (uhS t).size ≤ t.size := runhex_size t
  rcases uhE_cases t with he | he
  · rw [he]
    have hne : ¬ ((uhS t).size : Int) = 32 := by intro h; exact hbad ⟨he, by omega⟩
    clear hb hbad
    go_wp2_with (first
      | (refine wpList_load_row rfl 23 (.tmp 4) rfl (w.heap.size + 1) rfl 23 z32c (0, 0) _ HP.out.2.1 Tryz.underlying23 rfl (info_32 z32c_size) ?_)
      | (refine wpList_store_row rfl 23 (.tmp 2) (.tmp 20) rfl w.heap.size z32c rfl rfl 23 z32c HP.out.1 (info_32 z32c_size) rfl z32c_one ?_))
    refine bodyPost_ret (results_cell_tmp_row rfl _ _ w.heap.size 23 z32c (0, 0) _ rfl (setRow_heap _ _ _ _ _ _ HP.out.1) Tryz.underlying23 rfl (info_32 z32c_size)) rfl ⟨rfl, ?_⟩
    exact below_setRow HP.out.2.2 (Nat.le_refl _) _
  · rw [he]
    clear hb hbad
    go_wp2_with (first
      | (refine wpList_load_row rfl 23 (.tmp 4) rfl (w.heap.size + 1) rfl 23 z32c (0, 0) _ HP.out.2.1 Tryz.underlying23 rfl (info_32 z32c_size) ?_)
      | (refine wpList_store_row rfl 23 (.tmp 2) (.tmp 20) rfl w.heap.size z32c rfl rfl 23 z32c HP.out.1 (info_32 z32c_size) rfl z32c_one ?_))
    refine bodyPost_ret (results_cell_tmp_row rfl _ _ w.heap.size 23 z32c (0, 0) _ rfl (setRow_heap _ _ _ _ _ _ HP.out.1) Tryz.underlying23 rfl (info_32 z32c_size)) rfl ⟨rfl, ?_⟩
    exact below_setRow HP.out.2.2 (Nat.le_refl _) _
end Go.Proofs.YtpfknjnigcefgaaGreatDoor
/- The document's own Parse (munimentref02): a name's text. -/
namespace Go.Proofs.YtpfknjnigcefgaaGreatDoor
open Go.RowKit
set_option linter.unusedSimpArgs false
set_option linter.unusedVariables false
/-- So many bytes of a text laid into a name of noughts. -/
def fp (q : ByteArray) : Nat → Array Value
  | 0 => z32c
  | j + 1 => (fp q j).setIfInBounds j (.int .u8 (((byl q).getD j 0 : Nat) : Int))
theorem fp_size (q : ByteArray) : ∀ j, (fp q j).size = 32
  | 0 => z32c_size
  | j + 1 => by rw [fp, Array.size_setIfInBounds]; exact fp_size q j
theorem fp_get (q : ByteArray) (hq : q.size = 32) : ∀ j, j ≤ 32 → ∀ i, i < j → (fp q j)[i]? = (idc q)[i]?
  | 0, _, i, hi => by omega
  | j + 1, hj, i, hi => by
    rw [fp, Array.getElem?_setIfInBounds]
    by_cases e : j = i
    · subst e
      rw [if_pos rfl, if_pos (by rw [fp_size]; omega)]
      have hl : j < (byl q).length := by rw [byl_length]; omega
      rw [idc, List.getElem?_toArray, bvc, List.getElem?_map, List.getElem?_eq_getElem hl, List.getD, List.getElem?_eq_getElem hl]; rfl
    · rw [if_neg e]; exact fp_get q hq j (by omega) i (by omega)
theorem fp_all (q : ByteArray) (hq : q.size = 32) : fp q 32 = idc q := by
  apply Array.ext_getElem?
  intro i
  by_cases h : i < 32
  · exact fp_get q hq 32 (Nat.le_refl _) i h
  · rw [Array.getElem?_eq_none (by rw [fp_size]; omega), Array.getElem?_eq_none (by rw [idc_size]; omega)]
theorem idc_ones (s : ByteArray) : (idc s).all (·.oneCell') = true := Array.all_eq_true_iff_forall_mem.2 (by intro v hv; exact bvc_one _ v (by simpa [idc] using hv))
set_option maxHeartbeats 1000000 in
set_option maxRecDepth 100000 in
theorem rParse_good (t : ByteArray) (w : World) (ht : t.size ≤ 140737488351232) (he : uhE t = 0) (hz : (uhS t).size = 32) :
    Calls Tryz.prog 45 #[.string t] w fun e w' => e = .returned (.tuple #[.agg (idc (uhS t)), .int .i64 0]) ∧ Below w.heap.size w w' := by
  go_enter Tryz.func45, Tryz.ntmps45
  go_wp2_with fail
  refine Calls.mono (runhex_all t ((w.alloc (.cells z32c 23)).alloc (.cells z32c 23)) ht) ?_
  rintro e w1 ⟨rfl, hb⟩
  have HS : Hid (SP w (fp (uhS t) 0) w1) := (SP.new w).below hb
  rw [he]
  obtain ⟨q, hq⟩ : ∃ q, q = uhS t := ⟨_, rfl⟩
  rw [← hq] at hz HS ⊢
  have hzi : ((q.size : Int) = 32) := by omega
  have HU : Hid (q = uhS t) := hq
  clear hb hq he
  go_wp2
  go_loopw [7] (fun i wr => ∃ j : Nat, j ≤ 32 ∧ i = .int .i64 (j : Int) ∧ Hid (SP w (fp q j) wr)) (fun i _ => 40 - (intOf i).toNat)
  case atStart => exact ⟨0, by omega, rfl, HS.out⟩
  case round =>
    clear HS
    obtain ⟨j, hj, rfl, HR⟩ := hrel
    by_cases hj0 : j < 32
    · have hjq : j < q.size := by omega
      obtain ⟨u, hu⟩ : ∃ u, (fp q j)[j]? = some u := ⟨_, Array.getElem?_eq_getElem (by rw [fp_size]; exact hj0)⟩
      have hc3 : wr.cell? ⟨w.heap.size + 1, j, none⟩ = some u := by rw [HR.out.2.1.cell]; exact hu
      have hf3 : wr.frozen? ⟨w.heap.size + 1, j, none⟩ = false := HR.out.2.1.frozen j
      have HV : Hid ((byl q).getD j 0 = q[j].toNat) := by show (byl q).getD j 0 = q[j].toNat; rw [List.getD, byl_getD q j hjq]; rfl
      clear hu
      go_wp2
      go_roundw
      case rel =>
        refine ⟨j + 1, by omega, by go_num, ?_⟩
        have hS := HR.out
        have e : fp q (j + 1) = (fp q j).setIfInBounds j (.int .u8 (q[j].toNat : Int)) := by rw [← HV.out]; rfl
        have gg : wr.grownBy (wr.setCell ⟨w.heap.size + 1, j, none⟩ (.int .u8 (q[j].toNat : Int))) (some (w.heap.size + 1)) := Lib.grownBy_setB (World.grownBy.refl wr (some (w.heap.size + 1))) j _
        refine ⟨hS.1.grown gg (by simp), ?_, hS.2.2.setCell (by show w.heap.size ≤ w.heap.size + 1; omega) _⟩
        rw [e]
        exact hS.2.1.set _ _
      case measure => simp [intOf]; omega
    · have hj1 : j = 32 := by omega
      subst hj1
      have HP : Hid (SP w (idc q) wr) := by rw [← fp_all q hz]; exact HR.out
      clear HR hj hj0
      rw [show ((32 : Nat) : Int) = (32 : Int) from rfl]
      have hiq : (Tryz.prog.info? 23).map (·.size) = some (idc q).size := info_32 (by rw [idc_size]; exact hz)
      go_wp2_with (first
        | (refine wpList_load_row rfl 23 (.tmp 4) rfl (w.heap.size + 1) rfl 23 (idc q) (0, 0) _ HP.out.2.1 Tryz.underlying23 rfl hiq ?_)
        | (refine wpList_store_row rfl 23 (.tmp 2) (.tmp 30) rfl w.heap.size (idc q) rfl rfl 23 z32c HP.out.1 hiq (by rw [z32c_size, idc_size, hz]) (idc_ones q) ?_))
      refine bodyPost_ret (results_cell_tmp_row rfl _ _ w.heap.size 23 (idc q) (0, 0) _ rfl (setRow_heap _ _ _ _ _ _ HP.out.1) Tryz.underlying23 rfl hiq) rfl ⟨by rw [← HU.out]; rfl, ?_⟩
      exact below_setRow HP.out.2.2 (Nat.le_refl _) _
end Go.Proofs.YtpfknjnigcefgaaGreatDoor
/- The document's own Read, One, Span, Label, Sum, Fits (munimentref11). -/
namespace Go.Proofs.YtpfknjnigcefgaaGreatDoor
open Go.RowKit
set_option linter.unusedSimpArgs false
set_option linter.unusedVariables false
theorem atN_zero {s : ByteArray} : ((atN s : Int) == 0) = !atB s := by
  unfold atN
  cases h : atB s with
  | true => rw [if_pos rfl]; simp; omega
  | false => simp
theorem ft_at (s : ByteArray) : (atB s = true ∧ ftO s = atO s ∧ ftE s = 0) ∨ (atB s = false ∧ ftO s = ⟨0, ⟨#[]⟩⟩ ∧ ftE s = 4) := by
  cases h : atB s with
  | true => exact .inl ⟨rfl, by simp [ftO, h], by simp [ftE, h]⟩
  | false => exact .inr ⟨rfl, by simp [ftO, h], by simp [ftE, h]⟩
/-- One record, by its length. -/
theorem on_at (s : ByteArray) : (atB s = true ∧ (atN s : Int) = (s.size : Int) ∧ onO s = atO s ∧ onE s = 0) ∨ ((atB s = false ∨ (atB s = true ∧ ¬ (atN s : Int) = (s.size : Int))) ∧ onO s = ⟨0, ⟨#[]⟩⟩ ∧ onE s = 4) := by
  cases h : atB s with
  | false => exact .inr ⟨.inl rfl, by simp [onO, h], by simp [onE, h]⟩
  | true =>
    have hf := at_fits h
    have hn : atN s = 9 + (atO s).p.size := by rw [atN, if_pos h]
    have hr : ufR s = ⟨#[]⟩ ↔ atN s = s.size := by
      rw [hf.2.1, hn]
      generalize (atO s).p.size = z at hf
      have h1 := hf.1
      constructor
      · intro e
        have := congrArg ByteArray.size e
        rw [frmO_size] at this
        have h0 : (⟨#[]⟩ : ByteArray).size = 0 := rfl
        rw [h0] at this
        omega
      · intro e
        apply bl_inj
        have : (frmO s (9 + z)).size = 0 := by rw [frmO_size]; omega
        exact (List.eq_nil_of_length_eq_zero (by rw [bl_length]; exact this)).trans rfl
    by_cases e : atN s = s.size
    · exact .inl ⟨rfl, by omega, by rw [onO, if_pos ⟨h, hr.2 e⟩], by rw [onE, if_pos ⟨h, hr.2 e⟩]⟩
    · exact .inr ⟨.inr ⟨rfl, by omega⟩, by rw [onO, if_neg (fun q => e (hr.1 q.2))], by rw [onE, if_neg (fun q => e (hr.1 q.2))]⟩
theorem rspan_any (e : Ent) (w : World) (he : e.id.size = 32) (ho : e.off ≤ 140737488355328) (hz : e.sz ≤ 140737488355328) :
    Calls Tryz.prog 76 #[.agg (enC e)] w fun r w' => r = .returned (.tuple #[.int .i64 (e.off : Int), .int .i64 (9 + (e.sz : Int))]) ∧ Below w.heap.size w w' := by
  have hb : Bk (w.alloc (.cells (enC e) 56)) w.heap.size (enC e) 56 := bk_new _ _ _
  obtain ⟨_, q1, q2⟩ := enC_at e he
  have c1 : (w.alloc (.cells (enC e) 56)).cell? ⟨w.heap.size, 33, none⟩ = some (.int .i64 (e.off : Int)) := by rw [hb.cell]; exact q1
  have c2 : (w.alloc (.cells (enC e) 56)).cell? ⟨w.heap.size, 34, none⟩ = some (.int .i64 (e.sz : Int)) := by rw [hb.cell]; exact q2
  have HB : Hid (Below w.heap.size w (w.alloc (.cells (enC e) 56))) := (Below.refl _ _).alloc (Nat.le_refl _) _
  clear hb q1 q2
  generalize enC e = C at c1 c2 HB ⊢
  obtain ⟨i, k, a, n⟩ := e
  simp only at c1 c2 ho hz ⊢
  go_enter Tryz.func76, Tryz.ntmps76
  go_wp2
  go_region
  go_wp2
  go_ret2
  exact ⟨rfl, HB.out.drew⟩
theorem quick_id11 (s : ByteArray) (w : World) (hs : s.size ≤ 140737488351232) : Calls Tryz.prog 19 #[.string s] w fun e w' => e = .returned (.agg (idc (sb (sha (byl s))))) ∧ Below w.heap.size w w' := by
  have := quick_any s w hs
  rw [shc_idc] at this
  exact this
end Go.Proofs.YtpfknjnigcefgaaGreatDoor
/- The document's own Sum (munimentref11). -/
namespace Go.Proofs.YtpfknjnigcefgaaGreatDoor
open Go.RowKit
set_option linter.unusedSimpArgs false
set_option linter.unusedVariables false
theorem hexd_len11 (t : ByteArray) (h : uhE t = 0) : 2 * (uhS t).size = t.size := by
  have e := congrArg ByteArray.size (hex_uh t h)
  rw [sb_size, hexL_length, bl_length] at e
  omega
theorem ex_bl (s : ByteArray) (a b : Nat) : bl (s.extract a b) = ((bl s).take b).drop a := bl_extract s a b
theorem tk11 (s : ByteArray) : (bl s).take s.size = bl s := List.take_of_length_le (by rw [bl_length]; exact Nat.le_refl _)
theorem lbF_size : lbF.size = 5 := rfl
theorem lbE_size : lbE.size = 3 := rfl
/-- A label's three parts. -/
def isL (s : ByteArray) : Prop := s.size = 72 ∧ s.extract 0 5 = lbF ∧ s.extract 69 s.size = lbE
theorem smp_yes {s : ByteArray} (h : isL s) : smD s = s.extract 5 69 ∧ (s.extract 5 69).size = 64 ∧ smB11 s = decide (uhE (s.extract 5 69) = 0) := by
  obtain ⟨h1, h2, h3⟩ := h
  have p : pfB s lbF = true := by
    rw [pfB, lbF_size, h2]; simp [h1]
  have hc : cpX s lbF = s.extract 5 s.size := by rw [cpX, if_pos p, lbF_size]
  have hcs : (cpX s lbF).size = 67 := by
    rw [hc, ← bl_length, ex_bl, List.length_drop, List.length_take, bl_length]; omega
  have e1 : (cpX s lbF).extract ((cpX s lbF).size - lbE.size) (cpX s lbF).size = lbE := by
    rw [hcs, lbE_size]
    apply bl_inj
    rw [← h3, ex_bl, hc, ex_bl, ex_bl, tk11, List.take_of_length_le (by rw [List.length_drop, bl_length]; omega), List.drop_drop]
  have q : sfB (cpX s lbF) lbE = true := by
    rw [sfB, e1]; rw [hcs, lbE_size]; simp
  have hd : smD s = s.extract 5 69 := by
    rw [smD, csX, if_pos q, hcs, lbE_size, hc]
    apply bl_inj
    rw [ex_bl, ex_bl, ex_bl, tk11, List.drop_zero, List.drop_take]
  have hz : (s.extract 5 69).size = 64 := by
    rw [← bl_length, ex_bl, List.length_drop, List.length_take, bl_length]; omega
  refine ⟨hd, hz, ?_⟩
  rw [smB11, p, q, hd, prE, if_pos hz]
  simp
theorem sm_not {s : ByteArray} (h : ¬ isL s) : smA s = z32c ∧ smEp s = 10 := by
  have : smB11 s = false := by
    rw [Bool.eq_false_iff]
    intro hb
    rw [smB11, Bool.and_eq_true, Bool.and_eq_true] at hb
    obtain ⟨⟨p, q⟩, r⟩ := hb
    have r := of_decide_eq_true r
    have r6 : (smD s).size = 64 := by
      unfold prE at r
      split at r
      · assumption
      · cases r
    have p1 : 5 ≤ s.size := pfB_le p
    have hc : cpX s lbF = s.extract 5 s.size := by rw [cpX, if_pos p, lbF_size]
    have hcs : (cpX s lbF).size = s.size - 5 := by
      rw [hc, ← bl_length, ex_bl, List.length_drop, List.length_take, bl_length]; omega
    have q1 : 3 ≤ (cpX s lbF).size := sfB_le q
    have hd : (smD s).size = s.size - 5 - 3 := by
      rw [smD, csX, if_pos q, ← bl_length, ex_bl, List.length_drop, List.length_take, bl_length, lbE_size]; omega
    have h72 : s.size = 72 := by omega
    refine h ⟨h72, ?_, ?_⟩
    · have := p
      simp [pfB, lbF_size] at this
      exact bl_inj this.2
    · have := q
      simp [sfB, lbE_size] at this
      have e := this.2
      rw [hcs, hc, ex_bl, ex_bl, tk11, List.take_of_length_le (by rw [List.length_drop, bl_length]; omega), List.drop_drop, show 5 + (s.size - 5 - 3) = 69 from by omega] at e
      apply bl_inj
      rw [← e, ex_bl, tk11]
  rw [smA, smEp, this]
  exact ⟨rfl, rfl⟩
end Go.Proofs.YtpfknjnigcefgaaGreatDoor
/- Two copied lists, one appended to the other; packs of more objects begin alike. -/
namespace Go.Proofs.YtpfknjnigcefgaaGreatDoor
open Go.RowKit
set_option linter.unusedSimpArgs false
set_option linter.unusedVariables false
theorem obv_append (a b : List Ob) : obv (a ++ b) = obv a ++ obv b := by simp [obv]
theorem own_trim {w : World} {B n g cp : Nat} {l : List Ob} (h : w.ownsRow B 157 2 (.slice (some ⟨g, 0, none⟩) (n + 1) cp) (n + 1) (obv (l ++ [mkO]))) (hm : l.length = n) :
    w.ownsRow B 157 2 (.slice (some ⟨g, 0, none⟩) n cp) n (obv l) := by
  refine ⟨by rw [obv_length, hm], .inr ?_⟩
  rcases h.2 with ⟨h1, _⟩ | ⟨g', cap, cur, h1, hle, hg, hnc, hcm, hc, ht⟩
  · cases h1
  · injection h1 with h1 _ h3
    injection h1 with h1
    injection h1 with h1
    subst h1 h3
    refine ⟨g, cp, cur, rfl, hle, hg, by omega, hcm, hc, ?_⟩
    have := congrArg (List.take (n * 2)) ht
    rw [List.take_take, Nat.min_eq_left (by omega), obv_append, List.take_append_of_le_length (by rw [obv_length, hm]; exact Nat.le_refl _)] at this
    rw [this]
    exact List.take_of_length_le (by rw [obv_length, hm]; exact Nat.le_refl _)
theorem own_cells {w : World} {B n g cp : Nat} {l : List Ob} (h : w.ownsRow B 157 2 (.slice (some ⟨g, 0, none⟩) n cp) n (obv l)) : ∀ j u, (obv l)[j]? = some u → w.cell? ((⟨g, 0, none⟩ : Addr).add j) = some u := by
  intro j u hu
  rcases h.2 with ⟨h1, _⟩ | ⟨g', cap, cur, h1, hle, hg, hnc, hcm, hc, ht⟩
  · cases h1
  · injection h1 with h1 _ h3
    injection h1 with h1
    injection h1 with h1
    subst h1
    have hb : Bk w g cur 157 := hg
    have hj : j < (obv l).length := (List.getElem?_eq_some_iff.1 hu).1
    rw [h.1] at hj
    rw [WideShapes.add_plain, Nat.zero_add, hb.cell]
    rw [← ht, List.getElem?_take, if_pos hj, Array.getElem?_toList] at hu
    exact hu
theorem obv_one (l : List Ob) : ∀ u ∈ obv l, u.oneCell' = true := by
  intro u hu
  simp only [obv, List.mem_flatMap] at hu
  obtain ⟨o, _, ho⟩ := hu
  exact one_two_o _ _ u ho
theorem cwN_all (l : List Ob) : ∀ (a n : Nat), a + lenL l ≤ n → cwN n a l = l.length := by
  induction l with
  | nil => intro a n _; rfl
  | cons o l ih =>
    intro a n h
    rw [lenL] at h
    rw [cwN, if_pos (by omega), ih _ _ (by omega), List.length_cons]; omega
/-- Packs that begin with the same objects begin alike. -/
theorem front_same {l m : List Ob} (h : buE l = 0) (h' : buE (l ++ m) = 0) : (buS l).extract 0 (4 + lenL l) = (buS (l ++ m)).extract 0 (4 + lenL l) := by
  have hz := buS_size h
  have hz' := buS_size h'
  rw [lenL_append] at hz'
  apply bl_inj
  rw [extract_take _ _ (by omega), extract_take _ _ (by omega), buS_ok h, buS_ok h', recL_append]
  have hA : (mk4 ++ recL l).length = 4 + lenL l := by rw [List.length_append, recL_length]; rfl
  rw [← hA, List.take_left, show mk4 ++ (recL l ++ recL m) ++ bl (trl (l ++ m).length) = (mk4 ++ recL l) ++ (recL m ++ bl (trl (l ++ m).length)) from by simp, List.take_left]
end Go.Proofs.YtpfknjnigcefgaaGreatDoor
