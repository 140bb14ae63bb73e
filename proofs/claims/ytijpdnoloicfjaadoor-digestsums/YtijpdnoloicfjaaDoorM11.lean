import Derived.Test.YtijpdnoloicfjaaDoorM10
import Derived.Test.YtijpdnoloicfjaaDoorM9
import Derived.Test.YtijpdnoloicfjaaDoorM8
import Derived.Test.YtijpdnoloicfjaaDoorM4
import Derived.Lib.Bytealg
import Derived.Test.YtijpdnoloicfjaaDoorM6
import Derived.BigQuiet
import Derived.Deep.MidRow
/- The document's own Of and Text (munimentref02). -/
namespace Go.Proofs.YtijpdnoloicfjaaDoor
open Go.RowKit
set_option linter.unusedSimpArgs false
set_option linter.unusedVariables false
theorem whl_bytes (k : Nat) (p : ByteArray) (hk : k < 256) : byl (sb (whl k p)) = whl k p := byl_sb _ (by
  intro x hx
  simp only [whl, List.mem_cons, List.mem_append] at hx
  rcases hx with rfl | h | h
  · exact hk
  · exact fixN_lt _ _ _ h
  · exact byl_lt _ _ h)
set_option maxHeartbeats 1000000 in
set_option maxRecDepth 100000 in
theorem rOf_any (k : Nat) (p : ByteArray) (w : World) (hk : k < 256) (hp : p.size ≤ 2000) :
    Calls Tryd.prog 10 #[.int .u8 (k : Int), .string p] w fun e w' => e = .returned (.agg (shc (whl k p))) ∧ Below w.heap.size w w' := by
  go_enter Tryd.func10, Tryd.ntmps10
  go_wp2_with fail
  refine Calls.mono (whole_any k p (w.alloc (.cells z32c 23)) hk hp) ?_
  rintro e w1 ⟨rfl, hb⟩
  rw [alloc_size] at hb
  have HZ : Hid (Blk w1 w.heap.size z32c 23) := Blk.grown (blk_new w (.cells z32c 23)) (grown_of_below (by rw [alloc_size]; exact hb) none) (by simp)
  have HB : Hid (Below w.heap.size w w1) := ((Below.refl _ _).alloc (Nat.le_refl _) _).trans (hb.mono (by omega))
  have hz : (sb (whl k p)).size ≤ 20000 := by rw [sb_size]; simp [whl, fixN_length, byl_length]; omega
  clear hb
  go_wp2_with fail
  refine Calls.mono (quick_any (sb (whl k p)) _ hz) ?_
  rintro e w4 ⟨rfl, hb4⟩
  rw [whl_bytes k p hk]
  have HZ4 : Hid (Blk w4 w.heap.size z32c 23) := HZ.out.grown (grown_of_below hb4 none) (by simp)
  have HB4 : Hid (Below w.heap.size w w4) := HB.out.trans (hb4.mono HB.out.size)
  clear hb4 HZ HB
  go_wp2_with (refine wpList_store_row rfl 23 (.tmp 4) (.tmp 8) rfl w.heap.size (shc (whl k p)) rfl rfl 23 z32c HZ4.out (info_shc _) (by rw [z32c_size, shc_size]) (shc_one _) ?_)
  refine bodyPost_ret (results_cell_row rfl _ _ w.heap.size 23 (shc (whl k p)) (0, 0) _ rfl (setRow_heap _ _ _ _ _ _ HZ4.out) Tryd.underlying23 rfl (info_shc _)) rfl ⟨rfl, ?_⟩
  exact below_setRow HB4.out (Nat.le_refl _) _
set_option maxHeartbeats 1000000 in
set_option maxRecDepth 100000 in
theorem rText_any (s : ByteArray) (w : World) (hs : s.size = 32) :
    Calls Tryd.prog 12 #[.agg (idc s)] w fun e w' => e = .returned (.string (sb (hexL (bl s)))) ∧ Below w.heap.size w w' := by
  have h1 := slice32 w.heap.size
  have h2 := conv32 s w.heap.size 23 (w.alloc (.cells (idc s) 23)) hs (blk_new _ _)
  go_enter Tryd.func12, Tryd.ntmps12
  go_wp2_with (go_at_call 28; refine (rhex_any s _ (by omega)).mono ?_; rintro e w1 ⟨rfl, hb1⟩)
  go_ret
  exact ⟨rfl, ((Below.refl _ _).alloc (Nat.le_refl _) _).trans (hb1.mono (by rw [alloc_size]; omega))⟩
end Go.Proofs.YtijpdnoloicfjaaDoor
/- The document's own Less (munimentref02). -/
namespace Go.Proofs.YtijpdnoloicfjaaDoor
open Go.RowKit
set_option linter.unusedSimpArgs false
set_option linter.unusedVariables false
theorem cmp_same {a b : ByteArray} {j : Nat} (ha : j < a.size) (hb : j < b.size) (e : a[j].toNat = b[j].toNat) :
    Lib.compareBytes (a.data.toList.drop j) (b.data.toList.drop j) = Lib.compareBytes (a.data.toList.drop (j + 1)) (b.data.toList.drop (j + 1)) := by
  rw [List.drop_eq_getElem_cons (l := a.data.toList) (i := j) (by simpa using ha), List.drop_eq_getElem_cons (l := b.data.toList) (i := j) (by simpa using hb)]
  have e1 : a.data.toList[j]'(by simpa using ha) = b.data.toList[j]'(by simpa using hb) := UInt8.toNat_inj.1 e
  rw [e1, Lib.compareBytes, if_neg (UInt8.lt_irrefl _), if_neg (UInt8.lt_irrefl _)]
theorem cmp_head (x y : UInt8) (l m : List UInt8) (e : x.toNat ≠ y.toNat) : decide (Lib.compareBytes (x :: l) (y :: m) < 0) = decide ((x.toNat : Int) < (y.toNat : Int)) := by
  rw [Lib.compareBytes]
  by_cases h : x.toNat < y.toNat
  · rw [if_pos (UInt8.lt_iff_toNat_lt.2 h)]
    have h2 : ((x.toNat : Int) < (y.toNat : Int)) := by omega
    rw [decide_eq_true h2]; rfl
  · have h3 : y.toNat < x.toNat := by omega
    rw [if_neg (fun h' => h (UInt8.lt_iff_toNat_lt.1 h')), if_pos (UInt8.lt_iff_toNat_lt.2 h3)]
    have h2 : ¬ ((x.toNat : Int) < (y.toNat : Int)) := by omega
    rw [decide_eq_false h2]; rfl
theorem cmp_other {a b : ByteArray} {j : Nat} (ha : j < a.size) (hb : j < b.size) (e : a[j].toNat ≠ b[j].toNat) :
    decide (Lib.compareBytes (a.data.toList.drop j) (b.data.toList.drop j) < 0) = decide ((a[j].toNat : Int) < (b[j].toNat : Int)) := by
  rw [List.drop_eq_getElem_cons (l := a.data.toList) (i := j) (by simpa using ha), List.drop_eq_getElem_cons (l := b.data.toList) (i := j) (by simpa using hb)]
  exact cmp_head _ _ _ _ e
set_option maxHeartbeats 1000000 in
set_option maxRecDepth 100000 in
theorem rLess_any (a b : ByteArray) (w : World) (ha : a.size = 32) (hb : b.size = 32) :
    Calls Tryd.prog 14 #[.agg (idc a), .agg (idc b)] w fun e w' => e = .returned (.bool (lessB a b)) ∧ Below w.heap.size w w' := by
  go_enter Tryd.func14, Tryd.ntmps14
  go_wp2
  obtain ⟨w4, hw4⟩ : ∃ w4, w4 = (w.alloc (.cells (idc a) 23)).alloc (.cells (idc b) 23) := ⟨_, rfl⟩
  have HA : Hid (Blk w4 w.heap.size (idc a) 23) := by rw [hw4]; exact Blk.grown (blk_new w (.cells (idc a) 23)) (World.grownBy_alloc _ _ none) (by simp)
  have HB : Hid (Blk w4 (w.heap.size + 1) (idc b) 23) := by
    have e := blk_new (w.alloc (.cells (idc a) 23)) (.cells (idc b) 23)
    rw [alloc_size] at e
    rw [hw4]; exact e
  have HW : Hid (Below w.heap.size w w4) := by rw [hw4]; exact ((Below.refl _ _).alloc (Nat.le_refl _) _).alloc (by rw [alloc_size]; omega) _
  rw [← hw4]
  clear hw4
  go_loopw [5] (fun i wq => ∃ (j : Nat), j ≤ 32 ∧ i = .int .i64 (j : Int) ∧ Hid (w4.grownBy wq none ∧ Lib.compareBytes a.data.toList b.data.toList = Lib.compareBytes (a.data.toList.drop j) (b.data.toList.drop j))) (fun i _ => 40 - (intOf i).toNat)
  case atStart => exact ⟨0, by omega, rfl, World.grownBy.refl _ _, rfl⟩
  case round =>
    obtain ⟨j, hj, rfl, HQ⟩ := hrel
    by_cases hj0 : j < 32
    · have hja : j < a.size := by omega
      have hjb : j < b.size := by omega
      obtain ⟨y, hy⟩ : ∃ y, y = a[j].toNat := ⟨_, rfl⟩
      obtain ⟨z, hz⟩ : ∃ z, z = b[j].toNat := ⟨_, rfl⟩
      have c1 : wr.cell? ⟨w.heap.size, j, none⟩ = some (.int .u8 (y : Int)) := by rw [hy]; exact HQ.out.1.cell (by rw [HA.out.cell]; exact idc_get a j hja) (by simp)
      have c2 : wr.cell? ⟨w.heap.size + 1, j, none⟩ = some (.int .u8 (z : Int)) := by rw [hz]; exact HQ.out.1.cell (by rw [HB.out.cell]; exact idc_get b j hjb) (by simp)
      have HYZ : Hid (y = a[j].toNat ∧ z = b[j].toNat) := ⟨hy, hz⟩
      clear hy hz
      by_cases hyz : y = z
      · have hb : ((y : Int) != (z : Int)) = false := by rw [bne_eq_false_iff_eq]; omega
        have HNE : Hid (y = z) := hyz
        clear hyz
        go_wp2
        go_quiet (fail)
        go_wp2
        go_roundw
        case rel =>
          refine ⟨j + 1, by omega, by go_num, HQ.out.1.trans (grown_drewN _ _ _), ?_⟩
          rw [HQ.out.2, cmp_same hja hjb (by rw [← HYZ.out.1, ← HYZ.out.2]; exact HNE.out)]
        case measure => simp [intOf]; omega
      · have hb : ((y : Int) != (z : Int)) = true := by rw [bne_iff_ne]; omega
        have HNE : Hid (¬ y = z) := hyz
        clear hyz
        go_wp2
        go_quiet (fail)
        go_wp2
        go_quiet (fail)
        go_wp2
        go_ret
        have e : lessB a b = decide ((y : Int) < (z : Int)) := by
          have h := cmp_other hja hjb (by rw [← HYZ.out.1, ← HYZ.out.2]; exact HNE.out)
          rw [← HQ.out.2, ← HYZ.out.1, ← HYZ.out.2] at h
          exact h
        refine ⟨?_, HW.out.trans ((below_of_grown ((HQ.out.1.trans (grown_drewN _ _ _)).trans (grown_drewN _ _ _))).mono HW.out.size)⟩
        rw [e]
        first | rfl | (simp; done)
    · have hj1 : j = 32 := by omega
      subst hj1
      have HF : Hid (lessB a b = false) := by
        have h := HQ.out.2
        rw [List.drop_of_length_le (by simp; omega), List.drop_of_length_le (by simp; omega)] at h
        show decide (Lib.compareBytes a.data.toList b.data.toList < 0) = false
        rw [h]; rfl
      clear hj0
      go_wp2
      go_ret
      refine ⟨by rw [HF.out]; rfl, HW.out.trans ((below_of_grown HQ.out.1).mono HW.out.size)⟩
end Go.Proofs.YtijpdnoloicfjaaDoor
/- The document's own Parse (munimentref02). -/
namespace Go.Proofs.YtijpdnoloicfjaaDoor
open Go.RowKit
set_option linter.unusedSimpArgs false
set_option linter.unusedVariables false
theorem runhex_all (s : ByteArray) (w : World) (hs : s.size ≤ 140737488351232) :
    Calls Tryd.prog 17 #[.string s] w fun e w' => e = .returned (.tuple #[.string (uhS s), .int .i64 (uhE s)]) ∧ Below w.heap.size w w' := by
  by_cases h : s.size % 2 = 1
  · exact (runhex_odd s w (by omega) h).mono fun e w' ⟨he, hw'⟩ => ⟨he, by subst hw'; exact Below.refl _ _⟩
  · exact runhex_even s w (s.size / 2) (by omega) (by omega)
theorem runhex_size (s : ByteArray) : (uhS s).size ≤ s.size := by
  cases e : unhexL (bl s) with
  | none => rw [(uh_none e).1]; exact Nat.zero_le _
  | some m =>
    have := (hex_unhex _ _ (Nat.le_refl _) m e).2
    rw [bl_length] at this
    rw [(uh_some e).1, sb_size]
    omega
/-- What Parse's two names are, wherever it stands. -/
def SP (w : World) (A : Array Value) (W : World) : Prop :=
  Blk W w.heap.size z32c 23 ∧ Blk W (w.heap.size + 1) A 23 ∧ Below w.heap.size w W
theorem SP.below {w W W' : World} {A : Array Value} (h : SP w A W) (hb : Below W.heap.size W W') : SP w A W' :=
  ⟨h.1.grown (grown_of_below hb none) (by simp), h.2.1.grown (grown_of_below hb none) (by simp), h.2.2.trans (hb.mono h.2.2.size)⟩
theorem SP.new (w : World) : SP w z32c ((w.alloc (.cells z32c 23)).alloc (.cells z32c 23)) := by
  have g2 := World.grownBy_alloc (w.alloc (.cells z32c 23)) (.cells z32c 23) none
  have e := blk_new (w.alloc (.cells z32c 23)) (.cells z32c 23)
  rw [alloc_size] at e
  exact ⟨Blk.grown (blk_new w (.cells z32c 23)) g2 (by simp), e, ((Below.refl _ _).alloc (Nat.le_refl _) _).alloc (by rw [alloc_size]; omega) _⟩
set_option maxHeartbeats 1000000 in
set_option maxRecDepth 100000 in
theorem rParse_bad (t : ByteArray) (w : World) (ht : t.size ≤ 140737488351232) (hbad : ¬ (uhE t = 0 ∧ (uhS t).size = 32)) :
    Calls Tryd.prog 5 #[.string t] w fun e w' => e = .returned (.tuple #[.agg z32c, .int .i64 4]) ∧ Below w.heap.size w w' := by
  go_enter Tryd.func5, Tryd.ntmps5
  go_wp2_with fail
  refine Calls.mono (runhex_all t ((w.alloc (.cells z32c 23)).alloc (.cells z32c 23)) ht) ?_
  rintro e w1 ⟨rfl, hb⟩
  have HP : Hid (SP w z32c w1) := (SP.new w).below hb
  have hsz : (uhS t).size ≤ t.size := runhex_size t
  rcases uhE_cases t with he | he
  · rw [he]
    have hne : ¬ ((uhS t).size : Int) = 32 := by intro h; exact hbad ⟨he, by omega⟩
    clear hb hbad
    go_wp2_with (first
      | (refine wpList_load_row rfl 23 (.tmp 4) rfl (w.heap.size + 1) rfl 23 z32c (0, 0) _ HP.out.2.1 Tryd.underlying23 rfl (info_32 z32c_size) ?_)
      | (refine wpList_store_row rfl 23 (.tmp 2) (.tmp 20) rfl w.heap.size z32c rfl rfl 23 z32c HP.out.1 (info_32 z32c_size) rfl z32c_one ?_))
    refine bodyPost_ret (results_cell_tmp_row rfl _ _ w.heap.size 23 z32c (0, 0) _ rfl (setRow_heap _ _ _ _ _ _ HP.out.1) Tryd.underlying23 rfl (info_32 z32c_size)) rfl ⟨rfl, ?_⟩
    exact below_setRow HP.out.2.2 (Nat.le_refl _) _
  · rw [he]
    clear hb hbad
    go_wp2_with (first
      | (refine wpList_load_row rfl 23 (.tmp 4) rfl (w.heap.size + 1) rfl 23 z32c (0, 0) _ HP.out.2.1 Tryd.underlying23 rfl (info_32 z32c_size) ?_)
      | (refine wpList_store_row rfl 23 (.tmp 2) (.tmp 20) rfl w.heap.size z32c rfl rfl 23 z32c HP.out.1 (info_32 z32c_size) rfl z32c_one ?_))
    refine bodyPost_ret (results_cell_tmp_row rfl _ _ w.heap.size 23 z32c (0, 0) _ rfl (setRow_heap _ _ _ _ _ _ HP.out.1) Tryd.underlying23 rfl (info_32 z32c_size)) rfl ⟨rfl, ?_⟩
    exact below_setRow HP.out.2.2 (Nat.le_refl _) _
end Go.Proofs.YtijpdnoloicfjaaDoor
/- The document's own Parse (munimentref02): a name's text. -/
namespace Go.Proofs.YtijpdnoloicfjaaDoor
open Go.RowKit
set_option linter.unusedSimpArgs false
set_option linter.unusedVariables false
/-- So many bytes of a text laid into a name of noughts. -/
def fp (q : ByteArray) : Nat → Array Value
  | 0 => z32c
  | j + 1 => (fp q j).setIfInBounds j (.int .u8 (((byl q).getD j 0 : Nat) : Int))
theorem fp_size (q : ByteArray) : ∀ j, (fp q j).size = 32
  | 0 => z32c_size
  | j + 1 => by rw [fp, Array.size_setIfInBounds]; exact fp_size q j
theorem fp_get (q : ByteArray) (hq : q.size = 32) : ∀ j, j ≤ 32 → ∀ i, i < j → (fp q j)[i]? = (idc q)[i]?
  | 0, _, i, hi => by omega
  | j + 1, hj, i, hi => by
    rw [fp, Array.getElem?_setIfInBounds]
    by_cases e : j = i
    · subst e
      rw [if_pos rfl, if_pos (by rw [fp_size]; omega)]
      have hl : j < (byl q).length := by rw [byl_length]; omega
      rw [idc, List.getElem?_toArray, bvc, List.getElem?_map, List.getElem?_eq_getElem hl, List.getD, List.getElem?_eq_getElem hl]; rfl
    · rw [if_neg e]; exact fp_get q hq j (by omega) i (by omega)
theorem fp_all (q : ByteArray) (hq : q.size = 32) : fp q 32 = idc q := by
  apply Array.ext_getElem?
  intro i
  by_cases h : i < 32
  · exact fp_get q hq 32 (Nat.le_refl _) i h
  · rw [Array.getElem?_eq_none (by rw [fp_size]; omega), Array.getElem?_eq_none (by rw [idc_size]; omega)]
theorem idc_ones (s : ByteArray) : (idc s).all (·.oneCell') = true := Array.all_eq_true_iff_forall_mem.2 (by intro v hv; exact bvc_one _ v (by simpa [idc] using hv))
set_option maxHeartbeats 1000000 in
set_option maxRecDepth 100000 in
theorem rParse_good (t : ByteArray) (w : World) (ht : t.size ≤ 140737488351232) (he : uhE t = 0) (hz : (uhS t).size = 32) :
    Calls Tryd.prog 5 #[.string t] w fun e w' => e = .returned (.tuple #[.agg (idc (uhS t)), .int .i64 0]) ∧ Below w.heap.size w w' := by
  go_enter Tryd.func5, Tryd.ntmps5
  go_wp2_with fail
  refine Calls.mono (runhex_all t ((w.alloc (.cells z32c 23)).alloc (.cells z32c 23)) ht) ?_
  rintro e w1 ⟨rfl, hb⟩
  have HS : Hid (SP w (fp (uhS t) 0) w1) := (SP.new w).below hb
  rw [he]
  obtain ⟨q, hq⟩ : ∃ q, q = uhS t := ⟨_, rfl⟩
  rw [← hq] at hz HS ⊢
  have hzi : ((q.size : Int) = 32) := by omega
  have HU : Hid (q = uhS t) := hq
  clear hb hq he
  go_wp2
  go_loopw [7] (fun i wr => ∃ j : Nat, j ≤ 32 ∧ i = .int .i64 (j : Int) ∧ Hid (SP w (fp q j) wr)) (fun i _ => 40 - (intOf i).toNat)
  case atStart => exact ⟨0, by omega, rfl, HS.out⟩
  case round =>
    clear HS
    obtain ⟨j, hj, rfl, HR⟩ := hrel
    by_cases hj0 : j < 32
    · have hjq : j < q.size := by omega
      obtain ⟨u, hu⟩ : ∃ u, (fp q j)[j]? = some u := ⟨_, Array.getElem?_eq_getElem (by rw [fp_size]; exact hj0)⟩
      have hc3 : wr.cell? ⟨w.heap.size + 1, j, none⟩ = some u := by rw [HR.out.2.1.cell]; exact hu
      have hf3 : wr.frozen? ⟨w.heap.size + 1, j, none⟩ = false := HR.out.2.1.frozen j
      have HV : Hid ((byl q).getD j 0 = q[j].toNat) := by show (byl q).getD j 0 = q[j].toNat; rw [List.getD, byl_getD q j hjq]; rfl
      clear hu
      go_wp2
      go_roundw
      case rel =>
        refine ⟨j + 1, by omega, by go_num, ?_⟩
        have hS := HR.out
        have e : fp q (j + 1) = (fp q j).setIfInBounds j (.int .u8 (q[j].toNat : Int)) := by rw [← HV.out]; rfl
        have gg : wr.grownBy (wr.setCell ⟨w.heap.size + 1, j, none⟩ (.int .u8 (q[j].toNat : Int))) (some (w.heap.size + 1)) := Lib.grownBy_setB (World.grownBy.refl wr (some (w.heap.size + 1))) j _
        refine ⟨hS.1.grown gg (by simp), ?_, hS.2.2.setCell (by show w.heap.size ≤ w.heap.size + 1; omega) _⟩
        rw [e]
        exact hS.2.1.set _ _
      case measure => simp [intOf]; omega
    · have hj1 : j = 32 := by omega
      subst hj1
      have HP : Hid (SP w (idc q) wr) := by rw [← fp_all q hz]; exact HR.out
      clear HR hj hj0
      rw [show ((32 : Nat) : Int) = (32 : Int) from rfl]
      have hiq : (Tryd.prog.info? 23).map (·.size) = some (idc q).size := info_32 (by rw [idc_size]; exact hz)
      go_wp2_with (first
        | (refine wpList_load_row rfl 23 (.tmp 4) rfl (w.heap.size + 1) rfl 23 (idc q) (0, 0) _ HP.out.2.1 Tryd.underlying23 rfl hiq ?_)
        | (refine wpList_store_row rfl 23 (.tmp 2) (.tmp 30) rfl w.heap.size (idc q) rfl rfl 23 z32c HP.out.1 hiq (by rw [z32c_size, idc_size, hz]) (idc_ones q) ?_))
      refine bodyPost_ret (results_cell_tmp_row rfl _ _ w.heap.size 23 (idc q) (0, 0) _ rfl (setRow_heap _ _ _ _ _ _ HP.out.1) Tryd.underlying23 rfl hiq) rfl ⟨by rw [← HU.out]; rfl, ?_⟩
      exact below_setRow HP.out.2.2 (Nat.le_refl _) _
end Go.Proofs.YtijpdnoloicfjaaDoor
/- Plain facts: the order of names. -/
namespace Go.Proofs.YtijpdnoloicfjaaDoor
set_option linter.unusedSimpArgs false
set_option linter.unusedVariables false
theorem cmpB_refl : ∀ a : List UInt8, Lib.compareBytes a a = 0
  | [] => rfl
  | x :: l => by
    have h : ¬ x < x := UInt8.lt_irrefl x
    rw [Lib.compareBytes, if_neg h, if_neg h, cmpB_refl l]
theorem cmpB_zero : ∀ a b : List UInt8, Lib.compareBytes a b = 0 → a = b
  | [], [], _ => rfl
  | [], _ :: _, h => by simp [Lib.compareBytes] at h
  | _ :: _, [], h => by simp [Lib.compareBytes] at h
  | x :: a, y :: b, h => by
    rw [Lib.compareBytes] at h
    split at h
    · cases h
    · split at h
      · cases h
      · rename_i h1 h2
        have e : x = y := by
          rw [UInt8.lt_iff_toNat_lt] at h1 h2
          apply UInt8.toNat_inj.1
          omega
        rw [e, cmpB_zero a b h]
theorem cmpB_swap : ∀ a b : List UInt8, Lib.compareBytes b a = - Lib.compareBytes a b
  | [], [] => rfl
  | [], _ :: _ => rfl
  | _ :: _, [] => rfl
  | x :: a, y :: b => by
    rw [Lib.compareBytes, Lib.compareBytes]
    by_cases h1 : x < y
    · have h2 : ¬ y < x := by rw [UInt8.lt_iff_toNat_lt] at *; omega
      rw [if_pos h1, if_neg h2, if_pos h1]; rfl
    · by_cases h2 : y < x
      · rw [if_pos h2, if_neg h1, if_pos h2]
      · rw [if_neg h1, if_neg h2, if_neg h2, if_neg h1, cmpB_swap a b]
theorem cmpB_range : ∀ a b : List UInt8, -1 ≤ Lib.compareBytes a b ∧ Lib.compareBytes a b ≤ 1
  | [], [] => by simp [Lib.compareBytes]
  | [], _ :: _ => by simp [Lib.compareBytes]
  | _ :: _, [] => by simp [Lib.compareBytes]
  | x :: a, y :: b => by
    rw [Lib.compareBytes]
    split
    · omega
    · split
      · omega
      · exact cmpB_range a b
end Go.Proofs.YtijpdnoloicfjaaDoor
/- The walk of munimentlaw02.DigestSums. -/
namespace Go.Proofs.YtijpdnoloicfjaaDoor
open Go.RowKit
set_option linter.unusedSimpArgs false
set_option linter.unusedVariables false
theorem hexd_len (t : ByteArray) (h : uhE t = 0) : 2 * (uhS t).size = t.size := by
  have e := congrArg ByteArray.size (hex_uh t h)
  rw [sb_size, hexL_length, bl_length] at e
  omega
theorem uhS_none (t : ByteArray) (h : uhE t ≠ 0) : uhS t = ⟨#[]⟩ ∧ uhE t = 4 := by
  cases hh : unhexL (bl t) with
  | none => exact uh_none hh
  | some m => exact absurd (uh_some hh).2 h
/-- Both read a text as the same name, and tell the same error. -/
theorem parse_both (t : ByteArray) (ht : t.size ≤ 140737488351232) : ∃ (P : ByteArray) (E : Int), P.size = 32 ∧
    (∀ w, All w → Calls Tryd.prog 4 #[.string t] w fun e w' => e = .returned (.tuple #[.agg (idc P), .int .i64 E]) ∧ Below w.heap.size w w') ∧
    (∀ w, Calls Tryd.prog 5 #[.string t] w fun e w' => e = .returned (.tuple #[.agg (idc P), .int .i64 E]) ∧ Below w.heap.size w w') := by
  by_cases h64 : t.size = 64
  · by_cases he : uhE t = 0
    · have hz : (uhS t).size = 32 := by have := hexd_len t he; omega
      refine ⟨uhS t, 0, hz, fun w hA => ?_, fun w => rParse_good t w ht he hz⟩
      have := parse_64 t w h64 hA
      rwa [pid_ok t hz, he] at this
    · obtain ⟨e1, e2⟩ := uhS_none t he
      refine ⟨z32s, 4, z32s_size, fun w hA => ?_, fun w => ?_⟩
      · have := parse_64 t w h64 hA
        rwa [pid_none t e1, e2, ← z32s_idc] at this
      · rw [z32s_idc]; exact rParse_bad t w ht (fun h => he h.1)
  · refine ⟨z32s, 4, z32s_size, fun w hA => ?_, fun w => ?_⟩
    · rw [z32s_idc]; exact parse_bad t w h64 ht
    · rw [z32s_idc]; exact rParse_bad t w ht (fun h => h64 (by have := hexd_len t h.1; omega))
/-- The cells of what came in: two names, a text. -/
def nmc (a b t : ByteArray) : Array Value := idc a ++ idc b ++ #[.string t]
theorem nmc_size (a b t : ByteArray) (ha : a.size = 32) (hb : b.size = 32) : (nmc a b t).size = 65 := by simp [nmc, idc_size, ha, hb]
theorem nmc_a (a b t : ByteArray) (ha : a.size = 32) (i : Nat) (v : Value) (h : (idc a).toList[i]? = some v) : (nmc a b t)[i]? = some v := by
  have hi : i < (idc a).size := by have := (List.getElem?_eq_some_iff.1 h).1; rwa [Array.length_toList] at this
  rw [Array.getElem?_toList] at h
  unfold nmc
  rw [Array.getElem?_append_left (by rw [Array.size_append]; omega), Array.getElem?_append_left hi]
  exact h
theorem nmc_b (a b t : ByteArray) (ha : a.size = 32) (i : Nat) (v : Value) (h : (idc b).toList[i]? = some v) : (nmc a b t)[32 + i]? = some v := by
  have hi : i < (idc b).size := by have := (List.getElem?_eq_some_iff.1 h).1; rwa [Array.length_toList] at this
  have hz : (idc a).size = 32 := by rw [idc_size, ha]
  rw [Array.getElem?_toList] at h
  unfold nmc
  rw [Array.getElem?_append_left (by rw [Array.size_append]; omega), Array.getElem?_append_right (by omega), hz, show 32 + i - 32 = i from by omega]
  exact h
theorem nmc_t (a b t : ByteArray) (ha : a.size = 32) (hb : b.size = 32) : (nmc a b t)[64]? = some (.string t) := by
  have hz : (idc a ++ idc b).size = 64 := by rw [Array.size_append, idc_size, idc_size, ha, hb]
  unfold nmc
  rw [Array.getElem?_append_right (by omega), hz]
  rfl
/-- What the law's last line reads, wherever it stands. -/
structure SD (w : World) (X Y : Nat) (a b P : ByteArray) (W : World) : Prop where
  ra : W.rangeAt w.heap.size 0 (idc a).toList
  rb : W.rangeAt w.heap.size 32 (idc b).toList
  rx : W.rangeAt X 0 (idc P).toList
  ry : W.rangeAt Y 0 (idc P).toList
  all : All W
  grown : w.grownBy W none
theorem rangeD {w w' : World} {b o : Nat} {cs : List Value} (h : w.rangeAt b o cs) (hg : w.grownBy w' none) : w'.rangeAt b o cs := fun j v hv => hg.cell (h j v hv) (by simp)
theorem SD.grow {w : World} {X Y : Nat} {a b P : ByteArray} {W W' : World} (H : SD w X Y a b P W) (g : W.grownBy W' none) : SD w X Y a b P W' :=
  ⟨rangeD H.ra g, rangeD H.rb g, rangeD H.rx g, rangeD H.ry g, H.all.grown g (by simp), H.grown.trans g⟩
theorem SD.below {w : World} {X Y : Nat} {a b P : ByteArray} {W W' : World} (H : SD w X Y a b P W) (hb : Below W.heap.size W W') : SD w X Y a b P W' := H.grow (grown_of_below hb none)
theorem SD.cls {w : World} {X Y : Nat} {a b P : ByteArray} {f : FuncId} {args : Array Value} {v : Value}
    (h : ∀ W, All W → Calls Tryd.prog f args W fun e w' => e = .returned v ∧ Below W.heap.size W w') : ∀ W, SD w X Y a b P W → Calls Tryd.prog f args W fun e w'' => e = .returned v ∧ SD w X Y a b P w'' :=
  fun W hW => (h W hW.all).mono fun _ _ h => ⟨h.1, hW.below h.2⟩
theorem quiet_ido {o : Oper} {a : Act} {C : World → Prop} {K : Act → Prop} (s : ByteArray) (hs : s.size = 32) (x : Operand) (ho : o.op = .load 23 x) (g off : Nat) (hx : a.eval x = .pointer (some ⟨g, off, none⟩))
    (hr : ∀ w, C w → w.rangeAt g off (idc s).toList) (hn : K (a.put o.dst (.agg (idc s)))) : o.quiet Tryd.prog a C K :=
  quiet_val (.agg (idc s)) (fun w hw => by
    have h := run_loadAt_mid (P := Tryd.prog) w g off 23 (idc s).toList _ (hr w hw) Tryd.underlying23 rfl (by rw [Array.length_toList]; exact info_32 (by rw [idc_size, hs]))
    unfold execOp
    simp only [ho, hx, h, Sem.run_bind, Result.andThen_ok]
    rfl) hn
theorem blk_range {w : World} {b : Nat} {C : Array Value} {T : TypeId} (h : Blk w b C T) : w.rangeAt b 0 C.toList := fun j v hv => by rw [h.cell, Nat.zero_add, ← hv, Array.getElem?_toList]
theorem idcs_one (s : ByteArray) : (idc s).all (·.oneCell') = true := Array.all_eq_true_iff_forall_mem.2 (by intro v hv; exact bvc_one _ v (by simpa [idc] using hv))
set_option maxHeartbeats 12000000 in
set_option maxRecDepth 100000 in
theorem sums_walk (s a b t : ByteArray) (k0 : Nat) (w : World) (hk : k0 < 256) (ha : a.size = 32) (hb : b.size = 32) (hs : s.size ≤ 140737488351232) (ht : t.size ≤ 140737488351232) (hA : All w) :
    Calls Tryd.prog 3 #[.string s, .int .u8 (k0 : Int), .agg (nmc a b t)] w fun e w' => e = .returned (.bool true) ∧ Below w.heap.size w w' := by
  obtain ⟨P, E, hP, p1, p2⟩ := parse_both t ht
  have HP1 : Hid (∀ w, All w → Calls Tryd.prog 4 #[.string t] w fun e w' => e = .returned (.tuple #[.agg (idc P), .int .i64 E]) ∧ Below w.heap.size w w') := p1
  have HP2 : Hid (∀ w, Calls Tryd.prog 5 #[.string t] w fun e w' => e = .returned (.tuple #[.agg (idc P), .int .i64 E]) ∧ Below w.heap.size w w') := p2
  have HA : Hid (All w) := hA
  clear hA p1 p2
  have hra : (w.alloc (.cells (nmc a b t) 25)).rangeAt w.heap.size 0 (idc a).toList := fun j v hv => by
    rw [Nat.zero_add, World.cell?_alloc_new]; exact nmc_a a b t ha j v hv
  have hrb : (w.alloc (.cells (nmc a b t) 25)).rangeAt w.heap.size 32 (idc b).toList := fun j v hv => by
    rw [World.cell?_alloc_new]; exact nmc_b a b t ha j v hv
  have hct : (w.alloc (.cells (nmc a b t) 25)).cell? ⟨w.heap.size, 64, none⟩ = some (.string t) := by
    rw [World.cell?_alloc_new]; exact nmc_t a b t ha hb
  obtain ⟨C, hC⟩ : ∃ C, C = nmc a b t := ⟨_, rfl⟩
  have hC65 : C.size = 65 := by rw [hC]; exact nmc_size a b t ha hb
  rw [← hC] at hra hrb hct ⊢
  have HC65 : Hid (C.size = 65) := hC65
  have HRA : Hid ((w.alloc (.cells C 25)).rangeAt w.heap.size 0 (idc a).toList) := hra
  have HRB : Hid ((w.alloc (.cells C 25)).rangeAt w.heap.size 32 (idc b).toList) := hrb
  clear hra hrb hC hC65
  have hs2 : (s.size : Int) ≤ 2000 ∨ ((2000 : Int) < s.size ∧ (2000 : Int) ≤ s.size) := by omega
  rcases hs2 with h2 | ⟨h2, h3⟩
  all_goals
    go_enter Tryd.func3, Tryd.ntmps3
    go_wp2_with (first
      | (go_at_call 4; refine (HP1.out _ (HA.out.alloc _)).mono ?_; rintro e w1 ⟨rfl, hb1⟩; have HB1 : Hid (Below (w.alloc (.cells C 25)).heap.size (w.alloc (.cells C 25)) w1) := hb1; clear hb1)
      | (refine wpList_store_abs rfl 23 (.tmp 7) (.tmp 20) rfl (idc P) _ 23 w1.heap.size rfl rfl rfl (info_32 (by rw [idc_size, hP])) (by rw [idc_size, hP]; rfl) (idcs_one P) ?_; intro w2 HX HG2 hz2
         have hct2 : w2.cell? ⟨w.heap.size, 64, none⟩ = some (.string t) := HG2.out.cell ((grown_of_below HB1.out none).cell hct (by simp)) (by simp))
      | (go_at_call 5; refine (HP2.out w2).mono ?_; rintro e w3 ⟨rfl, hb3⟩; have HB3 : Hid (Below w2.heap.size w2 w3) := hb3; clear hb3)
      | (refine wpList_store_abs rfl 23 (.tmp 9) (.tmp 26) rfl (idc P) _ 23 w3.heap.size rfl rfl rfl (info_32 (by rw [idc_size, hP])) (by rw [idc_size, hP]; rfl) (idcs_one P) ?_; intro w4 HY HG4 hz4))
    have g2 := (grown_of_below HB1.out none).trans HG2.out
    have g24 := (grown_of_below HB3.out none).trans HG4.out
    have HS : SD w w1.heap.size w3.heap.size a b P w4 := ⟨rangeD (rangeD HRA.out g2) g24, rangeD (rangeD HRB.out g2) g24, rangeD (blk_range HX.out) g24, blk_range HY.out, ((HA.out.alloc _).grown g2 (by simp)).grown g24 (by simp), ((World.grownBy_alloc w _ none).trans g2).trans g24⟩
    clear g2 g24 HX HG2 hz2 hct2 HB3 HY HG4 hz4 HB1 hct HRA HRB HA HP1 HP2 HC65
  all_goals first
    | (obtain ⟨p, hp⟩ : ∃ p, p = s.extract 0 2000 := ⟨_, rfl⟩
       rw [← hp]
       have hpz : p.size ≤ 2000 := by rw [hp]; simp; omega
       clear hp h2 h3)
    | (obtain ⟨p, hp⟩ : ∃ p, p = s := ⟨_, rfl⟩
       rw [← hp]
       have hpz : p.size ≤ 2000 := by rw [hp]; omega
       clear hp h2)
  all_goals
    obtain ⟨Q1, hQ1⟩ : ∃ Q1, Q1 = sb (sha (byl p)) := ⟨_, rfl⟩
    have zQ1 : Q1.size = 32 := by rw [hQ1]; exact sha_size _
    obtain ⟨Q2, hQ2⟩ : ∃ Q2, Q2 = sb (sha (whl k0 p)) := ⟨_, rfl⟩
    have zQ2 : Q2.size = 32 := by rw [hQ2]; exact sha_size _
    obtain ⟨T, hT⟩ : ∃ T, T = sb (hexL (bl a)) := ⟨_, rfl⟩
    obtain ⟨x, hx⟩ : ∃ x, x = lessB a b := ⟨_, rfl⟩
    have q1 := eql_ids Q1 Q1 zQ1 zQ1
    have q2 := eql_ids Q2 Q2 zQ2 zQ2
    have q3 := eql_ids P P hP hP
    have C1 : Hid (∀ W, SD w w1.heap.size w3.heap.size a b P W → Calls Tryd.prog 6 #[.string p] W fun e w'' => e = .returned (.agg (idc Q1)) ∧ SD w w1.heap.size w3.heap.size a b P w'') := SD.cls (fun W hW => by rw [hQ1]; exact sum_id p W hW.l (by omega))
    have C2 : Hid (∀ W, SD w w1.heap.size w3.heap.size a b P W → Calls Tryd.prog 7 #[.string p] W fun e w'' => e = .returned (.agg (idc Q1)) ∧ SD w w1.heap.size w3.heap.size a b P w'') := SD.cls (fun W hW => by rw [hQ1, ← shc_idc]; exact rSum_any p W (by omega))
    have C3 : Hid (∀ W, SD w w1.heap.size w3.heap.size a b P W → Calls Tryd.prog 8 #[.string p] W fun e w'' => e = .returned (.agg (idc Q1)) ∧ SD w w1.heap.size w3.heap.size a b P w'') := SD.cls (fun W hW => by rw [hQ1]; exact quick_id p W (by omega))
    have C4 : Hid (∀ W, SD w w1.heap.size w3.heap.size a b P W → Calls Tryd.prog 9 #[.int .u8 (k0 : Int), .string p] W fun e w'' => e = .returned (.agg (idc Q2)) ∧ SD w w1.heap.size w3.heap.size a b P w'') := SD.cls (fun W hW => by rw [hQ2]; exact of_id k0 p W hk hpz hW.l)
    have C5 : Hid (∀ W, SD w w1.heap.size w3.heap.size a b P W → Calls Tryd.prog 10 #[.int .u8 (k0 : Int), .string p] W fun e w'' => e = .returned (.agg (idc Q2)) ∧ SD w w1.heap.size w3.heap.size a b P w'') := SD.cls (fun W hW => by rw [hQ2, ← shc_idc]; exact rOf_any k0 p W hk hpz)
    have C6 : Hid (∀ W, SD w w1.heap.size w3.heap.size a b P W → Calls Tryd.prog 11 #[.agg (idc a)] W fun e w'' => e = .returned (.string T) ∧ SD w w1.heap.size w3.heap.size a b P w'') := SD.cls (fun W hW => by rw [hT]; exact text_any a W ha hW)
    have C7 : Hid (∀ W, SD w w1.heap.size w3.heap.size a b P W → Calls Tryd.prog 12 #[.agg (idc a)] W fun e w'' => e = .returned (.string T) ∧ SD w w1.heap.size w3.heap.size a b P w'') := SD.cls (fun W hW => by rw [hT]; exact rText_any a W ha)
    have C8 : Hid (∀ W, SD w w1.heap.size w3.heap.size a b P W → Calls Tryd.prog 13 #[.agg (idc a), .agg (idc b)] W fun e w'' => e = .returned (.bool x) ∧ SD w w1.heap.size w3.heap.size a b P w'') := SD.cls (fun W hW => by rw [hx]; exact less_any a b W ha hb)
    have C9 : Hid (∀ W, SD w w1.heap.size w3.heap.size a b P W → Calls Tryd.prog 14 #[.agg (idc a), .agg (idc b)] W fun e w'' => e = .returned (.bool x) ∧ SD w w1.heap.size w3.heap.size a b P w'') := SD.cls (fun W hW => by rw [hx]; exact rLess_any a b W ha hb)
    have C10 : Hid (∀ W, SD w w1.heap.size w3.heap.size a b P W → Calls Tryd.prog 15 #[] W fun e w'' => e = .returned (.bool true) ∧ SD w w1.heap.size w3.heap.size a b P w'') := SD.cls (fun W hW => awake_any W hW)
    clear hQ1 hQ2 hT hx hs ht
    cases x
    all_goals
      refine wp_region_class (SD w w1.heap.size w3.heap.size a b P) (by kernel_rfl) (by kernel_rfl) (HS.grow (Lib.Hx.grownBy_drew (World.grownBy.refl _ _))) ?_
      repeat (first
        | go_big_quiet_skip
        | (go_big_quiet_want
           first
               | (refine quiet_ido P hP _ rfl w1.heap.size 0 rfl (fun _ h => h.rx) ?_; go_big_quiet_on; simp only [Act.put, List.setIfInBounds_toArray, List.set_cons_zero, List.set_cons_succ])
               | (refine quiet_ido P hP _ rfl w3.heap.size 0 rfl (fun _ h => h.ry) ?_; go_big_quiet_on; simp only [Act.put, List.setIfInBounds_toArray, List.set_cons_zero, List.set_cons_succ])
               | (refine quiet_ido a ha _ rfl w.heap.size 0 rfl (fun _ h => h.ra) ?_; go_big_quiet_on; simp only [Act.put, List.setIfInBounds_toArray, List.set_cons_zero, List.set_cons_succ])
               | (refine quiet_ido b hb _ rfl w.heap.size 32 rfl (fun _ h => h.rb) ?_; go_big_quiet_on; simp only [Act.put, List.setIfInBounds_toArray, List.set_cons_zero, List.set_cons_succ])
               | (refine quiet_val (.bool true) ?_ ?_; (focus (intro W hW; go_simp; done)); go_big_quiet_on; simp only [Act.put, List.setIfInBounds_toArray, List.set_cons_zero, List.set_cons_succ])
               | (refine quiet_val (.pointer (some ⟨w.heap.size, 0, none⟩)) ?_ ?_; (focus (intro W hW; go_simp; done)); go_big_quiet_on; simp only [Act.put, List.setIfInBounds_toArray, List.set_cons_zero, List.set_cons_succ])
               | (refine quiet_val (.pointer (some ⟨w.heap.size, 32, none⟩)) ?_ ?_; (focus (intro W hW; go_simp; done)); go_big_quiet_on; simp only [Act.put, List.setIfInBounds_toArray, List.set_cons_zero, List.set_cons_succ])
               | (refine quiet_call (.agg (idc Q1)) 6 #[.string p] ?_ ?_ ?_; (focus (intro W hW; go_simp; done)); (focus (intro W hW; exact C1.out W hW)); go_big_quiet_on; simp only [Act.put, List.setIfInBounds_toArray, List.set_cons_zero, List.set_cons_succ])
               | (refine quiet_call (.agg (idc Q1)) 7 #[.string p] ?_ ?_ ?_; (focus (intro W hW; go_simp; done)); (focus (intro W hW; exact C2.out W hW)); go_big_quiet_on; simp only [Act.put, List.setIfInBounds_toArray, List.set_cons_zero, List.set_cons_succ])
               | (refine quiet_call (.agg (idc Q1)) 8 #[.string p] ?_ ?_ ?_; (focus (intro W hW; go_simp; done)); (focus (intro W hW; exact C3.out W hW)); go_big_quiet_on; simp only [Act.put, List.setIfInBounds_toArray, List.set_cons_zero, List.set_cons_succ])
               | (refine quiet_call (.agg (idc Q2)) 9 #[.int .u8 (k0 : Int), .string p] ?_ ?_ ?_; (focus (intro W hW; go_simp; done)); (focus (intro W hW; exact C4.out W hW)); go_big_quiet_on; simp only [Act.put, List.setIfInBounds_toArray, List.set_cons_zero, List.set_cons_succ])
               | (refine quiet_call (.agg (idc Q2)) 10 #[.int .u8 (k0 : Int), .string p] ?_ ?_ ?_; (focus (intro W hW; go_simp; done)); (focus (intro W hW; exact C5.out W hW)); go_big_quiet_on; simp only [Act.put, List.setIfInBounds_toArray, List.set_cons_zero, List.set_cons_succ])
               | (refine quiet_call (.string T) 11 #[.agg (idc a)] ?_ ?_ ?_; (focus (intro W hW; go_simp; done)); (focus (intro W hW; exact C6.out W hW)); go_big_quiet_on; simp only [Act.put, List.setIfInBounds_toArray, List.set_cons_zero, List.set_cons_succ])
               | (refine quiet_call (.string T) 12 #[.agg (idc a)] ?_ ?_ ?_; (focus (intro W hW; go_simp; done)); (focus (intro W hW; exact C7.out W hW)); go_big_quiet_on; simp only [Act.put, List.setIfInBounds_toArray, List.set_cons_zero, List.set_cons_succ])
               | (refine quiet_call (.bool true) 13 #[.agg (idc a), .agg (idc b)] ?_ ?_ ?_; (focus (intro W hW; go_simp; done)); (focus (intro W hW; exact C8.out W hW)); go_big_quiet_on; simp only [Act.put, List.setIfInBounds_toArray, List.set_cons_zero, List.set_cons_succ])
               | (refine quiet_call (.bool false) 13 #[.agg (idc a), .agg (idc b)] ?_ ?_ ?_; (focus (intro W hW; go_simp; done)); (focus (intro W hW; exact C8.out W hW)); go_big_quiet_on; simp only [Act.put, List.setIfInBounds_toArray, List.set_cons_zero, List.set_cons_succ])
               | (refine quiet_call (.bool true) 14 #[.agg (idc a), .agg (idc b)] ?_ ?_ ?_; (focus (intro W hW; go_simp; done)); (focus (intro W hW; exact C9.out W hW)); go_big_quiet_on; simp only [Act.put, List.setIfInBounds_toArray, List.set_cons_zero, List.set_cons_succ])
               | (refine quiet_call (.bool false) 14 #[.agg (idc a), .agg (idc b)] ?_ ?_ ?_; (focus (intro W hW; go_simp; done)); (focus (intro W hW; exact C9.out W hW)); go_big_quiet_on; simp only [Act.put, List.setIfInBounds_toArray, List.set_cons_zero, List.set_cons_succ])
               | (refine quiet_call (.bool true) 15 #[] ?_ ?_ ?_; (focus (intro W hW; go_simp; done)); (focus (intro W hW; exact C10.out W hW)); go_big_quiet_on; simp only [Act.put, List.setIfInBounds_toArray, List.set_cons_zero, List.set_cons_succ])
               | (go_big_quiet_op; go_big_quiet_on)))
      refine wpQuiet_nil ?_
      intro w' hw'
      go_wp2
      go_ret
      exact ⟨rfl, below_of_grown hw'.grown⟩
end Go.Proofs.YtijpdnoloicfjaaDoor
