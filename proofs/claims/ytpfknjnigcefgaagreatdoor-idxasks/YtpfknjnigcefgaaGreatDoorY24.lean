import Derived.Test.YtpfknjnigcefgaaGreatDoorY23
import Derived.Test.YtpfknjnigcefgaaGreatDoorY10
import Derived.Test.YtpfknjnigcefgaaGreatDoorY11
import Derived.Test.YtpfknjnigcefgaaGreatDoorY22
import Derived.Test.YtpfknjnigcefgaaGreatDoorY8
import Derived.Laws.StructEq
/- The document's Find. -/
namespace Go.Proofs.YtpfknjnigcefgaaGreatDoor
open Go.RowKit
set_option linter.unusedSimpArgs false
set_option linter.unusedVariables false
theorem fnd_here {l : List Xe} {x : ByteArray} {k : Nat} {e : Xe} (h : ∀ y ∈ l.take k, y.id ≠ x) (he : l[k]? = some e) (hx : e.id = x) : fnd l x = some e := by
  have hlt : k < l.length := (List.getElem?_eq_some_iff.1 he).1
  have e1 : l = l.take k ++ e :: l.drop (k + 1) := by
    have q : l[k] = e := by rw [List.getElem?_eq_getElem hlt] at he; exact Option.some.inj he
    rw [← q, List.getElem_cons_drop hlt, List.take_append_drop]
  unfold fnd
  rw [e1, List.find?_append]
  have : (l.take k).find? (fun e => decide (e.id = x)) = none := List.find?_eq_none.2 (fun y hy => by simpa using h y hy)
  rw [this]
  simp [hx]
theorem fnd_gone {l : List Xe} {x : ByteArray} (h : ∀ y ∈ l, y.id ≠ x) : fnd l x = none := List.find?_eq_none.2 (fun y hy => by simpa using h y hy)
/-- While one is sought. -/
structure RfS (w : World) (g : Nat) (s x : ByteArray) (l : List Xe) (W : World) : Prop where
  bx : Bk W w.heap.size (idc x) 23
  bz : Bk W (w.heap.size + 1) z35X 56
  ix : RIx W g s l
  bel : Below w.heap.size w W
theorem RfS.next {w W W' : World} {g : Nat} {s x : ByteArray} {l : List Xe} (h : RfS w g s x l W) (hb : Below W.heap.size W W') : RfS w g s x l W' := ⟨h.bx.below hb h.bx.lt, h.bz.below hb h.bz.lt, h.ix.below hb, h.bel.trans (hb.mono h.bel.size)⟩
set_option maxHeartbeats 4000000 in
set_option maxRecDepth 100000 in
theorem rfind13 (g : Nat) (s x : ByteArray) (l : List Xe) (w : World) (h : RIx w g s l) (hx : x.size = 32) (hn : l.length ≤ 65536) :
    Calls Tryz.prog 52 #[.pointer (some ⟨g, 0, none⟩), .agg (idc x)] w fun r w' => r = .returned (fdV (fnd l x)) ∧ Below w.heap.size w w' := by
  obtain ⟨n, hl⟩ : ∃ n, l.length = n := ⟨_, rfl⟩
  have HL : Hid (l.length = n) := hl
  have hn7 : n ≤ 70000 := by omega
  obtain ⟨D, hD⟩ : ∃ D, idc x = D := ⟨_, rfl⟩
  have HD : Hid (idc x = D ∧ x.size = 32) := ⟨hD, hx⟩
  have HZ0 : Hid (RfS w g s x l ((w.alloc (.cells D 23)).alloc (.cells z35X 56))) := by
    have q := bk_new (w.alloc (.cells D 23)) z35X 56
    rw [al_size] at q
    have hb : Below w.heap.size w ((w.alloc (.cells D 23)).alloc (.cells z35X 56)) := ((Below.refl _ _).alloc (Nat.le_refl _) _).alloc (by rw [al_size]; omega) _
    exact ⟨by rw [hD]; exact (bk_new _ _ _).alloc _, q, h.below hb, hb⟩
  have hz : ∀ w, (zeroValue 56).run Tryz.prog w = .ok (.agg z35X) w := Tryz.zeroValue56
  rw [hD]
  clear hl hD h hn hx
  go_enter Tryz.func52, Tryz.ntmps52
  go_wp2
  go_loopw [6] (fun v wr => ∃ k : Nat, v = .int .i64 k ∧ k ≤ n ∧ Hid (RfS w g s x l wr ∧ ∀ y ∈ l.take k, y.id ≠ x)) (fun v _ => n - (intOf v).toNat)
  case atStart => exact ⟨0, rfl, Nat.zero_le _, HZ0.out, fun y hy => by simp at hy⟩
  case round =>
    obtain ⟨k, rfl, hk, HR⟩ := hrel
    clear HZ0
    obtain ⟨a, n', c, hB, hX, hl, hc, hA⟩ := HR.out.1.ix.row
    rw [HL.out] at hl
    subst hl
    have hgl := hB.lt
    have CS : Hid (∀ W, Below wr.heap.size wr W → W.cell? ⟨g, 32, none⟩ = some (.slice a n c)) := fun W hW => by
      rw [(hB.below hW hgl).cell]; exact rixC_at s _ HR.out.1.ix.id
    have cs0 := CS.out wr (Below.refl _ _)
    have cs1 := CS.out wr.drew (Below.refl _ _).drew
    have HXW : Hid (XeL wr a l) := hX
    clear hB hX hc hA
    by_cases hlt : k < n
    · have hkz : (k : Int) < (n : Int) := by omega
      obtain ⟨e, he⟩ : ∃ e, l[k]? = some e := ⟨_, List.getElem?_eq_getElem (by rw [HL.out]; exact hlt)⟩
      obtain ⟨ga, oa, rfl, hga, h32, hcells⟩ := HXW.out.get he
      obtain ⟨X, hX⟩ : ∃ X, xeC e = X := ⟨_, rfl⟩
      obtain ⟨I, hI⟩ : ∃ I, idc e.id = I := ⟨_, rfl⟩
      have HCX : Hid (∀ W, Below wr.heap.size wr W → ∀ j v, X[j]? = some v → W.cell? ⟨ga, oa + k * 35 + j, none⟩ = some v) := fun W hW j v hv => by rw [hW.cell (p := ⟨ga, oa + k * 35 + j, none⟩) hga]; exact hcells j v (by rw [hX]; exact hv)
      have HCI : Hid (∀ W, Below wr.heap.size wr W → ∀ j v, I[j]? = some v → W.cell? ⟨ga, oa + k * 35 + j, none⟩ = some v) := fun W hW j v hv => HCX.out W hW j v (by rw [← hX]; have := xeC_id e h32 j v (by rw [hI]; exact hv); rwa [Nat.zero_add] at this)
      have HII : Hid ((Tryz.prog.info? 23).map (·.size) = some I.size ∧ (Tryz.prog.info? 23).map (·.size) = some D.size) := ⟨by rw [← hI]; exact info_32 (by rw [idc_size, h32]), by rw [← HD.out.1]; exact info_32 (by rw [idc_size, HD.out.2])⟩
      have HCD : Hid (∀ W, Below wr.heap.size wr W → Bk W w.heap.size D 23) := fun W hW => by rw [← HD.out.1]; exact HR.out.1.bx.below hW HR.out.1.bx.lt
      have hEQ : ∀ u, (binOp .eql 23 (.agg I) (.agg D)).run Tryz.prog u = .ok (.bool (decide (e.id = x))) u := fun u => by rw [← hI, ← HD.out.1]; exact eql_ids e.id x h32 HD.out.2 u
      have HIX : Hid ((Tryz.prog.info? 56).map (·.size) = some X.toList.length ∧ X.all (·.oneCell') = true ∧ X.size = 35 ∧ (Tryz.prog.info? 56).map (·.size) = some X.size) := by rw [← hX]; exact ⟨by rw [inf_xr35, Array.length_toList, xeC_size e h32], xeC_all e, xeC_size e h32, by rw [inf_xr35, xeC_size e h32]⟩
      have HXE : Hid (xeC e = X ∧ l[k]? = some e) := ⟨hX, he⟩
      obtain ⟨b, hb⟩ : ∃ b, decide (e.id = x) = b := ⟨_, rfl⟩
      rw [hb] at hEQ
      clear hcells hX hI h32 he
      go_wp2
      refine region_class10 (fun W => Below wr.heap.size wr W) (by kernel_rfl) (by kernel_rfl) ((Below.refl _ _).drew) ?_
      try simp only [Act.put, List.setIfInBounds_toArray, List.set_cons_zero, List.set_cons_succ]
      repeat (first
        | go_big_quiet_skip
        | (go_big_quiet_want
           first
             | (refine quiet_one 24 _ rfl g 32 (.slice (some ⟨ga, oa, none⟩) n c) rfl (fun _ => by kernel_rfl) (fun W hW => CS.out W hW) ?_; go_big_quiet_on; simp only [Act.put, List.setIfInBounds_toArray, List.set_cons_zero, List.set_cons_succ])
             | (refine quiet_rowc 23 _ rfl ga (oa + k * 35) I _ rfl HCI.out Tryz.underlying23 rfl HII.out.1 ?_; go_big_quiet_on; simp only [Act.put, List.setIfInBounds_toArray, List.set_cons_zero, List.set_cons_succ])
             | (refine quiet_row 23 _ rfl w.heap.size 0 D D 23 _ rfl HCD.out (fun j v hv => by rw [Nat.zero_add]; exact hv) Tryz.underlying23 rfl HII.out.2 ?_; go_big_quiet_on; simp only [Act.put, List.setIfInBounds_toArray, List.set_cons_zero, List.set_cons_succ])
             | (refine quiet_val10 (.bool b) ?_ ?_; (focus (intro W hW; go_simp; done)); go_big_quiet_on; simp only [Act.put, List.setIfInBounds_toArray, List.set_cons_zero, List.set_cons_succ])
             | (refine quiet_val10 (.pointer (some ⟨g, 0, none⟩)) ?_ ?_; (focus (intro W hW; go_simp; done)); go_big_quiet_on; simp only [Act.put, List.setIfInBounds_toArray, List.set_cons_zero, List.set_cons_succ])
             | (refine quiet_val10 (.pointer (some ⟨g, 32, none⟩)) ?_ ?_; (focus (intro W hW; go_simp; done)); go_big_quiet_on; simp only [Act.put, List.setIfInBounds_toArray, List.set_cons_zero, List.set_cons_succ])
             | (refine quiet_val10 (.pointer (some ⟨ga, oa + k * 35, none⟩)) ?_ ?_; (focus (intro W hW; go_simp; done)); go_big_quiet_on; simp only [Act.put, List.setIfInBounds_toArray, List.set_cons_zero, List.set_cons_succ])
             | (go_big_quiet_op; go_big_quiet_on)))
      refine wpQuiet_nil ?_
      intro w9 hw9
      have H9 : Hid (RfS w g s x l w9) := HR.out.1.next hw9
      have HB9 : Hid (Below wr.heap.size wr w9) := hw9
      have cs9 := CS.out w9 hw9
      clear hw9 cs0 cs1 hEQ
      cases b with
      | false =>
        have HN : Hid (∀ y ∈ l.take (k + 1), y.id ≠ x) := fun y hy => by
          rw [List.take_add_one, HXE.out.2] at hy
          rcases List.mem_append.1 hy with q | q
          · exact HR.out.2 y q
          · simp at q
            subst q
            exact of_decide_eq_false hb
        clear HR hb
        go_wp2
        go_roundw
        case rel => exact ⟨k + 1, by go_num, by omega, H9.out, HN.out⟩
        case measure => simp [intOf]; omega
      | true =>
        have HF : Hid (fnd l x = some e) := fnd_here HR.out.2 HXE.out.2 (of_decide_eq_true hb)
        clear HR hb
        go_wp2_with (first
          | (refine wpList_load_mid rfl 56 (.tmp 31) rfl ga (oa + k * 35) rfl X.toList _ (fun j v hv => HCX.out _ HB9.out j v (by rwa [Array.getElem?_toList] at hv)) Tryz.underlying56 rfl HIX.out.1 ?_)
          | (refine wpList_stoX rfl 56 (.tmp 4) (.tmp 32) rfl (w.heap.size + 1) X z35X 56 rfl rfl H9.out.bz HIX.out.2.2.2 (by rw [HIX.out.2.2.1]; rfl) HIX.out.2.1 ?_; intro w7 HB7 HG7)
          | fail)
        refine bodyPost_ret (results_cell_tmp_row rfl _ _ (w.heap.size + 1) 56 X (0, 0) _ rfl HB7.out Tryz.underlying56 rfl HIX.out.2.2.2) rfl ⟨by rw [HF.out]; show _ = Ending.returned (.tuple #[.agg (xeC e), .int .i64 0]); rw [HXE.out.1]; rfl, ?_⟩
        exact below_own H9.out.bel H9.out.bel.size HG7.out (by omega)
    · have hkz : ¬ (k : Int) < (n : Int) := by omega
      have HF : Hid (fnd l x = none) := fnd_gone (fun y hy => HR.out.2 y (by rw [List.take_of_length_le (by rw [HL.out]; omega)]; exact hy))
      have H9 : Hid (RfS w g s x l wr) := HR.out.1
      have hbz : ∀ w, (Instr.build 56 #[]).run Tryz.prog w = .ok (.agg z35X) w := fun w => by kernel_rfl
      clear HR
      go_wp2_with (first
        | (refine wpList_bdX0 rfl 56 rfl (.agg z35X) (hbz _) ?_)
        | (refine wpList_stoX rfl 56 (.tmp 4) (.tmp 33) rfl (w.heap.size + 1) z35X z35X 56 rfl rfl H9.out.bz inf_xr35c rfl z35_all ?_; intro w7 HB7 HG7)
        | fail)
      refine bodyPost_ret (results_cell_tmp_row rfl _ _ (w.heap.size + 1) 56 z35X (0, 0) _ rfl HB7.out Tryz.underlying56 rfl inf_xr35c) rfl ⟨by rw [HF.out]; rfl, ?_⟩
      exact below_own H9.out.bel H9.out.bel.size HG7.out (by omega)
end Go.Proofs.YtpfknjnigcefgaaGreatDoor
/- idx.Index: At, Pack. -/
namespace Go.Proofs.YtpfknjnigcefgaaGreatDoor
open Go.RowKit
set_option linter.unusedSimpArgs false
set_option linter.unusedVariables false
set_option maxHeartbeats 1000000 in
set_option maxRecDepth 100000 in
theorem pack_any (g : Nat) (s : ByteArray) (l : List Xe) (w : World) (h : IxS w g s l) : Calls Tryz.prog 51 #[.pointer (some ⟨g, 0, none⟩)] w fun e w' => e = .returned (.agg (idc s)) ∧ Below w.heap.size w w' := by
  obtain ⟨a, n, c, hB, hX, hl, hc, hA⟩ := h.row
  have hs := h.id
  obtain ⟨D, hD⟩ : ∃ D, idc s = D := ⟨_, rfl⟩
  obtain ⟨Z, hZ⟩ : ∃ Z, ixC s (fanL l) (.slice a n c) = Z := ⟨_, rfl⟩
  have HI : Hid ((Tryz.prog.info? 23).map (·.size) = some D.size ∧ D.all (·.oneCell') = true ∧ D.size = 32) := by rw [← hD]; exact ⟨info_32 (by rw [idc_size, hs]), idc_allX s, by rw [idc_size, hs]⟩
  have HZ : Hid (∀ j v, D[j]? = some v → Z[0 + j]? = some v) := fun j v hv => by rw [← hZ]; exact ixC_id s _ _ hs j v (by rw [hD]; exact hv)
  rw [hZ] at hB
  rw [hD]
  have H1 : Hid (Bk (w.alloc (.cells z32c 23)) g Z 104 ∧ Bk (w.alloc (.cells z32c 23)) w.heap.size z32c 23 ∧ Below w.heap.size w (w.alloc (.cells z32c 23))) := ⟨hB.alloc _, bk_new _ _ _, (Below.refl _ _).alloc (Nat.le_refl _) _⟩
  have hz := zero_id
  clear h hB hX hl hc hA hs hD hZ
  go_enter Tryz.func51, Tryz.ntmps51
  go_wp2_with (first
    | (refine wpList_get rfl 23 (.tmp 8) rfl g 0 Z D 104 _ rfl H1.out.1 HZ.out Tryz.underlying23 rfl HI.out.1 ?_)
    | (refine wpList_stoX rfl 23 (.tmp 2) (.tmp 9) rfl w.heap.size D z32c 23 rfl rfl H1.out.2.1 HI.out.1 (by rw [HI.out.2.2]; exact z32c_size) HI.out.2.1 ?_; intro w7 HB7 HG7)
    | fail)
  refine bodyPost_ret (results_cell_row rfl _ _ w.heap.size 23 D (0, 0) _ rfl HB7.out Tryz.underlying23 rfl HI.out.1) rfl ⟨rfl, ?_⟩
  exact below_own H1.out.2.2 H1.out.2.2.size HG7.out (Nat.le_refl _)
set_option maxHeartbeats 4000000 in
set_option maxRecDepth 100000 in
theorem at_yes (g : Nat) (s : ByteArray) (l : List Xe) (i : Nat) (e : Xe) (w : World) (h : IxS w g s l) (he : l[i]? = some e) (hn : l.length ≤ 65536) : Calls Tryz.prog 53 #[.pointer (some ⟨g, 0, none⟩), .int .i64 (i : Int)] w fun r w' => r = .returned (.tuple #[.agg (xeC e), .int .i64 0]) ∧ Below w.heap.size w w' := by
  obtain ⟨a, n, c, hB, hX, hl, hc, hA⟩ := h.row
  have hin : i < n := by rw [← hl]; exact (List.getElem?_eq_some_iff.1 he).1
  have hiz : (i : Int) < (n : Nat) := by omega
  have hi0 : (0 : Int) ≤ i := by omega
  have hi1 : ¬ (i : Int) < 0 := by omega
  have hi2 : ¬ (n : Int) ≤ i := by omega
  obtain ⟨ga, oa, rfl, hga, h32, hcells⟩ := hX.get he
  have hrow : ∀ W, Below w.heap.size w W → W.cell? ⟨g, 288, none⟩ = some (.slice (some ⟨ga, oa, none⟩) n c) := fun W hW => by
    rw [(hB.below hW hB.lt).cell]; exact ixC_row s _ _ h.id
  have hz : ∀ w, (zeroValue 34).run Tryz.prog w = .ok (.agg z35X) w := Tryz.zeroValue34
  obtain ⟨X, hXe⟩ : ∃ X, xeC e = X := ⟨_, rfl⟩
  have HIX : Hid ((Tryz.prog.info? 34).map (·.size) = some X.toList.length ∧ X.all (·.oneCell') = true ∧ X.size = 35) := by rw [← hXe]; exact ⟨by rw [inf_xe35, Array.length_toList, xeC_size e h32], xeC_all e, xeC_size e h32⟩
  have hb1 : Below w.heap.size w (w.alloc (.cells z35X 34)) := (Below.refl _ _).alloc (Nat.le_refl _) _
  have hrow1 := hrow _ hb1
  have HB1 : Hid (Bk (w.alloc (.cells z35X 34)) w.heap.size z35X 34 ∧ Below w.heap.size w (w.alloc (.cells z35X 34))) := ⟨bk_new _ _ _, hb1⟩
  have HCE : Hid (∀ j v, X[j]? = some v → (w.alloc (.cells z35X 34)).cell? ⟨ga, oa + i * 35 + j, none⟩ = some v) := fun j v hv => by
    rw [hb1.cell hga]; exact hcells j v (by rw [hXe]; exact hv)
  rw [hXe]
  clear h hB hX hl hc hA hcells hrow hb1 hXe he h32
  go_enter Tryz.func53, Tryz.ntmps53
  go_wp2_with (first
    | (refine wpList_load_mid rfl 34 (.tmp 26) rfl ga (oa + i * 35) rfl X.toList _ (fun j v hv => HCE.out j v (by rwa [Array.getElem?_toList] at hv)) Tryz.underlying34 rfl HIX.out.1 ?_)
    | (refine wpList_stoX rfl 34 (.tmp 4) (.tmp 27) rfl w.heap.size X z35X 34 rfl rfl HB1.out.1 (info_xe HIX.out.2.2) (by rw [HIX.out.2.2]; rfl) HIX.out.2.1 ?_; intro w7 HB7 HG7)
    | fail)
  refine bodyPost_ret (results_cell_tmp_row rfl _ _ w.heap.size 34 X (0, 0) _ rfl HB7.out Tryz.underlying34 rfl (info_xe HIX.out.2.2)) rfl ⟨rfl, ?_⟩
  exact below_own HB1.out.2 HB1.out.2.size HG7.out (Nat.le_refl _)
end Go.Proofs.YtpfknjnigcefgaaGreatDoor
/- At and Find of both, in one form. -/
namespace Go.Proofs.YtpfknjnigcefgaaGreatDoor
open Go.RowKit
set_option linter.unusedSimpArgs false
set_option linter.unusedVariables false
/-- An entry of nothing. -/
def zX : Xe := ⟨⟨(List.replicate 32 (0 : UInt8)).toArray⟩, 0, 0, 0⟩
theorem zX_id : zX.id.size = 32 := by decide
theorem zX_cells : xeC zX = z35X := by kernel_rfl
theorem fdV_one (o : Option Xe) (h : ∀ e, o = some e → e.id.size = 32) : ∃ e E, fdV o = .tuple #[.agg (xeC e), .int .i64 E] ∧ e.id.size = 32 := by
  cases o with
  | none => exact ⟨zX, 6, by rw [zX_cells]; rfl, zX_id⟩
  | some e => exact ⟨e, 0, rfl, h e rfl⟩
theorem atV_one (l : List Xe) (i : Int) (h : ∀ e ∈ l, e.id.size = 32) : ∃ e E, atV l i = .tuple #[.agg (xeC e), .int .i64 E] ∧ e.id.size = 32 := by
  unfold atV
  split
  · exact ⟨zX, 1, by rw [zX_cells], zX_id⟩
  · split
    · exact ⟨zX, 1, by rw [zX_cells], zX_id⟩
    · next e he => exact ⟨e, 0, rfl, h e (List.mem_of_getElem? he)⟩
set_option maxHeartbeats 4000000 in
set_option maxRecDepth 100000 in
theorem at_noX (g : Nat) (s : ByteArray) (l : List Xe) (i : Int) (w : World) (h : IxS w g s l) (hi : i < 0 ∨ (l.length : Int) ≤ i) : Calls Tryz.prog 53 #[.pointer (some ⟨g, 0, none⟩), .int .i64 i] w fun r w' => r = .returned (.tuple #[.agg z35X, .int .i64 1]) ∧ Below w.heap.size w w' := by
  obtain ⟨a, n, c, hB, hX, hl, hc, hA⟩ := h.row
  have hrow : ∀ W, Below w.heap.size w W → W.cell? ⟨g, 288, none⟩ = some (.slice a n c) := fun W hW => by
    rw [(hB.below hW hB.lt).cell]; exact ixC_row s _ _ h.id
  have hb1 : Below w.heap.size w (w.alloc (.cells z35X 34)) := (Below.refl _ _).alloc (Nat.le_refl _) _
  have hrow1 := hrow _ hb1
  have HB1 : Hid (Bk (w.alloc (.cells z35X 34)) w.heap.size z35X 34 ∧ Below w.heap.size w (w.alloc (.cells z35X 34))) := ⟨bk_new _ _ _, hb1⟩
  have hz : ∀ w, (zeroValue 34).run Tryz.prog w = .ok (.agg z35X) w := Tryz.zeroValue34
  have hbz : ∀ w, (Instr.build 34 #[]).run Tryz.prog w = .ok (.agg z35X) w := fun w => by kernel_rfl
  rw [hl] at hi
  clear h hB hX hl hc hA hrow hb1
  by_cases h0 : i < 0
  · clear hi
    go_enter Tryz.func53, Tryz.ntmps53
    go_wp2_with (first
      | (refine wpList_bdX0 rfl 34 rfl (.agg z35X) (hbz _) ?_)
      | (refine wpList_stoX rfl 34 (.tmp 4) (.tmp 20) rfl w.heap.size z35X z35X 34 rfl rfl HB1.out.1 inf_xe35 rfl z35_all ?_; intro w7 HB7 HG7)
      | fail)
    refine bodyPost_ret (results_cell_tmp_row rfl _ _ w.heap.size 34 z35X (0, 0) _ rfl HB7.out Tryz.underlying34 rfl inf_xe35) rfl ⟨rfl, ?_⟩
    exact below_own HB1.out.2 HB1.out.2.size HG7.out (Nat.le_refl _)
  · have h1 : (n : Int) ≤ i := by omega
    clear hi
    go_enter Tryz.func53, Tryz.ntmps53
    go_wp2_with (first
      | (refine wpList_bdX0 rfl 34 rfl (.agg z35X) (hbz _) ?_)
      | (refine wpList_stoX rfl 34 (.tmp 4) (.tmp 20) rfl w.heap.size z35X z35X 34 rfl rfl HB1.out.1 inf_xe35 rfl z35_all ?_; intro w7 HB7 HG7)
      | fail)
    refine bodyPost_ret (results_cell_tmp_row rfl _ _ w.heap.size 34 z35X (0, 0) _ rfl HB7.out Tryz.underlying34 rfl inf_xe35) rfl ⟨rfl, ?_⟩
    exact below_own HB1.out.2 HB1.out.2.size HG7.out (Nat.le_refl _)
theorem at_any (g : Nat) (s : ByteArray) (l : List Xe) (i : Int) (w : World) (h : IxS w g s l) (hn : l.length ≤ 65536) : Calls Tryz.prog 53 #[.pointer (some ⟨g, 0, none⟩), .int .i64 i] w fun r w' => r = .returned (atV l i) ∧ Below w.heap.size w w' := by
  unfold atV
  by_cases hi : i < 0 ∨ (l.length : Int) ≤ i
  · rw [if_pos hi]; exact at_noX g s l i w h hi
  · rw [if_neg hi]
    obtain ⟨k, rfl⟩ := Int.eq_ofNat_of_zero_le (show 0 ≤ i by omega)
    have hk : k < l.length := by omega
    rw [Int.toNat_natCast, List.getElem?_eq_getElem hk]
    exact at_yes g s l k _ w h (List.getElem?_eq_getElem hk) hn
theorem rat13_any (g : Nat) (s : ByteArray) (l : List Xe) (i : Int) (w : World) (h : RIx w g s l) (hn : l.length ≤ 65536) : Calls Tryz.prog 54 #[.pointer (some ⟨g, 0, none⟩), .int .i64 i] w fun r w' => r = .returned (atV l i) ∧ Below w.heap.size w w' := by
  unfold atV
  by_cases hi : i < 0 ∨ (l.length : Int) ≤ i
  · rw [if_pos hi]; exact rat13_no g s l i w h hi hn
  · rw [if_neg hi]
    obtain ⟨k, rfl⟩ := Int.eq_ofNat_of_zero_le (show 0 ≤ i by omega)
    have hk : k < l.length := by omega
    rw [Int.toNat_natCast, List.getElem?_eq_getElem hk]
    exact rat13_yes g s l k _ w h (List.getElem?_eq_getElem hk) hn
end Go.Proofs.YtpfknjnigcefgaaGreatDoor
/- The document's Range. -/
namespace Go.Proofs.YtpfknjnigcefgaaGreatDoor
open Go.RowKit
set_option linter.unusedSimpArgs false
set_option linter.unusedVariables false
theorem cnt_nextB (l : List Xe) (b i : Nat) (e : Xe) (he : l[i]? = some e) : fanB (l.take (i + 1)) b = fanB (l.take i) b + if fst8 e < b then 1 else 0 := by
  rw [List.take_add_one, he, fanB, fanB, Option.toList_some, List.countP_append]
  congr 1
  by_cases h : fst8 e < b <;> simp [h]
theorem ret_ii {a b c d : Int} (h : a = c) (k : b = d) : Ending.returned (.tuple #[.int .i64 a, .int .i64 b]) = .returned (.tuple #[.int .i64 c, .int .i64 d]) := by rw [h, k]
set_option maxHeartbeats 4000000 in
set_option maxRecDepth 100000 in
theorem rrange13 (g : Nat) (s : ByteArray) (l : List Xe) (b : Nat) (w : World) (h : RIx w g s l) (hb : b < 256) (hn : l.length ≤ 65536) :
    Calls Tryz.prog 56 #[.pointer (some ⟨g, 0, none⟩), .int .u8 (b : Int)] w fun r w' => r = .returned (.tuple #[.int .i64 (fanB l b : Int), .int .i64 (fanL l b : Int)]) ∧ w' = w := by
  obtain ⟨a, n, c, hB, hX, hl, hc, hA⟩ := h.row
  have cs : w.cell? ⟨g, 32, none⟩ = some (.slice a n c) := by rw [hB.cell]; exact rixC_at s _ h.id
  have HX : Hid (XeL w a l) := hX
  have HL : Hid (l.length = n) := hl
  have hn7 : n ≤ 70000 := by omega
  clear h hB hX hl hc hA hn
  go_enter Tryz.func56, Tryz.ntmps56
  go_wp2
  go_loop [6, 7, 8] (fun p q v => ∃ k P Q : Nat, k ≤ n ∧ P ≤ k ∧ Q ≤ k ∧ v = .int .i64 k ∧ p = .int .i64 P ∧ q = .int .i64 Q ∧ Hid (fanB (l.take k) b = P ∧ fanL (l.take k) b = Q)) (fun _ _ v => n - (intOf v).toNat)
  case atStart => exact ⟨0, 0, 0, Nat.zero_le _, Nat.le_refl _, Nat.le_refl _, rfl, rfl, rfl, by rw [List.take_zero]; exact ⟨rfl, rfl⟩⟩
  case round =>
    obtain ⟨k, P, Q, hk, hP, hQ, rfl, rfl, rfl, HC⟩ := hrel
    by_cases hlt : k < n
    · have hkz : (k : Int) < (n : Int) := by omega
      obtain ⟨e, he⟩ : ∃ e, l[k]? = some e := ⟨_, List.getElem?_eq_getElem (by rw [HL.out]; exact hlt)⟩
      have HNB : Hid _ := cnt_nextB l b k e he
      have HNL : Hid _ := cnt_next l b k e he
      obtain ⟨h32, ga, oa, ea, hga, hcells⟩ := HX.out k e he
      have c0 := hcells 0 _ (fst8_cell e h32)
      rw [Nat.add_zero] at c0
      have h256 := fst8_lt e
      obtain ⟨F, hF⟩ : ∃ F, fst8 e = F := ⟨_, rfl⟩
      rw [hF] at c0 h256 HNB HNL
      subst ea
      clear hcells hF he h32
      by_cases h1 : F < b
      · have h1z : (F : Int) < (b : Int) := by omega
        have h2z : (F : Int) ≤ (b : Int) := by omega
        have HN : Hid (fanB (l.take (k + 1)) b = P + 1 ∧ fanL (l.take (k + 1)) b = Q + 1) := ⟨by rw [HNB.out, HC.out.1, if_pos h1], by rw [HNL.out, HC.out.2, if_pos (Nat.le_of_lt h1)]⟩
        clear HNB HNL HC
        go_wp2
        go_round
        case rel => exact ⟨k + 1, P + 1, Q + 1, by omega, by omega, by omega, by go_num, by go_num, by go_num, HN.out⟩
        case measure => simp [intOf]; omega
      · by_cases h2 : F ≤ b
        · have h1z : ¬ (F : Int) < (b : Int) := by omega
          have h2z : (F : Int) ≤ (b : Int) := by omega
          have HN : Hid (fanB (l.take (k + 1)) b = P ∧ fanL (l.take (k + 1)) b = Q + 1) := ⟨by rw [HNB.out, HC.out.1, if_neg h1]; rfl, by rw [HNL.out, HC.out.2, if_pos h2]⟩
          clear HNB HNL HC
          go_wp2
          go_round
          case rel => exact ⟨k + 1, P, Q + 1, by omega, by omega, by omega, by go_num, by go_num, by go_num, HN.out⟩
          case measure => simp [intOf]; omega
        · have h1z : ¬ (F : Int) < (b : Int) := by omega
          have h2z : ¬ (F : Int) ≤ (b : Int) := by omega
          have HN : Hid (fanB (l.take (k + 1)) b = P ∧ fanL (l.take (k + 1)) b = Q) := ⟨by rw [HNB.out, HC.out.1, if_neg h1]; rfl, by rw [HNL.out, HC.out.2, if_neg h2]; rfl⟩
          clear HNB HNL HC
          go_wp2
          go_round
          case rel => exact ⟨k + 1, P, Q, by omega, by omega, by omega, by go_num, by go_num, by go_num, HN.out⟩
          case measure => simp [intOf]; omega
    · have hkz : ¬ (k : Int) < (n : Int) := by omega
      have HF : Hid (fanB l b = P ∧ fanL l b = Q) := by
        have := HC.out
        rwa [List.take_of_length_le (by rw [HL.out]; omega)] at this
      clear HC
      go_wp2
      go_ret2
      exact ⟨ret_ii (by rw [HF.out.1]) (by rw [HF.out.2]), rfl⟩
end Go.Proofs.YtpfknjnigcefgaaGreatDoor
/- Two entries compared. -/
namespace Go.Proofs.YtpfknjnigcefgaaGreatDoor
open Go.RowKit
set_option linter.unusedSimpArgs false
set_option linter.unusedVariables false
theorem eqItems_idsQ (d : Nat) (a b : ByteArray) (ha : a.size = 32) (hb : b.size = 32) (w : World) : ∀ is : List Nat, (∀ i ∈ is, i < 32) →
    (Op.eqItems (d + 1) 5 1 (idc a) (idc b) is).run Tryz.prog w = .ok (is.all fun i => (byl a).getD i 0 == (byl b).getD i 0) w
  | [], _ => by simp [Op.eqItems]
  | i :: is, h => by
    have hi : i < 32 := h i (List.mem_cons_self ..)
    have ih := eqItems_idsQ d a b ha hb w is (fun j hj => h j (List.mem_cons_of_mem _ hj))
    have e1 : (byl a).getD i 0 = a[i].toNat := by rw [List.getD, byl_getD a i (by omega)]; rfl
    have e2 : (byl b).getD i 0 = b[i].toNat := by rw [List.getD, byl_getD b i (by omega)]; rfl
    have e3 := run_equalIn_int (P := Tryz.prog) w d 5 .u8 .u8 (a[i].toNat : Int) (b[i].toNat : Int) Tryz.underlying5
    simp only [Op.eqItems, Sem.run_bind, Nat.mul_one, part_id a i (by omega), part_id b i (by omega), Result.andThen_ok, e3, List.all_cons, e1, e2]
    by_cases e : a[i].toNat = b[i].toNat
    · have e4 : ((a[i].toNat : Int) == (b[i].toNat : Int)) = true := by rw [e]; simp
      simp only [e4, Bool.not_true, Bool.false_eq_true, if_false, ih, e, beq_self_eq_true, Bool.true_and]
    · have e4 : ((a[i].toNat : Int) == (b[i].toNat : Int)) = false := by rw [beq_eq_false_iff_ne]; omega
      have e5 : (a[i].toNat == b[i].toNat) = false := by rw [beq_eq_false_iff_ne]; exact e
      simp only [e4, Bool.not_false, if_true, Sem.run_pure, e5, Bool.false_and]
theorem equalIn_idsQ (d : Nat) (a b : ByteArray) (ha : a.size = 32) (hb : b.size = 32) (w : World) : (Op.equalIn (d + 2) 23 (.agg (idc a)) (.agg (idc b))).run Tryz.prog w = .ok (decide (a = b)) w := by
  have hc : Tryz.prog.cellsOf 5 = 1 := by kernel_rfl
  obtain ⟨i0, hi⟩ := info_of_underlying Tryz.underlying5
  have hu : Tryz.prog.underlying 23 = some (.array 32 5) := Tryz.underlying23
  rw [run_equalIn_array w (d + 1) (idc a) (idc b) hu hi, hc, eqItems_idsQ d a b ha hb w _ (fun i hi => by simpa using hi), ids_all a b ha hb]
/-- Whether two entries are the same. -/
def xeQ (e f : Xe) : Bool := decide (e.id = f.id) && (((e.k.toNat : Int) == (f.k.toNat : Int)) && (((e.off : Int) == (f.off : Int)) && ((e.sz : Int) == (f.sz : Int))))
theorem xeQ_self (e : Xe) : xeQ e e = true := by simp [xeQ]
theorem xeQ_iff (e f : Xe) : xeQ e f = true ↔ e = f := by
  constructor
  · intro h
    simp only [xeQ, Bool.and_eq_true, decide_eq_true_eq, beq_iff_eq] at h
    obtain ⟨h1, h2, h3, h4⟩ := h
    obtain ⟨a, b, c, d⟩ := e
    obtain ⟨a', b', c', d'⟩ := f
    simp only at h1 h2 h3 h4
    subst h1
    have h2' : b = b' := UInt8.toNat.inj (by omega)
    subst h2'
    have h3' : c = c' := by omega
    have h4' : d = d' := by omega
    subst h3' h4'
    rfl
  · rintro rfl; exact xeQ_self e
theorem part_idQ (e : Xe) (h : e.id.size = 32) (w : World) : (part 23 (xeC e) 0).run Tryz.prog w = .ok (.agg (idc e.id)) w := by
  have ha : (isAgg 23).run Tryz.prog w = .ok true w := by kernel_rfl
  have hs : (sizeOf 23).run Tryz.prog w = .ok 32 w := by kernel_rfl
  have hx : (xeC e).extract 0 32 = idc e.id := by
    apply Array.ext'
    rw [Array.toList_extract, xeC]
    have hl : (idc e.id).toList.length = 32 := by rw [Array.length_toList, idc_size, h]
    simp only [List.extract_eq_take_drop, List.drop_zero, Nat.sub_zero]
    rw [List.take_append_of_le_length (by omega), List.take_of_length_le (by omega)]
  simp [part, ha, hs, hx]
theorem part_cellQ {t : TypeId} (C : Array Value) (j : Nat) (v : Value) (w : World) (ha : (isAgg t).run Tryz.prog w = .ok false w) (h : C[j]? = some v) : (part t C j).run Tryz.prog w = .ok v w := by
  simp [part, ha, h]
set_option maxRecDepth 100000 in
theorem equalIn_xe (e f : Xe) (he : e.id.size = 32) (hf : f.id.size = 32) (w : World) : (Op.equalIn 10000 34 (.agg (xeC e)) (.agg (xeC f))).run Tryz.prog w = .ok (xeQ e f) w := by
  have hu : Tryz.prog.underlying 34 = some (.struct (Tryz.prog.fieldsOf 34)) := by kernel_rfl
  have hst : Tryz.prog.stoodInHeld 34 = false := by kernel_rfl
  have hfs : (Tryz.prog.fieldsOf 34).toList.map (fun q => (q.name != "_", q.type, q.offset)) = [(true, 23, 0), (true, 5, 32), (true, 3, 33), (true, 3, 34)] := by kernel_rfl
  rw [run_equalIn_struct w 9999 34 (xeC e) (xeC f) hu hst]
  generalize (Tryz.prog.fieldsOf 34).toList = fs at hfs
  have hlen : fs.length = 4 := by have := congrArg List.length hfs; simpa using this
  match fs, hlen, hfs with
  | [f0, f1, f2, f3], _, hfs =>
    simp only [List.map_cons, List.map_nil, List.cons.injEq, Prod.mk.injEq, and_true, bne_iff_ne] at hfs
    obtain ⟨⟨n0, t0, o0⟩, ⟨n1, t1, o1⟩, ⟨n2, t2, o2⟩, n3, t3, o3⟩ := hfs
    obtain ⟨a1, a2, a3⟩ := xeC_at e he
    obtain ⟨b1, b2, b3⟩ := xeC_at f hf
    have u8a : (isAgg 5).run Tryz.prog w = .ok false w := by kernel_rfl
    have i64a : (isAgg 3).run Tryz.prog w = .ok false w := by kernel_rfl
    have q0 := equalIn_idsQ 9997 e.id f.id he hf w
    have q1 := run_equalIn_int (P := Tryz.prog) w 9998 5 .u8 .u8 (e.k.toNat : Int) (f.k.toNat : Int) Tryz.underlying5
    have q2 := run_equalIn_int (P := Tryz.prog) w 9998 3 .i64 .i64 (e.off : Int) (f.off : Int) Tryz.underlying3
    have q3 := run_equalIn_int (P := Tryz.prog) w 9998 3 .i64 .i64 (e.sz : Int) (f.sz : Int) Tryz.underlying3
    simp only [Op.eqFields, n0, n1, n2, n3, t0, t1, t2, t3, o0, o1, o2, o3, ne_eq, not_false_eq_true, if_true, Sem.run_bind, part_idQ e he, part_idQ f hf, part_cellQ _ _ _ w u8a a1, part_cellQ _ _ _ w u8a b1, part_cellQ _ _ _ w i64a a2, part_cellQ _ _ _ w i64a b2, part_cellQ _ _ _ w i64a a3, part_cellQ _ _ _ w i64a b3, Result.andThen_ok]
    rw [q0, Result.andThen_ok, xeQ]
    cases decide (e.id = f.id) with
    | false => rfl
    | true =>
      simp only [Bool.not_true, Bool.false_eq_true, if_false, Bool.true_and, Sem.run_bind, part_cellQ _ _ _ w u8a a1, part_cellQ _ _ _ w u8a b1, Result.andThen_ok, q1]
      cases ((e.k.toNat : Int) == (f.k.toNat : Int)) with
      | false => rfl
      | true =>
        simp only [Bool.not_true, Bool.false_eq_true, if_false, Bool.true_and, Sem.run_bind, part_cellQ _ _ _ w i64a a2, part_cellQ _ _ _ w i64a b2, Result.andThen_ok, q2]
        cases ((e.off : Int) == (f.off : Int)) with
        | false => rfl
        | true =>
          simp only [Bool.not_true, Bool.false_eq_true, if_false, Bool.true_and, Sem.run_bind, part_cellQ _ _ _ w i64a a3, part_cellQ _ _ _ w i64a b3, Result.andThen_ok, q3]
          cases ((e.sz : Int) == (f.sz : Int)) with
          | false => rfl
          | true => rfl
theorem neq_xe (e f : Xe) (he : e.id.size = 32) (hf : f.id.size = 32) (w : World) : (binOp .neq 34 (.agg (xeC e)) (.agg (xeC f))).run Tryz.prog w = .ok (.bool (!xeQ e f)) w := by
  rw [run_neq_struct, equalIn_xe e f he hf]; rfl
end Go.Proofs.YtpfknjnigcefgaaGreatDoor
