import Derived.Test.YtbfoiocbmhhdbaaGreatY15
import Derived.Test.YtbfoiocbmhhdbaaGreatY17
import Derived.Test.YtbfoiocbmhhdbaaGreatY8
import Derived.Test.YtbfoiocbmhhdbaaGreatY7
import Derived.Test.YtbfoiocbmhhdbaaGreatY14
import Derived.Test.YtbfoiocbmhhdbaaGreatY4
/- midx.merger.add. -/
namespace Go.Proofs.YtbfoiocbmhhdbaaGreat
open Go.RowKit Go.Maps
set_option linter.unusedSimpArgs false
set_option linter.unusedVariables false
theorem isagg_mapS (w : World) : (isAgg 74).run Tryz.prog w = .ok false w := by kernel_rfl
theorem isagg_mapR (w : World) : (isAgg 75).run Tryz.prog w = .ok false w := by kernel_rfl
theorem info_unit : (Tryz.prog.info? 117).map (·.size) = some (#[] : Array Value).size := by kernel_rfl
theorem zero_row : (Tryz.prog.info? 52).map (·.size) = some 67 := inf_mr67
theorem xel_own {w : World} {B n : Nat} {v : Value} {l : List Xe} (hs : ∀ e ∈ l, e.id.size = 32) (hn : l.length = n) (h : w.ownsRow B 50 35 v n (xvs l)) : ∃ a c, v = .slice a n c ∧ XeL w a l := by
  rcases h.2 with ⟨rfl, h0⟩ | ⟨g, cap, cur, rfl, hle, hg, hnc, hcm, hsz, ht⟩
  · have : l = [] := List.eq_nil_of_length_eq_zero (by omega)
    subst this
    exact ⟨none, 0, by rw [h0], fun i e hi => by simp at hi⟩
  · refine ⟨_, _, rfl, fun i e hi => ?_⟩
    have hb : Bk w g cur 50 := hg
    have h2 := hs e (List.mem_of_getElem? hi)
    refine ⟨h2, g, 0, rfl, hb.lt, fun j u hu => ?_⟩
    have hil := (List.getElem?_eq_some_iff.1 hi).1
    have hj : j < 35 := by
      have := (Array.getElem?_eq_some_iff.1 hu).1
      rwa [xeC_size e h2] at this
    have e1 := xvs_get hs hi j hj
    have q : (cur.toList.take (n * 35))[i * 35 + j]? = (xvs l)[i * 35 + j]? := by rw [ht]
    rw [List.getElem?_take_of_lt (by omega), Array.getElem?_toList] at q
    rw [hb.cell, Nat.zero_add, q, e1]
    exact hu
theorem foldl_take {l : List Xe} {k : Nat} {e : Xe} (h : l[k]? = some e) (s : ByteArray) (d : List Mr) : (l.take (k + 1)).foldl (adM s) d = adM s ((l.take k).foldl (adM s) d) e := by
  rw [List.take_add_one, h, List.foldl_append]; rfl
/-- The row that a look-up tells. -/
def vC (o : Option Rf) : Array Value := match o with | some r => eR r | none => z67
theorem vC_ok (o : Option Rf) : (vC o).size = 67 ∧ (vC o).all (·.oneCell') = true := by
  cases o with
  | some r => exact eR_ok r
  | none => exact ⟨z67_size, by rw [vC, z67_is]; exact mrC_all _⟩
/-- What add tells. -/
def AdR (S : ByteArray) (B gm mp mr : Nat) (dN : List Nf) (dR : List Rf) (e : Ending) (w' : World) : Prop :=
  (e = .returned (.int .i64 4) ∧ (∀ s l, ¬ IsIx S s l) ∧ MgM w' gm mp mr dN dR) ∨
  ∃ (s : Nf) (l : List Xe), IsIx S s.1 l ∧ ((e = .returned (.int .i64 7) ∧ (∃ a ∈ dN, kyN a = kyN s) ∧ MgM w' gm mp mr dN dR) ∨
    (e = .returned (.int .i64 0) ∧ (∀ a ∈ dN, kyN a ≠ kyN s) ∧ ∃ dR', dR'.map (·.1) = l.foldl (adM s.1) (dR.map (·.1)) ∧ dR'.length ≤ 1048577 ∧ MgM w' gm mp mr (dN ++ [s]) dR'))
theorem fdK_some {α : Type} {ky : α → ByteArray} {d : List α} {x : ByteArray} {a : α} (h : fdK ky d x = some a) : a ∈ d ∧ ky a = x := ⟨List.mem_of_find?_eq_some h, of_decide_eq_true (List.find?_some (p := fun a => decide (ky a = x)) h)⟩
theorem fdK_none {α : Type} {ky : α → ByteArray} {d : List α} {x : ByteArray} (h : fdK ky d x = none) : ∀ a ∈ d, ky a ≠ x := fun a ha e => by
  unfold fdK at h
  rw [List.find?_eq_none] at h
  exact absurd (decide_eq_true e) (h a ha)
set_option maxHeartbeats 16000000 in
set_option maxRecDepth 100000 in
theorem madd_any (S : ByteArray) (B gm mp mr : Nat) (dN : List Nf) (dR : List Rf) (w : World) (hS : S.size ≤ 4611686018427387904) (h : MgM w gm mp mr dN dR) (hN : dN.length ≤ 1048576) (hR : dR.length ≤ 1048577) (hB : B ≤ w.heap.size) (hmp : B ≤ mp) (hmr : B ≤ mr) :
    Calls Tryz.prog 29 #[.pointer (some ⟨gm, 0, none⟩), .string S] w fun e w' => AdR S B gm mp mr dN dR e w' ∧ Below B w w' := by
  have H0 : Hid (MgM w gm mp mr dN dR ∧ B ≤ w.heap.size) := ⟨h, hB⟩
  have HB : Hid (B ≤ mp ∧ B ≤ mr ∧ dN.length ≤ 1048576 ∧ dR.length ≤ 1048577) := ⟨hmp, hmr, hN, hR⟩
  have HOP : Hid (Calls Tryz.prog 23 #[.string S] w fun e w' => OpS S e w' ∧ Below w.heap.size w w') := open_any S w hS
  clear h hB hmp hmr hN hR hS
  go_enter Tryz.func29, Tryz.ntmps29
  go_wp2_with fail
  refine HOP.out.mono ?_
  rintro e w1 ⟨hO, hb1⟩
  have H1 : Hid (MgM w1 gm mp mr dN dR ∧ Below B w w1 ∧ B ≤ w1.heap.size) := ⟨H0.out.1.below hb1, hb1.mono H0.out.2, Nat.le_trans H0.out.2 hb1.size⟩
  clear hb1 HOP
  rcases hO with ⟨rfl, hno⟩ | ⟨g, s, l, rfl, hix, hxs⟩
  · have HE : Hid (∀ s l, ¬ IsIx S s l) := hno
    clear hno
    go_wp2
    go_ret
    exact ⟨.inl ⟨rfl, HE.out, H1.out.1⟩, H1.out.2.1⟩
  have HIX : Hid (IsIx S s l ∧ IxS w1 g s l) := ⟨hix, hxs⟩
  have hs32 : s.size = 32 := hix.1
  have hl6 : l.length ≤ 65536 := hix.2.1.len
  clear hix hxs
  go_wp2_with fail
  refine (pack_any g s l w1 HIX.out.2).mono ?_
  rintro e w2 ⟨rfl, hb2⟩
  have H2 : Hid (MgM w2 gm mp mr dN dR ∧ Below B w w2 ∧ B ≤ w2.heap.size ∧ IxS w2 g s l) := ⟨H1.out.1.below hb2, H1.out.2.1.trans (hb2.mono H1.out.2.2), Nat.le_trans H1.out.2.2 hb2.size, HIX.out.2.below hb2⟩
  have HS3 : Hid (s.size = 32) := hs32
  obtain ⟨sf, hsf⟩ : ∃ sf : Nf, sf.1 = s := ⟨⟨s, hs32⟩, rfl⟩
  have HI : Hid ((Tryz.prog.info? 48).map (·.size) = some (idc s).size ∧ z32c.size = (idc s).size ∧ (idc s).all (·.oneCell') = true) := ⟨info_32 (by rw [idc_size, hs32]), by rw [idc_size, hs32]; exact z32c_size, idc_allX s⟩
  obtain ⟨sC, hsC⟩ : ∃ C, idc s = C := ⟨_, rfl⟩
  have HSC : Hid (idc s = sC ∧ sf.1 = s) := ⟨hsC, hsf⟩
  rw [hsC] at HI ⊢
  have hal3 : Below w2.heap.size w2 (w2.alloc (.cells sC 48)) := (Below.refl _ _).alloc (Nat.le_refl _) _
  have H3 : Hid (MgM (w2.alloc (.cells sC 48)) gm mp mr dN dR ∧ Below B w (w2.alloc (.cells sC 48)) ∧ B ≤ (w2.alloc (.cells sC 48)).heap.size ∧ IxS (w2.alloc (.cells sC 48)) g s l ∧ Bk (w2.alloc (.cells sC 48)) w2.heap.size sC 48) := by
    exact ⟨H2.out.1.below hal3, H2.out.2.1.trans (hal3.mono H2.out.2.2.1), Nat.le_trans H2.out.2.2.1 hal3.size, H2.out.2.2.2.below hal3, bk_new _ _ _⟩
  have hz := zero_id
  clear hb2 H1 hs32 hsC hsf hal3 H2
  go_wp2_with (first
    | (refine wpList_store_new rfl 48 (.tmp 7) (.tmp 25) rfl sC _ 48 w2.heap.size rfl rfl rfl HI.out.1 HI.out.2.1 HI.out.2.2 ?_)
    | fail)
  obtain ⟨w3, hw3⟩ : ∃ w3, w2.alloc (.cells sC 48) = w3 := ⟨_, rfl⟩
  obtain ⟨b7, hb7⟩ : ∃ b7, w2.heap.size = b7 := ⟨_, rfl⟩
  rw [hw3, hb7] at H3 ⊢
  clear hw3 hb7 hz
  obtain ⟨fb, hfb⟩ : ∃ fb : Bool, (fdK kyN dN s).isSome = fb := ⟨_, rfl⟩
  have HFB : Hid ((fdK kyN dN s).isSome = fb) := hfb
  have HC0 : Hid (∀ (ov : Option Value) W, KN w3 #[] 117 ov W → W.cell? ⟨gm, 0, none⟩ = some (.map (some mp))) := fun ov W hW => by rw [(H3.out.1.bk.below hW.bel H3.out.1.bk.lt).cell]; rfl
  have HC7 : Hid (∀ (ov : Option Value) W, KN w3 #[] 117 ov W → Bk W b7 sC 48) := fun ov W hW => H3.out.2.2.2.2.below hW.bel H3.out.2.2.2.2.lt
  have HLU : Hid (∀ (ov : Option Value) W, KN w3 #[] 117 ov W → (Instr.lookup 74 (.map (some mp)) (.agg sC) true).run Tryz.prog W = .ok (.tuple #[.agg #[], .bool fb]) W) := fun ov W hW => by
    have := (H3.out.1.below hW.bel).ps.look Tryz.underlying74 (zero_unitX W) s HS3.out
    rw [HSC.out.1, HFB.out] at this
    rw [this]
    cases fdK kyN dN s <;> rfl
  have HDR : Hid (KN w3 #[] 117 none w3.drew) := (Below.refl _ _).drew
  refine wp_region_late (KN w3 #[] 117) 10 9 8 10 _ (by kernel_rfl) (by kernel_rfl) (by kernel_rfl) (by kernel_rfl) (by omega) (by omega) rfl rfl (fun a W hW => ⟨_, _, by kernel_rfl, hW.made⟩) HDR.out ?_
  simp only [List.take_succ_cons, List.take_zero, List.drop_succ_cons, List.drop_zero, skipL, Nat.reduceAdd, Nat.reduceBEq, Bool.false_eq_true, if_false, if_true]
  simp only [Act.put, List.setIfInBounds_toArray, List.set_cons_zero, List.set_cons_succ]
  refine wpQF_val rfl (.pointer (some ⟨gm, 0, none⟩)) (fun ov W hW => by go_simp) ?_; simp only [Act.put, List.setIfInBounds_toArray, List.set_cons_zero, List.set_cons_succ]
  refine wpQF_val rfl (.pointer (some ⟨gm, 0, none⟩)) (fun ov W hW => by go_simp) ?_; simp only [Act.put, List.setIfInBounds_toArray, List.set_cons_zero, List.set_cons_succ]
  refine wpQF_val rfl (.pointer (some ⟨gm, 0, none⟩)) (fun ov W hW => by go_simp) ?_; simp only [Act.put, List.setIfInBounds_toArray, List.set_cons_zero, List.set_cons_succ]
  refine wpQF_one rfl 74 (.tmp 29) rfl gm 0 (.map (some mp)) rfl isagg_mapS HC0.out ?_; simp only [Act.put, List.setIfInBounds_toArray, List.set_cons_zero, List.set_cons_succ]
  refine wpQF_row rfl 48 (.tmp 7) rfl b7 0 sC sC 48 _ rfl HC7.out (fun j v hv => by rw [Nat.zero_add]; exact hv) Tryz.underlying48 rfl HI.out.1 ?_; simp only [Act.put, List.setIfInBounds_toArray, List.set_cons_zero, List.set_cons_succ]
  refine wpQF_val rfl (.tuple #[.agg #[], .bool fb]) (fun ov W hW => by have := HLU.out ov W hW; go_simp) ?_; simp only [Act.put, List.setIfInBounds_toArray, List.set_cons_zero, List.set_cons_succ]
  refine wpQF_val rfl (.tuple #[.agg #[], .bool fb]) (fun ov W hW => by go_simp) ?_; simp only [Act.put, List.setIfInBounds_toArray, List.set_cons_zero, List.set_cons_succ]
  refine wpQF_val rfl (.agg #[]) (fun ov W hW => by go_simp) ?_; simp only [Act.put, List.setIfInBounds_toArray, List.set_cons_zero, List.set_cons_succ]
  refine wpQF_val rfl (.bool fb) (fun ov W hW => by go_simp) ?_; simp only [Act.put, List.setIfInBounds_toArray, List.set_cons_zero, List.set_cons_succ]
  refine wpQF_nil ?_
  intro v w4 h4
  obtain ⟨g8, rfl, hg8, hk8, hb4⟩ := h4
  have H4 : Hid (Bk w4 g8 #[] 117 ∧ Below w3.heap.size w3 w4 ∧ w3.heap.size ≤ g8) := ⟨hk8, hb4, hg8⟩
  clear hg8 hk8 hb4 HC0 HC7 HLU HDR hfb
  simp only [Act.put, List.setIfInBounds_toArray, List.set_cons_zero, List.set_cons_succ]
  refine wpList_sto rfl 117 (.tmp 8) (.tmp 33) rfl g8 #[] #[] 117 rfl rfl H4.out.1 info_unit rfl (by simp) ?_
  intro w5 HK5 HG5
  simp only [Act.put]
  refine wpList_asg rfl (.tmp 34) rfl (.bool fb) rfl ?_
  refine ⟨rfl, ?_⟩
  simp only [Act.put, List.setIfInBounds_toArray, List.set_cons_zero, List.set_cons_succ]
  have hb5 : Below w3.heap.size w3 w5 := below_own H4.out.2.1 H4.out.2.1.size HG5.out H4.out.2.2
  have H5 : Hid (MgM w5 gm mp mr dN dR ∧ Below B w w5 ∧ B ≤ w5.heap.size ∧ IxS w5 g s l ∧ Bk w5 b7 sC 48) :=
    ⟨H3.out.1.below hb5, H3.out.2.1.trans (hb5.mono H3.out.2.2.1), Nat.le_trans H3.out.2.2.1 hb5.size, H3.out.2.2.2.1.below hb5, H3.out.2.2.2.2.below hb5 H3.out.2.2.2.2.lt⟩
  clear HK5 HG5 hb5 H4 H3
  cases fb with
  | true =>
    have HE : Hid (∃ a ∈ dN, kyN a = kyN sf) := by
      cases hq : fdK kyN dN s with
      | none => have := HFB.out; rw [hq] at this; cases this
      | some a => exact ⟨a, (fdK_some hq).1, (fdK_some hq).2.trans HSC.out.2.symm⟩
    have HIS : Hid (IsIx S sf.1 l) := by rw [HSC.out.2]; exact HIX.out.1
    go_wp2
    go_ret
    exact ⟨.inr ⟨sf, l, HIS.out, .inl ⟨rfl, HE.out, H5.out.1⟩⟩, H5.out.2.1⟩
  | false =>
    have HNW : Hid (∀ a ∈ dN, kyN a ≠ kyN sf) := by
      cases hq : fdK kyN dN s with
      | none => exact fun a ha e => fdK_none hq a ha (e.trans HSC.out.2)
      | some a => have := HFB.out; rw [hq] at this; cases this
    have HIS : Hid (IsIx S sf.1 l) := by rw [HSC.out.2]; exact HIX.out.1
    have HPUT : Hid (∀ W, MgM W gm mp mr dN dR → ∃ w', (Instr.mapUpdate 74 (.map (some mp)) (.agg sC) (.agg #[])).run Tryz.prog W = .ok () w' ∧ MgM w' gm mp mr (dN ++ [sf]) dR ∧ W.grownBy w' (some mp)) := fun W hW => by
      have := hW.putN HB.out.2.2.1 sf HNW.out
      rwa [show kyN sf = s from HSC.out.2, HSC.out.1] at this
    clear HFB HIX
    go_wp2_with fail
    have HBM : Hid (∀ W, Below w5.heap.size w5 W → W.cell? ⟨gm, 0, none⟩ = some (.map (some mp)) ∧ Bk W b7 sC 48) := fun W hW => ⟨by rw [(H5.out.1.bk.below hW H5.out.1.bk.lt).cell]; rfl, H5.out.2.2.2.2.below hW H5.out.2.2.2.2.lt⟩
    refine wp_region_tail (Below w5.heap.size w5) 6 (by kernel_rfl) (by kernel_rfl) ((Below.refl _ _).drew) ?_
    simp only [List.take_succ_cons, List.take_zero, List.drop_succ_cons, List.drop_zero]
    try simp only [Act.put, List.setIfInBounds_toArray, List.set_cons_zero, List.set_cons_succ]
    repeat (first
      | go_big_quiet_skip
      | (go_big_quiet_want
         first
           | (refine quiet_one 74 _ rfl gm 0 (.map (some mp)) rfl (fun _ => by kernel_rfl) (fun W hW => (HBM.out W hW).1) ?_; go_big_quiet_on; simp only [Act.put, List.setIfInBounds_toArray, List.set_cons_zero, List.set_cons_succ])
           | (refine quiet_row 48 _ rfl b7 0 sC sC 48 _ rfl (fun W hW => (HBM.out W hW).2) (fun j v hv => by rw [Nat.zero_add]; exact hv) Tryz.underlying48 rfl HI.out.1 ?_; go_big_quiet_on; simp only [Act.put, List.setIfInBounds_toArray, List.set_cons_zero, List.set_cons_succ])
           | (refine quiet_val10 (.pointer (some ⟨gm, 0, none⟩)) ?_ ?_; (focus (intro W hW; go_simp; done)); go_big_quiet_on; simp only [Act.put, List.setIfInBounds_toArray, List.set_cons_zero, List.set_cons_succ])
           | (refine quiet_val10 (.agg #[]) ?_ ?_; (focus (intro W hW; go_simp; done)); go_big_quiet_on; simp only [Act.put, List.setIfInBounds_toArray, List.set_cons_zero, List.set_cons_succ])
           | (go_big_quiet_op; go_big_quiet_on)))
    refine wpQuiet_nil ?_
    intro w6 hw6
    obtain ⟨w7, hput, hm7, hg7⟩ := HPUT.out w6 (H5.out.1.below hw6)
    obtain ⟨es, cc, hes⟩ := (H5.out.1.below hw6).ps.isMap
    have H7 : Hid (MgM w7 gm mp mr (dN ++ [sf]) dR ∧ Below B w w7 ∧ B ≤ w7.heap.size ∧ IxS w7 g s l ∧ Bk w7 b7 sC 48) := by
      have hB6 : Below B w w6 := H5.out.2.1.trans (hw6.mono H5.out.2.2.1)
      have hz6 : B ≤ w6.heap.size := Nat.le_trans H5.out.2.2.1 hw6.size
      have hne : ∀ {b : Nat} {C : Array Value} {T : TypeId}, Bk w6 b C T → some b ≠ some mp := fun {b C T} hb e => by
        injection e with e
        subst e
        have hb' : w6.heap[b]? = some (.cells C T (0, 0)) := hb
        rw [hes] at hb'; cases hb'
      have hix6 := H5.out.2.2.2.1.below hw6
      have hbk6 := H5.out.2.2.2.2.below hw6 H5.out.2.2.2.2.lt
      exact ⟨hm7, below_own hB6 hz6 hg7 HB.out.1, Nat.le_trans hz6 hg7.size, hix6.grownMap hg7 hes, hbk6.grown hg7 (fun e => hne hbk6 e.symm)⟩
    clear hm7 hg7 hes hw6 HPUT H5 HBM
    go_wp2_with fail
    refine (iall_any g s l w7 H7.out.2.2.2.1 hl6).mono ?_
    rintro e w8 ⟨v8, rfl, ho8, hb8⟩
    obtain ⟨n, hn⟩ : ∃ n, l.length = n := ⟨_, rfl⟩
    rw [hn] at ho8
    obtain ⟨ga, c8, rfl, hx8⟩ := xel_own (HIS.out.2.1.id) hn ho8
    have H8 : Hid (AdM w B gm mp mr (dN ++ [sf]) dR b7 sC ga l w8 ∧ B ≤ w8.heap.size) := ⟨⟨H7.out.1.below hb8, H7.out.2.2.2.2.below hb8 H7.out.2.2.2.2.lt, hx8, H7.out.2.1.trans (hb8.mono H7.out.2.2.1)⟩, Nat.le_trans H7.out.2.2.1 hb8.size⟩
    have HLN : Hid (l.length = n) := hn
    rw [hn] at hl6
    clear ho8 hx8 hb8 hput H7 hn
    go_wp2_with fail
    go_loopw [45] (fun v wr => ∃ (k : Nat) (dk : List Rf), v = .int .i64 k ∧ k ≤ n ∧ Hid (AdM w B gm mp mr (dN ++ [sf]) dk b7 sC ga l wr ∧ B ≤ wr.heap.size ∧ dk.map (·.1) = (l.take k).foldl (adM s) (dR.map (·.1)) ∧ dk.length ≤ 1048577)) (fun v _ => n - (intOf v).toNat)
    case atStart => exact ⟨0, dR, rfl, Nat.zero_le _, H8.out.1, H8.out.2, by simp, HB.out.2.2.2⟩
    case round =>
      obtain ⟨k, dk, rfl, hk, HR⟩ := hrel
      clear H8
      by_cases hlt : k < n
      · have hkz : (k : Int) < (n : Nat) := by omega
        obtain ⟨e, he⟩ : ∃ e, l[k]? = some e := ⟨l[k]'(by rw [HLN.out]; exact hlt), List.getElem?_eq_getElem _⟩
        obtain ⟨h32, g9, o9, rfl, k3, hcells⟩ := HR.out.1.x k e he
        obtain ⟨ef, hef⟩ : ∃ ef : Xf, ef.1 = e := ⟨⟨e, h32⟩, rfl⟩
        have HE9 : Hid (ef.1 = e ∧ e.id.size = 32 ∧ l[k]? = some e) := ⟨hef, h32, he⟩
        have hIX : (Tryz.prog.info? 50).map (·.size) = some (xeC e).toList.length ∧ (xeC e).all (·.oneCell') = true ∧ (xeC e).size = 35 := ⟨by rw [inf_xe35, Array.length_toList, xeC_size e h32], xeC_all e, xeC_size e h32⟩
        have HXI : Hid (∀ j u, (idc e.id)[j]? = some u → (xeC e)[0 + j]? = some u) := fun j u hu => xeC_id e h32 j u hu
        have hID : (Tryz.prog.info? 48).map (·.size) = some (idc e.id).size := info_32 (by rw [idc_size, h32])
        obtain ⟨X, hX⟩ : ∃ X, xeC e = X := ⟨_, rfl⟩
        obtain ⟨D, hD⟩ : ∃ D, idc e.id = D := ⟨_, rfl⟩
        rw [hX] at hcells hIX HXI
        rw [hD] at HXI hID
        have HXD : Hid (xeC e = X ∧ idc e.id = D) := ⟨hX, hD⟩
        have HCE : Hid (∀ j v, X[j]? = some v → wr.cell? ⟨g9, o9 + k * 35 + j, none⟩ = some v) := hcells
        have HIX : Hid ((Tryz.prog.info? 50).map (·.size) = some X.toList.length ∧ X.all (·.oneCell') = true ∧ X.size = 35 ∧ (Tryz.prog.info? 48).map (·.size) = some D.size) := ⟨hIX.1, hIX.2.1, hIX.2.2, hID⟩
        have halr : Below wr.heap.size wr (wr.alloc (.cells X 50)) := (Below.refl _ _).alloc (Nat.le_refl _) _
        have H11 : Hid (AdM w B gm mp mr (dN ++ [sf]) dk b7 sC (some ⟨g9, o9, none⟩) l (wr.alloc (.cells X 50)) ∧ B ≤ (wr.alloc (.cells X 50)).heap.size ∧ Bk (wr.alloc (.cells X 50)) wr.heap.size X 50) := ⟨HR.out.1.next HR.out.2.1 halr, Nat.le_trans HR.out.2.1 halr.size, bk_new _ _ _⟩
        have HDK : Hid (dk.map (·.1) = (l.take k).foldl (adM s) (dR.map (·.1)) ∧ dk.length ≤ 1048577) := HR.out.2.2
        clear hcells h32 k3 hX hD hIX hID halr HR he hef
        go_wp2_with (first
          | (refine wpList_load_mid rfl 50 (.tmp 47) rfl g9 (o9 + k * 35) rfl X.toList _ (fun j v hv => HCE.out j v (by rwa [Array.getElem?_toList] at hv)) Tryz.underlying50 rfl HIX.out.1 ?_)
          | (refine wpList_store_new rfl 50 (.tmp 11) (.tmp 48) rfl X _ 50 wr.heap.size rfl rfl rfl (info_xe HIX.out.2.2.1) (by rw [HIX.out.2.2.1]; rfl) HIX.out.2.1 ?_)
          | fail)
        obtain ⟨wa, hwa⟩ : ∃ wa, wr.alloc (.cells X 50) = wa := ⟨_, rfl⟩
        obtain ⟨b11, hb11⟩ : ∃ b, wr.heap.size = b := ⟨_, rfl⟩
        rw [hwa, hb11] at H11 ⊢
        clear hwa hb11 HCE
        obtain ⟨fo, hfo⟩ : ∃ fo, fdK kyR dk e.id = fo := ⟨_, rfl⟩
        obtain ⟨fb, hfb⟩ : ∃ fb : Bool, fo.isSome = fb := ⟨_, rfl⟩
        obtain ⟨V, hV⟩ : ∃ V, vC fo = V := ⟨_, rfl⟩
        have HFO : Hid (fdK kyR dk e.id = fo ∧ fo.isSome = fb ∧ vC fo = V) := ⟨hfo, hfb, hV⟩
        have HVI : Hid ((Tryz.prog.info? 52).map (·.size) = some V.size ∧ z67.size = V.size ∧ V.all (·.oneCell') = true) := by
          have := vC_ok fo
          rw [hV] at this
          exact ⟨info_mr this.1, by rw [this.1]; exact z67_size, this.2⟩
        have HC1 : Hid (∀ (ov : Option Value) W, KN wa z67 52 ov W → W.cell? ⟨gm, 1, none⟩ = some (.map (some mr))) := fun ov W hW => by rw [(H11.out.1.m.bk.below hW.bel H11.out.1.m.bk.lt).cell]; rfl
        have HC11 : Hid (∀ (ov : Option Value) W, KN wa z67 52 ov W → Bk W b11 X 50) := fun ov W hW => H11.out.2.2.below hW.bel H11.out.2.2.lt
        have HLU : Hid (∀ (ov : Option Value) W, KN wa z67 52 ov W → (Instr.lookup 75 (.map (some mr)) (.agg D) true).run Tryz.prog W = .ok (.tuple #[.agg V, .bool fb]) W) := fun ov W hW => by
          have := (H11.out.1.m.below hW.bel).rs.look Tryz.underlying75 (zero_mr15 W) e.id HE9.out.2.1
          rw [HXD.out.2, HFO.out.1] at this
          rw [this, ← HFO.out.2.1, ← HFO.out.2.2]
          cases fo <;> rfl
        have HDR : Hid (KN wa z67 52 none wa.drew) := (Below.refl _ _).drew
        clear hfo hfb hV
        refine wp_region_late (KN wa z67 52) 11 10 9 11 _ (by kernel_rfl) (by kernel_rfl) (by kernel_rfl) (by kernel_rfl) (by omega) (by omega) rfl rfl (fun a W hW => ⟨_, _, by kernel_rfl, hW.made⟩) HDR.out ?_
        simp only [List.take_succ_cons, List.take_zero, List.drop_succ_cons, List.drop_zero, skipL, Nat.reduceAdd, Nat.reduceBEq, Bool.false_eq_true, if_false, if_true]
        simp only [Act.put, List.setIfInBounds_toArray, List.set_cons_zero, List.set_cons_succ]
        refine wpQF_val rfl (.pointer (some ⟨gm, 0, none⟩)) (fun ov W hW => by go_simp) ?_; simp only [Act.put, List.setIfInBounds_toArray, List.set_cons_zero, List.set_cons_succ]
        refine wpQF_val rfl (.pointer (some ⟨gm, 0, none⟩)) (fun ov W hW => by go_simp) ?_; simp only [Act.put, List.setIfInBounds_toArray, List.set_cons_zero, List.set_cons_succ]
        refine wpQF_val rfl (.pointer (some ⟨gm, 1, none⟩)) (fun ov W hW => by go_simp) ?_; simp only [Act.put, List.setIfInBounds_toArray, List.set_cons_zero, List.set_cons_succ]
        refine wpQF_one rfl 75 (.tmp 52) rfl gm 1 (.map (some mr)) rfl isagg_mapR HC1.out ?_; simp only [Act.put, List.setIfInBounds_toArray, List.set_cons_zero, List.set_cons_succ]
        refine wpQF_val rfl (.pointer (some ⟨b11, 0, none⟩)) (fun ov W hW => by go_simp) ?_; simp only [Act.put, List.setIfInBounds_toArray, List.set_cons_zero, List.set_cons_succ]
        refine wpQF_row rfl 48 (.tmp 54) rfl b11 0 X D 50 _ rfl HC11.out HXI.out Tryz.underlying48 rfl HIX.out.2.2.2 ?_; simp only [Act.put, List.setIfInBounds_toArray, List.set_cons_zero, List.set_cons_succ]
        refine wpQF_val rfl (.tuple #[.agg V, .bool fb]) (fun ov W hW => by have := HLU.out ov W hW; go_simp) ?_; simp only [Act.put, List.setIfInBounds_toArray, List.set_cons_zero, List.set_cons_succ]
        refine wpQF_val rfl (.tuple #[.agg V, .bool fb]) (fun ov W hW => by go_simp) ?_; simp only [Act.put, List.setIfInBounds_toArray, List.set_cons_zero, List.set_cons_succ]
        refine wpQF_val rfl (.agg V) (fun ov W hW => by go_simp) ?_; simp only [Act.put, List.setIfInBounds_toArray, List.set_cons_zero, List.set_cons_succ]
        refine wpQF_val rfl (.bool fb) (fun ov W hW => by go_simp) ?_; simp only [Act.put, List.setIfInBounds_toArray, List.set_cons_zero, List.set_cons_succ]
        refine wpQF_nil ?_
        intro v w12 h12
        obtain ⟨g12, rfl, hg12, hk12, hb12⟩ := h12
        have H12 : Hid (Bk w12 g12 z67 52 ∧ Below wa.heap.size wa w12 ∧ wa.heap.size ≤ g12) := ⟨hk12, hb12, hg12⟩
        clear hg12 hk12 hb12 HC1 HC11 HLU HDR
        simp only [Act.put, List.setIfInBounds_toArray, List.set_cons_zero, List.set_cons_succ]
        refine wpList_sto rfl 52 (.tmp 12) (.tmp 57) rfl g12 V z67 52 rfl rfl H12.out.1 HVI.out.1 HVI.out.2.1 HVI.out.2.2 ?_
        intro w13 HK13 HG13
        simp only [Act.put]
        refine wpList_asg rfl (.tmp 58) rfl (.bool fb) rfl ?_
        refine ⟨rfl, ?_⟩
        simp only [Act.put, List.setIfInBounds_toArray, List.set_cons_zero, List.set_cons_succ]
        have hb13 : Below wa.heap.size wa w13 := below_own H12.out.2.1 H12.out.2.1.size HG13.out H12.out.2.2
        have H13 : Hid (AdM w B gm mp mr (dN ++ [sf]) dk b7 sC (some ⟨g9, o9, none⟩) l w13 ∧ B ≤ w13.heap.size ∧ Bk w13 b11 X 50 ∧ Bk w13 g12 V 52) := ⟨H11.out.1.next H11.out.2.1 hb13, Nat.le_trans H11.out.2.1 hb13.size, H11.out.2.2.below hb13 H11.out.2.2.lt, HK13.out⟩
        clear HK13 HG13 hb13 H12 H11
        have c1 : w13.cell? ⟨gm, 1, none⟩ = some (.map (some mr)) := by rw [H13.out.1.m.bk.cell]; rfl
        have hlen := fun ty => H13.out.1.m.rs.len Tryz.underlying75 ty
        obtain ⟨dl, hdl⟩ : ∃ dl, dk.length = dl := ⟨_, rfl⟩
        rw [hdl] at hlen
        have HDL : Hid (dk.length = dl) := hdl
        clear hdl
        have HNX : Hid ((adV sf dk ef).map (·.1) = (l.take (k + 1)).foldl (adM s) (dR.map (·.1)) ∧ (adV sf dk ef).length ≤ 1048577) := ⟨by rw [adV_val, HDK.out.1, foldl_take HE9.out.2.2, HSC.out.2, HE9.out.1], adV_len _ _ _ HDK.out.2⟩
        obtain ⟨RC, hRC⟩ : ∃ RC, eR (mwN sf ef) = RC := ⟨_, rfl⟩
        have HBD : Hid (∀ U, (Instr.build 52 #[(0, .agg sC), (1, .agg X)]).run Tryz.prog U = .ok (.agg RC) U) := fun U => by
          have := build_mr (mwN sf ef).1 (mwN sf ef).2.1 (mwN sf ef).2.2 U
          rw [show idc (mwN sf ef).1.p = sC from by rw [← HSC.out.1, ← HSC.out.2]; rfl, show xeC (mwN sf ef).1.e = X from by rw [← HXD.out.1, ← HE9.out.1]; rfl] at this
          rw [this, ← hRC]; rfl
        have HPUT : Hid (∀ U, AdM w B gm mp mr (dN ++ [sf]) dk b7 sC (some ⟨g9, o9, none⟩) l U → B ≤ U.heap.size → ∃ w', (Instr.mapUpdate 75 (.map (some mr)) (.agg D) (.agg RC)).run Tryz.prog U = .ok () w' ∧ AdM w B gm mp mr (dN ++ [sf]) (ptK kyR dk (mwN sf ef)) b7 sC (some ⟨g9, o9, none⟩) l w' ∧ B ≤ w'.heap.size) := fun U hU hz => by
          have := hU.put hz HB.out.2.1 HDK.out.2 (mwN sf ef)
          rwa [show idc (kyR (mwN sf ef)) = D from by rw [← HXD.out.2, ← HE9.out.1]; rfl, show elR (mwN sf ef) = .agg RC from by rw [← hRC]; rfl] at this
        clear hRC
        cases fo with
        | none =>
          have hfb : fb = false := HFO.out.2.1.symm
          subst hfb
          by_cases hbig : 1048576 < dl
          · have hbz : (1048576 : Int) < (dl : Int) := by omega
            have HNE : Hid (dk.map (·.1) = (l.take (k + 1)).foldl (adM s) (dR.map (·.1)) ∧ dk.length ≤ 1048577) := by
              have e : adV sf dk ef = dk := by
                unfold adV
                rw [HE9.out.1, HFO.out.1]
                simp only
                rw [if_pos (by rw [HDL.out]; exact hbig)]
              have := HNX.out
              rwa [e] at this
            clear hbig
            go_wp2
            go_roundw
            case rel => exact ⟨k + 1, dk, by go_num, by omega, H13.out.1, H13.out.2.1, HNE.out⟩
            case measure => simp [intOf]; omega
          · have hbz : ¬ (1048576 : Int) < (dl : Int) := by omega
            have HNP : Hid ((ptK kyR dk (mwN sf ef)).map (·.1) = (l.take (k + 1)).foldl (adM s) (dR.map (·.1)) ∧ (ptK kyR dk (mwN sf ef)).length ≤ 1048577) := by
              have e : adV sf dk ef = ptK kyR dk (mwN sf ef) := by
                unfold adV
                rw [HE9.out.1, HFO.out.1]
                simp only
                rw [if_neg (by rw [HDL.out]; exact hbig)]
              have := HNX.out
              rwa [e] at this
            clear hbig
            go_wp2_with fail
            have HBM : Hid (∀ U, Below w13.heap.size w13 U → U.cell? ⟨gm, 1, none⟩ = some (.map (some mr)) ∧ Bk U b11 X 50 ∧ Bk U b7 sC 48) := fun U hU => ⟨by rw [(H13.out.1.m.bk.below hU H13.out.1.m.bk.lt).cell]; rfl, H13.out.2.2.1.below hU H13.out.2.2.1.lt, H13.out.1.b.below hU H13.out.1.b.lt⟩
            refine wp_region_tail (Below w13.heap.size w13) 9 (by kernel_rfl) (by kernel_rfl) ((Below.refl _ _).drew) ?_
            simp only [List.take_succ_cons, List.take_zero, List.drop_succ_cons, List.drop_zero]
            try simp only [Act.put, List.setIfInBounds_toArray, List.set_cons_zero, List.set_cons_succ]
            repeat (first
              | go_big_quiet_skip
              | (go_big_quiet_want
                 first
                   | (refine quiet_one 75 _ rfl gm 1 (.map (some mr)) rfl (fun _ => by kernel_rfl) (fun U hU => (HBM.out U hU).1) ?_; go_big_quiet_on; simp only [Act.put, List.setIfInBounds_toArray, List.set_cons_zero, List.set_cons_succ])
                   | (refine quiet_row 48 _ rfl b11 0 X D 50 _ rfl (fun U hU => (HBM.out U hU).2.1) HXI.out Tryz.underlying48 rfl HIX.out.2.2.2 ?_; go_big_quiet_on; simp only [Act.put, List.setIfInBounds_toArray, List.set_cons_zero, List.set_cons_succ])
                   | (refine quiet_row 48 _ rfl b7 0 sC sC 48 _ rfl (fun U hU => (HBM.out U hU).2.2) (fun j v hv => by rw [Nat.zero_add]; exact hv) Tryz.underlying48 rfl HI.out.1 ?_; go_big_quiet_on; simp only [Act.put, List.setIfInBounds_toArray, List.set_cons_zero, List.set_cons_succ])
                   | (refine quiet_row 50 _ rfl b11 0 X X 50 _ rfl (fun U hU => (HBM.out U hU).2.1) (fun j v hv => by rw [Nat.zero_add]; exact hv) Tryz.underlying50 rfl (info_xe HIX.out.2.2.1) ?_; go_big_quiet_on; simp only [Act.put, List.setIfInBounds_toArray, List.set_cons_zero, List.set_cons_succ])
                   | (refine quiet_bd2 52 _ _ rfl (.agg sC) (.agg X) (.agg RC) rfl rfl HBD.out ?_; go_big_quiet_on; simp only [Act.put, List.setIfInBounds_toArray, List.set_cons_zero, List.set_cons_succ])
                   | (refine quiet_val10 (.pointer (some ⟨gm, 0, none⟩)) ?_ ?_; (focus (intro W hW; go_simp; done)); go_big_quiet_on; simp only [Act.put, List.setIfInBounds_toArray, List.set_cons_zero, List.set_cons_succ])
                   | (refine quiet_val10 (.pointer (some ⟨gm, 1, none⟩)) ?_ ?_; (focus (intro W hW; go_simp; done)); go_big_quiet_on; simp only [Act.put, List.setIfInBounds_toArray, List.set_cons_zero, List.set_cons_succ])
                   | (refine quiet_val10 (.pointer (some ⟨b11, 0, none⟩)) ?_ ?_; (focus (intro W hW; go_simp; done)); go_big_quiet_on; simp only [Act.put, List.setIfInBounds_toArray, List.set_cons_zero, List.set_cons_succ])
                   | (go_big_quiet_op; go_big_quiet_on)))
            refine wpQuiet_nil ?_
            intro w15 hw15
            obtain ⟨w16, hput, hm16, hz16⟩ := HPUT.out w15 (H13.out.1.next H13.out.2.1 hw15) (Nat.le_trans H13.out.2.1 hw15.size)
            have H16 : Hid (AdM w B gm mp mr (dN ++ [sf]) (ptK kyR dk (mwN sf ef)) b7 sC (some ⟨g9, o9, none⟩) l w16 ∧ B ≤ w16.heap.size) := ⟨hm16, hz16⟩
            clear hm16 hz16 hw15 HBM
            go_wp2
            go_roundw
            case rel => exact ⟨k + 1, _, by go_num, by omega, H16.out.1, H16.out.2, HNP.out⟩
            case measure => simp [intOf]; omega
        | some r =>
          have hfb : fb = true := HFO.out.2.1.symm
          subst hfb
          have HRP : Hid (r.1.p.size = 32) := r.2.1
          have hIP : (Tryz.prog.info? 48).map (·.size) = some (idc r.1.p).size := info_32 (by rw [idc_size, r.2.1])
          have hPV : ∀ j v, (idc r.1.p)[j]? = some v → V[0 + j]? = some v := fun j v hv => by rw [← HFO.out.2.2]; exact mrC_p r.1 r.2.1 j v hv
          obtain ⟨lb, hlb⟩ : ∃ lb, ltN r.1.p s = lb := ⟨_, rfl⟩
          have hLS : ∀ U, Calls Tryz.prog 43 #[.agg (idc r.1.p), .agg (idc s)] U fun e w' => e = .returned (.bool (ltN r.1.p s)) ∧ Below U.heap.size U w' := fun U => (less_grow r.1.p s U r.2.1 HS3.out).mono fun e w' ⟨h1, q, os, h2⟩ => ⟨h1, by rw [h2]; exact grow_below _ _ _⟩
          obtain ⟨PC, hPC⟩ : ∃ PC, idc r.1.p = PC := ⟨_, rfl⟩
          rw [hPC] at hIP hPV
          rw [hPC, HSC.out.1, hlb] at hLS
          have HIP : Hid ((Tryz.prog.info? 48).map (·.size) = some PC.size ∧ (∀ j v, PC[j]? = some v → V[0 + j]? = some v)) := ⟨hIP, hPV⟩
          have HLS : Hid (∀ U, Calls Tryz.prog 43 #[.agg PC, .agg sC] U fun e w' => e = .returned (.bool lb) ∧ Below U.heap.size U w') := hLS
          have HLB : Hid (ltN r.1.p s = lb) := hlb
          clear hIP hPV hLS hPC hlb hlen
          cases lb with
          | true =>
            have HNE : Hid (dk.map (·.1) = (l.take (k + 1)).foldl (adM s) (dR.map (·.1)) ∧ dk.length ≤ 1048577) := by
              have e : adV sf dk ef = dk := by
                unfold adV
                rw [HE9.out.1, HFO.out.1]
                simp only
                rw [if_pos (by rw [HSC.out.2]; exact HLB.out)]
              have := HNX.out
              rwa [e] at this
            go_wp2_with (first
              | (go_at_call 43; refine (HLS.out _).mono ?_; rintro e w14 ⟨rfl, hb14⟩)
              | (refine wpList_getG rfl 48 (.tmp 71) rfl g12 0 V PC 52 _ rfl H13.out.2.2.2 HIP.out.2 Tryz.underlying48 rfl HIP.out.1 ?_)
              | (refine wpList_getG rfl 48 (.tmp 7) rfl b7 0 sC sC 48 _ rfl H13.out.1.b (fun j v hv => by rw [Nat.zero_add]; exact hv) Tryz.underlying48 rfl HI.out.1 ?_)
              | fail)
            have H14 : Hid (AdM w B gm mp mr (dN ++ [sf]) dk b7 sC (some ⟨g9, o9, none⟩) l w14 ∧ B ≤ w14.heap.size ∧ Bk w14 b11 X 50 ∧ True) := ⟨H13.out.1.next H13.out.2.1 hb14, Nat.le_trans H13.out.2.1 hb14.size, H13.out.2.2.1.below hb14 H13.out.2.2.1.lt, trivial⟩
            clear hb14 H13
            
            go_roundw
            case rel => exact ⟨k + 1, dk, by go_num, by omega, H14.out.1, H14.out.2.1, HNE.out⟩
            case measure => simp [intOf]; omega
          | false =>
            have HNP : Hid ((ptK kyR dk (mwN sf ef)).map (·.1) = (l.take (k + 1)).foldl (adM s) (dR.map (·.1)) ∧ (ptK kyR dk (mwN sf ef)).length ≤ 1048577) := by
              have e : adV sf dk ef = ptK kyR dk (mwN sf ef) := by
                unfold adV
                rw [HE9.out.1, HFO.out.1]
                simp only
                rw [if_neg (by rw [HSC.out.2, HLB.out]; simp)]
              have := HNX.out
              rwa [e] at this
            go_wp2_with (first
              | (go_at_call 43; refine (HLS.out _).mono ?_; rintro e w14 ⟨rfl, hb14⟩)
              | (refine wpList_getG rfl 48 (.tmp 71) rfl g12 0 V PC 52 _ rfl H13.out.2.2.2 HIP.out.2 Tryz.underlying48 rfl HIP.out.1 ?_)
              | (refine wpList_getG rfl 48 (.tmp 7) rfl b7 0 sC sC 48 _ rfl H13.out.1.b (fun j v hv => by rw [Nat.zero_add]; exact hv) Tryz.underlying48 rfl HI.out.1 ?_)
              | fail)
            have H14 : Hid (AdM w B gm mp mr (dN ++ [sf]) dk b7 sC (some ⟨g9, o9, none⟩) l w14 ∧ B ≤ w14.heap.size ∧ Bk w14 b11 X 50 ∧ True) := ⟨H13.out.1.next H13.out.2.1 hb14, Nat.le_trans H13.out.2.1 hb14.size, H13.out.2.2.1.below hb14 H13.out.2.2.1.lt, trivial⟩
            clear hb14 H13
            have HBM : Hid (∀ U, Below w14.heap.size w14 U → U.cell? ⟨gm, 1, none⟩ = some (.map (some mr)) ∧ Bk U b11 X 50 ∧ Bk U b7 sC 48) := fun U hU => ⟨by rw [(H14.out.1.m.bk.below hU H14.out.1.m.bk.lt).cell]; rfl, H14.out.2.2.1.below hU H14.out.2.2.1.lt, H14.out.1.b.below hU H14.out.1.b.lt⟩
            refine wp_region_tail (Below w14.heap.size w14) 9 (by kernel_rfl) (by kernel_rfl) ((Below.refl _ _).drew) ?_
            simp only [List.take_succ_cons, List.take_zero, List.drop_succ_cons, List.drop_zero]
            try simp only [Act.put, List.setIfInBounds_toArray, List.set_cons_zero, List.set_cons_succ]
            repeat (first
              | go_big_quiet_skip
              | (go_big_quiet_want
                 first
                   | (refine quiet_one 75 _ rfl gm 1 (.map (some mr)) rfl (fun _ => by kernel_rfl) (fun U hU => (HBM.out U hU).1) ?_; go_big_quiet_on; simp only [Act.put, List.setIfInBounds_toArray, List.set_cons_zero, List.set_cons_succ])
                   | (refine quiet_row 48 _ rfl b11 0 X D 50 _ rfl (fun U hU => (HBM.out U hU).2.1) HXI.out Tryz.underlying48 rfl HIX.out.2.2.2 ?_; go_big_quiet_on; simp only [Act.put, List.setIfInBounds_toArray, List.set_cons_zero, List.set_cons_succ])
                   | (refine quiet_row 48 _ rfl b7 0 sC sC 48 _ rfl (fun U hU => (HBM.out U hU).2.2) (fun j v hv => by rw [Nat.zero_add]; exact hv) Tryz.underlying48 rfl HI.out.1 ?_; go_big_quiet_on; simp only [Act.put, List.setIfInBounds_toArray, List.set_cons_zero, List.set_cons_succ])
                   | (refine quiet_row 50 _ rfl b11 0 X X 50 _ rfl (fun U hU => (HBM.out U hU).2.1) (fun j v hv => by rw [Nat.zero_add]; exact hv) Tryz.underlying50 rfl (info_xe HIX.out.2.2.1) ?_; go_big_quiet_on; simp only [Act.put, List.setIfInBounds_toArray, List.set_cons_zero, List.set_cons_succ])
                   | (refine quiet_bd2 52 _ _ rfl (.agg sC) (.agg X) (.agg RC) rfl rfl HBD.out ?_; go_big_quiet_on; simp only [Act.put, List.setIfInBounds_toArray, List.set_cons_zero, List.set_cons_succ])
                   | (refine quiet_val10 (.pointer (some ⟨gm, 0, none⟩)) ?_ ?_; (focus (intro W hW; go_simp; done)); go_big_quiet_on; simp only [Act.put, List.setIfInBounds_toArray, List.set_cons_zero, List.set_cons_succ])
                   | (refine quiet_val10 (.pointer (some ⟨gm, 1, none⟩)) ?_ ?_; (focus (intro W hW; go_simp; done)); go_big_quiet_on; simp only [Act.put, List.setIfInBounds_toArray, List.set_cons_zero, List.set_cons_succ])
                   | (refine quiet_val10 (.pointer (some ⟨b11, 0, none⟩)) ?_ ?_; (focus (intro W hW; go_simp; done)); go_big_quiet_on; simp only [Act.put, List.setIfInBounds_toArray, List.set_cons_zero, List.set_cons_succ])
                   | (go_big_quiet_op; go_big_quiet_on)))
            refine wpQuiet_nil ?_
            intro w15 hw15
            obtain ⟨w16, hput, hm16, hz16⟩ := HPUT.out w15 (H14.out.1.next H14.out.2.1 hw15) (Nat.le_trans H14.out.2.1 hw15.size)
            have H16 : Hid (AdM w B gm mp mr (dN ++ [sf]) (ptK kyR dk (mwN sf ef)) b7 sC (some ⟨g9, o9, none⟩) l w16 ∧ B ≤ w16.heap.size) := ⟨hm16, hz16⟩
            clear hm16 hz16 hw15 HBM
            go_wp2
            go_roundw
            case rel => exact ⟨k + 1, _, by go_num, by omega, H16.out.1, H16.out.2, HNP.out⟩
            case measure => simp [intOf]; omega
      · have hkz : ¬ (k : Int) < (n : Nat) := by omega
        obtain rfl : k = n := by omega
        have HEND : Hid (dk.map (·.1) = l.foldl (adM sf.1) (dR.map (·.1)) ∧ dk.length ≤ 1048577) := by
          have := HR.out.2.2
          rw [List.take_of_length_le (by rw [HLN.out]; omega)] at this
          rw [HSC.out.2]
          exact this
        go_wp2
        go_ret
        exact ⟨.inr ⟨sf, l, HIS.out, .inr ⟨rfl, HNW.out, dk, HEND.out.1, HEND.out.2, HR.out.1.m⟩⟩, HR.out.1.bel⟩
end Go.Proofs.YtbfoiocbmhhdbaaGreat
/- midx.Index.bytes: its closure putNumber. -/
namespace Go.Proofs.YtbfoiocbmhhdbaaGreat
open Go.RowKit
set_option linter.unusedSimpArgs false
set_option linter.unusedVariables false
theorem enter_put1 : ∀ args u, (callFunc 66 args).run Tryz.prog u = .ok (.enter 66 args) u := fun args u => by kernel_rfl
set_option maxHeartbeats 1000000 in
set_option maxRecDepth 100000 in
/-- The closure putNumber. -/
theorem putNm (B b n : Nat) (l : List UInt8) (w : World) (hn : n < 4294967296) (h : Bld B b l w) (hlen : l.length ≤ 100000000) (hBw : B ≤ w.heap.size) :
    Calls Tryz.prog 66 #[.int .i64 (n : Int), .pointer (some ⟨b, 0, none⟩)] w fun e w' => e = .returned (.tuple #[]) ∧ Bld B b (l ++ f4 n) w' ∧ Below B w w' ∧ Oth b w w' := by
  have HP : Hid (Calls Tryz.prog 67 #[.string ⟨#[]⟩, .int .u64 (n : Int), .int .i64 4] w fun e w' => e = .returned (.tuple #[.string (⟨#[]⟩ ++ sb (fixN 4 n)), .int .i64 0]) ∧ Below w.heap.size w w') := by
    have := putFixed_ok ⟨#[]⟩ (n : Int) 4 w (by omega) (by omega) (by decide) (by decide) (by rw [Int.toNat_natCast]; exact hn) (by decide)
    rw [Int.toNat_natCast] at this
    exact this
  obtain ⟨Q, hQ⟩ : ∃ Q : ByteArray, (⟨#[]⟩ ++ sb (fixN 4 n) : ByteArray) = Q := ⟨_, rfl⟩
  have hQb : Q.data.toList = f4 n := by
    show bl Q = f4 n
    rw [← hQ, bl_append, bl_sb]; rfl
  have hQs : Q.size = 4 := by rw [← bl_length]; show Q.data.toList.length = 4; rw [hQb, f4_len]
  rw [hQ] at HP
  have HH : Hid (Bld B b l w) := h
  have HQ : Hid (Q.data.toList = f4 n ∧ Q.size = 4) := ⟨hQb, hQs⟩
  have hw1 : IntKind.u64.wrap (n : Int) = (n : Int) := by
    simp [IntKind.wrap, IntKind.bits, IntKind.signed]; omega
  clear hQ hQb hQs h
  go_enter Tryz.func66, Tryz.ntmps66
  go_wp2_with fail
  refine HP.out.mono ?_
  rintro e w1 ⟨rfl, hb1⟩
  have H1 : Hid (Bld B b l w1) := bld_keep11 HH.out hb1
  have HB1 : Hid (Below w.heap.size w w1) := hb1
  clear hb1
  go_wp2_with fail
  refine (writeS B b l Q w1 H1.out (by rw [HQ.out.2]; omega) (Nat.le_trans hBw HB1.out.size)).mono ?_
  rintro e w2 ⟨rfl, h2, hb2, ho2⟩
  have HE : Hid (Bld B b (l ++ f4 n) w2 ∧ Below B w w2 ∧ Oth b w w2) := ⟨by rw [← HQ.out.1]; exact h2, (HB1.out.mono hBw).trans hb2, (oth_below HB1.out).trans ho2⟩
  clear h2 hb2 ho2
  go_wp2
  go_end0
  exact ⟨rfl, HE.out⟩
end Go.Proofs.YtbfoiocbmhhdbaaGreat
