import Derived.Test.YtplfjfhpdfbpeaaDoorChecked
import Derived.BigQuiet
import Derived.Deep.QuietTactic
import Derived.StillTail
import Derived.Deep.Quiet
import Derived.Test.YtplfjfhpdfbpeaaDoorY9
import Derived.Test.YtplfjfhpdfbpeaaDoorY6
import Derived.Test.YtplfjfhpdfbpeaaDoorY7
import Derived.RegionTactic
import Derived.Test.YtplfjfhpdfbpeaaDoorY3
import Derived.ChangeAlike
/- A region that draws its order: its first operations quiet in a class of worlds, in whatever order; the last ones, which wait for all of these, one behind the other. -/
namespace Go.Proofs.YtplfjfhpdfbpeaaDoor
open Go.RowKit
set_option linter.unusedSimpArgs false
set_option linter.unusedVariables false
theorem quiet_val {P : Program} {o : Oper} {a : Act} {C : World → Prop} {K : Act → Prop} (v : Value) (h : ∀ w, C w → (execOp a.eval o).run P w = .ok (.value v) w) (hn : K (a.put o.dst v)) : o.quiet P a C K :=
  ⟨v, fun w hw => by unfold Oper.quietAt; rw [h w hw]; exact ⟨rfl, rfl⟩, hn⟩
theorem quiet_call {P : Program} {o : Oper} {a : Act} {C : World → Prop} {K : Act → Prop} (v : Value) (f : FuncId) (args : Array Value) (h : ∀ w, C w → (execOp a.eval o).run P w = .ok (.enter f args) w)
    (hc : ∀ w, C w → Calls P f args w (fun e w'' => e = .returned v ∧ C w'')) (hn : K (a.put o.dst v)) : o.quiet P a C K :=
  ⟨v, fun w hw => by unfold Oper.quietAt; rw [h w hw]; exact ⟨rfl, hc w hw⟩, hn⟩
section
variable {P : Program} {ops : Array Oper} {md : Region.Mode} {C : World → Prop}
/-- So many operations of the head come up, in whatever order, then L holds. -/
def headQ (P : Program) (md : Region.Mode) (ops : Array Oper) (C : World → Prop) (n : Nat) (L : Array Bool → Act → Prop) : Nat → Array Bool → Act → Prop
  | 0, listed, a => L listed a
  | f + 1, listed, a => (∃ i, i ∈ Region.ready md ops listed) ∧ ∀ i, i ∈ Region.ready md ops listed → i < n ∧ qOp P ops C i (headQ P md ops C n L f (listed.setIfInBounds i true)) a
theorem any_of_headQ {n g : Nat} {L : Array Bool → Act → Prop} {R : Exit → Act → World → Prop} (hL : ∀ listed a w, C w → L listed a → wpAny P md ops R g listed a w) (f : Nat) :
    ∀ (listed : Array Bool) (a : Act) (w : World), C w → headQ P md ops C n L f listed a → wpAny P md ops R (f + g) listed a w := by
  induction f with
  | zero => intro listed a w hw h; rw [Nat.zero_add]; exact hL _ _ _ hw h
  | succ f ih =>
    intro listed a w hw h
    rw [Nat.add_right_comm]
    refine ⟨fun h0 => ?_, fun i hi => wpOp_of_qOp hw (fun a' w' hw' h' => ih _ a' w' hw' h') (h.2 i hi).2⟩
    obtain ⟨i, hi⟩ := h.1
    rw [h0] at hi; cases hi
/-- One of the head may be taken first. -/
theorem headQ_first {n i : Nat} {oi : Oper} {v : Value} {L : Array Bool → Act → Prop} (hi : ops[i]? = some oi) (hsel : ∀ (j : Nat) (o : Oper) cs b, ops[j]? = some o → o.op ≠ .select cs b)
    (hs : Region.sinkB md ops n = true) (hc : Region.chainB md ops n = true) (hn : n < ops.size) (hin : i < n) (hdone : ∀ listed a, L listed a → ∀ j, j ∈ Region.ready md ops listed → n ≤ j) (f : Nat) :
    ∀ (listed : Array Bool) (a : Act), HeadInv md ops n listed →
      (∀ j oj, ops[j]? = some oj → j ≠ i → listed.getD j true = false → (∀ e ∈ oj.after, Region.binds md e = true → e.on ≠ i) → oi.apart ops oj = true) →
      i ∈ Region.ready md ops listed → YieldsIn P ops C oi v a →
      headQ P md ops C n L f (listed.setIfInBounds i true) (a.put oi.dst v) → headQ P md ops C n L (f + 1) listed a := by
  induction f with
  | zero =>
    intro listed a inv _ hr hy H
    refine ⟨⟨i, hr⟩, fun j hj => ?_⟩
    have hun := (mem_ready.1 hr).1
    have hjn : j < n := Nat.lt_of_not_le fun h => tail_waits hs hc hn inv _ i rfl hin hun j h hj
    by_cases e : j = i
    · subst e; exact ⟨hjn, hy.qOp hi H⟩
    · have := hdone _ _ H j (ready_mono hj e); omega
  | succ f ih =>
    intro listed a inv hfree hr hy H
    refine ⟨⟨i, hr⟩, fun j hj => ?_⟩
    have hun := (mem_ready.1 hr).1
    have hjn : j < n := Nat.lt_of_not_le fun h => tail_waits hs hc hn inv _ i rfl hin hun j h hj
    refine ⟨hjn, ?_⟩
    by_cases e : j = i
    · subst e; exact hy.qOp hi H
    · obtain ⟨hjun, oj, hoj, hall⟩ := mem_ready.1 hj
      have hap : oi.apart ops oj = true := hfree j oj hoj e hjun (fun d hd hb he => by
        have h1 := hall d hd hb
        rw [he, getD_both hun] at h1; cases h1)
      have h2 := qOp_put hoj hap (fun cs b => hsel i oi cs b hi) (fun cs b => hsel j oj cs b hoj) hy (H.2 j (ready_mono hj e)).2
      refine qOp_mono (fun a' h3 => ih _ a' (inv.set hj hjn) (fun k ok hk hki hu hno => hfree k ok hk hki ?_ hno) (ready_mono hr (Ne.symm e)) h3.1 ?_) h2
      · by_cases ejk : j = k
        · subst ejk; exact hjun
        · rwa [getD_set_ne true ejk] at hu
      · rw [Array.setIfInBounds_comm _ _ e]; exact h3.2
theorem headQ_lex {n g : Nat} {Lq : Act → Prop} (hsel : Region.noSelect ops = true) (hs : Region.sinkB md ops n = true) (hc : Region.chainB md ops n = true) (hn : n < ops.size) (l : List Oper) :
    ∀ (k : Nat) (listed : Array Bool) (a : Act), (∀ j, j < l.length → l[j]? = ops[k + j]?) → k + l.length = n → HeadInv md ops n listed → Region.lexHead md ops g l.length k listed = true → wpQuiet P ops C Lq l a →
    headQ P md ops C n (fun listed' a' => Region.seqB md ops g n listed' = true ∧ Lq a') l.length listed a := by
  induction l with
  | nil =>
    intro k listed a _ hk _ hB h
    obtain rfl : k = n := by simpa using hk
    exact ⟨hB, h⟩
  | cons o l ih =>
    intro k listed a hl hk inv hB h
    rw [List.length_cons] at hk
    have h0 : ops[k]? = some o := by have := hl 0 (by simp); simpa using this.symm
    simp only [List.length_cons, Region.lexHead, Bool.and_eq_true] at hB
    have hr : k ∈ Region.ready md ops listed := by simpa using hB.1.1
    have hq : qOp P ops C k (wpQuiet P ops C Lq l) a := by unfold qOp; simp only [h0]; exact h
    obtain ⟨v, hy, hK⟩ := yieldsIn_of_qOp h0 hq
    refine headQ_first h0 (Region.noSelect_spec hsel) hs hc hn (by omega) (fun listed' a' hL => seqB_ready hL.1) l.length listed a inv (Region.free_spec h0 hB.1.2) hr hy ?_
    refine ih (k + 1) _ _ (fun j hj => ?_) (by omega) (inv.set hr (by omega)) hB.2 hK
    have := hl (j + 1) (by simp; omega)
    rw [List.getElem?_cons_succ] at this
    rw [this]; congr 1; omega
theorem wp_region_tail {id : Nat} {Q : Exit → Act → World → Prop} {a : Act} {w : World} {l : List Oper} (C : World → Prop) (n : Nat) (hm : P.follows .mixedOrders = true) (hB : Region.lexTailB .any l.toArray n = true) (hC : C w.drew)
    (h : wpQuiet P l.toArray C (fun a' => ∀ w', C w' → wpList P l.toArray Q (l.drop n) a' w') (l.take n) a) : (Code.region id l.toArray true).wp P Q a w := by
  simp only [Region.lexTailB, Bool.and_eq_true, decide_eq_true_eq] at hB
  obtain ⟨⟨⟨⟨hsel, hn⟩, hs⟩, hc⟩, hlex⟩ := hB
  have hn' : n < l.length := by simpa using hn
  have htl : (l.take n).length = n := by rw [List.length_take]; omega
  have hdl : (l.drop n).length = l.toArray.size - n := by simp
  have inv0 : HeadInv .any l.toArray n (Array.replicate l.toArray.size false) := by
    refine ⟨by simp, fun j oj _ hl => ?_, fun t _ ht => getD_in (by simpa using ht) (getD_replicate_false _ _)⟩
    rw [getD_replicate_false] at hl; cases hl
  have H := headQ_lex (P := P) (C := C) (md := .any) (g := l.toArray.size - n) hsel hs hc hn (l.take n) 0 _ a (fun j hj => by
    rw [htl] at hj
    rw [List.getElem?_take_of_lt hj]; simp) (by omega) inv0 (by rw [htl]; exact hlex) h
  have H2 := any_of_headQ (R := Q) (g := l.toArray.size - n) (fun listed a' w' hw' hL => by
    have := wpAny_of_seq (md := .any) (Q' := Q) (l.drop n) n listed a' w' (fun j => by simp [List.getElem?_drop]) (by rw [hdl]; exact hL.1) (hL.2 w' hw')
    rwa [hdl] at this) _ _ _ _ hC H
  refine wp_region_any hm ?_
  rwa [htl, show n + (l.toArray.size - n) = l.toArray.size from by omega] at H2
end
end Go.Proofs.YtplfjfhpdfbpeaaDoor
/- The document's Add, Has, Ones. -/
namespace Go.Proofs.YtplfjfhpdfbpeaaDoor
open Go.RowKit
set_option linter.unusedSimpArgs false
set_option linter.unusedVariables false
/-- While the places of a name are asked for. -/
structure RaS (w : World) (f g n k : Nat) (s : List UInt8) (D : Array Value) (W : World) : Prop where
  fil : RfS W f g n k s
  box : Bk W w.heap.size D 36
  bel : Below w.heap.size w W
theorem RaS.drew {w : World} {f g n k : Nat} {s : List UInt8} {D : Array Value} {W : World} (h : RaS w f g n k s D W) : RaS w f g n k s D W.drew := ⟨h.fil.below (Below.refl _ _).drew, h.box, h.bel.drew⟩
theorem ad_next {n : Nat} {x : ByteArray} {s : List UInt8} {i : Nat} (hn : 0 < n) (hl : 8 * s.length = n) : ∀ j, j < n → (if j = plc n x i then true else btR (adK n x i s) j) = btR (adK n x (i + 1) s) j := by
  intro j _
  rw [adK, btR_st _ _ _ (by rw [adK_len]; exact plc_in n x i s hn hl)]
  by_cases e : j = plc n x i
  · simp [e]
  · simp [e]
set_option maxHeartbeats 2000000 in
set_option maxRecDepth 100000 in
theorem radd_any (x : ByteArray) (f g n k : Nat) (s : List UInt8) (w : World) (hx : x.size = 32) (hl : 8 * s.length = n) (h : RfS w f g n k s) :
    Calls Tryd.prog 11 #[.pointer (some ⟨f, 0, none⟩), .agg (idc x)] w fun e w' => e = .returned (.tuple #[]) ∧ RfS w' f g n k (adK n x k s) ∧ w.grownBy w' (some g) := by
  have hfl := h.lt
  have hgl := h.row.lt
  have hne := h.ne
  have h2 := okF_le h.ok
  have h1 := okF_pos h.ok
  have h3 := h.ok.2.2
  have HO : Hid (okF n k ∧ 8 * s.length = n) := ⟨h.ok, hl⟩
  have HI : Hid ((Tryd.prog.info? 36).map (·.size) = some (idc x).size) := info_32 (by rw [idc_size, hx])
  have HR : Hid (RaS w f g n k s (idc x) (w.alloc (.cells (idc x) 36))) := ⟨h.below ((Below.refl _ _).alloc (Nat.le_refl _) _), bk_new _ _ _, (Below.refl _ _).alloc (Nat.le_refl _) _⟩
  have HP : Hid (∀ W, Calls Tryd.prog 34 #[.agg (idc x), .int .i64 (n : Int), .int .i64 (k : Int)] W fun e w' => ∃ a c, e = .returned (.slice a k c) ∧ NlL w' a (plL n x k) ∧ Below W.heap.size W w' ∧ (∀ b o s, a = some ⟨b, o, s⟩ → W.heap.size ≤ b)) := fun W => rplaces_any x n k W hx h.ok
  obtain ⟨D, hD⟩ : ∃ D, idc x = D := ⟨_, rfl⟩
  rw [hD] at HI HR HP ⊢
  clear h hD hx hl
  go_enter Tryd.func11, Tryd.ntmps11
  go_wp2
  refine wp_region_tail (RaS w f g n k s D) 9 (by kernel_rfl) (by kernel_rfl) HR.out.drew ?_
  simp only [List.take_succ_cons, List.take_zero, List.drop_succ_cons, List.drop_zero]
  repeat (first
    | go_big_quiet_skip
    | (go_big_quiet_want
       first
         | (refine quiet_row 36 _ rfl w.heap.size 0 D D 36 _ rfl (fun W hW => hW.box) (fun j v hv => by rw [Nat.zero_add]; exact hv) Tryd.underlying36 rfl HI.out ?_; go_big_quiet_on; simp only [Act.put, List.setIfInBounds_toArray, List.set_cons_zero, List.set_cons_succ])
         | (refine quiet_one 3 _ rfl f 0 (.int .i64 (n : Int)) rfl (fun w => by kernel_rfl) (fun W hW => hW.fil.cells.1) ?_; go_big_quiet_on; simp only [Act.put, List.setIfInBounds_toArray, List.set_cons_zero, List.set_cons_succ])
         | (refine quiet_one 3 _ rfl f 1 (.int .i64 (k : Int)) rfl (fun w => by kernel_rfl) (fun W hW => hW.fil.cells.2.1) ?_; go_big_quiet_on; simp only [Act.put, List.setIfInBounds_toArray, List.set_cons_zero, List.set_cons_succ])
         | (go_big_quiet_op; go_big_quiet_on)
         | (refine quiet_val10 (.pointer (some ⟨f, 0, none⟩)) ?_ ?_; (focus (intro W hW; go_simp; done)); go_big_quiet_on; simp only [Act.put, List.setIfInBounds_toArray, List.set_cons_zero, List.set_cons_succ])
         | (refine quiet_val10 (.pointer (some ⟨f, 1, none⟩)) ?_ ?_; (focus (intro W hW; go_simp; done)); go_big_quiet_on; simp only [Act.put, List.setIfInBounds_toArray, List.set_cons_zero, List.set_cons_succ])))
  refine wpQuiet_nil ?_
  intro w9 hw9
  have H9 : Hid (RaS w f g n k s D w9) := hw9
  clear hw9 HR HI
  go_wp2_with fail
  refine (HP.out _).mono ?_
  rintro e w1 ⟨a, c, rfl, nl, b1, la⟩
  have H1 : Hid (RfS w1 f g n k (adK n x 0 s) ∧ NlL w1 a (plL n x k) ∧ Below w.heap.size w w1 ∧ (∀ b o s, a = some ⟨b, o, s⟩ → b ≠ g)) := ⟨H9.out.fil.below b1, nl, H9.out.bel.trans (b1.mono H9.out.bel.size), fun b o s e => by have := la b o s e; have := H9.out.fil.row.lt; omega⟩
  clear nl b1 la H9 HP
  go_wp2
  go_loopw [5] (fun v wr => ∃ i : Nat, i ≤ k ∧ v = .int .i64 i ∧ Hid (RfS wr f g n k (adK n x i s) ∧ w1.grownBy wr (some g))) (fun v _ => k - (intOf v).toNat)
  case atStart => exact ⟨0, Nat.zero_le _, rfl, H1.out.1, World.grownBy.refl _ _⟩
  case round =>
    obtain ⟨i, hik, rfl, HW⟩ := hrel
    by_cases hlt : i < k
    · obtain ⟨ga, oa, ea, hga, hca⟩ := H1.out.2.1 i _ (plL_get n x k i hlt)
      have hgg : ga ≠ g := H1.out.2.2.2 ga oa none ea
      subst ea
      have hc : wr.cell? ⟨ga, oa + i, none⟩ = some (.int .i64 (plc n x i : Int)) := HW.out.2.cell hca (by simp; omega)
      have hpn : plc n x i < n := Nat.mod_lt _ (by omega)
      have HN : Hid (RfS (wr.setCell ⟨g, plc n x i, none⟩ (.bool true)) f g n k (adK n x (i + 1) s) ∧ wr.grownBy (wr.setCell ⟨g, plc n x i, none⟩ (.bool true)) (some g)) := by
        obtain ⟨a1, a2⟩ := HW.out.1.set (plc n x i) true hpn
        exact ⟨a1.congr (ad_next (by omega) HO.out.2), a2⟩
      have hcb := HW.out.1.cell _ hpn
      have hfb := HW.out.1.row.frozen (plc n x i)
      obtain ⟨_, _, cc, hc2, hcc⟩ := HW.out.1.cells
      obtain ⟨q, hq⟩ : ∃ q, plc n x i = q := ⟨_, rfl⟩
      obtain ⟨ob, hob⟩ : ∃ ob, btR (adK n x i s) (plc n x i) = ob := ⟨_, rfl⟩
      rw [hob] at hcb
      rw [hq] at hc hpn HN hcb hfb
      have hqz : (q : Int) < (n : Nat) := by omega
      clear hq hca hob
      go_wp2_with fail
      go_region
      go_wp2
      go_roundw
      case rel => exact ⟨i + 1, by omega, by go_num, HN.out.1.below (Below.refl _ _).drew, (HW.out.2.trans HN.out.2).trans (gr_of_below (Below.refl _ _).drew _)⟩
      case measure => simp [intOf]; omega
    · obtain rfl : i = k := by omega
      go_wp2
      go_end0
      exact ⟨rfl, HW.out.1, (gr_of_below H1.out.2.2.1 _).trans HW.out.2⟩
set_option maxHeartbeats 2000000 in
set_option maxRecDepth 100000 in
theorem rhas_any (x : ByteArray) (f g n k : Nat) (s : List UInt8) (w : World) (hx : x.size = 32) (h : RfS w f g n k s) :
    Calls Tryd.prog 20 #[.pointer (some ⟨f, 0, none⟩), .agg (idc x)] w fun e w' => e = .returned (.bool (haK n x s k)) ∧ Below w.heap.size w w' := by
  have h2 := okF_le h.ok
  have h1 := okF_pos h.ok
  have h3 := h.ok.2.2
  have HI : Hid ((Tryd.prog.info? 36).map (·.size) = some (idc x).size) := info_32 (by rw [idc_size, hx])
  have HR : Hid (RaS w f g n k s (idc x) (w.alloc (.cells (idc x) 36))) := ⟨h.below ((Below.refl _ _).alloc (Nat.le_refl _) _), bk_new _ _ _, (Below.refl _ _).alloc (Nat.le_refl _) _⟩
  have HP : Hid (∀ W, Calls Tryd.prog 34 #[.agg (idc x), .int .i64 (n : Int), .int .i64 (k : Int)] W fun e w' => ∃ a c, e = .returned (.slice a k c) ∧ NlL w' a (plL n x k) ∧ Below W.heap.size W w' ∧ (∀ b o s, a = some ⟨b, o, s⟩ → W.heap.size ≤ b)) := fun W => rplaces_any x n k W hx h.ok
  obtain ⟨D, hD⟩ : ∃ D, idc x = D := ⟨_, rfl⟩
  rw [hD] at HI HR HP ⊢
  clear h hD hx
  go_enter Tryd.func20, Tryd.ntmps20
  go_wp2
  refine wp_region_tail (RaS w f g n k s D) 9 (by kernel_rfl) (by kernel_rfl) HR.out.drew ?_
  simp only [List.take_succ_cons, List.take_zero, List.drop_succ_cons, List.drop_zero]
  repeat (first
    | go_big_quiet_skip
    | (go_big_quiet_want
       first
         | (refine quiet_row 36 _ rfl w.heap.size 0 D D 36 _ rfl (fun W hW => hW.box) (fun j v hv => by rw [Nat.zero_add]; exact hv) Tryd.underlying36 rfl HI.out ?_; go_big_quiet_on; simp only [Act.put, List.setIfInBounds_toArray, List.set_cons_zero, List.set_cons_succ])
         | (refine quiet_one 3 _ rfl f 0 (.int .i64 (n : Int)) rfl (fun w => by kernel_rfl) (fun W hW => hW.fil.cells.1) ?_; go_big_quiet_on; simp only [Act.put, List.setIfInBounds_toArray, List.set_cons_zero, List.set_cons_succ])
         | (refine quiet_one 3 _ rfl f 1 (.int .i64 (k : Int)) rfl (fun w => by kernel_rfl) (fun W hW => hW.fil.cells.2.1) ?_; go_big_quiet_on; simp only [Act.put, List.setIfInBounds_toArray, List.set_cons_zero, List.set_cons_succ])
         | (go_big_quiet_op; go_big_quiet_on)
         | (refine quiet_val10 (.pointer (some ⟨f, 0, none⟩)) ?_ ?_; (focus (intro W hW; go_simp; done)); go_big_quiet_on; simp only [Act.put, List.setIfInBounds_toArray, List.set_cons_zero, List.set_cons_succ])
         | (refine quiet_val10 (.pointer (some ⟨f, 1, none⟩)) ?_ ?_; (focus (intro W hW; go_simp; done)); go_big_quiet_on; simp only [Act.put, List.setIfInBounds_toArray, List.set_cons_zero, List.set_cons_succ])))
  refine wpQuiet_nil ?_
  intro w9 hw9
  have H9 : Hid (RaS w f g n k s D w9) := hw9
  clear hw9 HR HI
  go_wp2_with fail
  refine (HP.out _).mono ?_
  rintro e w1 ⟨a, c, rfl, nl, b1, la⟩
  have H1 : Hid (RfS w1 f g n k s ∧ NlL w1 a (plL n x k) ∧ Below w.heap.size w w1) := ⟨H9.out.fil.below b1, nl, H9.out.bel.trans (b1.mono H9.out.bel.size)⟩
  clear nl b1 la H9 HP
  go_wp2
  go_loopw [6] (fun v wr => ∃ i : Nat, i ≤ k ∧ v = .int .i64 i ∧ Hid (Below w1.heap.size w1 wr ∧ haK n x s i = true)) (fun v _ => k - (intOf v).toNat)
  case atStart => exact ⟨0, Nat.zero_le _, rfl, Below.refl _ _, rfl⟩
  case round =>
    obtain ⟨i, hik, rfl, HW⟩ := hrel
    by_cases hlt : i < k
    · obtain ⟨ga, oa, ea, hga, hca⟩ := (H1.out.2.1.below HW.out.1) i _ (plL_get n x k i hlt)
      subst ea
      have hpn : plc n x i < n := Nat.mod_lt _ (by omega)
      have hcb := (H1.out.1.below HW.out.1).cell _ hpn
      obtain ⟨_, _, cc, hc2, hcc⟩ := (H1.out.1.below HW.out.1).cells
      cases hv : btR s (plc n x i) with
      | true =>
        have HN : Hid (haK n x s (i + 1) = true) := by show _ = true; rw [haK, HW.out.2, hv]; rfl
        rw [hv] at hcb
        obtain ⟨q, hq⟩ : ∃ q, plc n x i = q := ⟨_, rfl⟩
        rw [hq] at hca hpn hcb
        have hqz : (q : Int) < (n : Nat) := by omega
        clear hq hv
        go_wp2_with fail
        go_region
        go_wp2
        go_roundw
        case rel => exact ⟨i + 1, by omega, by go_num, HW.out.1.drew, HN.out⟩
        case measure => simp [intOf]; omega
      | false =>
        have HN : Hid (haK n x s k = false) := by
          show _ = false
          rw [Bool.eq_false_iff]
          intro hc
          have := (haK_iff n x s k).1 hc i hlt
          rw [hv] at this
          cases this
        rw [hv] at hcb
        obtain ⟨q, hq⟩ : ∃ q, plc n x i = q := ⟨_, rfl⟩
        rw [hq] at hca hpn hcb
        have hqz : (q : Int) < (n : Nat) := by omega
        clear hq hv
        go_wp2_with fail
        go_region
        go_wp2
        go_ret
        exact ⟨by rw [HN.out]; rfl, H1.out.2.2.trans (HW.out.1.drew.mono H1.out.2.2.size)⟩
    · obtain rfl : i = k := by omega
      go_wp2
      go_ret
      exact ⟨by rw [HW.out.2]; rfl, H1.out.2.2.trans (HW.out.1.mono H1.out.2.2.size)⟩
set_option maxHeartbeats 1000000 in
theorem rones_any (f g n k : Nat) (s : List UInt8) (w : World) (hl : 8 * s.length = n) (h : RfS w f g n k s) :
    Calls Tryd.prog 22 #[.pointer (some ⟨f, 0, none⟩)] w fun e w' => e = .returned (.int .i64 (onR s : Int)) ∧ w' = w := by
  have h2 := okF_le h.ok
  obtain ⟨_, _, cc, hc2, hcc⟩ := h.cells
  have HR : Hid (RfS w f g n k s) := h
  have HO : Hid (onR s = smB (btR s) n) := by show _ = _; rw [onR_eq, hl]
  clear h hl
  go_enter Tryd.func22, Tryd.ntmps22
  go_wp2
  go_loopw [3, 4] (fun v t wr => ∃ i m : Nat, i ≤ n ∧ t = .int .i64 i ∧ v = .int .i64 m ∧ m ≤ i ∧ Hid (smB (btR s) i = m) ∧ wr = w) (fun _ t _ => n - (intOf t).toNat)
  case atStart => exact ⟨0, 0, Nat.zero_le _, rfl, rfl, by omega, rfl, rfl⟩
  case round =>
    obtain ⟨i, m, hi, rfl, rfl, hm, HM, rfl⟩ := hrel
    by_cases hlt : i < n
    · have hc := HR.out.cell i hlt
      cases hv : btR s i with
      | true =>
        have HN : Hid (smB (btR s) (i + 1) = m + 1) := by show _ = _; rw [smB, HM.out, hv]; rfl
        rw [hv] at hc
        clear hv
        go_wp2
        go_roundw
        case rel => exact ⟨i + 1, m + 1, by omega, by go_num, by go_num, by omega, HN.out, trivial⟩
        case measure => simp [intOf]; omega
      | false =>
        have HN : Hid (smB (btR s) (i + 1) = m) := by show _ = _; rw [smB, HM.out, hv]; rfl
        rw [hv] at hc
        clear hv
        go_wp2
        go_roundw
        case rel => exact ⟨i + 1, m, by omega, by go_num, by go_num, by omega, HN.out, trivial⟩
        case measure => simp [intOf]; omega
    · obtain rfl : i = n := by omega
      go_wp2
      go_ret
      exact ⟨by rw [HO.out, HM.out]; rfl, rfl⟩
end Go.Proofs.YtplfjfhpdfbpeaaDoor
/- The walk of a reader's Fixed. -/
namespace Go.Proofs.YtplfjfhpdfbpeaaDoor
open Go.RowKit
set_option linter.unusedSimpArgs false
set_option linter.unusedVariables false
theorem ret_ue {a b : Nat} {k l : IntKind} {c : Int} (h : a = b) : Ending.returned (.tuple #[.int k a, .int l c]) = .returned (.tuple #[.int k b, .int l c]) := by rw [h]
end Go.Proofs.YtplfjfhpdfbpeaaDoor
/- Beside the reader's Fixed. -/
/- The walk of the law's own helper width; a reader's calls where what was put stands at the front. -/
namespace Go.Proofs.YtplfjfhpdfbpeaaDoor
open Go.RowKit
set_option linter.unusedSimpArgs false
set_option linter.unusedVariables false
theorem app_size {s a r : ByteArray} (h : s = a ++ r) : s.size = a.size + r.size := by subst h; simp
theorem app_take {s a r : ByteArray} (h : s = a ++ r) : (bl s).take a.size = bl a := by
  subst h; rw [bl_append, List.take_append_of_le_length (by rw [bl_length]; exact Nat.le_refl _), List.take_of_length_le (by rw [bl_length]; exact Nat.le_refl _)]
/-- Uint, where a short number stands at the front. -/
theorem uint_front (s r : ByteArray) (n : Nat) (b : Nat) (w : World) (hf : w.frozen? ⟨b, 0, none⟩ = false) (hb : b < w.heap.size) (hs : s.size ≤ maxLen) (hc : w.cell? ⟨b, 0, none⟩ = some (.string s)) (hn : n < 2 ^ 64) (he : s = sb (encS n) ++ r) :
    Calls Tryd.prog 40 #[.pointer (some ⟨b, 0, none⟩)] w fun e w' => e = .returned (.tuple #[.int .u64 n, .int .i64 0]) ∧ Step b w w' r := by
  obtain ⟨e1, e2⟩ := sh_enc n s r hn he
  have h := uint_ok s b w hs hc hf hb (by have := slen_pos n; omega)
  have hz : (sb (encS n)).size = slen n := by rw [sb_size, encS_length]
  rw [e1, e2, drop_front s _ r (slen n) he hz.symm] at h
  exact h
end Go.Proofs.YtplfjfhpdfbpeaaDoor
/- The walk of the document's own short (munimentref01). -/
namespace Go.Proofs.YtplfjfhpdfbpeaaDoor
open Go.RowKit
set_option linter.unusedSimpArgs false
set_option linter.unusedVariables false
theorem raccStep (acc b k : Nat) (hb : b < 256) (hacc : acc < 128 ^ k) (hk : k ≤ 8 ∨ (k = 9 ∧ b % 128 ≤ 1)) :
    IntKind.u64.wrap ((acc : Int) + IntKind.u64.wrap ((b : Int) % 128 * 2 ^ (7 * k))) = ((acc + b % 128 * 128 ^ k : Nat) : Int) ∧ acc + b % 128 * 128 ^ k < 2 ^ 64 := by
  have h2 := (accStep acc b k hb hacc hk).2
  refine ⟨?_, h2⟩
  have e2 : ((b : Int) % 128) * 2 ^ (7 * k) = ((b % 128 * 128 ^ k : Nat) : Int) := by
    rw [pow128, Int.natCast_mul, Int.natCast_pow]; rfl
  rw [e2, IntKind.wrap_u64, IntKind.wrap_u64]
  generalize b % 128 * 128 ^ k = q at h2 ⊢
  omega
theorem rsh_good (s : ByteArray) (k acc : Nat) (H : decS (bl s) = dec k acc ((bl s).drop k) ∧ (k ≤ 9 → acc < 128 ^ k)) (h : k < s.size) (hk : k < 10) (hb : s[k].toNat < 128)
    (hc : ¬ ((s[k].toNat = 0 ∧ 0 < k) ∨ (1 < s[k].toNat ∧ k = 9))) :
    IntKind.u64.wrap ((acc : Int) + IntKind.u64.wrap ((s[k].toNat : Int) % 128 * 2 ^ (7 * k))) = shN s ∧ (k : Int) + 1 = shK s := by
  obtain ⟨H1, H2⟩ := H
  rw [dec_good s k acc h hk hb hc] at H1
  have e := (raccStep acc s[k].toNat k (by omega) (H2 (by omega)) (by omega)).1
  refine sh_some s _ _ _ _ H1 ?_ (by omega)
  rw [e, Nat.mod_eq_of_lt hb]
theorem rsh_nine (s : ByteArray) (k acc : Nat) (H : decS (bl s) = dec k acc ((bl s).drop k) ∧ (k ≤ 9 → acc < 128 ^ k)) (h : k < s.size) (hk : k = 9) (hb : s[k].toNat ≤ 1) (hc : ¬ s[k].toNat = 0) :
    IntKind.u64.wrap ((acc : Int) + (s[k].toNat : Int) % 128 * 9223372036854775808) = shN s ∧ (10 : Int) = shK s := by
  have e := rsh_good s k acc H h (by omega) (by omega) (by omega)
  rw [show 7 * k = 63 from by omega, show (k : Int) + 1 = 10 from by omega] at e
  rw [← e.1, ← e.2]
  refine ⟨?_, rfl⟩
  congr 2
  rw [IntKind.wrap_u64]
  omega
theorem rsh_zero (s : ByteArray) (k acc : Nat) (H : decS (bl s) = dec k acc ((bl s).drop k) ∧ (k ≤ 9 → acc < 128 ^ k)) (h : k < s.size) (hk : ¬ 0 < k) (hb : s[k].toNat = 0) :
    IntKind.u64.wrap ((acc : Int) + IntKind.u64.wrap 0) = shN s ∧ (k : Int) + 1 = shK s := by
  have e := rsh_good s k acc H h (by omega) (by omega) (by omega)
  rw [hb] at e
  simpa using e
set_option maxHeartbeats 800000 in
set_option maxRecDepth 100000 in
theorem rshort_any (s : ByteArray) (w : World) (hs : s.size ≤ maxLen) :
    Calls Tryd.prog 55 #[.string s] w fun e w' => e = .returned (.tuple #[.int .u64 (shN s), .int .i64 (shK s)]) ∧ w' = w := by
  unfold maxLen at hs
  go_enter Tryd.func55, Tryd.ntmps55
  go_wp2
  go_loop [4, 5] (fun v i => ∃ (k acc : Nat), k ≤ s.size ∧ k ≤ 10 ∧ acc < 2 ^ 64 ∧ i = .int .i64 k ∧ v = .int .u64 acc ∧ Hid (decS (bl s) = dec k acc ((bl s).drop k) ∧ (k ≤ 9 → acc < 128 ^ k))) (fun _ i => 10 - (intOf i).toNat)
  case atStart => exact ⟨0, 0, by omega, by omega, by omega, rfl, rfl, ⟨rfl, fun _ => by omega⟩⟩
  case round =>
    obtain ⟨k, acc, hk1, hk2, hacc, rfl, rfl, HR⟩ := hrel
    by_cases hlt : k < s.size ∧ k < 10
    · obtain ⟨g1, g2⟩ := hlt
      have hB := s[k].toNat_lt
      by_cases hb : (128 : Int) ≤ s[k].toNat
      · by_cases h9 : k = 9
        · have h9' : ((k : Int) == 9) = true := by simp [h9]
          have H9 : Hid (k = 9) := h9
          clear h9
          go_wp2
          go_ret2
          refine ⟨ret_sh s _ _ (sh_none s ?_), rfl⟩
          rw [HR.out.1, dec_more s k acc g1 g2 (by omega), dec_ten _ _ _ (by have := H9.out; omega)]
        · have h9' : ((k : Int) == 9) = false := by rw [beq_eq_false_iff_ne]; omega
          have H9 : Hid (¬ k = 9) := h9
          clear h9
          go_wp2
          go_round
          case rel =>
            obtain ⟨R1, R2⟩ := HR.out
            rw [dec_more s k acc g1 g2 (by omega)] at R1
            have h9 := H9.out
            obtain ⟨e1, e2⟩ := raccStep acc s[k].toNat k hB (R2 (by omega)) (by omega)
            exact ⟨k + 1, _, by omega, by omega, e2, by go_num, by rw [e1], ⟨R1, fun _ => accNext _ _ _ (R2 (by omega))⟩⟩
          case measure => simp [intOf]; omega
      · have hb2 : (s[k].toNat : Int) < 128 := by omega
        go_wp2
        all_goals go_ret2
        all_goals refine ⟨ret_sh s _ _ ?_, rfl⟩
        all_goals first
          | exact rsh_good s k acc HR.out g1 g2 (by omega) (by omega)
          | exact sh_none s (by rw [HR.out.1]; exact dec_bad s k acc g1 g2 (by omega) (by omega))
          | exact rsh_nine s k acc HR.out g1 (by omega) (by omega) (by omega)
          | exact rsh_zero s k acc HR.out g1 (by omega) (by omega)
    · by_cases hl : k < s.size
      · go_wp2
        go_ret2
        refine ⟨ret_sh s _ _ (sh_none s ?_), rfl⟩
        rw [HR.out.1]
        exact dec_ten _ _ _ (by omega)
      · go_wp2
        go_ret2
        refine ⟨ret_sh s _ _ (sh_none s ?_), rfl⟩
        rw [HR.out.1, List.drop_of_length_le (by rw [bl_length]; omega)]; rfl
end Go.Proofs.YtplfjfhpdfbpeaaDoor
/- The walks of Reader.Left, Reader.End. -/
namespace Go.Proofs.YtplfjfhpdfbpeaaDoor
open Go.RowKit
set_option linter.unusedSimpArgs false
set_option linter.unusedVariables false
/-- What End answers. -/
def endE (s : ByteArray) : Int := if s.size = 0 then 0 else 4
end Go.Proofs.YtplfjfhpdfbpeaaDoor
/- The walks of the document's own reader (munimentref01): Fixed. -/
namespace Go.Proofs.YtplfjfhpdfbpeaaDoor
open Go.RowKit
set_option linter.unusedSimpArgs false
set_option linter.unusedVariables false
theorem set_step {w : World} {b : Nat} {s s' : ByteArray} (hb : b < w.heap.size) (hc : w.cell? ⟨b, 0, none⟩ = some (.string s)) (hf : w.frozen? ⟨b, 0, none⟩ = false) :
    Step b w (w.setCell ⟨b, 0, none⟩ (.string s')) s' := Step.of_set (Below.refl _ _) hb hc hf
theorem rfixStep (acc c k : Nat) (hc : c < 256) (hk : k ≤ 7) (ha : acc < 256 ^ k) :
    IntKind.u64.wrap (IntKind.u64.wrap ((acc : Int) * 256) + IntKind.u64.wrap (c : Int)) = ((acc * 256 + c : Nat) : Int) := by
  have h7 : 256 ^ k ≤ 256 ^ 7 := Nat.pow_le_pow_right (by omega) hk
  rw [IntKind.wrap_u64, IntKind.wrap_u64, IntKind.wrap_u64]
  omega
end Go.Proofs.YtplfjfhpdfbpeaaDoor
/- The walks of the document's own reader (munimentref01): Uint, Text. -/
namespace Go.Proofs.YtplfjfhpdfbpeaaDoor
open Go.RowKit
set_option linter.unusedSimpArgs false
set_option linter.unusedVariables false
set_option maxHeartbeats 400000 in
theorem ruint_no (s : ByteArray) (b : Nat) (w : World) (hs : s.size ≤ maxLen) (hc : w.cell? ⟨b, 0, none⟩ = some (.string s)) (hf : w.frozen? ⟨b, 0, none⟩ = false) (hb : b < w.heap.size) (hk : shK s = 0) :
    Calls Tryd.prog 45 #[.pointer (some ⟨b, 0, none⟩)] w fun e w' => e = .returned (.tuple #[.int .u64 0, .int .i64 4]) ∧ Step b w w' s := by
  have HS := still hb hc hf
  have hk' : ((shK s : Int) == 0) = true := by simp [hk]
  clear hk
  go_enter Tryd.func45, Tryd.ntmps45
  go_wp2_with (go_at_call 55; refine (rshort_any s _ hs).mono ?_; rintro e w' ⟨rfl, rfl⟩)
  go_ret2
  exact ⟨rfl, HS⟩
set_option maxHeartbeats 400000 in
theorem ruint_ok (s : ByteArray) (b : Nat) (w : World) (hs : s.size ≤ maxLen) (hc : w.cell? ⟨b, 0, none⟩ = some (.string s)) (hf : w.frozen? ⟨b, 0, none⟩ = false) (hb : b < w.heap.size) (hk : shK s ≠ 0) :
    Calls Tryd.prog 45 #[.pointer (some ⟨b, 0, none⟩)] w fun e w' => e = .returned (.tuple #[.int .u64 (shN s), .int .i64 0]) ∧ Step b w w' (s.extract (shK s) s.size) := by
  have hs' := hs
  unfold maxLen at hs'
  have hk2 := shK_le s
  have hk' : ((shK s : Int) == 0) = false := by simp [hk]
  have HS : Hid (Step b w (w.setCell ⟨b, 0, none⟩ (.string (s.extract (shK s) s.size))) (s.extract (shK s) s.size)) := set_step hb hc hf
  clear hk
  go_enter Tryd.func45, Tryd.ntmps45
  go_wp2_with (go_at_call 55; refine (rshort_any s _ hs).mono ?_; rintro e w' ⟨rfl, rfl⟩)
  go_ret2
  exact ⟨rfl, HS.out⟩
end Go.Proofs.YtplfjfhpdfbpeaaDoor
