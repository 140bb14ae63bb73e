import Derived.StillTail
import Derived.Test.YteccnnpialaalaaDoorY8
/- A region that draws its order and makes one new block: its other first operations quiet, whether the block is made already or not; the last ones, which wait for all of these, one behind the other. -/
namespace Go.Proofs.YteccnnpialaalaaDoor
open Go.RowKit
set_option linter.unusedSimpArgs false
set_option linter.unusedVariables false
section
variable {P : Program} {ops : Array Oper} {md : Region.Mode} {K : Option Value → World → Prop} {n i0 : Nat} {o0 : Oper}
/-- One value, whether the block is there or not. -/
def quietF (P : Program) (K : Option Value → World → Prop) (o : Oper) (a : Act) (next : Act → Prop) : Prop := ∃ v, (∀ ov w, K ov w → o.quietAt P a (K ov) w v) ∧ next (a.put o.dst v)
theorem quietF_of {o : Oper} {a : Act} {next : Act → Prop} (v : Value) (h : ∀ ov, ∀ w, K ov w → o.quietAt P a (K ov) w v) (hn : next (a.put o.dst v)) : quietF P K o a next := ⟨v, h, hn⟩
def wpQF (P : Program) (ops : Array Oper) (K : Option Value → World → Prop) (Q : Act → Prop) : List Oper → Act → Prop
  | [], a => Q a
  | o :: rest, a => if Region.wanted o (yielded ops a.tmps) then quietF P K o a (wpQF P ops K Q rest) else wpQF P ops K Q rest (a.put o.dst undef)
def qOpF (P : Program) (ops : Array Oper) (K : Option Value → World → Prop) (i : Nat) (N : Act → Prop) (a : Act) : Prop :=
  match ops[i]? with
  | none => N a
  | some o => if Region.wanted o (yielded ops a.tmps) then quietF P K o a N else N (a.put o.dst undef)
def YieldsF (P : Program) (ops : Array Oper) (K : Option Value → World → Prop) (o : Oper) (v : Value) (a : Act) : Prop :=
  (Region.wanted o (yielded ops a.tmps) = true ∧ ∀ ov w, K ov w → o.quietAt P a (K ov) w v) ∨ (Region.wanted o (yielded ops a.tmps) = false ∧ v = undef)
theorem qOpF_mono {i : Nat} {a : Act} {N N' : Act → Prop} (h : ∀ a, N a → N' a) (hh : qOpF P ops K i N a) : qOpF P ops K i N' a := by
  unfold qOpF at *
  split
  · exact h _ (by simpa [*] using hh)
  · rename_i o ho
    simp only [ho] at hh
    split
    · rename_i hw; simp only [hw, if_true] at hh; obtain ⟨v, h1, h2⟩ := hh; exact ⟨v, h1, h _ h2⟩
    · rename_i hw; simp only [hw] at hh; exact h _ hh
theorem YieldsF.qOpF {i : Nat} {o : Oper} {v : Value} {a : Act} (hi : ops[i]? = some o) (hy : YieldsF P ops K o v a) {N : Act → Prop} (h : N (a.put o.dst v)) : qOpF P ops K i N a := by
  unfold Go.Proofs.YteccnnpialaalaaDoor.qOpF
  simp only [hi]
  rcases hy with ⟨hw, hv⟩ | ⟨hw, rfl⟩
  · simp only [hw, if_true]; exact ⟨v, hv, h⟩
  · simp only [hw, Bool.false_eq_true, if_false]; exact h
theorem yieldsF_of_qOpF {i : Nat} {o : Oper} {a : Act} {N : Act → Prop} (hi : ops[i]? = some o) (h : qOpF P ops K i N a) : ∃ v, YieldsF P ops K o v a ∧ N (a.put o.dst v) := by
  unfold qOpF at h
  simp only [hi] at h
  by_cases hw : Region.wanted o (yielded ops a.tmps) = true
  · simp only [hw, if_true] at h
    obtain ⟨v, h1, h2⟩ := h
    exact ⟨v, .inl ⟨hw, h1⟩, h2⟩
  · simp only [hw] at h
    exact ⟨undef, .inr ⟨by simpa using hw, rfl⟩, h⟩
theorem YieldsF.of_same {o : Oper} {v : Value} {a a' : Act} (hy : YieldsF P ops K o v a) (he : execOp a'.eval o = execOp a.eval o) (hw : Region.wanted o (yielded ops a'.tmps) = Region.wanted o (yielded ops a.tmps)) : YieldsF P ops K o v a' := by
  unfold YieldsF Oper.quietAt at *
  rw [he, hw]
  exact hy
theorem qOpF_put {j : Nat} {oi oj : Oper} {v : Value} (hj : ops[j]? = some oj) (hap : oi.apart ops oj = true) (hsi : ∀ cs b, oi.op ≠ .select cs b) (hsj : ∀ cs b, oj.op ≠ .select cs b) {N : Act → Prop} {a : Act}
    (hy : YieldsF P ops K oi v a) (h : qOpF P ops K j N (a.put oi.dst v)) : qOpF P ops K j (fun a' => YieldsF P ops K oi v a' ∧ N (a'.put oi.dst v)) a := by
  obtain ⟨h1, h2, h3⟩ := Oper.apart_spec hap
  have keep : ∀ (a : Act), YieldsF P ops K oi v a → ∀ u, YieldsF P ops K oi v (a.put oj.dst u) := fun a hy u => hy.of_same (execOp_put oi hsi a oj.dst u h3) (wanted_put oi a oj.dst u h3)
  unfold qOpF at *
  simp only [hj] at *
  rw [wanted_put oj a oi.dst v h1] at h
  split
  · rename_i hw
    simp only [hw, if_true] at h
    obtain ⟨u, hu, hn⟩ := h
    refine ⟨u, fun ov w hw' => ?_, keep a hy u, by rw [← Act.put_comm a v u h2]; exact hn⟩
    have := hu ov w hw'
    unfold Oper.quietAt at *
    rwa [execOp_put oj hsj a oi.dst v h1] at this
  · rename_i hw
    simp only [hw] at h
    exact ⟨keep a hy _, by rw [← Act.put_comm a v undef h2]; exact h⟩
/-- The block can be made. -/
def mkF (P : Program) (K : Option Value → World → Prop) (o0 : Oper) (a : Act) : Prop := ∀ w, K none w → ∃ v w', (execOp a.eval o0).run P w = .ok (.value v) w' ∧ K (some v) w'
theorem mkF_put {oi : Oper} {a : Act} {v : Value} (hap : oi.apart ops o0 = true) (hs0 : ∀ cs b, o0.op ≠ .select cs b) (h : mkF P K o0 (a.put oi.dst v)) : mkF P K o0 a := by
  obtain ⟨h1, h2, h3⟩ := Oper.apart_spec hap
  intro w hw
  have := h w hw
  rwa [execOp_put o0 hs0 a oi.dst v h1] at this
/-- So many of the others come up, in whatever order, then L holds. -/
def headF (P : Program) (md : Region.Mode) (ops : Array Oper) (K : Option Value → World → Prop) (n i0 : Nat) (o0 : Oper) (L : Array Bool → Act → Prop) : Nat → Array Bool → Act → Prop
  | 0, listed, a => L listed a
  | f + 1, listed, a => (i0 ∈ Region.ready md ops listed → mkF P K o0 a) ∧ (∃ i, i ∈ Region.ready md ops listed ∧ i ≠ i0) ∧ ∀ i, i ∈ Region.ready md ops listed → i ≠ i0 → i < n ∧ qOpF P ops K i (headF P md ops K n i0 o0 L f (listed.setIfInBounds i true)) a
theorem wpOp_of_qOpF {i : Nat} {a : Act} {N : Act → Prop} {K' : Act → World → Prop} {Q' : Exit → Act → World → Prop} {ov : Option Value} {w : World} (hC : K ov w) (h : ∀ a w', K ov w' → N a → K' a w') (hh : qOpF P ops K i N a) : wpOp P ops Q' i K' a w := by
  unfold qOpF at hh
  unfold wpOp
  split
  · rename_i ho; simp only [ho] at hh; exact h _ _ hC hh
  · rename_i o ho
    simp only [ho] at hh
    split
    · rename_i hw
      simp only [hw, if_true] at hh
      obtain ⟨v, h1, h2⟩ := hh
      exact .inl (Oper.wp_of_quiet (C := K ov) hC h ⟨v, h1 ov, h2⟩)
    · rename_i hw; simp only [hw] at hh; exact h _ _ hC hh
/-- The same, the block's pointer being there. -/
theorem wpOp_of_qOpF_put {i : Nat} {oi : Oper} {a : Act} {N : Act → Prop} {K' : Act → World → Prop} {Q' : Exit → Act → World → Prop} {v : Value} {w : World} (hi : ops[i]? = some oi) (hap : oi.apart ops o0 = true) (hs : ∀ cs b, oi.op ≠ .select cs b)
    (hC : K (some v) w) (h : ∀ a w', K (some v) w' → N a → K' (a.put o0.dst v) w') (hh : qOpF P ops K i N a) : wpOp P ops Q' i K' (a.put o0.dst v) w := by
  obtain ⟨h1, h2, h3⟩ := Oper.apart_spec hap
  unfold qOpF at hh
  unfold wpOp
  simp only [hi] at hh ⊢
  have hne : ∀ d, o0.dst = some d → oi.dst ≠ some d := fun d hd he => h2 d he hd
  rw [wanted_put oi a o0.dst v h3]
  split
  · rename_i hw
    simp only [hw, if_true] at hh
    obtain ⟨u, hu, hN⟩ := hh
    refine .inl (Oper.wp_of_quiet (C := K (some v)) (K := fun a' => ∃ a'', a' = a''.put o0.dst v ∧ N a'') hC (fun a' w' hw' ⟨a'', e, hN'⟩ => by rw [e]; exact h _ _ hw' hN') ⟨u, fun w' hw' => ?_, a.put oi.dst u, ?_, hN⟩)
    · have := hu (some v) w' hw'
      unfold Oper.quietAt at *
      rwa [execOp_put oi hs a o0.dst v h3]
    · exact Act.put_comm a v u hne
  · rename_i hw
    simp only [hw] at hh
    rw [Act.put_comm a v undef hne]
    exact h _ _ hC hh
/-- Those behind the making of the block. -/
theorem any_of_headF_made {g : Nat} {L : Array Bool → Act → Prop} {R : Exit → Act → World → Prop} {v : Value} (hsel : ∀ (j : Nat) (o : Oper) cs b, ops[j]? = some o → o.op ≠ .select cs b)
    (hs : Region.sinkB md ops n = true) (hc : Region.chainB md ops n = true) (hn : n < ops.size) (hi0 : i0 < n)
    (h0 : ops[i0]? = some o0) (hap : ∀ j oj, ops[j]? = some oj → j < n → j ≠ i0 → Region.waitsFor md ops i0 j = false → oj.apart ops o0 = true) (hnw : ∀ j, j < n → Region.waitsFor md ops j i0 = false)
    (hL : ∀ listed a w, K (some v) w → L listed a → wpAny P md ops R g (listed.setIfInBounds i0 true) (a.put o0.dst v) w) (f : Nat) :
    ∀ (listed : Array Bool) (a : Act) (w : World), HeadInv md ops n (listed.setIfInBounds i0 true) → K (some v) w → headF P md ops K n i0 o0 L f listed a → wpAny P md ops R (f + g) (listed.setIfInBounds i0 true) (a.put o0.dst v) w := by
  induction f with
  | zero => intro listed a w _ hw h; rw [Nat.zero_add]; exact hL _ _ _ hw h
  | succ f ih =>
    intro listed a w inv hw h
    rw [Nat.add_right_comm]
    obtain ⟨_, ⟨i', hi', hne'⟩, hall⟩ := h
    have hr' := ready_mono hi' hne'
    refine ⟨fun h0 => (by rw [h0] at hr'; cases hr'), fun i hi => ?_⟩
    obtain ⟨hun, oi, hoi, hdep⟩ := mem_ready.1 hi
    have hilt : i < n := Nat.lt_of_not_le fun hge => tail_waits hs hc hn inv _ i' rfl (hall i' hi' hne').1 (mem_ready.1 hr').1 i hge hi
    have hine : i ≠ i0 := by
      rintro rfl
      have hsz : i < listed.size := by have := inv.size; rw [Array.size_setIfInBounds] at this; omega
      simp [hsz] at hun
    have hrl : i ∈ Region.ready md ops listed := by
      rw [mem_ready]
      refine ⟨by rwa [getD_set_ne true (Ne.symm hine)] at hun, oi, hoi, fun e he hb => ?_⟩
      have h1 := hdep e he hb
      by_cases heq : i0 = e.on
      · have h2 := hnw i hilt
        unfold Region.waitsFor at h2
        simp only [hoi] at h2
        rw [Array.any_eq_false] at h2
        obtain ⟨k, hk, hke⟩ := Array.mem_iff_getElem.1 he
        have h3 := h2 k hk
        rw [hke] at h3
        simp [hb, heq] at h3
      · rwa [getD_set_ne false heq] at h1
    have hdp : Region.waitsFor md ops i0 i = false := by
      rw [Bool.eq_false_iff]
      intro hw0
      obtain ⟨ox, hox, e, he, hb, hon⟩ := Region.waitsFor_spec hw0
      have hsz : i0 < listed.size := by have := inv.size; rw [Array.size_setIfInBounds] at this; omega
      have h1 := inv.closed i0 ox hox (by simp [hsz]) e he hb
      rw [hon, getD_both hun] at h1
      cases h1
    refine wpOp_of_qOpF_put hoi (hap i oi hoi hilt hine hdp) (fun cs b => hsel i oi cs b hoi) hw (fun a' w' hw' hN => ?_) (hall i hrl hine).2
    rw [Array.setIfInBounds_comm _ _ (Ne.symm hine)]
    refine ih _ a' w' ?_ hw' hN
    rw [← Array.setIfInBounds_comm _ _ (Ne.symm hine)]
    exact inv.set hi hilt
/-- Those ahead of it. -/
theorem any_of_headF {g : Nat} {L : Array Bool → Act → Prop} {R : Exit → Act → World → Prop} (hsel : ∀ (j : Nat) (o : Oper) cs b, ops[j]? = some o → o.op ≠ .select cs b)
    (hs : Region.sinkB md ops n = true) (hc : Region.chainB md ops n = true) (hn : n < ops.size) (hi0 : i0 < n) (h0 : ops[i0]? = some o0) (hg0 : o0.guard = none)
    (hap : ∀ j oj, ops[j]? = some oj → j < n → j ≠ i0 → Region.waitsFor md ops i0 j = false → oj.apart ops o0 = true) (hnw : ∀ j, j < n → Region.waitsFor md ops j i0 = false)
    (hdone : ∀ listed a, L listed a → i0 ∈ Region.ready md ops listed ∧ mkF P K o0 a ∧ ∀ j, j ∈ Region.ready md ops (listed.setIfInBounds i0 true) → n ≤ j)
    (hL : ∀ v listed a w, K (some v) w → L listed a → wpAny P md ops R g (listed.setIfInBounds i0 true) (a.put o0.dst v) w) (f : Nat) :
    ∀ (listed : Array Bool) (a : Act) (w : World), HeadInv md ops n listed → listed.getD i0 true = false → K none w → headF P md ops K n i0 o0 L f listed a → wpAny P md ops R (f + 1 + g) listed a w := by
  induction f with
  | zero =>
    intro listed a w inv hu0 hw h
    obtain ⟨hr, hF, hd⟩ := hdone _ _ h
    rw [show 0 + 1 + g = g + 1 by omega]
    refine ⟨fun h1 => (by rw [h1] at hr; cases hr), fun i hi => ?_⟩
    by_cases hne : i = i0
    · subst hne
      unfold wpOp
      simp only [h0]
      rw [if_pos (by simp [Region.wanted, hg0])]
      refine .inl ?_
      unfold Oper.wp
      obtain ⟨v, w', hrun, hK⟩ := hF w hw
      rw [hrun]
      exact hL v _ _ _ hK h
    · have h1 := hd i (ready_mono hi hne)
      exact absurd hi (tail_waits hs hc hn inv _ i0 rfl hi0 hu0 i h1)
  | succ f ih =>
    intro listed a w inv hu0 hw h
    rw [show f + 1 + 1 + g = (f + 1 + g) + 1 by omega]
    obtain ⟨i', hi', _⟩ := h.2.1
    refine ⟨fun h1 => (by rw [h1] at hi'; cases hi'), fun i hi => ?_⟩
    by_cases hne : i = i0
    · subst hne
      unfold wpOp
      simp only [h0]
      rw [if_pos (by simp [Region.wanted, hg0])]
      refine .inl ?_
      unfold Oper.wp
      obtain ⟨v, w', hrun, hK⟩ := h.1 hi w hw
      rw [hrun]
      exact any_of_headF_made hsel hs hc hn hi0 h0 hap hnw (hL v) (f + 1) listed a w' (inv.set hi hi0) hK h
    · obtain ⟨hlt, hq⟩ := h.2.2 i hi hne
      exact wpOp_of_qOpF hw (fun a' w' hw' hN => ih _ a' w' (inv.set hi hlt) (by rw [getD_set_ne true hne]; exact hu0) hw' hN) hq
/-- One of them may be taken first. -/
theorem headF_first {i : Nat} {oi : Oper} {v : Value} {L : Array Bool → Act → Prop} (hi : ops[i]? = some oi) (hsel : ∀ (j : Nat) (o : Oper) cs b, ops[j]? = some o → o.op ≠ .select cs b)
    (hs : Region.sinkB md ops n = true) (hc : Region.chainB md ops n = true) (hn : n < ops.size) (hin : i < n) (hine : i ≠ i0) (hi0 : i0 < n) (h0 : ops[i0]? = some o0) (hdone : ∀ listed a, L listed a → mkF P K o0 a ∧ ∀ j, j ∈ Region.ready md ops (listed.setIfInBounds i0 true) → n ≤ j) (f : Nat) :
    ∀ (listed : Array Bool) (a : Act), HeadInv md ops n listed → listed.getD i0 true = false →
      (∀ j oj, ops[j]? = some oj → j ≠ i → listed.getD j true = false → (∀ e ∈ oj.after, Region.binds md e = true → e.on ≠ i) → oi.apart ops oj = true) →
      i ∈ Region.ready md ops listed → YieldsF P ops K oi v a →
      headF P md ops K n i0 o0 L f (listed.setIfInBounds i true) (a.put oi.dst v) → headF P md ops K n i0 o0 L (f + 1) listed a := by
  induction f with
  | zero =>
    intro listed a inv hu0 hfree hr hy H
    have hun := (mem_ready.1 hr).1
    have hF0 : i0 ∈ Region.ready md ops listed → mkF P K o0 a := fun h => by
      obtain ⟨_, oj, hoj, hall⟩ := mem_ready.1 h
      obtain rfl : oj = o0 := Option.some.inj (hoj.symm.trans h0)
      exact mkF_put (hfree i0 oj hoj (Ne.symm hine) hu0 (fun d hd hb he => by
        have h1 := hall d hd hb
        rw [he, getD_both hun] at h1; cases h1)) (fun cs b => hsel i0 oj cs b hoj) (hdone _ _ H).1
    refine ⟨hF0, ⟨i, hr, hine⟩, fun j hj hj0 => ?_⟩
    have hjn : j < n := Nat.lt_of_not_le fun h => tail_waits hs hc hn inv _ i rfl hin hun j h hj
    by_cases e : j = i
    · subst e; exact ⟨hjn, hy.qOpF hi H⟩
    · have := (hdone _ _ H).2 j (ready_mono (ready_mono hj e) hj0); omega
  | succ f ih =>
    intro listed a inv hu0 hfree hr hy H
    have hun := (mem_ready.1 hr).1
    have hF0 : i0 ∈ Region.ready md ops listed → mkF P K o0 a := fun h => by
      obtain ⟨_, oj, hoj, hall⟩ := mem_ready.1 h
      obtain rfl : oj = o0 := Option.some.inj (hoj.symm.trans h0)
      exact mkF_put (hfree i0 oj hoj (Ne.symm hine) hu0 (fun d hd hb he => by
        have h1 := hall d hd hb
        rw [he, getD_both hun] at h1; cases h1)) (fun cs b => hsel i0 oj cs b hoj) (H.1 (ready_mono h (Ne.symm hine)))
    refine ⟨hF0, ⟨i, hr, hine⟩, fun j hj hj0 => ?_⟩
    have hjn : j < n := Nat.lt_of_not_le fun h => tail_waits hs hc hn inv _ i rfl hin hun j h hj
    refine ⟨hjn, ?_⟩
    by_cases e : j = i
    · subst e; exact hy.qOpF hi H
    · obtain ⟨hjun, oj, hoj, hall⟩ := mem_ready.1 hj
      have hap : oi.apart ops oj = true := hfree j oj hoj e hjun (fun d hd hb he => by
        have h1 := hall d hd hb
        rw [he, getD_both hun] at h1; cases h1)
      have h2 := qOpF_put hoj hap (fun cs b => hsel i oi cs b hi) (fun cs b => hsel j oj cs b hoj) hy (H.2.2 j (ready_mono hj e) hj0).2
      refine qOpF_mono (fun a' h3 => ih _ a' (inv.set hj hjn) (by rw [getD_set_ne true hj0]; exact hu0) (fun k ok hk hki hu hno => hfree k ok hk hki ?_ hno) (ready_mono hr (Ne.symm e)) h3.1 ?_) h2
      · by_cases ejk : j = k
        · subst ejk; exact hjun
        · rwa [getD_set_ne true ejk] at hu
      · rw [Array.setIfInBounds_comm _ _ e]; exact h3.2
/-- The lexical order without one of them. -/
def lexSkip (md : Region.Mode) (ops : Array Oper) (g i0 : Nat) : Nat → Nat → Array Bool → Bool
  | 0, k, listed => Region.seqB md ops g k (listed.setIfInBounds i0 true) && (Region.ready md ops listed).contains i0
  | f + 1, k, listed => if k == i0 then lexSkip md ops g i0 f (k + 1) listed else (Region.ready md ops listed).contains k && Region.free md ops listed k && lexSkip md ops g i0 f (k + 1) (listed.setIfInBounds k true)
/-- The head without that one. -/
def skipL (i0 : Nat) : Nat → List Oper → List Oper
  | _, [] => []
  | k, o :: l => if k == i0 then skipL i0 (k + 1) l else o :: skipL i0 (k + 1) l
theorem headF_lex {g : Nat} {Lq : Act → Prop} (hsel : Region.noSelect ops = true) (hs : Region.sinkB md ops n = true) (hc : Region.chainB md ops n = true) (hn : n < ops.size) (hi0 : i0 < n) (h00 : ops[i0]? = some o0) (hLF : ∀ a, Lq a → mkF P K o0 a) (l : List Oper) :
    ∀ (k : Nat) (listed : Array Bool) (a : Act), (∀ j, j < l.length → l[j]? = ops[k + j]?) → k + l.length = n → HeadInv md ops n listed → listed.getD i0 true = false → lexSkip md ops g i0 l.length k listed = true → wpQF P ops K Lq (skipL i0 k l) a →
    headF P md ops K n i0 o0 (fun listed' a' => (Region.seqB md ops g n (listed'.setIfInBounds i0 true) = true ∧ i0 ∈ Region.ready md ops listed') ∧ Lq a') (skipL i0 k l).length listed a := by
  induction l with
  | nil =>
    intro k listed a _ hk _ _ hB h
    obtain rfl : k = n := by simpa using hk
    simp only [List.length_nil, lexSkip, Bool.and_eq_true] at hB
    exact ⟨⟨hB.1, by simpa using hB.2⟩, h⟩
  | cons o l ih =>
    intro k listed a hl hk inv hu0 hB h
    rw [List.length_cons] at hk
    have h0 : ops[k]? = some o := by have := hl 0 (by simp); simpa using this.symm
    have hnext : ∀ j, j < l.length → l[j]? = ops[k + 1 + j]? := fun j hj => by
      have := hl (j + 1) (by simp; omega)
      rw [List.getElem?_cons_succ] at this
      rw [this]; congr 1; omega
    by_cases e : k = i0
    · have e' : (k == i0) = true := beq_iff_eq.2 e
      simp only [List.length_cons, lexSkip, skipL, e', if_true] at hB h ⊢
      exact ih (k + 1) listed a hnext (by omega) inv hu0 hB h
    · have e' : (k == i0) = false := beq_eq_false_iff_ne.2 e
      simp only [List.length_cons, lexSkip, skipL, e', Bool.false_eq_true, if_false, Bool.and_eq_true] at hB h ⊢
      have hr : k ∈ Region.ready md ops listed := by simpa using hB.1.1
      have hq : qOpF P ops K k (wpQF P ops K Lq (skipL i0 (k + 1) l)) a := by unfold qOpF; simp only [h0]; exact h
      obtain ⟨v, hy, hK⟩ := yieldsF_of_qOpF h0 hq
      refine headF_first h0 (Region.noSelect_spec hsel) hs hc hn (by omega) e hi0 h00 (fun listed' a' hL => ⟨hLF _ hL.2, seqB_ready hL.1.1⟩) _ listed a inv hu0 (Region.free_spec h0 hB.1.2) hr hy ?_
      exact ih (k + 1) _ _ hnext (by omega) (inv.set hr (by omega)) (by rw [getD_set_ne true e]; exact hu0) hB.2 hK
theorem skipL_length (i0 : Nat) : ∀ (l : List Oper) (k : Nat), k ≤ i0 → i0 < k + l.length → (skipL i0 k l).length + 1 = l.length
  | [], k, h1, h2 => by simp at h2; omega
  | o :: l, k, h1, h2 => by
    rw [List.length_cons] at h2 ⊢
    by_cases e : k = i0
    · have hno : ∀ (m : List Oper) (j : Nat), i0 < j → skipL i0 j m = m := by
        intro m
        induction m with
        | nil => intro j _; rfl
        | cons x m ihm =>
          intro j hj
          have : (j == i0) = false := beq_eq_false_iff_ne.2 (by omega)
          simp only [skipL, this, Bool.false_eq_true, if_false, ihm (j + 1) (by omega)]
      simp only [skipL, e, beq_self_eq_true, if_true]
      rw [hno l _ (by omega)]
    · have e' : (k == i0) = false := beq_eq_false_iff_ne.2 e
      simp only [skipL, e', Bool.false_eq_true, if_false, List.length_cons]
      rw [skipL_length i0 l (k + 1) (by omega) (by omega)]
/-- All that is asked of the region's shape. -/
def newB (ops : Array Oper) (n i0 : Nat) : Bool :=
  Region.noSelect ops && decide (n < ops.size) && decide (i0 < n) && Region.sinkB .any ops n && Region.chainB .any ops n && lexSkip .any ops (ops.size - n) i0 n 0 (Array.replicate ops.size false)
    && ((List.range n).all fun j => j == i0 || Region.waitsFor .any ops i0 j || (match ops[j]?, ops[i0]? with | some x, some y => x.apart ops y | _, _ => true))
    && ((List.range n).all fun j => !Region.waitsFor .any ops j i0)
theorem any_mk {Q : Exit → Act → World → Prop} {a : Act} {w : World} {l : List Oper} (K : Option Value → World → Prop) (n i0 : Nat) (o0 : Oper) (hB : newB l.toArray n i0 = true)
    (h0 : l[i0]? = some o0) (hg0 : o0.guard = none) (hC : K none w)
    (h : wpQF P l.toArray K (fun a' => mkF P K o0 a' ∧ ∀ v w', K (some v) w' → wpList P l.toArray Q (l.drop n) (a'.put o0.dst v) w') (skipL i0 0 (l.take n)) a) : wpAny P .any l.toArray Q l.toArray.size (Array.replicate l.toArray.size false) a w := by
  simp only [newB, Bool.and_eq_true, decide_eq_true_eq] at hB
  obtain ⟨⟨⟨⟨⟨⟨⟨hsel, hn⟩, hi0⟩, hs⟩, hc⟩, hlex⟩, hap⟩, hnw⟩ := hB
  have hn' : n < l.length := by simpa using hn
  have htl : (l.take n).length = n := by rw [List.length_take]; omega
  have hdl : (l.drop n).length = l.toArray.size - n := by simp
  have h0' : l.toArray[i0]? = some o0 := by simpa using h0
  have inv0 : HeadInv .any l.toArray n (Array.replicate l.toArray.size false) := by
    refine ⟨by simp, fun j oj _ hl => ?_, fun t _ ht => getD_in (by simpa using ht) (getD_replicate_false _ _)⟩
    rw [getD_replicate_false] at hl; cases hl
  have hu0 : (Array.replicate l.toArray.size false).getD i0 true = false := getD_in (by simp; omega) (getD_replicate_false _ _)
  have hap' : ∀ j oj, l.toArray[j]? = some oj → j < n → j ≠ i0 → Region.waitsFor .any l.toArray i0 j = false → oj.apart l.toArray o0 = true := fun j oj hj hjn hne hw => by
    have := List.all_eq_true.1 hap j (List.mem_range.2 hjn)
    simp only [hj, h0', hw, Bool.or_false, Bool.or_eq_true, beq_iff_eq] at this
    rcases this with h1 | h1
    · exact absurd h1 hne
    · exact h1
  have hnw' : ∀ j, j < n → Region.waitsFor .any l.toArray j i0 = false := fun j hj => by
    have := List.all_eq_true.1 hnw j (List.mem_range.2 hj)
    simpa using this
  have H := headF_lex (P := P) (K := K) (md := .any) (n := n) (i0 := i0) (o0 := o0) (g := l.toArray.size - n) hsel hs hc hn hi0 h0' (fun a h => h.1) (l.take n) 0 _ a (fun j hj => by
    rw [htl] at hj
    rw [List.getElem?_take_of_lt hj]; simp) (by omega) inv0 hu0 (by rw [htl]; exact hlex) h
  have H2 := any_of_headF (R := Q) (g := l.toArray.size - n) (Region.noSelect_spec hsel) hs hc hn hi0 h0' hg0 hap' hnw' (fun listed' a' hL => ⟨hL.1.2, hL.2.1, seqB_ready hL.1.1⟩) (fun v listed a' w' hw' hL => by
    have := wpAny_of_seq (md := .any) (Q' := Q) (l.drop n) n _ (a'.put o0.dst v) w' (fun j => by simp [List.getElem?_drop]) (by rw [hdl]; exact hL.1.1) (hL.2.2 v w' hw')
    rwa [hdl] at this) _ _ _ _ inv0 hu0 hC H
  have := skipL_length i0 (l.take n) 0 (by omega) (by rw [htl]; omega)
  rw [htl] at this
  rwa [this, show n + (l.toArray.size - n) = l.toArray.size from by omega] at H2
theorem wp_region_mk {id : Nat} {Q : Exit → Act → World → Prop} {a : Act} {w : World} {l : List Oper} (K : Option Value → World → Prop) (n i0 : Nat) (o0 : Oper) (hm : P.follows .mixedOrders = true) (hB : newB l.toArray n i0 = true)
    (h0 : l[i0]? = some o0) (hg0 : o0.guard = none) (hC : K none w.drew)
    (h : wpQF P l.toArray K (fun a' => mkF P K o0 a' ∧ ∀ v w', K (some v) w' → wpList P l.toArray Q (l.drop n) (a'.put o0.dst v) w') (skipL i0 0 (l.take n)) a) : (Code.region id l.toArray true).wp P Q a w :=
  wp_region_any hm (any_mk (w := w.drew) K n i0 o0 hB h0 hg0 hC h)
theorem wpQF_mono {Q Q' : Act → Prop} (h : ∀ a, Q a → Q' a) : ∀ (l : List Oper) (a : Act), wpQF P ops K Q l a → wpQF P ops K Q' l a
  | [], a, hh => h a hh
  | o :: l, a, hh => by
    unfold wpQF at hh ⊢
    split
    · rename_i hw
      rw [if_pos hw] at hh
      obtain ⟨v, h1, h2⟩ := hh
      exact ⟨v, h1, wpQF_mono h l _ h2⟩
    · rename_i hw
      rw [if_neg hw] at hh
      exact wpQF_mono h l _ hh
theorem wp_region_new {id : Nat} {Q : Exit → Act → World → Prop} {a : Act} {w : World} {l : List Oper} (K : Option Value → World → Prop) (n i0 : Nat) (o0 : Oper) (hm : P.follows .mixedOrders = true) (hB : newB l.toArray n i0 = true)
    (h0 : l[i0]? = some o0) (hg0 : o0.guard = none) (hal : ∀ (a : Act) w, K none w → ∃ v w', (execOp a.eval o0).run P w = .ok (.value v) w' ∧ K (some v) w') (hC : K none w.drew)
    (h : wpQF P l.toArray K (fun a' => ∀ v w', K (some v) w' → wpList P l.toArray Q (l.drop n) (a'.put o0.dst v) w') (skipL i0 0 (l.take n)) a) : (Code.region id l.toArray true).wp P Q a w :=
  wp_region_mk K n i0 o0 hm hB h0 hg0 hC (wpQF_mono (fun a' ha => ⟨fun w hw => hal a' w hw, ha⟩) _ _ h)
theorem wpQF_nil {Q : Act → Prop} {a : Act} (h : Q a) : wpQF P ops K Q [] a := h
theorem wpQF_bd {Q : Act → Prop} {o : Oper} {rest : List Oper} {a : Act} (hgd : o.guard = none) (t : TypeId) (x0 x1 x2 x3 : Operand) (ho : o.op = .build t #[(0, x0), (1, x1), (2, x2), (3, x3)]) (v0 v1 v2 v3 r : Value)
    (h0 : a.eval x0 = v0) (h1 : a.eval x1 = v1) (h2 : a.eval x2 = v2) (h3 : a.eval x3 = v3) (hr : ∀ w, (Instr.build t #[(0, v0), (1, v1), (2, v2), (3, v3)]).run P w = .ok r w) (hn : wpQF P ops K Q rest (a.put o.dst r)) : wpQF P ops K Q (o :: rest) a := by
  unfold wpQF
  rw [if_pos (by simp [Region.wanted, hgd])]
  refine ⟨r, fun ov w hw => ?_, hn⟩
  unfold Oper.quietAt execOp
  simp only [ho, Sem.run_bind, Sem.run_pure, Result.andThen_ok, List.map_toArray, List.map_cons, List.map_nil, h0, h1, h2, h3, hr]
  exact ⟨rfl, rfl⟩
theorem mkF_bs {o : Oper} {a : Act} (t : TypeId) (x : Operand) (ho : o.op = .buildSlice t 1 #[(0, x)]) (v : Value) (hx : a.eval x = v) (h : ∀ w, K none w → ∃ r w', (Instr.buildSlice t 1 #[(0, v)]).run P w = .ok r w' ∧ K (some r) w') : mkF P K o a := by
  intro w hw
  obtain ⟨r, w', h1, h2⟩ := h w hw
  refine ⟨r, w', ?_, h2⟩
  unfold execOp
  simp only [ho, Sem.run_bind, Sem.run_pure, Result.andThen_ok, List.map_toArray, List.map_cons, List.map_nil, hx, h1]
theorem wpQF_val {Q : Act → Prop} {o : Oper} {rest : List Oper} {a : Act} (hg : o.guard = none) (v : Value) (h : ∀ ov w, K ov w → (execOp a.eval o).run P w = .ok (.value v) w) (hn : wpQF P ops K Q rest (a.put o.dst v)) : wpQF P ops K Q (o :: rest) a := by
  unfold wpQF
  rw [if_pos (by simp [Region.wanted, hg])]
  exact ⟨v, fun ov w hw => by unfold Oper.quietAt; rw [h ov w hw]; exact ⟨rfl, rfl⟩, hn⟩
theorem wpQF_call {Q : Act → Prop} {o : Oper} {rest : List Oper} {a : Act} (hg : o.guard = none) (v : Value) (f : FuncId) (args : Array Value) (h : ∀ ov w, K ov w → (execOp a.eval o).run P w = .ok (.enter f args) w)
    (hc : ∀ ov w, K ov w → Calls P f args w (fun e w'' => e = .returned v ∧ K ov w'')) (hn : wpQF P ops K Q rest (a.put o.dst v)) : wpQF P ops K Q (o :: rest) a := by
  unfold wpQF
  rw [if_pos (by simp [Region.wanted, hg])]
  exact ⟨v, fun ov w hw => by unfold Oper.quietAt; rw [h ov w hw]; exact ⟨rfl, hc ov w hw⟩, hn⟩
theorem wpQF_one {Q : Act → Prop} {o : Oper} {rest : List Oper} {a : Act} (hgd : o.guard = none) (t : TypeId) (x : Operand) (ho : o.op = .load t x) (g f : Nat) (v : Value) (hx : a.eval x = .pointer (some ⟨g, f, none⟩)) (ha : ∀ w, (isAgg t).run P w = .ok false w)
    (hc : ∀ ov w, K ov w → w.cell? ⟨g, f, none⟩ = some v) (hn : wpQF P ops K Q rest (a.put o.dst v)) : wpQF P ops K Q (o :: rest) a :=
  wpQF_val hgd v (fun ov w hw => by
    have h := hc ov w hw
    have h2 := ha w
    unfold execOp
    simp [ho, hx, Instr.loadAt, Instr.sureAddr, loadVar, h2, h]) hn
theorem wpQF_row {Q : Act → Prop} {o : Oper} {rest : List Oper} {a : Act} (hgd : o.guard = none) (t : TypeId) (x : Operand) (ho : o.op = .load t x) (g f : Nat) (D cells : Array Value) (T : TypeId) (d : TypeDesc) (hx : a.eval x = .pointer (some ⟨g, f, none⟩))
    (hc : ∀ ov w, K ov w → Bk w g D T) (hD : ∀ j v, cells[j]? = some v → D[f + j]? = some v) (hu : P.underlying t = some d) (hd : d.isRow = true) (hi : (P.info? t).map (·.size) = some cells.size) (hn : wpQF P ops K Q rest (a.put o.dst (.agg cells))) : wpQF P ops K Q (o :: rest) a :=
  wpQF_val hgd (.agg cells) (fun ov w hw => by
    have h := hc ov w hw
    have hr := run_loadVar_mid (P := P) w g f t cells.toList d (fun j v hv => by rw [h.cell]; exact hD j v (by rwa [Array.getElem?_toList] at hv)) hu hd (by rw [Array.length_toList]; exact hi)
    unfold execOp
    simp [ho, hx, Instr.loadAt, Instr.sureAddr, hr]) hn
end
/-- A whole row is stored. -/
theorem wpList_sto {P : Program} {ops : Array Oper} {rest : List Oper} {o : Oper} {a : Act} {w : World} {Q : Exit → Act → World → Prop} (hgd : o.guard = none) (ty : TypeId) (x y : Operand) (ho : o.op = .store ty x y)
    (g : Nat) (cells old : Array Value) (t : TypeId) (hx : a.eval x = .pointer (some ⟨g, 0, none⟩)) (hy : a.eval y = .agg cells) (hg : Bk w g old t) (hi : (P.info? ty).map (·.size) = some cells.size)
    (hold : old.size = cells.size) (h1 : cells.all (·.oneCell') = true) (h : ∀ w', Hid (Bk w' g cells t) → Hid (w.grownBy w' (some g)) → wpList P ops Q rest (a.put o.dst undef) w') : wpList P ops Q (o :: rest) a w := by
  refine wpList_store_row hgd ty x y ho g cells hx hy t old hg hi hold h1 (h _ (setRow_heap _ _ _ _ _ _ hg) ?_)
  refine ⟨rfl, rfl, rfl, by simp [World.setRow], fun k hk hne => ?_⟩
  have : g ≠ k := fun e => hne (by rw [e])
  simp [World.setRow, Array.getElem?_modify, this]
/-- Worlds that have grown, with or without the new block. -/
def KN (w0 : World) (z : Array Value) (T : TypeId) : Option Value → World → Prop
  | none, W => Below w0.heap.size w0 W
  | some v, W => ∃ g, v = .pointer (some ⟨g, 0, none⟩) ∧ w0.heap.size ≤ g ∧ Bk W g z T ∧ Below w0.heap.size w0 W
theorem KN.bel {w0 W : World} {z : Array Value} {T : TypeId} {ov : Option Value} (h : KN w0 z T ov W) : Below w0.heap.size w0 W := by
  cases ov with
  | none => exact h
  | some v => obtain ⟨g, _, _, _, h⟩ := h; exact h
theorem KN.up {w0 W W' : World} {z : Array Value} {T : TypeId} {ov : Option Value} (h : KN w0 z T ov W) (hb : Below W.heap.size W W') : KN w0 z T ov W' := by
  cases ov with
  | none => exact Below.trans h (hb.mono h.size)
  | some v => obtain ⟨g, h1, h2, h3, h4⟩ := h; exact ⟨g, h1, h2, h3.below hb h3.lt, h4.trans (hb.mono h4.size)⟩
theorem KN.made {w0 W : World} {z : Array Value} {T : TypeId} (h : KN w0 z T none W) : KN w0 z T (some (.pointer (some ⟨W.heap.size, 0, none⟩))) (W.alloc (.cells z T)) :=
  ⟨W.heap.size, rfl, Below.size h, bk_new _ _ _, Below.alloc h (Below.size h) _⟩
end Go.Proofs.YteccnnpialaalaaDoor
