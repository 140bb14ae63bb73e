import Derived.Test.YtbfoiocbmhhdbaaGreatY16
/- A region that draws its order and makes one new block, where an operation that takes a part of a tuple may come late. -/
namespace Go.Proofs.YtbfoiocbmhhdbaaGreat
open Go.RowKit
set_option linter.unusedSimpArgs false
set_option linter.unusedVariables false
/-- The end is met by going on, and in no other way. -/
def onlyN (Q : Exit → Act → World → Prop) : Exit → Act → World → Prop := fun e a w => e = .normal ∧ Q .normal a w
structure Late (ops ops' : Array Oper) (j t : Nat) (oj ot ot' : Oper) : Prop where
  same : ∀ i, i ≠ t → ops'[i]? = ops[i]?
  hj : ops[j]? = some oj
  ht : ops[t]? = some ot
  ht' : ops'[t]? = some ot'
  eq : ∃ A, ot' = { ot with after := A }
  up : ∀ e ∈ ot.after, e ∈ ot'.after
  dn : ∀ e ∈ ot'.after, e ∈ ot.after ∨ e.on = j
  on : ∃ e ∈ ot'.after, Region.binds .any e = true ∧ e.on = j
  ne : j ≠ t
  sub : ∀ e ∈ oj.after, Region.binds .any e = true → ∃ e' ∈ ot.after, Region.binds .any e' = true ∧ e'.on = e.on
  nt : ∀ e ∈ ot.after, Region.binds .any e = true → e.on ≠ j
  ap : ∀ i oi, ops[i]? = some oi → i ≠ j → (∀ e ∈ oj.after, Region.binds .any e = true → e.on ≠ i) → (∀ e ∈ oi.after, Region.binds .any e = true → e.on ≠ j) → oj.apart ops oi = true
  nosel : ∀ (i : Nat) (o : Oper) cs b, ops[i]? = some o → o.op ≠ .select cs b
  ext : ∃ x k, oj.op = .extract x k
  gd : oj.guard = none
section
variable {P : Program} {ops ops' : Array Oper} {Q : Exit → Act → World → Prop} {j t : Nat} {oj ot ot' : Oper}
theorem Late.yld (h : Late ops ops' j t oj ot ot') (tmps : Array Value) : yielded ops' tmps = yielded ops tmps := by
  funext i
  unfold yielded
  by_cases hi : i = t
  · subst hi
    rw [h.ht, h.ht']
    obtain ⟨A, rfl⟩ := h.eq
    rfl
  · rw [h.same i hi]
theorem Late.op (h : Late ops ops' j t oj ot ot') {i : Nat} {K : Act → World → Prop} {a : Act} {w : World} : wpOp P ops' Q i K a w ↔ wpOp P ops Q i K a w := by
  unfold wpOp
  rw [h.yld]
  by_cases hi : i = t
  · subst hi
    rw [h.ht, h.ht']
    obtain ⟨A, rfl⟩ := h.eq
    exact Iff.rfl
  · rw [h.same i hi]
theorem Late.rdy (h : Late ops ops' j t oj ot ot') {i : Nat} {listed : Array Bool} : i ∈ Region.ready .any ops' listed ↔ i ∈ Region.ready .any ops listed ∧ (i = t → listed.getD j false = true) := by
  rw [mem_ready, mem_ready]
  by_cases hi : i = t
  · subst hi
    constructor
    · rintro ⟨h0, o, ho, hall⟩
      rw [h.ht'] at ho
      injection ho with ho
      subst ho
      refine ⟨⟨h0, ot, h.ht, fun e he hb => hall e (h.up e he) hb⟩, fun _ => ?_⟩
      obtain ⟨e, he, hb, hon⟩ := h.on
      rw [← hon]
      exact hall e he hb
    · rintro ⟨⟨h0, o, ho, hall⟩, hj⟩
      rw [h.ht] at ho
      injection ho with ho
      subst ho
      refine ⟨h0, ot', h.ht', fun e he hb => ?_⟩
      rcases h.dn e he with q | q
      · exact hall e q hb
      · rw [q]; exact hj rfl
  · rw [h.same i hi]
    exact ⟨fun q => ⟨q, fun e => absurd e hi⟩, fun q => q.1⟩
theorem Late.nil (h : Late ops ops' j t oj ot ot') {listed : Array Bool} (hn : Region.ready .any ops listed = []) : Region.ready .any ops' listed = [] := by
  apply List.eq_nil_iff_forall_not_mem.2
  intro i hi
  have := (h.rdy.1 hi).1
  rw [hn] at this
  cases this
theorem Late.jrdy (h : Late ops ops' j t oj ot ot') {listed : Array Bool} (hj : listed.getD j true = false) (ht : t ∈ Region.ready .any ops listed) : j ∈ Region.ready .any ops listed := by
  rw [mem_ready] at ht ⊢
  obtain ⟨_, o, ho, hall⟩ := ht
  rw [h.ht] at ho
  injection ho with ho
  subst ho
  refine ⟨hj, oj, h.hj, fun e he hb => ?_⟩
  obtain ⟨e', h1, h2, h3⟩ := h.sub e he hb
  rw [← h3]
  exact hall e' h1 h2
theorem Late.in (h : Late ops ops' j t oj ot ot') : ∀ (fuel : Nat) (listed : Array Bool) (a : Act) (w : World), listed.getD j false = true → wpAny P .any ops' Q fuel listed a w → wpAny P .any ops Q fuel listed a w
  | 0, listed, a, w, hj, H => by
    refine ⟨List.eq_nil_iff_forall_not_mem.2 fun i hi => ?_, H.2⟩
    have := h.rdy.2 ⟨hi, fun _ => hj⟩
    rw [H.1] at this
    cases this
  | fuel + 1, listed, a, w, hj, H => ⟨fun hn => H.1 (h.nil hn), fun i hi => wpOp_mono (fun a' w' => Late.in h fuel _ a' w' (getD_set_true hj)) (h.op.1 (H.2 i (h.rdy.2 ⟨hi, fun _ => hj⟩)))⟩
theorem Late.yields (h : Late ops ops' j t oj ot ot') {K : Act → World → Prop} {a : Act} {w : World} (H : wpOp P ops (onlyN Q) j K a w) : ∃ v, Yields P ops oj v a ∧ K (a.put oj.dst v) w := by
  have hw : Region.wanted oj (yielded ops a.tmps) = true := by simp [Region.wanted, h.gd]
  unfold wpOp at H
  simp only [h.hj, hw, if_true] at H
  obtain ⟨x, k, hop⟩ := h.ext
  rcases H with H | ⟨_, a', w', q, _⟩
  · cases hx : a.eval x with
    | tuple vs =>
      cases hv : vs[k]? with
      | some u =>
        have hr : ∀ w, (execOp a.eval oj).run P w = .ok (.value u) w := fun w => by
          unfold execOp
          simp [hop, hx, Instr.extract, hv]
        refine ⟨u, .inl ⟨hw, hr⟩, ?_⟩
        unfold Oper.wp at H
        rw [hr w] at H
        exact H
      | none =>
        exfalso
        unfold Oper.wp execOp at H
        simp [hop, hx, Instr.extract, hv, stuck, Oper.upon] at H
    | _ =>
      exfalso
      unfold Oper.wp execOp at H
      simp [hop, hx, Instr.extract, stuck, Oper.upon] at H
  · cases q
theorem set_self {listed : Array Bool} {j : Nat} (hj : listed.getD j true = false) : (listed.setIfInBounds j true).getD j false = true := by
  have hlt : j < listed.size := by
    rcases Nat.lt_or_ge j listed.size with q | q
    · exact q
    · simp [Array.getElem?_eq_none q] at hj
  simp [hlt]
theorem Late.out (h : Late ops ops' j t oj ot ot') : ∀ (fuel : Nat) (listed : Array Bool) (a : Act) (w : World), listed.getD j true = false → wpAny P .any ops' (onlyN Q) fuel listed a w → wpAny P .any ops (onlyN Q) fuel listed a w
  | 0, listed, a, w, hj, H => by
    refine ⟨List.eq_nil_iff_forall_not_mem.2 fun i hi => ?_, H.2⟩
    by_cases hit : i = t
    · subst hit
      have := h.rdy.2 ⟨h.jrdy hj hi, fun e => absurd e h.ne⟩
      rw [H.1] at this
      cases this
    · have := h.rdy.2 ⟨hi, fun e => absurd e hit⟩
      rw [H.1] at this
      cases this
  | fuel + 1, listed, a, w, hj, H => by
    refine ⟨fun hn => H.1 (h.nil hn), fun i hi => ?_⟩
    by_cases hit : i = t
    · subst hit
      have hjr := h.jrdy hj hi
      obtain ⟨v, hy, Hk⟩ := h.yields (h.op.1 (H.2 j (h.rdy.2 ⟨hjr, fun e => absurd e h.ne⟩)))
      have hti : i ∈ Region.ready .any ops' (listed.setIfInBounds j true) := h.rdy.2 ⟨ready_mono hi h.ne.symm, fun _ => set_self hj⟩
      have hQ : ∀ c (a : Act) w, onlyN Q (.panic c) (a.put oj.dst v) w → onlyN Q (.panic c) a w := fun c a w q => by cases q.1
      cases fuel with
      | zero => rw [Hk.1] at hti; cases hti
      | succ f =>
        have Ht := h.op.1 (Hk.2 i hti)
        have hdep : ∀ e ∈ oj.after, Region.binds .any e = true → listed.getD e.on false = true := by
          obtain ⟨_, o, ho, hall⟩ := mem_ready.1 hjr
          rw [h.hj] at ho
          injection ho with ho
          subst ho
          exact hall
        have hun : ∀ i', listed.getD i' true = false → ∀ e ∈ oj.after, Region.binds .any e = true → e.on ≠ i' := fun i' hi' e he hb q => by
          have h1 := hdep e he hb
          rw [q] at h1
          cases hx : listed[i']? with
          | none => simp [hx] at hi'
          | some b => simp [hx] at hi' h1; rw [hi'] at h1; cases h1
        refine wpOp_mono (fun a' w' q => ?_) (wpOp_put h.ht (h.ap i ot h.ht h.ne.symm (hun i (mem_ready.1 hi).1) h.nt) (fun cs b => h.nosel j oj cs b h.hj) (fun cs b => h.nosel i ot cs b h.ht) hQ hy Ht)
        refine wpAny_first h.hj h.nosel hQ f (listed.setIfInBounds i true) a' w' (fun j' oj' h1 h2 hl h3 => h.ap j' oj' h1 h2 (hun j' (by by_cases q : i = j'; exact (by subst q; exact (mem_ready.1 hi).1); rwa [getD_set_ne true q] at hl)) h3) (ready_mono hjr h.ne) q.1 ?_
        have := h.in f _ _ _ (getD_set_true (set_self hj)) q.2
        rwa [Array.setIfInBounds_comm _ _ h.ne] at this
    · refine wpOp_mono (fun a' w' q => ?_) (h.op.1 (H.2 i (h.rdy.2 ⟨hi, fun e => absurd e hit⟩)))
      by_cases hij : i = j
      · subst hij
        exact h.in fuel _ a' w' (set_self hj) q
      · exact Late.out h fuel _ a' w' (by rw [getD_set_ne true hij]; exact hj) q
end
/-- The operation t waits for j, too. -/
def lateL (j : Nat) : Nat → List Oper → List Oper
  | _, [] => []
  | 0, o :: r => { o with after := o.after.push { on := j, ground := .data } } :: r
  | t + 1, o :: r => o :: lateL j t r
theorem lateL_nil (j : Nat) : ∀ t, lateL j t [] = []
  | 0 => rfl
  | _ + 1 => rfl
theorem lateL_ne (j : Nat) : ∀ (t : Nat) (l : List Oper) (i : Nat), i ≠ t → (lateL j t l)[i]? = l[i]?
  | _, [], i, _ => by simp [lateL]
  | 0, o :: r, 0, h => absurd rfl h
  | 0, o :: r, i + 1, _ => by simp [lateL]
  | t + 1, o :: r, 0, _ => by simp [lateL]
  | t + 1, o :: r, i + 1, h => by
    rw [lateL, List.getElem?_cons_succ, List.getElem?_cons_succ]
    exact lateL_ne j t r i (by omega)
theorem lateL_at (j : Nat) : ∀ (t : Nat) (l : List Oper) (o : Oper), l[t]? = some o → (lateL j t l)[t]? = some { o with after := o.after.push { on := j, ground := .data } }
  | _, [], o, h => by simp at h
  | 0, p :: r, o, h => by
    rw [List.getElem?_cons_zero] at h
    injection h with h
    subst h
    rfl
  | t + 1, p :: r, o, h => by
    rw [List.getElem?_cons_succ] at h
    rw [lateL, List.getElem?_cons_succ]
    exact lateL_at j t r o h
theorem lateL_take (j : Nat) : ∀ (t n : Nat) (l : List Oper), n ≤ t → (lateL j t l).take n = l.take n
  | _, _, [], _ => by rw [lateL_nil]
  | 0, n, o :: r, h => by
    have e : n = 0 := by omega
    subst e
    rfl
  | t + 1, 0, o :: r, h => rfl
  | t + 1, n + 1, o :: r, h => by rw [lateL, List.take_succ_cons, List.take_succ_cons, lateL_take j t n r (by omega)]
theorem lateL_drop (j : Nat) : ∀ (t n : Nat) (l : List Oper), n ≤ t → (lateL j t l).drop n = lateL j (t - n) (l.drop n)
  | _, n, [], _ => by rw [lateL_nil, List.drop_nil, lateL_nil]
  | 0, n, o :: r, h => by
    have e : n = 0 := by omega
    subst e
    rfl
  | t + 1, 0, o :: r, h => rfl
  | t + 1, n + 1, o :: r, h => by rw [lateL, List.drop_succ_cons, List.drop_succ_cons, lateL_drop j t n r (by omega), show t + 1 - (n + 1) = t - n by omega]
theorem lateL_len (j : Nat) : ∀ (t : Nat) (l : List Oper), (lateL j t l).length = l.length
  | _, [] => by rw [lateL_nil]
  | 0, o :: r => rfl
  | t + 1, o :: r => by rw [lateL, List.length_cons, List.length_cons, lateL_len j t r]
def lateB (l : List Oper) (j t : Nat) : Bool :=
  match l[j]?, l[t]? with
  | some oj, some ot => j != t && oj.guard.isNone && (match oj.op with | .extract _ _ => true | _ => false) && Region.noSelect l.toArray
      && oj.after.toList.all (fun e => !Region.binds .any e || ot.after.toList.any (fun e' => Region.binds .any e' && e'.on == e.on)) && ot.after.toList.all (fun e => !Region.binds .any e || e.on != j)
      && ((List.range l.length).all fun i => i == j || oj.after.toList.any (fun e => Region.binds .any e && e.on == i) || (match l[i]? with | some oi => oi.after.toList.any (fun e => Region.binds .any e && e.on == j) || oj.apart l.toArray oi | none => true))
  | _, _ => false
theorem late_of {l : List Oper} {j t : Nat} (h : lateB l j t = true) (hb : Region.binds .any { on := j, ground := .data } = true) : ∃ oj ot ot', Late l.toArray (lateL j t l).toArray j t oj ot ot' := by
  unfold lateB at h
  cases hj : l[j]? with
  | none => rw [hj] at h; cases h
  | some oj =>
    cases ht : l[t]? with
    | none => rw [hj, ht] at h; cases h
    | some ot =>
      rw [hj, ht] at h
      simp only [Bool.and_eq_true] at h
      obtain ⟨⟨⟨⟨⟨⟨h1, h2⟩, h3⟩, h4⟩, h5⟩, h6⟩, h7⟩ := h
      refine ⟨oj, ot, { ot with after := ot.after.push { on := j, ground := .data } }, ?_⟩
      constructor
      · intro i hi; rw [List.getElem?_toArray, List.getElem?_toArray]; exact lateL_ne j t l i hi
      · rw [List.getElem?_toArray]; exact hj
      · rw [List.getElem?_toArray]; exact ht
      · rw [List.getElem?_toArray]; exact lateL_at j t l ot ht
      · exact ⟨_, rfl⟩
      · intro e he; exact Array.mem_push.2 (.inl he)
      · intro e he
        rcases Array.mem_push.1 he with q | q
        · exact .inl q
        · exact .inr (by rw [q])
      · exact ⟨_, Array.mem_push.2 (.inr rfl), hb, rfl⟩
      · simpa using h1
      · intro e he hbd
        have := List.all_eq_true.1 h5 e (Array.mem_toList_iff.2 he)
        rw [hbd, Bool.not_true, Bool.false_or, List.any_eq_true] at this
        obtain ⟨e', q1, q2⟩ := this
        rw [Bool.and_eq_true, beq_iff_eq] at q2
        exact ⟨e', Array.mem_toList_iff.1 q1, q2.1, q2.2⟩
      · intro e he hbd
        have := List.all_eq_true.1 h6 e (Array.mem_toList_iff.2 he)
        rw [hbd, Bool.not_true, Bool.false_or, bne_iff_ne] at this
        exact this
      · intro i oi hi hij hnj hno
        rw [List.getElem?_toArray] at hi
        have hlt : i < l.length := (List.getElem?_eq_some_iff.1 hi).1
        have := List.all_eq_true.1 h7 i (List.mem_range.2 hlt)
        simp only [hi, Bool.or_eq_true, beq_iff_eq, List.any_eq_true, Bool.and_eq_true] at this
        rcases this with (q | ⟨e, q1, q2, q3⟩) | ⟨e, q1, q2, q3⟩ | q
        · exact absurd q hij
        · exact absurd q3 (hnj e (Array.mem_toList_iff.1 q1) q2)
        · exact absurd q3 (hno e (Array.mem_toList_iff.1 q1) q2)
        · exact q
      · intro i o cs b hi; exact Region.noSelect_spec h4 i o cs b hi
      · cases hop : oj.op with
        | extract x k => exact ⟨x, k, rfl⟩
        | _ => rw [hop] at h3; cases h3
      · simpa using h2
section
variable {P : Program} {ops ops' : Array Oper} {j t : Nat} {oj ot ot' : Oper} {K : Option Value → World → Prop}
theorem Late.qf (h : Late ops ops' j t oj ot ot') {R R' : Act → Prop} (hR : ∀ a, R a → R' a) : ∀ (l : List Oper) (a : Act), wpQF P ops K R l a → wpQF P ops' K R' l a
  | [], a, H => hR a H
  | o :: r, a, H => by
    unfold wpQF at H ⊢
    rw [h.yld]
    split
    · rename_i hw
      rw [if_pos hw] at H
      obtain ⟨v, h1, h2⟩ := H
      exact ⟨v, h1, Late.qf h hR r _ h2⟩
    · rename_i hw
      rw [if_neg hw] at H
      exact Late.qf h hR r _ H
theorem Late.ls (h : Late ops ops' j t oj ot ot') {Q : Exit → Act → World → Prop} (i : Nat) : ∀ (s : Nat) (l : List Oper) (a : Act) (w : World), wpList P ops Q l a w → wpList P ops' Q (lateL i s l) a w
  | _, [], a, w, H => by rw [lateL_nil]; exact H
  | 0, o :: r, a, w, H => by
    have hr : ∀ (l : List Oper) (a : Act) (w : World), wpList P ops Q l a w → wpList P ops' Q l a w := by
      intro l
      induction l with
      | nil => exact fun a w H => H
      | cons o r ih =>
        intro a w H
        unfold wpList at H ⊢
        rw [h.yld]
        split
        · rename_i hw
          rw [if_pos hw] at H
          exact H.imp (Oper.wp_mono (fun a w => ih a w)) id
        · rename_i hw
          rw [if_neg hw] at H
          exact ih _ _ H
    have := hr (o :: r) a w H
    exact this
  | s + 1, o :: r, a, w, H => by
    rw [lateL]
    unfold wpList at H ⊢
    rw [h.yld]
    split
    · rename_i hw
      rw [if_pos hw] at H
      exact H.imp (Oper.wp_mono (fun a w => Late.ls h i s r a w)) id
    · rename_i hw
      rw [if_neg hw] at H
      exact Late.ls h i s r _ _ H
end
theorem wp_region_late {P : Program} {id : Nat} {Q : Exit → Act → World → Prop} {a : Act} {w : World} {l : List Oper} (K : Option Value → World → Prop) (n i0 j t : Nat) (o0 : Oper) (hm : P.follows .mixedOrders = true) (hB : newB (lateL j t l).toArray n i0 = true) (hLt : lateB l j t = true)
    (hb : Region.binds .any { on := j, ground := .data } = true) (hnt : n ≤ t) (hi : i0 ≠ t) (h0 : l[i0]? = some o0) (hg0 : o0.guard = none) (hal : ∀ (a : Act) w, K none w → ∃ v w', (execOp a.eval o0).run P w = .ok (.value v) w' ∧ K (some v) w') (hC : K none w.drew)
    (h : wpQF P l.toArray K (fun a' => ∀ v w', K (some v) w' → wpList P l.toArray (onlyN Q) (l.drop n) (a'.put o0.dst v) w') (skipL i0 0 (l.take n)) a) : (Code.region id l.toArray true).wp P Q a w := by
  obtain ⟨oj, ot, ot', L⟩ := late_of hLt hb
  have hq : wpQF P (lateL j t l).toArray K (fun a' => mkF P K o0 a' ∧ ∀ v w', K (some v) w' → wpList P (lateL j t l).toArray (onlyN Q) ((lateL j t l).drop n) (a'.put o0.dst v) w') (skipL i0 0 ((lateL j t l).take n)) a := by
    rw [lateL_take j t n l hnt, lateL_drop j t n l hnt]
    exact L.qf (fun a' q => ⟨fun w hw => hal a' w hw, fun v w' hv => L.ls j (t - n) _ _ _ (q v w' hv)⟩) _ _ h
  have H := any_mk (Q := onlyN Q) (w := w.drew) K n i0 o0 hB (by rw [lateL_ne j t l i0 hi]; exact h0) hg0 hC hq
  have hsz : (lateL j t l).toArray.size = l.toArray.size := by simp [lateL_len]
  rw [hsz] at H
  have hjl : j < l.toArray.size := (Array.getElem?_eq_some_iff.1 L.hj).1
  have H2 := L.out (P := P) (Q := Q) _ _ _ _ (by rw [Array.getD_eq_getD_getElem?, Array.getElem?_replicate, if_pos hjl]; rfl) H
  exact Code.wp_mono (fun e a w q => by obtain ⟨rfl, q⟩ := q; exact q) (wp_region_any hm H2)
theorem wpList_asg {P : Program} {ops : Array Oper} {rest : List Oper} {o : Oper} {a : Act} {w : World} {Q : Exit → Act → World → Prop} (hgd : o.guard = none) (x : Operand) (ho : o.op = .assign x) (v : Value) (hx : a.eval x = v)
    (h : wpList P ops Q rest (a.put o.dst v) w) : wpList P ops Q (o :: rest) a w := by
  refine wpList_plain hgd fun K hK => ?_
  unfold Oper.wp execOp
  simp only [ho, hx, Sem.run_pure]
  exact hK _ _ h
end Go.Proofs.YtbfoiocbmhhdbaaGreat
