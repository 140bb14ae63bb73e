import Derived.Test.YteccnnpialaalaaDoorY10
import Derived.OrdersHeld
import Derived.Test.YteccnnpialaalaaDoorY9
import Derived.Deep.Cut
import Derived.Test.YteccnnpialaalaaDoorY3
import Derived.Laws.ResultCell
import Derived.Laws.AppendOwn
import Derived.Deep.RegionHeld3
import Derived.Test.YteccnnpialaalaaDoorY2
/- A region that draws its order and makes one new block, where an operation that takes a part of a tuple may come late. -/
namespace Go.Proofs.YteccnnpialaalaaDoor
open Go.RowKit
set_option linter.unusedSimpArgs false
set_option linter.unusedVariables false
/-- The end is met by going on, and in no other way. -/
def onlyN (Q : Exit → Act → World → Prop) : Exit → Act → World → Prop := fun e a w => e = .normal ∧ Q .normal a w
structure Late (ops ops' : Array Oper) (j t : Nat) (oj ot ot' : Oper) : Prop where
  same : ∀ i, i ≠ t → ops'[i]? = ops[i]?
  hj : ops[j]? = some oj
  ht : ops[t]? = some ot
  ht' : ops'[t]? = some ot'
  eq : ∃ A, ot' = { ot with after := A }
  up : ∀ e ∈ ot.after, e ∈ ot'.after
  dn : ∀ e ∈ ot'.after, e ∈ ot.after ∨ e.on = j
  on : ∃ e ∈ ot'.after, Region.binds .any e = true ∧ e.on = j
  ne : j ≠ t
  sub : ∀ e ∈ oj.after, Region.binds .any e = true → ∃ e' ∈ ot.after, Region.binds .any e' = true ∧ e'.on = e.on
  nt : ∀ e ∈ ot.after, Region.binds .any e = true → e.on ≠ j
  ap : ∀ i oi, ops[i]? = some oi → i ≠ j → (∀ e ∈ oj.after, Region.binds .any e = true → e.on ≠ i) → (∀ e ∈ oi.after, Region.binds .any e = true → e.on ≠ j) → oj.apart ops oi = true
  nosel : ∀ (i : Nat) (o : Oper) cs b, ops[i]? = some o → o.op ≠ .select cs b
  ext : ∃ x k, oj.op = .extract x k
  gd : oj.guard = none
section
variable {P : Program} {ops ops' : Array Oper} {Q : Exit → Act → World → Prop} {j t : Nat} {oj ot ot' : Oper}
theorem Late.yld (h : Late ops ops' j t oj ot ot') (tmps : Array Value) : yielded ops' tmps = yielded ops tmps := by
  funext i
  unfold yielded
  by_cases hi : i = t
  · subst hi
    rw [h.ht, h.ht']
    obtain ⟨A, rfl⟩ := h.eq
    rfl
  · rw [h.same i hi]
theorem Late.op (h : Late ops ops' j t oj ot ot') {i : Nat} {K : Act → World → Prop} {a : Act} {w : World} : wpOp P ops' Q i K a w ↔ wpOp P ops Q i K a w := by
  unfold wpOp
  rw [h.yld]
  by_cases hi : i = t
  · subst hi
    rw [h.ht, h.ht']
    obtain ⟨A, rfl⟩ := h.eq
    exact Iff.rfl
  · rw [h.same i hi]
theorem Late.rdy (h : Late ops ops' j t oj ot ot') {i : Nat} {listed : Array Bool} : i ∈ Region.ready .any ops' listed ↔ i ∈ Region.ready .any ops listed ∧ (i = t → listed.getD j false = true) := by
  rw [mem_ready, mem_ready]
  by_cases hi : i = t
  · subst hi
    constructor
    · rintro ⟨h0, o, ho, hall⟩
      rw [h.ht'] at ho
      injection ho with ho
      subst ho
      refine ⟨⟨h0, ot, h.ht, fun e he hb => hall e (h.up e he) hb⟩, fun _ => ?_⟩
      obtain ⟨e, he, hb, hon⟩ := h.on
      rw [← hon]
      exact hall e he hb
    · rintro ⟨⟨h0, o, ho, hall⟩, hj⟩
      rw [h.ht] at ho
      injection ho with ho
      subst ho
      refine ⟨h0, ot', h.ht', fun e he hb => ?_⟩
      rcases h.dn e he with q | q
      · exact hall e q hb
      · rw [q]; exact hj rfl
  · rw [h.same i hi]
    exact ⟨fun q => ⟨q, fun e => absurd e hi⟩, fun q => q.1⟩
theorem Late.nil (h : Late ops ops' j t oj ot ot') {listed : Array Bool} (hn : Region.ready .any ops listed = []) : Region.ready .any ops' listed = [] := by
  apply List.eq_nil_iff_forall_not_mem.2
  intro i hi
  have := (h.rdy.1 hi).1
  rw [hn] at this
  cases this
theorem Late.jrdy (h : Late ops ops' j t oj ot ot') {listed : Array Bool} (hj : listed.getD j true = false) (ht : t ∈ Region.ready .any ops listed) : j ∈ Region.ready .any ops listed := by
  rw [mem_ready] at ht ⊢
  obtain ⟨_, o, ho, hall⟩ := ht
  rw [h.ht] at ho
  injection ho with ho
  subst ho
  refine ⟨hj, oj, h.hj, fun e he hb => ?_⟩
  obtain ⟨e', h1, h2, h3⟩ := h.sub e he hb
  rw [← h3]
  exact hall e' h1 h2
theorem Late.in (h : Late ops ops' j t oj ot ot') : ∀ (fuel : Nat) (listed : Array Bool) (a : Act) (w : World), listed.getD j false = true → wpAny P .any ops' Q fuel listed a w → wpAny P .any ops Q fuel listed a w
  | 0, listed, a, w, hj, H => by
    refine ⟨List.eq_nil_iff_forall_not_mem.2 fun i hi => ?_, H.2⟩
    have := h.rdy.2 ⟨hi, fun _ => hj⟩
    rw [H.1] at this
    cases this
  | fuel + 1, listed, a, w, hj, H => ⟨fun hn => H.1 (h.nil hn), fun i hi => wpOp_mono (fun a' w' => Late.in h fuel _ a' w' (getD_set_true hj)) (h.op.1 (H.2 i (h.rdy.2 ⟨hi, fun _ => hj⟩)))⟩
theorem Late.yields (h : Late ops ops' j t oj ot ot') {K : Act → World → Prop} {a : Act} {w : World} (H : wpOp P ops (onlyN Q) j K a w) : ∃ v, Yields P ops oj v a ∧ K (a.put oj.dst v) w := by
  have hw : Region.wanted oj (yielded ops a.tmps) = true := by simp [Region.wanted, h.gd]
  unfold wpOp at H
  simp only [h.hj, hw, if_true] at H
  obtain ⟨x, k, hop⟩ := h.ext
  rcases H with H | ⟨_, a', w', q, _⟩
  · cases hx : a.eval x with
    | tuple vs =>
      cases hv : vs[k]? with
      | some u =>
        have hr : ∀ w, (execOp a.eval oj).run P w = .ok (.value u) w := fun w => by
          unfold execOp
          simp [hop, hx, Instr.extract, hv]
        refine ⟨u, .inl ⟨hw, hr⟩, ?_⟩
        unfold Oper.wp at H
        rw [hr w] at H
        exact H
      | none =>
        exfalso
        unfold Oper.wp execOp at H
        simp [hop, hx, Instr.extract, hv, stuck, Oper.upon] at H
    | _ =>
      exfalso
      unfold Oper.wp execOp at H
      simp [hop, hx, Instr.extract, stuck, Oper.upon] at H
  · cases q
theorem set_self {listed : Array Bool} {j : Nat} (hj : listed.getD j true = false) : (listed.setIfInBounds j true).getD j false = true := by
  have hlt : j < listed.size := by
    rcases Nat.lt_or_ge j listed.size with q | q
    · exact q
    · simp [Array.getElem?_eq_none q] at hj
  simp [hlt]
theorem Late.out (h : Late ops ops' j t oj ot ot') : ∀ (fuel : Nat) (listed : Array Bool) (a : Act) (w : World), listed.getD j true = false → wpAny P .any ops' (onlyN Q) fuel listed a w → wpAny P .any ops (onlyN Q) fuel listed a w
  | 0, listed, a, w, hj, H => by
    refine ⟨List.eq_nil_iff_forall_not_mem.2 fun i hi => ?_, H.2⟩
    by_cases hit : i = t
    · subst hit
      have := h.rdy.2 ⟨h.jrdy hj hi, fun e => absurd e h.ne⟩
      rw [H.1] at this
      cases this
    · have := h.rdy.2 ⟨hi, fun e => absurd e hit⟩
      rw [H.1] at this
      cases this
  | fuel + 1, listed, a, w, hj, H => by
    refine ⟨fun hn => H.1 (h.nil hn), fun i hi => ?_⟩
    by_cases hit : i = t
    · subst hit
      have hjr := h.jrdy hj hi
      obtain ⟨v, hy, Hk⟩ := h.yields (h.op.1 (H.2 j (h.rdy.2 ⟨hjr, fun e => absurd e h.ne⟩)))
      have hti : i ∈ Region.ready .any ops' (listed.setIfInBounds j true) := h.rdy.2 ⟨ready_mono hi h.ne.symm, fun _ => set_self hj⟩
      have hQ : ∀ c (a : Act) w, onlyN Q (.panic c) (a.put oj.dst v) w → onlyN Q (.panic c) a w := fun c a w q => by cases q.1
      cases fuel with
      | zero => rw [Hk.1] at hti; cases hti
      | succ f =>
        have Ht := h.op.1 (Hk.2 i hti)
        have hdep : ∀ e ∈ oj.after, Region.binds .any e = true → listed.getD e.on false = true := by
          obtain ⟨_, o, ho, hall⟩ := mem_ready.1 hjr
          rw [h.hj] at ho
          injection ho with ho
          subst ho
          exact hall
        have hun : ∀ i', listed.getD i' true = false → ∀ e ∈ oj.after, Region.binds .any e = true → e.on ≠ i' := fun i' hi' e he hb q => by
          have h1 := hdep e he hb
          rw [q] at h1
          cases hx : listed[i']? with
          | none => simp [hx] at hi'
          | some b => simp [hx] at hi' h1; rw [hi'] at h1; cases h1
        refine wpOp_mono (fun a' w' q => ?_) (wpOp_put h.ht (h.ap i ot h.ht h.ne.symm (hun i (mem_ready.1 hi).1) h.nt) (fun cs b => h.nosel j oj cs b h.hj) (fun cs b => h.nosel i ot cs b h.ht) hQ hy Ht)
        refine wpAny_first h.hj h.nosel hQ f (listed.setIfInBounds i true) a' w' (fun j' oj' h1 h2 hl h3 => h.ap j' oj' h1 h2 (hun j' (by by_cases q : i = j'; exact (by subst q; exact (mem_ready.1 hi).1); rwa [getD_set_ne true q] at hl)) h3) (ready_mono hjr h.ne) q.1 ?_
        have := h.in f _ _ _ (getD_set_true (set_self hj)) q.2
        rwa [Array.setIfInBounds_comm _ _ h.ne] at this
    · refine wpOp_mono (fun a' w' q => ?_) (h.op.1 (H.2 i (h.rdy.2 ⟨hi, fun e => absurd e hit⟩)))
      by_cases hij : i = j
      · subst hij
        exact h.in fuel _ a' w' (set_self hj) q
      · exact Late.out h fuel _ a' w' (by rw [getD_set_ne true hij]; exact hj) q
end
/-- The operation t waits for j, too. -/
def lateL (j : Nat) : Nat → List Oper → List Oper
  | _, [] => []
  | 0, o :: r => { o with after := o.after.push { on := j, ground := .data } } :: r
  | t + 1, o :: r => o :: lateL j t r
theorem lateL_nil (j : Nat) : ∀ t, lateL j t [] = []
  | 0 => rfl
  | _ + 1 => rfl
theorem lateL_ne (j : Nat) : ∀ (t : Nat) (l : List Oper) (i : Nat), i ≠ t → (lateL j t l)[i]? = l[i]?
  | _, [], i, _ => by simp [lateL]
  | 0, o :: r, 0, h => absurd rfl h
  | 0, o :: r, i + 1, _ => by simp [lateL]
  | t + 1, o :: r, 0, _ => by simp [lateL]
  | t + 1, o :: r, i + 1, h => by
    rw [lateL, List.getElem?_cons_succ, List.getElem?_cons_succ]
    exact lateL_ne j t r i (by omega)
theorem lateL_at (j : Nat) : ∀ (t : Nat) (l : List Oper) (o : Oper), l[t]? = some o → (lateL j t l)[t]? = some { o with after := o.after.push { on := j, ground := .data } }
  | _, [], o, h => by simp at h
  | 0, p :: r, o, h => by
    rw [List.getElem?_cons_zero] at h
    injection h with h
    subst h
    rfl
  | t + 1, p :: r, o, h => by
    rw [List.getElem?_cons_succ] at h
    rw [lateL, List.getElem?_cons_succ]
    exact lateL_at j t r o h
theorem lateL_take (j : Nat) : ∀ (t n : Nat) (l : List Oper), n ≤ t → (lateL j t l).take n = l.take n
  | _, _, [], _ => by rw [lateL_nil]
  | 0, n, o :: r, h => by
    have e : n = 0 := by omega
    subst e
    rfl
  | t + 1, 0, o :: r, h => rfl
  | t + 1, n + 1, o :: r, h => by rw [lateL, List.take_succ_cons, List.take_succ_cons, lateL_take j t n r (by omega)]
theorem lateL_drop (j : Nat) : ∀ (t n : Nat) (l : List Oper), n ≤ t → (lateL j t l).drop n = lateL j (t - n) (l.drop n)
  | _, n, [], _ => by rw [lateL_nil, List.drop_nil, lateL_nil]
  | 0, n, o :: r, h => by
    have e : n = 0 := by omega
    subst e
    rfl
  | t + 1, 0, o :: r, h => rfl
  | t + 1, n + 1, o :: r, h => by rw [lateL, List.drop_succ_cons, List.drop_succ_cons, lateL_drop j t n r (by omega), show t + 1 - (n + 1) = t - n by omega]
theorem lateL_len (j : Nat) : ∀ (t : Nat) (l : List Oper), (lateL j t l).length = l.length
  | _, [] => by rw [lateL_nil]
  | 0, o :: r => rfl
  | t + 1, o :: r => by rw [lateL, List.length_cons, List.length_cons, lateL_len j t r]
def lateB (l : List Oper) (j t : Nat) : Bool :=
  match l[j]?, l[t]? with
  | some oj, some ot => j != t && oj.guard.isNone && (match oj.op with | .extract _ _ => true | _ => false) && Region.noSelect l.toArray
      && oj.after.toList.all (fun e => !Region.binds .any e || ot.after.toList.any (fun e' => Region.binds .any e' && e'.on == e.on)) && ot.after.toList.all (fun e => !Region.binds .any e || e.on != j)
      && ((List.range l.length).all fun i => i == j || oj.after.toList.any (fun e => Region.binds .any e && e.on == i) || (match l[i]? with | some oi => oi.after.toList.any (fun e => Region.binds .any e && e.on == j) || oj.apart l.toArray oi | none => true))
  | _, _ => false
theorem late_of {l : List Oper} {j t : Nat} (h : lateB l j t = true) (hb : Region.binds .any { on := j, ground := .data } = true) : ∃ oj ot ot', Late l.toArray (lateL j t l).toArray j t oj ot ot' := by
  unfold lateB at h
  cases hj : l[j]? with
  | none => rw [hj] at h; cases h
  | some oj =>
    cases ht : l[t]? with
    | none => rw [hj, ht] at h; cases h
    | some ot =>
      rw [hj, ht] at h
      simp only [Bool.and_eq_true] at h
      obtain ⟨⟨⟨⟨⟨⟨h1, h2⟩, h3⟩, h4⟩, h5⟩, h6⟩, h7⟩ := h
      refine ⟨oj, ot, { ot with after := ot.after.push { on := j, ground := .data } }, ?_⟩
      constructor
      · intro i hi; rw [List.getElem?_toArray, List.getElem?_toArray]; exact lateL_ne j t l i hi
      · rw [List.getElem?_toArray]; exact hj
      · rw [List.getElem?_toArray]; exact ht
      · rw [List.getElem?_toArray]; exact lateL_at j t l ot ht
      · exact ⟨_, rfl⟩
      · intro e he; exact Array.mem_push.2 (.inl he)
      · intro e he
        rcases Array.mem_push.1 he with q | q
        · exact .inl q
        · exact .inr (by rw [q])
      · exact ⟨_, Array.mem_push.2 (.inr rfl), hb, rfl⟩
      · simpa using h1
      · intro e he hbd
        have := List.all_eq_true.1 h5 e (Array.mem_toList_iff.2 he)
        rw [hbd, Bool.not_true, Bool.false_or, List.any_eq_true] at this
        obtain ⟨e', q1, q2⟩ := this
        rw [Bool.and_eq_true, beq_iff_eq] at q2
        exact ⟨e', Array.mem_toList_iff.1 q1, q2.1, q2.2⟩
      · intro e he hbd
        have := List.all_eq_true.1 h6 e (Array.mem_toList_iff.2 he)
        rw [hbd, Bool.not_true, Bool.false_or, bne_iff_ne] at this
        exact this
      · intro i oi hi hij hnj hno
        rw [List.getElem?_toArray] at hi
        have hlt : i < l.length := (List.getElem?_eq_some_iff.1 hi).1
        have := List.all_eq_true.1 h7 i (List.mem_range.2 hlt)
        simp only [hi, Bool.or_eq_true, beq_iff_eq, List.any_eq_true, Bool.and_eq_true] at this
        rcases this with (q | ⟨e, q1, q2, q3⟩) | ⟨e, q1, q2, q3⟩ | q
        · exact absurd q hij
        · exact absurd q3 (hnj e (Array.mem_toList_iff.1 q1) q2)
        · exact absurd q3 (hno e (Array.mem_toList_iff.1 q1) q2)
        · exact q
      · intro i o cs b hi; exact Region.noSelect_spec h4 i o cs b hi
      · cases hop : oj.op with
        | extract x k => exact ⟨x, k, rfl⟩
        | _ => rw [hop] at h3; cases h3
      · simpa using h2
section
variable {P : Program} {ops ops' : Array Oper} {j t : Nat} {oj ot ot' : Oper} {K : Option Value → World → Prop}
theorem Late.qf (h : Late ops ops' j t oj ot ot') {R R' : Act → Prop} (hR : ∀ a, R a → R' a) : ∀ (l : List Oper) (a : Act), wpQF P ops K R l a → wpQF P ops' K R' l a
  | [], a, H => hR a H
  | o :: r, a, H => by
    unfold wpQF at H ⊢
    rw [h.yld]
    split
    · rename_i hw
      rw [if_pos hw] at H
      obtain ⟨v, h1, h2⟩ := H
      exact ⟨v, h1, Late.qf h hR r _ h2⟩
    · rename_i hw
      rw [if_neg hw] at H
      exact Late.qf h hR r _ H
theorem Late.ls (h : Late ops ops' j t oj ot ot') {Q : Exit → Act → World → Prop} (i : Nat) : ∀ (s : Nat) (l : List Oper) (a : Act) (w : World), wpList P ops Q l a w → wpList P ops' Q (lateL i s l) a w
  | _, [], a, w, H => by rw [lateL_nil]; exact H
  | 0, o :: r, a, w, H => by
    have hr : ∀ (l : List Oper) (a : Act) (w : World), wpList P ops Q l a w → wpList P ops' Q l a w := by
      intro l
      induction l with
      | nil => exact fun a w H => H
      | cons o r ih =>
        intro a w H
        unfold wpList at H ⊢
        rw [h.yld]
        split
        · rename_i hw
          rw [if_pos hw] at H
          exact H.imp (Oper.wp_mono (fun a w => ih a w)) id
        · rename_i hw
          rw [if_neg hw] at H
          exact ih _ _ H
    have := hr (o :: r) a w H
    exact this
  | s + 1, o :: r, a, w, H => by
    rw [lateL]
    unfold wpList at H ⊢
    rw [h.yld]
    split
    · rename_i hw
      rw [if_pos hw] at H
      exact H.imp (Oper.wp_mono (fun a w => Late.ls h i s r a w)) id
    · rename_i hw
      rw [if_neg hw] at H
      exact Late.ls h i s r _ _ H
end
theorem wp_region_late {P : Program} {id : Nat} {Q : Exit → Act → World → Prop} {a : Act} {w : World} {l : List Oper} (K : Option Value → World → Prop) (n i0 j t : Nat) (o0 : Oper) (hm : P.follows .mixedOrders = true) (hB : newB (lateL j t l).toArray n i0 = true) (hLt : lateB l j t = true)
    (hb : Region.binds .any { on := j, ground := .data } = true) (hnt : n ≤ t) (hi : i0 ≠ t) (h0 : l[i0]? = some o0) (hg0 : o0.guard = none) (hal : ∀ (a : Act) w, K none w → ∃ v w', (execOp a.eval o0).run P w = .ok (.value v) w' ∧ K (some v) w') (hC : K none w.drew)
    (h : wpQF P l.toArray K (fun a' => ∀ v w', K (some v) w' → wpList P l.toArray (onlyN Q) (l.drop n) (a'.put o0.dst v) w') (skipL i0 0 (l.take n)) a) : (Code.region id l.toArray true).wp P Q a w := by
  obtain ⟨oj, ot, ot', L⟩ := late_of hLt hb
  have hq : wpQF P (lateL j t l).toArray K (fun a' => mkF P K o0 a' ∧ ∀ v w', K (some v) w' → wpList P (lateL j t l).toArray (onlyN Q) ((lateL j t l).drop n) (a'.put o0.dst v) w') (skipL i0 0 ((lateL j t l).take n)) a := by
    rw [lateL_take j t n l hnt, lateL_drop j t n l hnt]
    exact L.qf (fun a' q => ⟨fun w hw => hal a' w hw, fun v w' hv => L.ls j (t - n) _ _ _ (q v w' hv)⟩) _ _ h
  have H := any_mk (Q := onlyN Q) (w := w.drew) K n i0 o0 hB (by rw [lateL_ne j t l i0 hi]; exact h0) hg0 hC hq
  have hsz : (lateL j t l).toArray.size = l.toArray.size := by simp [lateL_len]
  rw [hsz] at H
  have hjl : j < l.toArray.size := (Array.getElem?_eq_some_iff.1 L.hj).1
  have H2 := L.out (P := P) (Q := Q) _ _ _ _ (by rw [Array.getD_eq_getD_getElem?, Array.getElem?_replicate, if_pos hjl]; rfl) H
  exact Code.wp_mono (fun e a w q => by obtain ⟨rfl, q⟩ := q; exact q) (wp_region_any hm H2)
theorem wpList_asg {P : Program} {ops : Array Oper} {rest : List Oper} {o : Oper} {a : Act} {w : World} {Q : Exit → Act → World → Prop} (hgd : o.guard = none) (x : Operand) (ho : o.op = .assign x) (v : Value) (hx : a.eval x = v)
    (h : wpList P ops Q rest (a.put o.dst v) w) : wpList P ops Q (o :: rest) a w := by
  refine wpList_plain hgd fun K hK => ?_
  unfold Oper.wp execOp
  simp only [ho, hx, Sem.run_pure]
  exact hK _ _ h
end Go.Proofs.YteccnnpialaalaaDoor
/- A region that draws its order: two loads, two stores of what was loaded, an assignment: 'return a, b, 0' into named results of many cells. -/
namespace Go.Proofs.YteccnnpialaalaaDoor
open Go.RowKit
set_option linter.unusedSimpArgs false
set_option linter.unusedVariables false
/-- What is asked of the region's shape. -/
def twoB (ops : Array Oper) : Bool :=
  let L0 := Array.replicate ops.size false
  let L1 := L0.setIfInBounds 0 true
  let L2 := L1.setIfInBounds 1 true
  let L3 := L2.setIfInBounds 2 true
  let L4 := L3.setIfInBounds 3 true
  let L5 := L4.setIfInBounds 4 true
  Region.noSelect ops && Region.free .any ops L0 0 && (Region.ready .any ops L0).contains 0 && Region.free .any ops L1 1 && (Region.ready .any ops L1).contains 1
    && (Region.ready .any ops L2 == [2]) && (Region.ready .any ops L3 == [3]) && (Region.ready .any ops L4 == [4]) && (Region.ready .any ops L5 == [])
theorem wpOp_skip {P : Program} {ops : Array Oper} {Q : Exit → Act → World → Prop} {i : Nat} {o : Oper} {K : Act → World → Prop} {a : Act} {w w' : World} (hi : ops[i]? = some o) (hg : o.guard = none) (hd : o.dst = none) (h : (execOp a.eval o).run P w = .ok .skip w') (hK : K a w') : wpOp P ops Q i K a w := by
  unfold wpOp
  have hw : Region.wanted o (yielded ops a.tmps) = true := by simp [Region.wanted, hg]
  simp only [hi, hw, if_true]
  refine .inl ?_
  unfold Oper.wp
  rw [h]
  simpa [Oper.upon, Act.put, hd] using hK
theorem wp_region_two {P : Program} {id : Nat} {Q : Exit → Act → World → Prop} {a : Act} {w : World} {o0 o1 o2 o3 o4 : Oper} (S : World → Prop) (hm : P.follows .mixedOrders = true) (hB : twoB #[o0, o1, o2, o3, o4] = true)
    (g0 : o0.guard = none) (g1 : o1.guard = none) (g2 : o2.guard = none) (g3 : o3.guard = none) (g4 : o4.guard = none) (d2 : o2.dst = none) (d3 : o3.dst = none) (v0 v1 v4 : Value) (W2 W3 : World) (hS : S w.drew) (S2 : S W2) (S3 : S W3)
    (h0 : ∀ w, S w → (execOp a.eval o0).run P w = .ok (.value v0) w) (h1 : ∀ w, S w → (execOp (a.put o0.dst v0).eval o1).run P w = .ok (.value v1) w)
    (h2 : (execOp ((a.put o0.dst v0).put o1.dst v1).eval o2).run P w.drew = .ok .skip W2) (h3 : (execOp ((a.put o0.dst v0).put o1.dst v1).eval o3).run P W2 = .ok .skip W3)
    (h4 : (execOp ((a.put o0.dst v0).put o1.dst v1).eval o4).run P W3 = .ok (.value v4) W3) (h : Q .normal (((a.put o0.dst v0).put o1.dst v1).put o4.dst v4) W3) : (Code.region id #[o0, o1, o2, o3, o4] true).wp P Q a w := by
  simp only [twoB, Bool.and_eq_true, beq_iff_eq] at hB
  obtain ⟨⟨⟨⟨⟨⟨⟨⟨b0, b1⟩, b2⟩, b3⟩, b4⟩, b5⟩, b6⟩, b7⟩, b8⟩ := hB
  refine Code.wp_mono (fun e a w q => by obtain ⟨rfl, q⟩ := q; exact q) (wp_region_held (Q := onlyN Q) (S := S) hm ?_)
  have hQ : ∀ (o : Oper) (v : Value) c (a : Act) w, onlyN Q (.panic c) (a.put o.dst v) w → onlyN Q (.panic c) a w := fun o v c a w q => by cases q.1
  have y : ∀ (o : Oper) (a : Act), o.guard = none → Region.wanted o (yielded #[o0, o1, o2, o3, o4] a.tmps) = true := fun o a hg => by simp [Region.wanted, hg]
  refine wpAnyH_take (i := 0) (oi := o0) (v := v0) rfl b0 b1 b2 (hQ o0 v0) (.inl ⟨y o0 a g0, h0⟩) hS ?_
  refine wpAnyH_take (i := 1) (oi := o1) (v := v1) rfl b0 b3 b4 (hQ o1 v1) (.inl ⟨y o1 _ g1, h1⟩) hS ?_
  refine wpAnyH_all b5 (by simp) (fun i hi => ?_)
  obtain rfl := List.mem_singleton.1 hi
  refine wpOp_skip rfl g2 d2 h2 ⟨S2, ?_⟩
  refine wpAnyH_all b6 (by simp) (fun i hi => ?_)
  obtain rfl := List.mem_singleton.1 hi
  refine wpOp_skip rfl g3 d3 h3 ⟨S3, ?_⟩
  refine wpAnyH_all b7 (by simp) (fun i hi => ?_)
  obtain rfl := List.mem_singleton.1 hi
  refine YieldsIf.wpOp (S := fun w => w = W3) (v := v4) rfl (.inl ⟨y o4 _ g4, fun w hw => by rw [hw]; exact h4⟩) rfl ⟨S3, ?_⟩
  exact wpAnyH_done b8 ⟨rfl, h⟩ _
theorem exec_load {P : Program} {o : Oper} {a : Act} {w : World} {t : TypeId} {x : Operand} {b : Addr} {v : Value} (ho : o.op = .load t x) (hx : a.eval x = .pointer (some b)) (h : (loadVar t b).run P w = .ok v w) : (execOp a.eval o).run P w = .ok (.value v) w := by
  unfold execOp
  simp [ho, hx, Instr.loadAt, Instr.sureAddr, h]
theorem exec_store {P : Program} {o : Oper} {a : Act} {w w' : World} {t : TypeId} {x y : Operand} {b : Addr} {v : Value} (ho : o.op = .store t x y) (hx : a.eval x = .pointer (some b)) (hy : a.eval y = v) (h : (storeVar t b v).run P w = .ok () w') : (execOp a.eval o).run P w = .ok .skip w' := by
  unfold execOp
  simp [ho, hx, hy, Instr.storeAt, Instr.sureAddr, h]
theorem exec_assign {P : Program} {o : Oper} {a : Act} {w : World} {x : Operand} (ho : o.op = .assign x) : (execOp a.eval o).run P w = .ok (.value (a.eval x)) w := by
  unfold execOp
  simp [ho]
/-- A whole row is stored: the world behind it. -/
theorem row_stored {P : Program} {W : World} {g : Nat} {t ty : TypeId} {old cells : Array Value} (hg : Bk W g old t) (hi : (P.info? ty).map (·.size) = some cells.size) (ho : old.size = cells.size) (h1 : cells.all (·.oneCell') = true) :
    ∃ W', (storeVar ty ⟨g, 0, none⟩ (.agg cells)).run P W = .ok () W' ∧ Bk W' g cells t ∧ W.grownBy W' (some g) := by
  refine ⟨_, run_storeVar_row _ _ t _ _ _ hg hi ho h1, setRow_heap _ _ _ _ _ _ hg, rfl, rfl, rfl, by simp [World.setRow], fun k hk hne => ?_⟩
  have : g ≠ k := fun e => hne (by rw [e])
  simp [World.setRow, Array.getElem?_modify, this]
end Go.Proofs.YteccnnpialaalaaDoor
/- parity: two names as answers; what the document's Parse tells; side-cars' names taken apart. -/
namespace Go.Proofs.YteccnnpialaalaaDoor
open Go.RowKit
set_option linter.unusedSimpArgs false
set_option linter.unusedVariables false
theorem idc_all17 (s : ByteArray) : (idc s).all (·.oneCell') = true := by
  rw [Array.all_eq_true_iff_forall_mem]
  intro v hv
  simp only [idc, bvc, List.mem_toArray, List.mem_map] at hv
  obtain ⟨x, _, rfl⟩ := hv
  rfl
theorem hexd_len17 (t : ByteArray) (h : uhE t = 0) : 2 * (uhS t).size = t.size := by
  have := congrArg ByteArray.size (hex_uh t h)
  rw [sb_size, hexL_length, bl_length] at this
  exact this
theorem results_cct17 {P : Program} {fn : Func} {p q u : Tmp} {ty : TypeId} (h : fn.results = #[.cell p ty, .cell q ty, .tmp u]) (tmps : Array Value) (w : World) (g g2 : Nat) (t : TypeId) (cs cs2 : Array Value) (fr : Nat × Nat) (d : TypeDesc)
    (hp : tmps.getD p undef = .pointer (some ⟨g, 0, none⟩)) (hq : tmps.getD q undef = .pointer (some ⟨g2, 0, none⟩)) (hg : w.heap[g]? = some (.cells cs t fr)) (hg2 : w.heap[g2]? = some (.cells cs2 t fr))
    (hu : P.underlying ty = some d) (hd : (match d with | .struct _ | .array _ _ => true | _ => false) = true) (hi : (P.info? ty).map (·.size) = some cs.size) (hi2 : (P.info? ty).map (·.size) = some cs2.size) :
    (results fn tmps).run P w = .ok (.tuple #[.agg cs, .agg cs2, tmps.getD u undef]) w := by
  have hp' : tmps[p]?.getD undef = .pointer (some ⟨g, 0, none⟩) := by simpa using hp
  have hq' : tmps[q]?.getD undef = .pointer (some ⟨g2, 0, none⟩) := by simpa using hq
  simp [results, h, hp', hq', asAddr, run_loadVar_row w g t ty cs fr d hg hu hd hi, run_loadVar_row w g2 t ty cs2 fr d hg2 hu hd hi2]
/-- The two sums' blocks. -/
structure SU17 (w : World) (C D : Array Value) (W : World) : Prop where
  b2 : Bk W w.heap.size C 27
  b3 : Bk W (w.heap.size + 1) D 27
  bel : Below w.heap.size w W
theorem SU17.next {w W W' : World} {C D : Array Value} (h : SU17 w C D W) (hb : Below W.heap.size W W') : SU17 w C D W' := ⟨h.b2.below hb h.b2.lt, h.b3.below hb h.b3.lt, h.bel.trans (hb.mono h.bel.size)⟩
theorem SU17.put2 {w W W' : World} {C D C' : Array Value} (h : SU17 w C D W) (hg : W.grownBy W' (some w.heap.size)) (hb : Bk W' w.heap.size C' 27) : SU17 w C' D W' :=
  ⟨hb, h.b3.grown hg (fun e => by injection e with e; omega), below_own h.bel h.bel.size hg (Nat.le_refl _)⟩
theorem SU17.put3 {w W W' : World} {C D D' : Array Value} (h : SU17 w C D W) (hg : W.grownBy W' (some (w.heap.size + 1))) (hb : Bk W' (w.heap.size + 1) D' 27) : SU17 w C D' W' :=
  ⟨h.b2.grown hg (fun e => by injection e with e; omega), hb, below_own h.bel h.bel.size hg (by omega)⟩
/-- The two answers' blocks, and those of the two that were parsed. -/
structure SV17 (w : World) (C D : Array Value) (ga : Nat) (A : Array Value) (gb : Nat) (B : Array Value) (W : World) : Prop where
  su : SU17 w C D W
  a : Bk W ga A 27
  b : Bk W gb B 27
  la : w.heap.size + 1 < ga
  lb : w.heap.size + 1 < gb
theorem SV17.next {w W W' : World} {C D A B : Array Value} {ga gb : Nat} (h : SV17 w C D ga A gb B W) (hb : Below W.heap.size W W') : SV17 w C D ga A gb B W' := ⟨h.su.next hb, h.a.below hb h.a.lt, h.b.below hb h.b.lt, h.la, h.lb⟩
theorem SV17.put2 {w W W' : World} {C D C' A B : Array Value} {ga gb : Nat} (h : SV17 w C D ga A gb B W) (hg : W.grownBy W' (some w.heap.size)) (hb : Bk W' w.heap.size C' 27) : SV17 w C' D ga A gb B W' :=
  ⟨h.su.put2 hg hb, h.a.grown hg (fun e => by injection e with e; have := h.la; omega), h.b.grown hg (fun e => by injection e with e; have := h.lb; omega), h.la, h.lb⟩
theorem SV17.put3 {w W W' : World} {C D D' A B : Array Value} {ga gb : Nat} (h : SV17 w C D ga A gb B W) (hg : W.grownBy W' (some (w.heap.size + 1))) (hb : Bk W' (w.heap.size + 1) D' 27) : SV17 w C D' ga A gb B W' :=
  ⟨h.su.put3 hg hb, h.a.grown hg (fun e => by injection e with e; have := h.la; omega), h.b.grown hg (fun e => by injection e with e; have := h.lb; omega), h.la, h.lb⟩
/-- What the document's Parse tells. -/
def rpA17 (t : ByteArray) : Array Value := if uhE t = 0 ∧ (uhS t).size = 32 then idc (uhS t) else z32c
def rpE17 (t : ByteArray) : Int := if uhE t = 0 ∧ (uhS t).size = 32 then 0 else 4
theorem rparse17 (t : ByteArray) (w : World) (ht : t.size ≤ 140737488351232) : Calls Tryd.prog 30 #[.string t] w fun e w' => e = .returned (.tuple #[.agg (rpA17 t), .int .i64 (rpE17 t)]) ∧ Below w.heap.size w w' := by
  by_cases h : uhE t = 0 ∧ (uhS t).size = 32
  · rw [rpA17, rpE17, if_pos h, if_pos h]; exact rParse_good t w ht h.1 h.2
  · rw [rpA17, rpE17, if_neg h, if_neg h]; exact rParse_bad t w ht h
theorem rpA17_size (t : ByteArray) : (rpA17 t).size = 32 := by
  unfold rpA17; split
  · next h => rw [idc_size]; exact h.2
  · exact z32c_size
theorem rpA17_one (t : ByteArray) : (rpA17 t).all (·.oneCell') = true := by
  unfold rpA17; split
  · exact idc_all17 _
  · exact z32c_one
theorem rpE_val17 (t : ByteArray) : rpE17 t = 0 ∨ rpE17 t = 4 := by unfold rpE17; split <;> simp
theorem rp_6417 {t : ByteArray} (h : t.size = 64) : (rpE17 t = 0 → uhE t = 0 ∧ rpA17 t = pid t) ∧ (uhE t = 0 → rpE17 t = 0) := by
  constructor
  · intro q
    have hh : uhE t = 0 ∧ (uhS t).size = 32 := by
      unfold rpE17 at q
      split at q
      · assumption
      · omega
    exact ⟨hh.1, by rw [rpA17, if_pos hh, pid_ok t hh.2]⟩
  · intro q
    have := hexd_len17 t q
    rw [rpE17, if_pos ⟨q, by omega⟩]
theorem hx_len17 {x : ByteArray} (h : x.size = 32) : (sb (hexL (bl x))).size = 64 := by rw [sb_size, hexL_length, bl_length, h]
theorem pn_bl (x y : ByteArray) : bl (pnN x y) = [112, 97, 114, 45] ++ (bl (sb (hexL (bl x))) ++ ([45] ++ (bl (sb (hexL (bl y))) ++ [46, 112, 120]))) := by
  unfold pnN
  rw [bl_append, bl_append, bl_append, bl_append]
  have e1 : bl (⟨#[112, 97, 114, 45]⟩ : ByteArray) = [112, 97, 114, 45] := rfl
  have e2 : bl (⟨#[45]⟩ : ByteArray) = [45] := rfl
  have e3 : bl (⟨#[46, 112, 120]⟩ : ByteArray) = [46, 112, 120] := rfl
  rw [e1, e2, e3]
  simp
theorem pn_parts {x y : ByteArray} (hx : x.size = 32) (hy : y.size = 32) : (pnN x y).size = 136 ∧ (pnN x y).extract 4 68 = sb (hexL (bl x)) ∧ (pnN x y).extract 69 133 = sb (hexL (bl y)) := by
  have lx : (bl (sb (hexL (bl x)))).length = 64 := by rw [bl_length, hx_len17 hx]
  have ly : (bl (sb (hexL (bl y)))).length = 64 := by rw [bl_length, hx_len17 hy]
  have hb := pn_bl x y
  have e1 : bl (pnN x y) = ([112, 97, 114, 45] ++ bl (sb (hexL (bl x)))) ++ ([45] ++ (bl (sb (hexL (bl y))) ++ [46, 112, 120])) := by rw [hb]; simp
  have e3 : bl (pnN x y) = ((([112, 97, 114, 45] ++ bl (sb (hexL (bl x)))) ++ [45]) ++ bl (sb (hexL (bl y)))) ++ [46, 112, 120] := by rw [hb]; simp
  refine ⟨by rw [← bl_length, hb]; simp [lx, ly], ?_, ?_⟩
  · apply bl_inj
    rw [bl_extract, e1, List.take_left' (by simp [lx]), List.drop_left' (by simp)]
  · apply bl_inj
    rw [bl_extract, e3, List.take_left' (by simp [lx, ly]), List.drop_left' (by simp [lx])]
/-- What Named tells. -/
def PnR (s : ByteArray) (e : Ending) : Prop :=
  (∃ x y, x.size = 32 ∧ y.size = 32 ∧ s = pnN x y ∧ e = .returned (.tuple #[.agg (idc x), .agg (idc y), .int .i64 0])) ∨
  ((∀ x y, x.size = 32 → y.size = 32 → s ≠ pnN x y) ∧ e = .returned (.tuple #[.agg z32c, .agg z32c, .int .i64 10]))
theorem pn_inj {x y x' y' : ByteArray} (hx : x.size = 32) (hy : y.size = 32) (hx' : x'.size = 32) (hy' : y'.size = 32) (h : pnN x y = pnN x' y') : x = x' ∧ y = y' := by
  obtain ⟨_, a1, a2⟩ := pn_parts hx hy
  obtain ⟨_, b1, b2⟩ := pn_parts hx' hy'
  rw [h, b1] at a1
  rw [h, b2] at a2
  constructor
  · have := congrArg uhS a1
    rw [(uh_hex x').1, (uh_hex x).1] at this
    exact this.symm
  · have := congrArg uhS a2
    rw [(uh_hex y').1, (uh_hex y).1] at this
    exact this.symm
theorem PnR.one {s : ByteArray} {e e' : Ending} (h : PnR s e) (h' : PnR s e') : e = e' := by
  rcases h with ⟨x, y, h1, h2, h3, h4⟩ | ⟨h1, h2⟩
  · rcases h' with ⟨x', y', k1, k2, k3, k4⟩ | ⟨k1, _⟩
    · obtain ⟨rfl, rfl⟩ := pn_inj h1 h2 k1 k2 (h3.symm.trans k3)
      rw [h4, k4]
    · exact absurd h3 (k1 x y h1 h2)
  · rcases h' with ⟨x', y', k1, k2, k3, k4⟩ | ⟨_, k2⟩
    · exact absurd k3 (h1 x' y' k1 k2)
    · rw [h2, k2]
end Go.Proofs.YteccnnpialaalaaDoor
/- Rows of the call's own, of two cells an element; a result of a row and a number. No program is named here. -/
namespace Go.Proofs.YteccnnpialaalaaDoor
open Go.RowKit
set_option linter.unusedSimpArgs false
set_option linter.unusedVariables false
theorem res_cell_tmp {P : Program} {fn : Func} {p u : Tmp} {ty : TypeId} (h : fn.results = #[.cell p ty, .tmp u]) (tmps : Array Value) (w : World) (g : Nat) (t : TypeId) (cs : Array Value) (fr : Nat × Nat) (d : TypeDesc)
    (hp : tmps.getD p undef = .pointer (some ⟨g, 0, none⟩)) (hg : w.heap[g]? = some (.cells cs t fr))
    (hu : P.underlying ty = some d) (hd : (match d with | .struct _ | .array _ _ => true | _ => false) = true) (hi : (P.info? ty).map (·.size) = some cs.size) :
    (results fn tmps).run P w = .ok (.tuple #[.agg cs, tmps.getD u undef]) w := by
  have hp' : tmps[p]?.getD undef = .pointer (some ⟨g, 0, none⟩) := by simpa using hp
  simp [results, h, hp', asAddr, run_loadVar_row w g t ty cs fr d hg hu hd hi]
theorem rows_low {B B' n k : Nat} {w : World} {v : Value} {xs : List Value} {e : TypeId} (h : w.ownsRow B e k v n xs) (hB : B' ≤ B) : w.ownsRow B' e k v n xs := by
  refine ⟨h.1, ?_⟩
  rcases h.2 with h | ⟨g, cap, cur, h1, h2, h3⟩
  · exact .inl h
  · exact .inr ⟨g, cap, cur, h1, by omega, h3⟩
theorem rows_bel {B B' n k : Nat} {w0 w w' : World} {v : Value} {xs : List Value} {e : TypeId} (hb : Below B w0 w) (hz : B ≤ w.heap.size) (ho : w.ownsRow B' e k v n xs) (hB : B ≤ B') (hg : w.grownBy w' v.ownBlock) : Below B w0 w' := by
  refine hb.grown hg hz (fun b hk => ?_)
  rcases ho.2 with ⟨rfl, _⟩ | ⟨g, cap, cur, rfl, hle, _⟩
  · cases hk
  · simp [Value.ownBlock] at hk; omega
theorem rows_blk {B n k : Nat} {w : World} {v : Value} {xs : List Value} {e : TypeId} (ho : w.ownsRow B e k v n xs) {g : Nat} (hg : v.ownBlock = some g) : B ≤ g ∧ g < w.heap.size := by
  rcases ho.2 with ⟨rfl, _⟩ | ⟨g', cap, cur, rfl, hle, hc, _⟩
  · cases hg
  · simp [Value.ownBlock] at hg; subst hg; exact ⟨hle, (Array.getElem?_eq_some_iff.1 hc).1⟩
theorem rows_keep {B n k : Nat} {w w' : World} {v : Value} {xs : List Value} {e : TypeId} (ho : w.ownsRow B e k v n xs) (h : ∀ g, B ≤ g → g < w.heap.size → w'.heap[g]? = w.heap[g]?) : w'.ownsRow B e k v n xs := by
  refine ⟨ho.1, ?_⟩
  rcases ho.2 with h1 | ⟨g, cap, cur, h1, h2, hc, h3⟩
  · exact .inl h1
  · exact .inr ⟨g, cap, cur, h1, h2, by rw [h g h2 (Array.getElem?_eq_some_iff.1 hc).1]; exact hc, h3⟩
theorem new_two (w : World) (p q : Value) (T : TypeId) : ∀ (j : Nat) (u : Value), [p, q][j]? = some u → (w.alloc (.cells #[p, q] T)).cell? ((⟨w.heap.size, 0, none⟩ : Addr).add j) = some u := by
  intro j u h
  rw [WideShapes.add_plain, Nat.zero_add, World.cell?_alloc_new]
  simpa using h
theorem rows_none {B k : Nat} {w : World} {e : TypeId} : w.ownsRow B e k (.slice none 0 0) 0 [] := ⟨by simp, .inl ⟨rfl, rfl⟩⟩
end Go.Proofs.YteccnnpialaalaaDoor
/- Steps of a region that draws its order: what is made, converted, loaded. No program is named here. -/
namespace Go.Proofs.YteccnnpialaalaaDoor
open Go.RowKit
set_option linter.unusedSimpArgs false
set_option linter.unusedVariables false
theorem step_appX {P : Program} {ops : Array Oper} {o : Oper} {a : Act} {w : World} {K : Act → World → Prop} {Q : Exit → Act → World → Prop} {E : Prop} (hgd : o.guard = none) (sl x : Operand) (t u : TypeId)
    (ho : o.op = .call { callee := .builtin .append, args := #[sl, x], argTypes := #[t, u] }) (v y v' : Value) (w' : World) (hs : a.eval sl = v) (hx : a.eval x = y) (hr : (Builtin.append_ #[t, u] o.type #[v, y]).run P w = .ok v' w')
    (h : K (a.put o.dst v') w') : if Region.wanted o (yielded ops a.tmps) = true then Oper.wp P o a w K Q else E := by
  have hw : Region.wanted o (yielded ops a.tmps) = true := by simp [Region.wanted, hgd]
  rw [if_pos hw]
  unfold Oper.wp execOp
  simp only [ho, resolve, invoke, builtin, Sem.run_bind, Sem.run_pure, Result.andThen_ok, List.map_toArray, List.map_cons, List.map_nil, hs, hx, hr]
  exact h
theorem step_bsX {P : Program} {ops : Array Oper} {o : Oper} {a : Act} {w : World} {K : Act → World → Prop} {Q : Exit → Act → World → Prop} {E : Prop} (hgd : o.guard = none) (t : TypeId) (x : Operand)
    (ho : o.op = .buildSlice t 1 #[(0, x)]) (v r : Value) (w' : World) (hx : a.eval x = v) (hr : (Instr.buildSlice t 1 #[(0, v)]).run P w = .ok r w')
    (h : K (a.put o.dst r) w') : if Region.wanted o (yielded ops a.tmps) = true then Oper.wp P o a w K Q else E := by
  have hw : Region.wanted o (yielded ops a.tmps) = true := by simp [Region.wanted, hgd]
  rw [if_pos hw]
  unfold Oper.wp execOp
  simp only [ho, Sem.run_bind, Sem.run_pure, Result.andThen_ok, List.map_toArray, List.map_cons, List.map_nil, hx, hr]
  exact h
theorem step_bs0 {P : Program} {ops : Array Oper} {o : Oper} {a : Act} {w : World} {K : Act → World → Prop} {Q : Exit → Act → World → Prop} {E : Prop} (hgd : o.guard = none) (t : TypeId)
    (ho : o.op = .buildSlice t 0 #[]) (r : Value) (w' : World) (hr : (Instr.buildSlice t 0 #[]).run P w = .ok r w')
    (h : K (a.put o.dst r) w') : if Region.wanted o (yielded ops a.tmps) = true then Oper.wp P o a w K Q else E := by
  have hw : Region.wanted o (yielded ops a.tmps) = true := by simp [Region.wanted, hgd]
  rw [if_pos hw]
  unfold Oper.wp execOp
  simp only [ho, Sem.run_bind, Sem.run_pure, Result.andThen_ok, List.map_toArray, List.map_nil, hr]
  exact h
theorem step_cvX {P : Program} {ops : Array Oper} {o : Oper} {a : Act} {w : World} {K : Act → World → Prop} {Q : Exit → Act → World → Prop} {E : Prop} (hgd : o.guard = none) (t u : TypeId) (x : Operand)
    (ho : o.op = .convert t u x) (v r : Value) (w' : World) (hx : a.eval x = v) (hr : (convert t u v).run P w = .ok r w')
    (h : K (a.put o.dst r) w') : if Region.wanted o (yielded ops a.tmps) = true then Oper.wp P o a w K Q else E := by
  have hw : Region.wanted o (yielded ops a.tmps) = true := by simp [Region.wanted, hgd]
  rw [if_pos hw]
  unfold Oper.wp execOp
  simp only [ho, Sem.run_bind, Sem.run_pure, Result.andThen_ok, hx, hr]
  exact h
theorem step_arX {P : Program} {ops : Array Oper} {o : Oper} {a : Act} {w : World} {K : Act → World → Prop} {Q : Exit → Act → World → Prop} {E : Prop} (hgd : o.guard = none) (t : TypeId) (x : Operand)
    (ho : o.op = .sliceToArrayPointer t x) (v r : Value) (hx : a.eval x = v) (hr : (Instr.arrayAt t v).run P w = .ok r w)
    (h : K (a.put o.dst r) w) : if Region.wanted o (yielded ops a.tmps) = true then Oper.wp P o a w K Q else E := by
  have hw : Region.wanted o (yielded ops a.tmps) = true := by simp [Region.wanted, hgd]
  rw [if_pos hw]
  unfold Oper.wp execOp
  simp only [ho, Sem.run_bind, Sem.run_pure, Result.andThen_ok, hx, hr]
  exact h
theorem step_ldX {P : Program} {ops : Array Oper} {o : Oper} {a : Act} {w : World} {K : Act → World → Prop} {Q : Exit → Act → World → Prop} {E : Prop} (hgd : o.guard = none) (t : TypeId) (x : Operand)
    (ho : o.op = .load t x) (p : Addr) (r : Value) (hx : a.eval x = .pointer (some p)) (hr : (loadVar t p).run P w = .ok r w)
    (h : K (a.put o.dst r) w) : if Region.wanted o (yielded ops a.tmps) = true then Oper.wp P o a w K Q else E := by
  have hw : Region.wanted o (yielded ops a.tmps) = true := by simp [Region.wanted, hgd]
  rw [if_pos hw]
  unfold Oper.wp execOp
  simp only [ho, Sem.run_bind, Sem.run_pure, Result.andThen_ok, hx, hr, Instr.loadAt, Instr.sureAddr]
  exact h
theorem run_arrayAt {P : Program} {t e : TypeId} {n : Nat} (ht : P.underlying t = some (.array n e)) (a : Option Addr) (m c : Nat) (hm : n ≤ m) (w : World) : (Instr.arrayAt t (.slice a m c)).run P w = .ok (.pointer a) w := by
  have h1 : ¬ m < n := by omega
  have h2 : (underlying t).run P w = .ok (.array n e) w := by
    first
      | exact run_underlying w t _ ht
      | (unfold underlying; simp [ht])
  unfold Instr.arrayAt
  simp [Sem.run_bind, h2, h1]
end Go.Proofs.YteccnnpialaalaaDoor
/- wire.Reader.Left. -/
namespace Go.Proofs.YteccnnpialaalaaDoor
open Go.RowKit
set_option linter.unusedSimpArgs false
set_option linter.unusedVariables false
set_option maxHeartbeats 400000 in
theorem left_any (s : ByteArray) (b : Nat) (w : World) (hs : s.size ≤ maxLen) (hc : w.cell? ⟨b, 0, none⟩ = some (.string s)) :
    Calls Tryd.prog 66 #[.pointer (some ⟨b, 0, none⟩)] w fun e w' => e = .returned (.int .i64 s.size) ∧ w' = w := by
  unfold maxLen at hs
  go_enter Tryd.func66, Tryd.ntmps66
  go_wp2
  go_ret
  exact ⟨rfl, rfl⟩
set_option maxHeartbeats 400000 in
theorem left_nil (w : World) : Calls Tryd.prog 66 #[.pointer none] w fun e w' => e = .returned (.int .i64 0) ∧ w' = w := by
  go_enter Tryd.func66, Tryd.ntmps66
  go_wp2
  go_ret
  exact ⟨rfl, rfl⟩
end Go.Proofs.YteccnnpialaalaaDoor
