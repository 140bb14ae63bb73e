import Derived.Test.YtbfoiocbmhhdbaaGreatY2
import Derived.Test.YtbfoiocbmhhdbaaGreatY3
import Derived.Test.YtbfoiocbmhhdbaaGreatY4
import Derived.Great.FillDense
import Derived.RangeFuncNested
import Derived.RangeFuncBox
import Derived.Sort.MapsRangeIn
import Derived.Shelf.AbstractIn
import Derived.WalkKit
import Derived.OwnWalkIn
import Derived.TacticsInMore
import Derived.RegionIn
import Derived.LoopNIn
import Derived.LoopIn
import Derived.Test.YtbfoiocbmhhdbaaGreatY1
import Derived.Test.YtbfoiocbmhhdbaaGreatRows
import Derived.WalkSpells
import Derived.WalkLawsBesides
import Derived.Handy
import Derived.RegionTactic
import Derived.ChangeAlike
/- Maps from names to things that have names: put, looked up, gone through; long rows within a fence. -/
namespace Go.Proofs.YtbfoiocbmhhdbaaGreat
open Go.RowKit Go.Maps
set_option linter.unusedSimpArgs false
set_option linter.unusedVariables false
section
variable {α : Type}
/-- The thing of a name; one put in, in the place of the one of its name if there is one. -/
def fdK (ky : α → ByteArray) (d : List α) (x : ByteArray) : Option α := d.find? (fun a => decide (ky a = x))
def ptK (ky : α → ByteArray) : List α → α → List α
  | [], r => [r]
  | q :: d, r => if ky q = ky r then r :: d else q :: ptK ky d r
theorem ptK_new {ky : α → ByteArray} : ∀ {d : List α} {r : α}, (∀ a ∈ d, ky a ≠ ky r) → ptK ky d r = d ++ [r]
  | [], r, _ => rfl
  | q :: d, r, h => by rw [ptK, if_neg (h q (List.mem_cons_self ..)), ptK_new (fun a ha => h a (List.mem_cons_of_mem _ ha))]; rfl
theorem ptK_iff {ky : α → ByteArray} : ∀ {d : List α} {r a : α}, d.Pairwise (fun x y => ky x ≠ ky y) → (a ∈ ptK ky d r ↔ a = r ∨ (a ∈ d ∧ ky a ≠ ky r))
  | [], r, a, _ => by simp [ptK]
  | q :: d, r, a, h => by
    obtain ⟨h1, h2⟩ := List.pairwise_cons.1 h
    rw [ptK]
    split
    · rename_i e
      simp only [List.mem_cons]
      constructor
      · rintro (k | k)
        · exact .inl k
        · exact .inr ⟨.inr k, fun e2 => h1 a k (e.trans e2.symm)⟩
      · rintro (k | ⟨k | k, k2⟩)
        · exact .inl k
        · exact absurd (by rw [k]; exact e) k2
        · exact .inr k
    · rename_i e
      simp only [List.mem_cons]
      rw [ptK_iff h2]
      constructor
      · rintro (k | k | ⟨k, k2⟩)
        · exact .inr ⟨.inl k, by rw [k]; exact e⟩
        · exact .inl k
        · exact .inr ⟨.inr k, k2⟩
      · rintro (k | ⟨k | k, k2⟩)
        · exact .inr (.inl k)
        · exact .inl k
        · exact .inr (.inr ⟨k, k2⟩)
theorem ptK_pair {ky : α → ByteArray} : ∀ {d : List α} {r : α}, d.Pairwise (fun x y => ky x ≠ ky y) → (ptK ky d r).Pairwise (fun x y => ky x ≠ ky y)
  | [], r, _ => List.pairwise_singleton _ _
  | q :: d, r, h => by
    obtain ⟨h1, h2⟩ := List.pairwise_cons.1 h
    rw [ptK]
    split
    · rename_i e
      exact List.pairwise_cons.2 ⟨fun b hb => by rw [← e]; exact h1 b hb, h2⟩
    · rename_i e
      refine List.pairwise_cons.2 ⟨fun b hb => ?_, ptK_pair h2⟩
      rcases (ptK_iff h2).1 hb with k | ⟨k, _⟩
      · rw [k]; exact e
      · exact h1 b k
theorem ptK_len {ky : α → ByteArray} : ∀ {d : List α} {r : α}, (ptK ky d r).length = if (fdK ky d (ky r)).isSome then d.length else d.length + 1
  | [], r => rfl
  | q :: d, r => by
    rw [ptK]
    by_cases e : ky q = ky r
    · rw [if_pos e]
      have : fdK ky (q :: d) (ky r) = some q := by unfold fdK; rw [List.find?_cons]; simp [e]
      rw [this]; rfl
    · rw [if_neg e]
      have : fdK ky (q :: d) (ky r) = fdK ky d (ky r) := by unfold fdK; rw [List.find?_cons]; simp [e]
      rw [this, List.length_cons, ptK_len]
      split <;> rfl
/-- Block m is the map from these things' names to them. -/
def KvM (ky : α → ByteArray) (el : α → Value) (w : World) (m : Nat) (d : List α) : Prop :=
  ∃ D, Mp w 48 m D ∧ Maps.size D = d.length ∧ (∀ a ∈ d, (ky a).size = 32 ∧ hAt D (kI (ky a)) = some (el a)) ∧ (∀ kl, Maps.has D kl = true → ∃ a ∈ d, kl = kI (ky a)) ∧ d.Pairwise (fun a b => ky a ≠ ky b)
variable {ky : α → ByteArray} {el : α → Value}
theorem KvM.lt {w : World} {m : Nat} {d : List α} (h : KvM ky el w m d) : m < w.heap.size := by
  obtain ⟨D, h1, _⟩ := h; exact h1.lt
theorem KvM.keep {w w' : World} {m : Nat} {d : List α} (h : KvM ky el w m d) (hb : w'.heap[m]? = w.heap[m]?) : KvM ky el w' m d := by
  obtain ⟨D, ⟨es, c, h1, h2, h3, h4⟩, h5⟩ := h
  exact ⟨D, ⟨es, c, hb.trans h1, h2, h3, h4⟩, h5⟩
theorem KvM.below {w w' : World} {m : Nat} {d : List α} (h : KvM ky el w m d) (hb : Below w.heap.size w w') : KvM ky el w' m d := h.keep (hb.block m h.lt)
theorem KvM.isMap {w : World} {m : Nat} {d : List α} (h : KvM ky el w m d) : ∃ es c, w.heap[m]? = some (.map es c) := by
  obtain ⟨D, ⟨es, c, h1, _⟩, _⟩ := h
  exact ⟨es, c, h1⟩
theorem KvM.made (ky : α → ByteArray) (el : α → Value) (w : World) : KvM ky el (w.alloc (.map #[] 0)) w.heap.size [] :=
  ⟨.map [], Mp.made w _, rfl, fun a h => (by cases h), fun kl h => (by cases h), List.Pairwise.nil⟩
theorem KvM.find {D : DataW Value} {d : List α} (h1 : ∀ a ∈ d, (ky a).size = 32 ∧ hAt D (kI (ky a)) = some (el a)) (h2 : ∀ kl, Maps.has D kl = true → ∃ a ∈ d, kl = kI (ky a)) {x : ByteArray} (hx : x.size = 32) : hAt D (kI x) = (fdK ky d x).map el := by
  cases hf : fdK ky d x with
  | some a =>
    have m1 := List.mem_of_find?_eq_some hf
    have m2 : ky a = x := of_decide_eq_true (List.find?_some (p := fun a => decide (ky a = x)) hf)
    rw [← m2, (h1 a m1).2]; rfl
  | none =>
    cases hv : hAt D (kI x) with
    | none => rfl
    | some v =>
      obtain ⟨a, a1, a2⟩ := h2 _ (hAt_has hv)
      have e := kI_inj hx (h1 a a1).1 a2
      unfold fdK at hf
      rw [List.find?_eq_none] at hf
      exact absurd (decide_eq_true e.symm) (hf a a1)
theorem KvM.len {w : World} {m : Nat} {d : List α} {t e : TypeId} (h : KvM ky el w m d) (ht : Tryz.prog.underlying t = some (.map 48 e)) (ty : TypeId) : (Builtin.len_ #[t] ty #[.map (some m)]).run Tryz.prog w = .ok (.int .i64 (d.length : Int)) w := by
  obtain ⟨D, h1, h2, _⟩ := h
  rw [h1.len ht ty, h2]
theorem KvM.look {w : World} {m : Nat} {d : List α} {t e : TypeId} (h : KvM ky el w m d) (ht : Tryz.prog.underlying t = some (.map 48 e)) {z : Value} (hz : (zeroValue e).run Tryz.prog w = .ok z w) (x : ByteArray) (hx : x.size = 32) :
    (Instr.lookup t (.map (some m)) (.agg (idc x)) true).run Tryz.prog w = .ok (.tuple #[((fdK ky d x).map el).getD z, .bool (fdK ky d x).isSome]) w := by
  obtain ⟨D, h1, h2, h3, h4, h5⟩ := h
  have := (h1.at_held idKey ht hz (kI_key x hx)).1
  rw [this, KvM.find h3 h4 hx]
  cases fdK ky d x <;> rfl
theorem KvM.put {w : World} {m : Nat} {d : List α} {t e : TypeId} (h : KvM ky el w m d) (ht : Tryz.prog.underlying t = some (.map 48 e)) (hn : d.length < maxLen) (r : α) (hr : (ky r).size = 32) :
    ∃ w', (Instr.mapUpdate t (.map (some m)) (.agg (idc (ky r))) (el r)).run Tryz.prog w = .ok () w' ∧ KvM ky el w' m (ptK ky d r) ∧ w.grownBy w' (some m) := by
  obtain ⟨D, h1, h2, h3, h4, h5⟩ := h
  obtain ⟨w', g1, g2, g3⟩ := h1.put idKey ht (by omega) (kI_key _ hr) (el r)
  have hk := idKey.key (kI_key _ hr)
  have hD : IsMap D := World.ownsMap.isMap h1
  have htd : Tidy D := World.ownsMap.tidy h1 idKey
  have hf := KvM.find h3 h4 hr
  refine ⟨w', g1, ⟨_, g2, ?_, ?_, ?_, ptK_pair h5⟩, g3⟩
  · rw [Maps.size_put htd, ptK_len, h2]
    cases hq : fdK ky d (ky r) with
    | some a =>
      rw [hq] at hf
      rw [hAt_has hf]; rfl
    | none =>
      rw [hq] at hf
      have : Maps.has D (kI (ky r)) = false := by
        cases hh : Maps.has D (kI (ky r)) with
        | false => rfl
        | true =>
          obtain ⟨a, a1, a2⟩ := h4 _ hh
          unfold fdK at hq
          rw [List.find?_eq_none] at hq
          exact absurd (decide_eq_true (kI_inj hr (h3 a a1).1 a2).symm) (hq a a1)
      rw [this]; rfl
  · intro a ha
    rcases (ptK_iff h5).1 ha with rfl | ⟨k1, k2⟩
    · exact ⟨hr, hAt_put_same hD hk _⟩
    · refine ⟨(h3 a k1).1, ?_⟩
      rw [hAt_put_other (fun e => k2 (kI_inj (h3 a k1).1 hr e))]
      exact (h3 a k1).2
  · intro kl hv
    by_cases e : kl = kI (ky r)
    · exact ⟨r, (ptK_iff h5).2 (.inl rfl), e⟩
    · rw [has_put_other e] at hv
      obtain ⟨a, a1, a2⟩ := h4 kl hv
      exact ⟨a, (ptK_iff h5).2 (.inr ⟨a1, fun e2 => e (by rw [a2, e2])⟩), a2⟩
/-- What has come while a map is gone through. -/
structure CoK (ky : α → ByteArray) (d : List α) (left : Lit → Bool) (ls : List α) : Prop where
  ap : ls.Pairwise (fun a b => ky a ≠ ky b)
  sub : ∀ a ∈ ls, a ∈ d
  iff : ∀ a ∈ d, (a ∈ ls ↔ left (kI (ky a)) = false)
theorem CoK.step {d : List α} {left : Lit → Bool} {ls : List α} (h : CoK ky d left ls) (hd : d.Pairwise (fun a b => ky a ≠ ky b)) (h32 : ∀ a ∈ d, (ky a).size = 32) {a : α} (ha : a ∈ d) (hl : left (kI (ky a)) = true) : CoK ky d (fun z => left z && !z.sameKey (kI (ky a))) (ls ++ [a]) := by
  have huq : ∀ b ∈ d, ky b = ky a → b = a := fun b hb e => by
    obtain ⟨i, hi, rfl⟩ := List.getElem_of_mem hb
    obtain ⟨j, hj, rfl⟩ := List.getElem_of_mem ha
    rw [List.pairwise_iff_getElem] at hd
    rcases Nat.lt_trichotomy i j with k | k | k
    · exact absurd e (hd i j hi hj k)
    · subst k; rfl
    · exact absurd e.symm (hd j i hj hi k)
  have hnew : a ∉ ls := fun hx => by have := (h.iff a ha).1 hx; rw [hl] at this; cases this
  refine ⟨List.pairwise_append.2 ⟨h.ap, List.pairwise_singleton _ _, fun b hb c hc => ?_⟩, fun b hb => ?_, fun b hb => ?_⟩
  · rw [List.mem_singleton.1 hc]
    intro e
    exact hnew (huq b (h.sub b hb) e ▸ hb)
  · rcases List.mem_append.1 hb with k | k
    · exact h.sub b k
    · rw [List.mem_singleton.1 k]; exact ha
  · rw [List.mem_append, List.mem_singleton, h.iff b hb]
    by_cases e : ky b = ky a
    · have := huq b hb e
      subst this
      simp [WideAt.sameKey_self (idKey.key (kI_key _ (h32 b hb)))]
    · have ne : kI (ky b) ≠ kI (ky a) := fun q => e (kI_inj (h32 b hb) (h32 a ha) q)
      have ne2 : b ≠ a := fun q => e (by rw [q])
      simp [sameKey_ne ne, ne2]
theorem CoK.perm {d : List α} {left : Lit → Bool} {ls : List α} (h : CoK ky d left ls) (hd : d.Pairwise (fun a b => ky a ≠ ky b)) (hl : ∀ kl, left kl = false) : ls.Perm d :=
  perm_of_mem (h.ap.imp (fun {a b} q e => q (by rw [e]))) (hd.imp (fun {a b} q e => q (by rw [e]))) (fun a => ⟨h.sub a, fun ha => (h.iff a ha).2 (hl _)⟩)
end
/-! Long rows within a fence. -/
section
variable {F : Fence} {n : Nat} {P : Program} {ops : Array Oper} {rest : List Oper} {op : Oper} {a : Act} {w : World} {Q : Exit → Act → World → Prop}
theorem wpListIn_rowGet (hgd : op.guard = none) (ty : TypeId) (x : Operand) (ho : op.op = .load ty x)
    (b o : Nat) (C cells : Array Value) (T : TypeId) (d : TypeDesc) (hx : a.eval x = .pointer (some ⟨b, o, none⟩))
    (hB : Bk w b C T) (hc : ∀ j v, cells[j]? = some v → C[o + j]? = some v) (hu : P.underlying ty = some d) (hd : d.isRow = true) (hi : (P.info? ty).map (·.size) = some cells.size)
    (h : wpListIn F n P ops Q rest (a.put op.dst (.agg cells)) w) : wpListIn F n P ops Q (op :: rest) a w := by
  refine wpListIn_plain hgd fun K hK => ?_
  have hr : w.rangeAt b o cells.toList := fun j v hv => by rw [hB.cell]; exact hc j v (by rwa [Array.getElem?_toList] at hv)
  have hrun : (execOp a.eval op).run P w = .ok (.value (.agg cells)) w := by
    unfold execOp
    simp only [ho, hx, Instr.loadAt, Instr.sureAddr, Sem.run_bind, Sem.run_pure, Result.andThen_ok, run_loadVar_mid (P := P) w b o ty cells.toList d hr hu hd (by rw [hi]; simp)]
  unfold Oper.wpIn
  refine ⟨by simp [Oper.about, ho], ?_⟩
  rw [Oper.semAt_plain F _ _ (by rw [ho]; intro c hc'; cases hc'), hrun]
  exact hK _ _ h
theorem wpListIn_rowNew (hgd : op.guard = none) (ty : TypeId) (x y : Operand) (ho : op.op = .store ty x y)
    (cells old : Array Value) (t : TypeId) (H : Nat) (hH : w.heap.size = H) (hx : a.eval x = .pointer (some ⟨H, 0, none⟩)) (hy : a.eval y = .agg cells)
    (hi : (P.info? ty).map (·.size) = some cells.size) (hold : old.size = cells.size) (h1 : cells.all (·.oneCell') = true)
    (h : wpListIn F n P ops Q rest (a.put op.dst undef) (w.alloc (.cells cells t))) : wpListIn F n P ops Q (op :: rest) a (w.alloc (.cells old t)) := by
  refine wpListIn_plain hgd fun K hK => ?_
  subst hH
  have hg : (w.alloc (.cells old t)).heap[w.heap.size]? = some (.cells old t (0, 0)) := blk_new _ _
  have hrun : (execOp a.eval op).run P (w.alloc (.cells old t)) = .ok .skip (w.alloc (.cells cells t)) := by
    unfold execOp
    simp only [ho, hx, hy, Instr.storeAt, Instr.sureAddr, Sem.run_bind, Sem.run_pure, Result.andThen_ok, run_storeVar_row (P := P) (w.alloc (.cells old t)) w.heap.size t ty old cells hg hi hold h1, World.setRow_alloc_new]
  unfold Oper.wpIn
  refine ⟨by simp [Oper.about, ho], ?_⟩
  rw [Oper.semAt_plain F _ _ (by rw [ho]; intro c hc'; cases hc'), hrun]
  exact hK _ _ h
theorem wpListIn_bs1 (hgd : op.guard = none) (t : TypeId) (x : Operand) (ho : op.op = .buildSlice t 1 #[(0, x)]) (v r : Value) (w' : World) (hx : a.eval x = v) (hr : (Instr.buildSlice t 1 #[(0, v)]).run P w = .ok r w')
    (h : wpListIn F n P ops Q rest (a.put op.dst r) w') : wpListIn F n P ops Q (op :: rest) a w := by
  refine wpListIn_plain hgd fun K hK => ?_
  have hrun : (execOp a.eval op).run P w = .ok (.value r) w' := by
    unfold execOp
    simp only [ho, Sem.run_bind, Sem.run_pure, Result.andThen_ok, List.map_toArray, List.map_cons, List.map_nil, hx, hr]
  unfold Oper.wpIn
  refine ⟨by simp [Oper.about, ho], ?_⟩
  rw [Oper.semAt_plain F _ _ (by rw [ho]; intro c hc'; cases hc'), hrun]
  exact hK _ _ h
end
/-- A slice of one row. -/
theorem slice1_any {t e : TypeId} {z : Value} {k : Nat} {b : Nat} (hu : Tryz.prog.underlying t = some (.slice e)) (hi : (Tryz.prog.info? e).map (fun i => (i.zero, i.size, i.bytes)) = some (some z, k, b)) (hk : 0 < k) (hk2 : k ≤ 16777216) (cells : Array Value) (hc : cells.size = k) (w : World) :
    (Instr.buildSlice t 1 #[(0, .agg cells)]).run Tryz.prog w = .ok (.slice (some ⟨w.heap.size, 0, none⟩) 1 1) (w.alloc (.cells cells e)) := by
  obtain ⟨i0, hi, hz0, hz1, hz2⟩ := info_parts hi
  refine run_buildSlice w _ e 1 _ _ i0 z hu hi hz0 (by rw [hz1]; omega) (by rw [hz1]; omega) ?_
  rw [hz1]
  have := Go.Great.fill_whole hk [.agg cells] ((Array.range (1 * k)).map (z.cells[· % z.cells.size]!)) (fun v hv => by rw [List.mem_singleton.1 hv]; exact hc) (by simp)
  simp only [List.zipIdx_cons, List.zipIdx_nil, List.map_cons, List.map_nil, List.flatMap_cons, List.flatMap_nil, List.append_nil] at this
  rw [this]
  rfl
end Go.Proofs.YtbfoiocbmhhdbaaGreat
/- The iterators over the maps of a merger: maps.Keys, maps.Values. -/
namespace Go.Proofs.YtbfoiocbmhhdbaaGreat
open Go.RowKit Go.Maps
set_option linter.unusedSimpArgs false
set_option linter.unusedVariables false
theorem zero_mr15 : ∀ w, (zeroValue 52).run Tryz.prog w = .ok (.agg z67) w := fun w => by
  have e : Tryz.zeroCells52 = z67 := by kernel_rfl
  rw [← e]; exact Tryz.zeroValue52 w
/-- Names and rows of the right sizes. -/
abbrev Nf := { s : ByteArray // s.size = 32 }
abbrev Rf := { r : Mr // r.p.size = 32 ∧ r.e.id.size = 32 }
def kyN (x : Nf) : ByteArray := x.1
def elN (_ : Nf) : Value := .agg #[]
def eN (x : Nf) : Array Value := idc x.1
def kyR (r : Rf) : ByteArray := r.1.e.id
def eR (r : Rf) : Array Value := mrC r.1
def elR (r : Rf) : Value := .agg (eR r)
theorem eN_ok (x : Nf) : (eN x).size = 32 ∧ (eN x).all (·.oneCell') = true := ⟨by rw [eN, idc_size, x.2], idc_allX x.1⟩
theorem eR_ok (r : Rf) : (eR r).size = 67 ∧ (eR r).all (·.oneCell') = true := ⟨mrC_size r.1 r.2.1 r.2.2, mrC_all r.1⟩

/-! keys -/
theorem enter_itkeys : ∀ args u, (callFunc 98 args).run Tryz.prog u = .ok (.enter 98 args) u := fun args u => by kernel_rfl
set_option maxRecDepth 100000 in
set_option maxHeartbeats 2000000 in
/-- The iterator over a map: each thing once, in some order, whatever the rounds do. -/
theorem it_keys (n l Bm b : Nat) (d : List Nf) (J Jx : List Nf → World → Prop)
    (hY : ∀ pre x W, J pre W → pre.length < d.length → YieldAt Fence.wide (n - 1) Tryz.prog l #[.agg (eN x)] W fun e W' => (e = .returned (.bool true) ∧ J (pre ++ [x]) W' ∧ KeepsWalks W W') ∨ (e = .returned (.bool false) ∧ Jx (pre ++ [x]) W'))
    (W : World) (hJ : AbidesFrom W.heap.size J) (hJx : AbidesFrom W.heap.size Jx) (hm : W.cell? ⟨Bm, 0, none⟩ = some (.map (some b))) (hown : KvM kyN elN W b d) (h0 : J [] W) :
    CallsIn Fence.wide n Tryz.prog 98 #[.func (.yield l) #[] #[], .pointer (some ⟨Bm, 0, none⟩)] W fun e W' => (∃ v, e = .returned v) ∧ ((∃ xs, xs.Perm d ∧ J xs W') ∨ (∃ pre, True ∧ Jx pre W')) := by
  obtain ⟨D, hmp, hsz, h3, h4, h5⟩ := hown
  have hmp' : W.ownsMap Tryz.prog 48 hE b (Maps.size D) D := hmp
  have hz := zero_id
  have HSZ : Hid (Maps.size D = d.length) := hsz
  clear hsz
  refine callsIn_of_wp Tryz.func98 rfl trivial ?_ rfl
  simp only [Tryz.ntmps98, List.size_toArray, List.length_cons, List.length_nil, Nat.reduceAdd, Nat.reduceSub, Array.replicate_succ, Array.replicate_zero, List.push_toArray, List.append_toArray, List.nil_append, List.cons_append]
  gi_wp2_with (first
    | (gi_at_range; refine wpListIn_range_own _ rfl _ 74 rfl 48 117 idKey Tryz.underlying74 hE b _ D rfl hmp' ?_; intro w0 hrg0 hg0 hs0)
    | gi_in)
  go_frame
  gi_loopw [3] (fun _ wr => ∃ (left : Lit → Bool) (cnt : Nat) (ls : List Nf), wr.ranges Tryz.prog 48 hE b W.heap.size (Maps.size D) D left cnt ∧ ls.length + cnt ≤ Maps.size D ∧ CoK kyN d left ls ∧ J ls wr)
    (fun _ wr => wr.rangeLeft b W.heap.size)
  case atStart =>
    exact ⟨_, _, [], hrg0, by simp, ⟨List.Pairwise.nil, fun a h => (by cases h), fun a ha => ⟨fun h => (by cases h), fun h => (by rw [hAt_has (h3 a ha).2] at h; cases h)⟩⟩, hJ [] W w0 none h0 hg0 (fun r e => by cases e)⟩
  case round =>
    obtain ⟨left, cnt, ls, hrg, hcs, hC, hJs⟩ := hrel
    gi_wp2_with (first
      | (gi_at_next; refine wpListIn_next_ranges _ rfl _ rfl 48 idKey hE (fun v : Value => v) (fun v : Value => v) (fun key kl _ => ⟨key, rfl⟩) (fun v y _ => ⟨v, rfl⟩) b W.heap.size (Maps.size D) D left cnt rfl hrg ?_ ?_)
      | gi_in)
    · intro hc0 hl0
      gi_wp2
      go_end0
      exact ⟨⟨_, rfl⟩, .inl ⟨ls, hC.perm h5 hl0, hJs⟩⟩
    · intro x c kl yd yp w2 cnt2 hkey hlk hv hat hrg2 hlt hg2 hs2 hen
      have hhas : Maps.has D kl = true := has_true_of_atKey hat
      obtain ⟨a, ha, hka⟩ := h4 kl hhas
      have hxa : x = .agg (idc (kyN a)) := idKey.inj hkey (by rw [hka]; exact kI_key _ (h3 a ha).1)
      have hca : c = elN a := by
        have h6 := (h3 a ha).2
        rw [← hka] at h6
        unfold hAt at h6
        rw [if_pos hhas, hat, hE_inv hv] at h6
        exact Option.some.inj h6
      have hC2 : CoK kyN d (fun z => left z && !z.sameKey kl) (ls ++ [a]) := by
        rw [hka]
        exact hC.step h5 (fun a ha => (h3 a ha).1) ha (by rw [← hka]; exact hlk)
      have hJ2 : J ls w2 := hJ ls wr w2 (some W.heap.size) hJs hg2 (fun r e => by cases e; exact ⟨Nat.le_refl _, hrg.iter_walk⟩)
      obtain ⟨X, hX⟩ : ∃ X, eN a = X := ⟨_, rfl⟩
      obtain ⟨hX1, hX2⟩ := eN_ok a
      have hJ3 : J ls (w2.alloc (.cells X 48)) := hJ ls w2 _ none hJ2 (World.grownBy_alloc w2 _ none) (fun r e => by cases e)
      obtain ⟨fn, tmps, assign, body, hy, hR⟩ := hY ls a _ hJ3 (by have := HSZ.out; omega)
      have hkw : KeepsWalks w2 (w2.alloc (.cells X 48)) := KeepsWalks.alloc _ _
      have hbk : Bk (w2.alloc (.cells X 48)) w2.heap.size X 48 := bk_new _ _ _
      rw [hX] at hX1 hX2 hy
      have hIX : (Tryz.prog.info? 48).map (·.size) = some X.size := by rw [hX1]; kernel_rfl
      subst hxa
      subst hca
      have hX0 : Value.agg (idc (kyN a)) = .agg X := by rw [← hX]; rfl
      rw [hX0] at hen ⊢
      clear hX0 hkey hka hhas hat hlk hv
      clear hs2 hX
      gi_wp2_with (first
        | (refine wpListIn_rowNew rfl 48 (.tmp 3) (.tmp 9) rfl X _ 48 w2.heap.size rfl rfl rfl hIX (by rw [hX1]; rfl) hX2 ?_)
        | (refine wpListIn_rowGet rfl 48 (.tmp 3) rfl w2.heap.size 0 X X 48 _ rfl hbk (fun j v hv => by rw [Nat.zero_add]; exact hv) Tryz.underlying48 rfl hIX ?_)
        | gi_in)
      refine ⟨fun h => (by simp [Fence.wide] at h), hR.mono ?_⟩
      rintro e W3 (⟨rfl, hJ4, hk3⟩ | ⟨rfl, hx3⟩)
      · gi_wp2
        have hrg3 := hrg2.of_walks (hkw.trans hk3)
        go_roundw
        case rel => exact ⟨_, cnt2, ls ++ [a], hrg3, by rw [List.length_append, List.length_singleton]; omega, hC2, hJ4⟩
        case measure => rw [hrg3.left_eq, hrg.left_eq]; exact hlt
      · gi_wp2
        refine bodyPost_ret (results_none rfl _ _ _) rfl ?_
        exact ⟨⟨_, rfl⟩, .inr ⟨_, trivial, hx3⟩⟩
theorem stops_keys (n Bm b : Nat) (d : List Nf) (w : World) (hBm : Bm < w.heap.size) (hm : w.cell? ⟨Bm, 0, none⟩ = some (.map (some b))) (hown : KvM kyN elN w b d) :
    SeqStopsK Fence.wide n Tryz.prog 98 #[.pointer (some ⟨Bm, 0, none⟩)] (fun x : Nf => #[.agg (eN x)]) KeepsWalks (fun xs => xs.Perm d) (fun _ => True) d.length w := fun l J Jx W hW hJ hJx hY h0 =>
  it_keys n l Bm b d J Jx hY W hJ hJx ((hW.cell (p := ⟨Bm, 0, none⟩) hBm).trans hm) (hown.below hW) h0
set_option maxHeartbeats 1000000 in
/-- The call that makes it: the map is boxed. -/
theorem make_keys (mb : Option Nat) (w : World) : Calls Tryz.prog 62 #[.map mb] w fun e w' => e = .returned (.func (.func 98) #[] #[.pointer (some ⟨w.heap.size, 0, none⟩)]) ∧ w' = w.alloc (.cells #[.map mb] 74) := by
  go_enter Tryz.func62, Tryz.ntmps62
  go_wp2
  go_ret
  exact ⟨rfl, rfl⟩

/-! vals -/
theorem enter_itvals : ∀ args u, (callFunc 101 args).run Tryz.prog u = .ok (.enter 101 args) u := fun args u => by kernel_rfl
set_option maxRecDepth 100000 in
set_option maxHeartbeats 2000000 in
/-- The iterator over a map: each thing once, in some order, whatever the rounds do. -/
theorem it_vals (n l Bm b : Nat) (d : List Rf) (J Jx : List Rf → World → Prop)
    (hY : ∀ pre x W, J pre W → pre.length < d.length → YieldAt Fence.wide (n - 1) Tryz.prog l #[.agg (eR x)] W fun e W' => (e = .returned (.bool true) ∧ J (pre ++ [x]) W' ∧ KeepsWalks W W') ∨ (e = .returned (.bool false) ∧ Jx (pre ++ [x]) W'))
    (W : World) (hJ : AbidesFrom W.heap.size J) (hJx : AbidesFrom W.heap.size Jx) (hm : W.cell? ⟨Bm, 0, none⟩ = some (.map (some b))) (hown : KvM kyR elR W b d) (h0 : J [] W) :
    CallsIn Fence.wide n Tryz.prog 101 #[.func (.yield l) #[] #[], .pointer (some ⟨Bm, 0, none⟩)] W fun e W' => (∃ v, e = .returned v) ∧ ((∃ xs, xs.Perm d ∧ J xs W') ∨ (∃ pre, True ∧ Jx pre W')) := by
  obtain ⟨D, hmp, hsz, h3, h4, h5⟩ := hown
  have hmp' : W.ownsMap Tryz.prog 48 hE b (Maps.size D) D := hmp
  have hz := zero_mr15
  have HSZ : Hid (Maps.size D = d.length) := hsz
  clear hsz
  refine callsIn_of_wp Tryz.func101 rfl trivial ?_ rfl
  simp only [Tryz.ntmps101, List.size_toArray, List.length_cons, List.length_nil, Nat.reduceAdd, Nat.reduceSub, Array.replicate_succ, Array.replicate_zero, List.push_toArray, List.append_toArray, List.nil_append, List.cons_append]
  gi_wp2_with (first
    | (gi_at_range; refine wpListIn_range_own _ rfl _ 75 rfl 48 52 idKey Tryz.underlying75 hE b _ D rfl hmp' ?_; intro w0 hrg0 hg0 hs0)
    | gi_in)
  go_frame
  gi_loopw [4] (fun _ wr => ∃ (left : Lit → Bool) (cnt : Nat) (ls : List Rf), wr.ranges Tryz.prog 48 hE b W.heap.size (Maps.size D) D left cnt ∧ ls.length + cnt ≤ Maps.size D ∧ CoK kyR d left ls ∧ J ls wr)
    (fun _ wr => wr.rangeLeft b W.heap.size)
  case atStart =>
    exact ⟨_, _, [], hrg0, by simp, ⟨List.Pairwise.nil, fun a h => (by cases h), fun a ha => ⟨fun h => (by cases h), fun h => (by rw [hAt_has (h3 a ha).2] at h; cases h)⟩⟩, hJ [] W w0 none h0 hg0 (fun r e => by cases e)⟩
  case round =>
    obtain ⟨left, cnt, ls, hrg, hcs, hC, hJs⟩ := hrel
    gi_wp2_with (first
      | (gi_at_next; refine wpListIn_next_ranges _ rfl _ rfl 48 idKey hE (fun v : Value => v) (fun v : Value => v) (fun key kl _ => ⟨key, rfl⟩) (fun v y _ => ⟨v, rfl⟩) b W.heap.size (Maps.size D) D left cnt rfl hrg ?_ ?_)
      | gi_in)
    · intro hc0 hl0
      gi_wp2
      go_end0
      exact ⟨⟨_, rfl⟩, .inl ⟨ls, hC.perm h5 hl0, hJs⟩⟩
    · intro x c kl yd yp w2 cnt2 hkey hlk hv hat hrg2 hlt hg2 hs2 hen
      have hhas : Maps.has D kl = true := has_true_of_atKey hat
      obtain ⟨a, ha, hka⟩ := h4 kl hhas
      have hxa : x = .agg (idc (kyR a)) := idKey.inj hkey (by rw [hka]; exact kI_key _ (h3 a ha).1)
      have hca : c = elR a := by
        have h6 := (h3 a ha).2
        rw [← hka] at h6
        unfold hAt at h6
        rw [if_pos hhas, hat, hE_inv hv] at h6
        exact Option.some.inj h6
      have hC2 : CoK kyR d (fun z => left z && !z.sameKey kl) (ls ++ [a]) := by
        rw [hka]
        exact hC.step h5 (fun a ha => (h3 a ha).1) ha (by rw [← hka]; exact hlk)
      have hJ2 : J ls w2 := hJ ls wr w2 (some W.heap.size) hJs hg2 (fun r e => by cases e; exact ⟨Nat.le_refl _, hrg.iter_walk⟩)
      obtain ⟨X, hX⟩ : ∃ X, eR a = X := ⟨_, rfl⟩
      obtain ⟨hX1, hX2⟩ := eR_ok a
      have hJ3 : J ls (w2.alloc (.cells X 52)) := hJ ls w2 _ none hJ2 (World.grownBy_alloc w2 _ none) (fun r e => by cases e)
      obtain ⟨fn, tmps, assign, body, hy, hR⟩ := hY ls a _ hJ3 (by have := HSZ.out; omega)
      have hkw : KeepsWalks w2 (w2.alloc (.cells X 52)) := KeepsWalks.alloc _ _
      have hbk : Bk (w2.alloc (.cells X 52)) w2.heap.size X 52 := bk_new _ _ _
      rw [hX] at hX1 hX2 hy
      have hIX : (Tryz.prog.info? 52).map (·.size) = some X.size := by rw [hX1]; kernel_rfl
      subst hxa
      subst hca
      have hX0 : elR a = .agg X := by rw [← hX]; rfl
      rw [hX0] at hen ⊢
      clear hX0 hkey hka hhas hat hlk hv
      clear hs2 hX
      gi_wp2_with (first
        | (refine wpListIn_rowNew rfl 52 (.tmp 4) (.tmp 10) rfl X _ 52 w2.heap.size rfl rfl rfl hIX (by rw [hX1]; rfl) hX2 ?_)
        | (refine wpListIn_rowGet rfl 52 (.tmp 4) rfl w2.heap.size 0 X X 52 _ rfl hbk (fun j v hv => by rw [Nat.zero_add]; exact hv) Tryz.underlying52 rfl hIX ?_)
        | gi_in)
      refine ⟨fun h => (by simp [Fence.wide] at h), hR.mono ?_⟩
      rintro e W3 (⟨rfl, hJ4, hk3⟩ | ⟨rfl, hx3⟩)
      · gi_wp2
        have hrg3 := hrg2.of_walks (hkw.trans hk3)
        go_roundw
        case rel => exact ⟨_, cnt2, ls ++ [a], hrg3, by rw [List.length_append, List.length_singleton]; omega, hC2, hJ4⟩
        case measure => rw [hrg3.left_eq, hrg.left_eq]; exact hlt
      · gi_wp2
        refine bodyPost_ret (results_none rfl _ _ _) rfl ?_
        exact ⟨⟨_, rfl⟩, .inr ⟨_, trivial, hx3⟩⟩
theorem stops_vals (n Bm b : Nat) (d : List Rf) (w : World) (hBm : Bm < w.heap.size) (hm : w.cell? ⟨Bm, 0, none⟩ = some (.map (some b))) (hown : KvM kyR elR w b d) :
    SeqStopsK Fence.wide n Tryz.prog 101 #[.pointer (some ⟨Bm, 0, none⟩)] (fun x : Rf => #[.agg (eR x)]) KeepsWalks (fun xs => xs.Perm d) (fun _ => True) d.length w := fun l J Jx W hW hJ hJx hY h0 =>
  it_vals n l Bm b d J Jx hY W hJ hJx ((hW.cell (p := ⟨Bm, 0, none⟩) hBm).trans hm) (hown.below hW) h0
set_option maxHeartbeats 1000000 in
/-- The call that makes it: the map is boxed. -/
theorem make_vals (mb : Option Nat) (w : World) : Calls Tryz.prog 64 #[.map mb] w fun e w' => e = .returned (.func (.func 101) #[] #[.pointer (some ⟨w.heap.size, 0, none⟩)]) ∧ w' = w.alloc (.cells #[.map mb] 75) := by
  go_enter Tryz.func64, Tryz.ntmps64
  go_wp2
  go_ret
  exact ⟨rfl, rfl⟩
end Go.Proofs.YtbfoiocbmhhdbaaGreat
/- Operations that build something or append, by their run's equation; no program named. -/
namespace Go.Proofs.YtbfoiocbmhhdbaaGreat
open Go.RowKit
set_option linter.unusedSimpArgs false
set_option linter.unusedVariables false
theorem wpList_bdX2 {P : Program} {ops : Array Oper} {rest : List Oper} {o : Oper} {a : Act} {w : World} {Q : Exit → Act → World → Prop} (hgd : o.guard = none) (t : TypeId) (i j : Nat) (x0 x1 : Operand)
    (ho : o.op = .build t #[(i, x0), (j, x1)]) (v0 v1 r : Value) (h0 : a.eval x0 = v0) (h1 : a.eval x1 = v1) (hr : (Instr.build t #[(i, v0), (j, v1)]).run P w = .ok r w)
    (h : wpList P ops Q rest (a.put o.dst r) w) : wpList P ops Q (o :: rest) a w := by
  refine wpList_plain hgd fun K hK => ?_
  unfold Oper.wp execOp
  simp only [ho, Sem.run_bind, Sem.run_pure, Result.andThen_ok, List.map_toArray, List.map_cons, List.map_nil, h0, h1, hr]
  exact hK _ _ h
theorem wpList_bdX1 {P : Program} {ops : Array Oper} {rest : List Oper} {o : Oper} {a : Act} {w : World} {Q : Exit → Act → World → Prop} (hgd : o.guard = none) (t : TypeId) (i : Nat) (x0 : Operand)
    (ho : o.op = .build t #[(i, x0)]) (v0 r : Value) (h0 : a.eval x0 = v0) (hr : (Instr.build t #[(i, v0)]).run P w = .ok r w)
    (h : wpList P ops Q rest (a.put o.dst r) w) : wpList P ops Q (o :: rest) a w := by
  refine wpList_plain hgd fun K hK => ?_
  unfold Oper.wp execOp
  simp only [ho, Sem.run_bind, Sem.run_pure, Result.andThen_ok, List.map_toArray, List.map_cons, List.map_nil, h0, hr]
  exact hK _ _ h
theorem wpList_bdX0 {P : Program} {ops : Array Oper} {rest : List Oper} {o : Oper} {a : Act} {w : World} {Q : Exit → Act → World → Prop} (hgd : o.guard = none) (t : TypeId)
    (ho : o.op = .build t #[]) (r : Value) (hr : (Instr.build t #[]).run P w = .ok r w)
    (h : wpList P ops Q rest (a.put o.dst r) w) : wpList P ops Q (o :: rest) a w := by
  refine wpList_plain hgd fun K hK => ?_
  unfold Oper.wp execOp
  simp only [ho, Sem.run_bind, Sem.run_pure, Result.andThen_ok, List.map_toArray, List.map_nil, hr]
  exact hK _ _ h
theorem wpList_bdX4 {P : Program} {ops : Array Oper} {rest : List Oper} {o : Oper} {a : Act} {w : World} {Q : Exit → Act → World → Prop} (hgd : o.guard = none) (t : TypeId) (x0 x1 x2 x3 : Operand)
    (ho : o.op = .build t #[(0, x0), (1, x1), (2, x2), (3, x3)]) (v0 v1 v2 v3 r : Value) (h0 : a.eval x0 = v0) (h1 : a.eval x1 = v1) (h2 : a.eval x2 = v2) (h3 : a.eval x3 = v3) (hr : (Instr.build t #[(0, v0), (1, v1), (2, v2), (3, v3)]).run P w = .ok r w)
    (h : wpList P ops Q rest (a.put o.dst r) w) : wpList P ops Q (o :: rest) a w := by
  refine wpList_plain hgd fun K hK => ?_
  unfold Oper.wp execOp
  simp only [ho, Sem.run_bind, Sem.run_pure, Result.andThen_ok, List.map_toArray, List.map_cons, List.map_nil, h0, h1, h2, h3, hr]
  exact hK _ _ h
theorem wpList_bsX {P : Program} {ops : Array Oper} {rest : List Oper} {o : Oper} {a : Act} {w : World} {Q : Exit → Act → World → Prop} (hgd : o.guard = none) (t : TypeId) (x : Operand)
    (ho : o.op = .buildSlice t 1 #[(0, x)]) (v r : Value) (w' : World) (hx : a.eval x = v) (hr : (Instr.buildSlice t 1 #[(0, v)]).run P w = .ok r w')
    (h : wpList P ops Q rest (a.put o.dst r) w') : wpList P ops Q (o :: rest) a w := by
  refine wpList_plain hgd fun K hK => ?_
  unfold Oper.wp execOp
  simp only [ho, Sem.run_bind, Sem.run_pure, Result.andThen_ok, List.map_toArray, List.map_cons, List.map_nil, hx, hr]
  exact hK _ _ h
theorem wpList_appX {P : Program} {ops : Array Oper} {rest : List Oper} {o : Oper} {a : Act} {w : World} {Q : Exit → Act → World → Prop} (hgd : o.guard = none) (sl x : Operand) (t u : TypeId)
    (ho : o.op = .call { callee := .builtin .append, args := #[sl, x], argTypes := #[t, u] }) (v y v' : Value) (w' : World) (hs : a.eval sl = v) (hx : a.eval x = y) (hr : (Builtin.append_ #[t, u] o.type #[v, y]).run P w = .ok v' w')
    (h : wpList P ops Q rest (a.put o.dst v') w') : wpList P ops Q (o :: rest) a w := by
  refine wpList_plain hgd fun K hK => ?_
  unfold Oper.wp execOp
  simp only [ho, resolve, invoke, builtin, Sem.run_bind, Sem.run_pure, Result.andThen_ok, List.map_toArray, List.map_cons, List.map_nil, hs, hx, hr]
  exact hK _ _ h
theorem wpList_copyX {P : Program} {ops : Array Oper} {rest : List Oper} {o : Oper} {a : Act} {w : World} {Q : Exit → Act → World → Prop} (hgd : o.guard = none) (sl x : Operand) (t u : TypeId)
    (ho : o.op = .call { callee := .builtin .copy, args := #[sl, x], argTypes := #[t, u] }) (v y v' : Value) (w' : World) (hs : a.eval sl = v) (hx : a.eval x = y) (hr : (Builtin.copy_ #[t, u] o.type #[v, y]).run P w = .ok v' w')
    (h : wpList P ops Q rest (a.put o.dst v') w') : wpList P ops Q (o :: rest) a w := by
  refine wpList_plain hgd fun K hK => ?_
  unfold Oper.wp execOp
  simp only [ho, resolve, invoke, builtin, Sem.run_bind, Sem.run_pure, Result.andThen_ok, List.map_toArray, List.map_cons, List.map_nil, hs, hx, hr]
  exact hK _ _ h
/-- A whole row stored. -/
theorem wpList_stoX {P : Program} {ops : Array Oper} {rest : List Oper} {o : Oper} {a : Act} {w : World} {Q : Exit → Act → World → Prop} (hgd : o.guard = none) (ty : TypeId) (x y : Operand) (ho : o.op = .store ty x y)
    (g : Nat) (cells old : Array Value) (t : TypeId) (hx : a.eval x = .pointer (some ⟨g, 0, none⟩)) (hy : a.eval y = .agg cells) (hg : Bk w g old t) (hi : (P.info? ty).map (·.size) = some cells.size)
    (hold : old.size = cells.size) (h1 : cells.all (·.oneCell') = true) (h : ∀ w', Hid (Bk w' g cells t) → Hid (w.grownBy w' (some g)) → wpList P ops Q rest (a.put o.dst undef) w') : wpList P ops Q (o :: rest) a w := by
  refine wpList_store_row hgd ty x y ho g cells hx hy t old hg hi hold h1 (h _ (setRow_heap _ _ _ _ _ _ hg) ?_)
  refine ⟨rfl, rfl, rfl, by simp [World.setRow], fun k hk hne => ?_⟩
  have : g ≠ k := fun e => hne (by rw [e])
  simp [World.setRow, Array.getElem?_modify, this]
end Go.Proofs.YtbfoiocbmhhdbaaGreat
/- The leaf walks of package wire: isWidth, bits.Len64, Len: what each call returns, the world as it was. -/
namespace Go.Proofs.YtbfoiocbmhhdbaaGreat
open Go.RowKit
set_option linter.unusedSimpArgs false
set_option linter.unusedVariables false
theorem ret_int {k : IntKind} {a b : Int} (h : a = b) : Ending.returned (.int k a) = .returned (.int k b) := by rw [h]
theorem len8_get (i : Nat) (h : i < Lib.len8tab.size) : ((Lib.len8tab[i]'h).toNat : Int) = (Lib.bitLen i : Int) := by
  have hz := Lib.len8tab_size
  have e := Lib.len8_eq ⟨i, by omega⟩
  simp only [Lib.len8, Int.toNat_natCast] at e
  rw [← e]
  simp [h]
theorem bitLen_le8n (i : Nat) (h : i < 256) : Lib.bitLen i ≤ 8 := Lib.bitLen_le8 ⟨i, h⟩
theorem len64_fin (x i : Nat) (k : Nat) (b : Int) (hi : i = x / 2 ^ k) (hk : k ≤ 56) (hx : x < 2 ^ 64) (h8 : i < 256) (hb : b = (Lib.bitLen i : Int)) (hsh : k = 0 ∨ 2 ^ k ≤ x) :
    wrap64 ((k : Int) + wrap64 b) = (Lib.bitLen x : Int) := by
  have l := bitLen_le8n i h8
  have e : Lib.bitLen x = k + Lib.bitLen i := by
    rcases hsh with h | h
    · subst h; simp at hi; subst hi; simp
    · rw [hi]; exact Lib.bitLen_shift k x h hx
  subst hb
  unfold wrap64
  omega
theorem len64_fin0 (x : Nat) (b : Int) (h8 : x < 256) (hb : b = (Lib.bitLen x : Int)) : wrap64 (wrap64 b) = (Lib.bitLen x : Int) := by
  have l := bitLen_le8n x h8
  subst hb
  unfold wrap64
  omega
set_option maxHeartbeats 400000 in
set_option maxRecDepth 100000 in
theorem len64_any (x : Int) (w : World) (h0 : 0 ≤ x) (h1 : x ≤ 18446744073709551615) :
    Calls Tryz.prog 105 #[.int .u64 x] w fun e w' => e = .returned (.int .i64 (Lib.bitLen x.toNat)) ∧ w' = w := by
  have hz := Lib.len8tab_size
  go_enter Tryz.func105, Tryz.ntmps105
  go_wp2
  all_goals first | (exfalso; omega) | skip
  all_goals go_ret
  all_goals refine ⟨ret_int ?_, rfl⟩
  · exact len64_fin x.toNat (x / 4294967296 / 65536 / 256).toNat 56 _ (by omega) (by omega) (by omega) (by omega) (len8_get _ _) (by omega)
  · exact len64_fin x.toNat (x / 4294967296 / 65536).toNat 48 _ (by omega) (by omega) (by omega) (by omega) (len8_get _ _) (by omega)
  · exact len64_fin x.toNat (x / 4294967296 / 256).toNat 40 _ (by omega) (by omega) (by omega) (by omega) (len8_get _ _) (by omega)
  · exact len64_fin x.toNat (x / 4294967296).toNat 32 _ (by omega) (by omega) (by omega) (by omega) (len8_get _ _) (by omega)
  · exact len64_fin x.toNat (x / 65536 / 256).toNat 24 _ (by omega) (by omega) (by omega) (by omega) (len8_get _ _) (by omega)
  · exact len64_fin x.toNat (x / 65536).toNat 16 _ (by omega) (by omega) (by omega) (by omega) (len8_get _ _) (by omega)
  · exact len64_fin x.toNat (x / 256).toNat 8 _ (by omega) (by omega) (by omega) (by omega) (len8_get _ _) (by omega)
  · exact len64_fin0 x.toNat _ (by omega) (len8_get _ _)
/-- Whether a number is a width. -/
def isW (n : Int) : Bool := decide (1 ≤ n ∧ n ≤ 8)
theorem isW_yes {n : Int} (h1 : 1 ≤ n) (h2 : n ≤ 8) : isW n = true := decide_eq_true ⟨h1, h2⟩
theorem isW_no {n : Int} (h : n < 1 ∨ 8 < n) : isW n = false := decide_eq_false (by omega)
theorem isW_iff {n : Int} : isW n = true ↔ 1 ≤ n ∧ n ≤ 8 := by unfold isW; simp
theorem ret_bool {a b : Bool} (h : a = b) : Ending.returned (.bool a) = .returned (.bool b) := by rw [h]
set_option maxHeartbeats 400000 in
theorem isWidth_any (n : Int) (w : World) :
    Calls Tryz.prog 104 #[.int .i64 n] w fun e w' => e = .returned (.bool (isW n)) ∧ w' = w := by
  by_cases h1 : 1 ≤ n
  · by_cases h2 : n ≤ 8
    · go_enter Tryz.func104, Tryz.ntmps104
      go_wp2
      go_ret
      exact ⟨ret_bool (isW_yes h1 h2).symm, rfl⟩
    · go_enter Tryz.func104, Tryz.ntmps104
      go_wp2
      go_ret
      exact ⟨ret_bool (isW_no (by omega)).symm, rfl⟩
  · go_enter Tryz.func104, Tryz.ntmps104
    go_wp2
    go_ret
    exact ⟨ret_bool (isW_no (by omega)).symm, rfl⟩
theorem sizeOf_u8 (w : World) : (sizeOf 5).run Tryz.prog w = .ok 1 w := by kernel_rfl
theorem ret_str {a b : ByteArray} (h : a = b) : Ending.returned (.string a) = .returned (.string b) := by rw [h]
theorem append_size (a b : ByteArray) : (a ++ b).size = a.size + b.size := by simp
end Go.Proofs.YtbfoiocbmhhdbaaGreat
/- The walks of wire.New and of the closure through which all is taken. -/
namespace Go.Proofs.YtbfoiocbmhhdbaaGreat
open Go.RowKit
set_option linter.unusedSimpArgs false
set_option linter.unusedVariables false
set_option maxHeartbeats 400000 in
theorem new_any (s : ByteArray) (w : World) :
    Calls Tryz.prog 73 #[.string s] w fun e w' => e = .returned (.pointer (some ⟨w.heap.size, 0, none⟩)) ∧ w' = w.alloc (.cells #[.string s] 182) := by
  go_enter Tryz.func73, Tryz.ntmps73
  go_wp2
  go_ret
  exact ⟨rfl, rfl⟩
set_option maxHeartbeats 400000 in
theorem taker_any (o : Option Addr) (w : World) :
    Calls Tryz.prog 106 #[.pointer o] w fun e w' => e = .returned (.func (Fn.func 124) #[] #[.pointer (some ⟨w.heap.size, 0, none⟩)]) ∧ w' = w.alloc (.cells #[.pointer o] 155) := by
  go_enter Tryz.func106, Tryz.ntmps106
  go_wp2
  go_ret
  exact ⟨rfl, rfl⟩
set_option maxHeartbeats 400000 in
theorem take1_no (s : ByteArray) (b c : Nat) (h n : Nat) (w : World) (hs : s.size ≤ maxLen) (hp : w.cell? ⟨c, 0, none⟩ = some (.pointer (some ⟨b, 0, none⟩))) (hc : w.cell? ⟨b, 0, none⟩ = some (.string s))
    (hh : h ≤ s.size) (hn : s.size - h < n) :
    Calls Tryz.prog 124 #[.int .i64 h, .int .u64 n, .pointer (some ⟨c, 0, none⟩)] w fun e w' => e = .returned (.tuple #[.string ⟨#[]⟩, .int .i64 4]) ∧ w' = w := by
  unfold maxLen at hs
  go_enter Tryz.func124, Tryz.ntmps124
  go_wp2
  go_ret2
  exact ⟨rfl, rfl⟩
set_option maxHeartbeats 400000 in
theorem take1_ok (s : ByteArray) (b c : Nat) (h n : Nat) (w : World) (hs : s.size ≤ maxLen) (hp : w.cell? ⟨c, 0, none⟩ = some (.pointer (some ⟨b, 0, none⟩))) (hc : w.cell? ⟨b, 0, none⟩ = some (.string s)) (hf : w.frozen? ⟨b, 0, none⟩ = false)
    (hh : h + n ≤ s.size) :
    Calls Tryz.prog 124 #[.int .i64 h, .int .u64 n, .pointer (some ⟨c, 0, none⟩)] w fun e w' => e = .returned (.tuple #[.string (s.extract h (h + n)), .int .i64 0]) ∧ w' = (w.setCell ⟨b, 0, none⟩ (.string (s.extract (h + n) s.size))).drew := by
  unfold maxLen at hs
  go_enter Tryz.func124, Tryz.ntmps124
  go_wp2
  go_region
  go_wp2
  go_ret2
  exact ⟨rfl, rfl⟩
/-- A call that turns the reader in block b alone: it holds s' now; whatever else was there is as it was. -/
structure Step (b : Nat) (w w' : World) (s' : ByteArray) : Prop where
  os : w'.os = w.os
  tape : w'.tape = w.tape
  output : w'.output = w.output
  size : w.heap.size ≤ w'.heap.size
  cell : w'.cell? ⟨b, 0, none⟩ = some (.string s')
  frozen : w'.frozen? ⟨b, 0, none⟩ = false
  block : ∀ k, k < w.heap.size → k ≠ b → w'.heap[k]? = w.heap[k]?
theorem Step.of_below {b : Nat} {w w' : World} {s : ByteArray} (h : Below w.heap.size w w') (hb : b < w.heap.size) (hc : w.cell? ⟨b, 0, none⟩ = some (.string s)) (hf : w.frozen? ⟨b, 0, none⟩ = false) : Step b w w' s :=
  ⟨h.os, h.tape, h.output, h.size, by rw [h.cell (p := ⟨b, 0, none⟩) hb]; exact hc, by rw [h.frozen (p := ⟨b, 0, none⟩) hb]; exact hf, fun k hk _ => h.block k hk⟩
theorem Step.of_set {b : Nat} {w w' : World} {s s' : ByteArray} (h : Below w.heap.size (w.setCell ⟨b, 0, none⟩ (.string s')) w') (hb : b < w.heap.size) (hc : w.cell? ⟨b, 0, none⟩ = some (.string s)) (hf : w.frozen? ⟨b, 0, none⟩ = false) : Step b w w' s' := by
  refine ⟨h.os, h.tape, h.output, by have := h.size; simpa [World.setCell] using this, ?_, ?_, fun k hk hne => ?_⟩
  · rw [h.cell (p := ⟨b, 0, none⟩) hb]; exact World.cell?_setCell_same' w _ _ (by rw [hc]; rfl)
  · rw [h.frozen (p := ⟨b, 0, none⟩) hb]; rw [← hf]; exact World.frozen?_setCell _ _ _ _
  · rw [h.block k hk]; exact Below.heap_setCell _ _ _ _ hne
/-- Behind a call that has turned the reader in block b alone, which the callers own blocks end below. -/
theorem Step.below {b B : Nat} {w w' : World} {s : ByteArray} (h : Step b w w' s) (hB : B ≤ b) (hB2 : B ≤ w.heap.size) : Below B w w' :=
  ⟨h.os, h.tape, h.output, h.size, fun k hk => h.block k (by omega) (by omega)⟩
end Go.Proofs.YtbfoiocbmhhdbaaGreat
/- What a reader's calls do to the world: small laws. -/
namespace Go.Proofs.YtbfoiocbmhhdbaaGreat
open Go.RowKit
set_option linter.unusedSimpArgs false
set_option linter.unusedVariables false
theorem al_ptr (w : World) (v : Value) (T : TypeId) : (w.alloc (.cells #[v] T)).cell? ⟨w.heap.size, 0, none⟩ = some v := by rw [World.cell?_alloc_new]; rfl
theorem al_cell {w : World} {b : Nat} {v : Value} (o : Obj) (hb : b < w.heap.size) (hc : w.cell? ⟨b, 0, none⟩ = some v) : (w.alloc o).cell? ⟨b, 0, none⟩ = some v := by rw [World.cell?_alloc_past _ _ _ hb]; exact hc
theorem al_frozen {w : World} {b : Nat} {v : Bool} (o : Obj) (hb : b < w.heap.size) (hc : w.frozen? ⟨b, 0, none⟩ = v) : (w.alloc o).frozen? ⟨b, 0, none⟩ = v := by
  rw [((Below.refl w.heap.size w).alloc (Nat.le_refl _) o).frozen (p := ⟨b, 0, none⟩) hb]; exact hc
/-- Behind the taker's box and its store. -/
theorem taken {w : World} {b : Nat} {s s' : ByteArray} (o : Obj) (hb : b < w.heap.size) (hc : w.cell? ⟨b, 0, none⟩ = some (.string s)) (hf : w.frozen? ⟨b, 0, none⟩ = false) :
    Step b w ((w.setCell ⟨b, 0, none⟩ (.string s')).alloc o).drew s' :=
  Step.of_set (((Below.refl _ _).alloc (by simp [World.setCell]) o).drew) hb hc hf
theorem untaken {w : World} {b : Nat} {s : ByteArray} (o : Obj) (hb : b < w.heap.size) (hc : w.cell? ⟨b, 0, none⟩ = some (.string s)) (hf : w.frozen? ⟨b, 0, none⟩ = false) :
    Step b w (w.alloc o) s := Step.of_below ((Below.refl _ _).alloc (Nat.le_refl _) _) hb hc hf
theorem still {w : World} {b : Nat} {s : ByteArray} (hb : b < w.heap.size) (hc : w.cell? ⟨b, 0, none⟩ = some (.string s)) (hf : w.frozen? ⟨b, 0, none⟩ = false) :
    Step b w w s := Step.of_below (Below.refl _ _) hb hc hf
end Go.Proofs.YtbfoiocbmhhdbaaGreat
