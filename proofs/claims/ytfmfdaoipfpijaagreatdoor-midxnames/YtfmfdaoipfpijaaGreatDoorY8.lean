import Derived.Test.YtfmfdaoipfpijaaGreatDoorY7
import Derived.Test.YtfmfdaoipfpijaaGreatDoorY5
import Derived.Test.YtfmfdaoipfpijaaGreatDoorY2
import Derived.Test.YtfmfdaoipfpijaaGreatDoorY3
import Derived.RegionTactic
import Derived.ChangeAlike
/- The iterators over the maps of a merger: maps.Keys, maps.Values. -/
namespace Go.Proofs.YtfmfdaoipfpijaaGreatDoor
open Go.RowKit Go.Maps
set_option linter.unusedSimpArgs false
set_option linter.unusedVariables false
theorem zero_mr15 : ∀ w, (zeroValue 28).run Tryz.prog w = .ok (.agg z67) w := fun w => by
  have e : Tryz.zeroCells28 = z67 := by kernel_rfl
  rw [← e]; exact Tryz.zeroValue28 w
/-- Names and rows of the right sizes. -/
abbrev Nf := { s : ByteArray // s.size = 32 }
abbrev Rf := { r : Mr // r.p.size = 32 ∧ r.e.id.size = 32 }
def kyN (x : Nf) : ByteArray := x.1
def elN (_ : Nf) : Value := .agg #[]
def eN (x : Nf) : Array Value := idc x.1
def kyR (r : Rf) : ByteArray := r.1.e.id
def eR (r : Rf) : Array Value := mrC r.1
def elR (r : Rf) : Value := .agg (eR r)
theorem eN_ok (x : Nf) : (eN x).size = 32 ∧ (eN x).all (·.oneCell') = true := ⟨by rw [eN, idc_size, x.2], idc_allX x.1⟩
theorem eR_ok (r : Rf) : (eR r).size = 67 ∧ (eR r).all (·.oneCell') = true := ⟨mrC_size r.1 r.2.1 r.2.2, mrC_all r.1⟩

/-! keys -/
theorem enter_itkeys : ∀ args u, (callFunc 70 args).run Tryz.prog u = .ok (.enter 70 args) u := fun args u => by kernel_rfl
set_option maxRecDepth 100000 in
set_option maxHeartbeats 2000000 in
/-- The iterator over a map: each thing once, in some order, whatever the rounds do. -/
theorem it_keys (n l Bm b : Nat) (d : List Nf) (J Jx : List Nf → World → Prop)
    (hY : ∀ pre x W, J pre W → pre.length < d.length → YieldAt Fence.wide (n - 1) Tryz.prog l #[.agg (eN x)] W fun e W' => (e = .returned (.bool true) ∧ J (pre ++ [x]) W' ∧ KeepsWalks W W') ∨ (e = .returned (.bool false) ∧ Jx (pre ++ [x]) W'))
    (W : World) (hJ : AbidesFrom W.heap.size J) (hJx : AbidesFrom W.heap.size Jx) (hm : W.cell? ⟨Bm, 0, none⟩ = some (.map (some b))) (hown : KvM kyN elN W b d) (h0 : J [] W) :
    CallsIn Fence.wide n Tryz.prog 70 #[.func (.yield l) #[] #[], .pointer (some ⟨Bm, 0, none⟩)] W fun e W' => (∃ v, e = .returned v) ∧ ((∃ xs, xs.Perm d ∧ J xs W') ∨ (∃ pre, True ∧ Jx pre W')) := by
  obtain ⟨D, hmp, hsz, h3, h4, h5⟩ := hown
  have hmp' : W.ownsMap Tryz.prog 24 hE b (Maps.size D) D := hmp
  have hz := zero_id
  have HSZ : Hid (Maps.size D = d.length) := hsz
  clear hsz
  refine callsIn_of_wp Tryz.func70 rfl trivial ?_ rfl
  simp only [Tryz.ntmps70, List.size_toArray, List.length_cons, List.length_nil, Nat.reduceAdd, Nat.reduceSub, Array.replicate_succ, Array.replicate_zero, List.push_toArray, List.append_toArray, List.nil_append, List.cons_append]
  gi_wp2_with (first
    | (gi_at_range; refine wpListIn_range_own _ rfl _ 50 rfl 24 72 idKey Tryz.underlying50 hE b _ D rfl hmp' ?_; intro w0 hrg0 hg0 hs0)
    | gi_in)
  go_frame
  gi_loopw [3] (fun _ wr => ∃ (left : Lit → Bool) (cnt : Nat) (ls : List Nf), wr.ranges Tryz.prog 24 hE b W.heap.size (Maps.size D) D left cnt ∧ ls.length + cnt ≤ Maps.size D ∧ CoK kyN d left ls ∧ J ls wr)
    (fun _ wr => wr.rangeLeft b W.heap.size)
  case atStart =>
    exact ⟨_, _, [], hrg0, by simp, ⟨List.Pairwise.nil, fun a h => (by cases h), fun a ha => ⟨fun h => (by cases h), fun h => (by rw [hAt_has (h3 a ha).2] at h; cases h)⟩⟩, hJ [] W w0 none h0 hg0 (fun r e => by cases e)⟩
  case round =>
    obtain ⟨left, cnt, ls, hrg, hcs, hC, hJs⟩ := hrel
    gi_wp2_with (first
      | (gi_at_next; refine wpListIn_next_ranges _ rfl _ rfl 24 idKey hE (fun v : Value => v) (fun v : Value => v) (fun key kl _ => ⟨key, rfl⟩) (fun v y _ => ⟨v, rfl⟩) b W.heap.size (Maps.size D) D left cnt rfl hrg ?_ ?_)
      | gi_in)
    · intro hc0 hl0
      gi_wp2
      go_end0
      exact ⟨⟨_, rfl⟩, .inl ⟨ls, hC.perm h5 hl0, hJs⟩⟩
    · intro x c kl yd yp w2 cnt2 hkey hlk hv hat hrg2 hlt hg2 hs2 hen
      have hhas : Maps.has D kl = true := has_true_of_atKey hat
      obtain ⟨a, ha, hka⟩ := h4 kl hhas
      have hxa : x = .agg (idc (kyN a)) := idKey.inj hkey (by rw [hka]; exact kI_key _ (h3 a ha).1)
      have hca : c = elN a := by
        have h6 := (h3 a ha).2
        rw [← hka] at h6
        unfold hAt at h6
        rw [if_pos hhas, hat, hE_inv hv] at h6
        exact Option.some.inj h6
      have hC2 : CoK kyN d (fun z => left z && !z.sameKey kl) (ls ++ [a]) := by
        rw [hka]
        exact hC.step h5 (fun a ha => (h3 a ha).1) ha (by rw [← hka]; exact hlk)
      have hJ2 : J ls w2 := hJ ls wr w2 (some W.heap.size) hJs hg2 (fun r e => by cases e; exact ⟨Nat.le_refl _, hrg.iter_walk⟩)
      obtain ⟨X, hX⟩ : ∃ X, eN a = X := ⟨_, rfl⟩
      obtain ⟨hX1, hX2⟩ := eN_ok a
      have hJ3 : J ls (w2.alloc (.cells X 24)) := hJ ls w2 _ none hJ2 (World.grownBy_alloc w2 _ none) (fun r e => by cases e)
      obtain ⟨fn, tmps, assign, body, hy, hR⟩ := hY ls a _ hJ3 (by have := HSZ.out; omega)
      have hkw : KeepsWalks w2 (w2.alloc (.cells X 24)) := KeepsWalks.alloc _ _
      have hbk : Bk (w2.alloc (.cells X 24)) w2.heap.size X 24 := bk_new _ _ _
      rw [hX] at hX1 hX2 hy
      have hIX : (Tryz.prog.info? 24).map (·.size) = some X.size := by rw [hX1]; kernel_rfl
      subst hxa
      subst hca
      have hX0 : Value.agg (idc (kyN a)) = .agg X := by rw [← hX]; rfl
      rw [hX0] at hen ⊢
      clear hX0 hkey hka hhas hat hlk hv
      clear hs2 hX
      gi_wp2_with (first
        | (refine wpListIn_rowNew rfl 24 (.tmp 3) (.tmp 9) rfl X _ 24 w2.heap.size rfl rfl rfl hIX (by rw [hX1]; rfl) hX2 ?_)
        | (refine wpListIn_rowGet rfl 24 (.tmp 3) rfl w2.heap.size 0 X X 24 _ rfl hbk (fun j v hv => by rw [Nat.zero_add]; exact hv) Tryz.underlying24 rfl hIX ?_)
        | gi_in)
      refine ⟨fun h => (by simp [Fence.wide] at h), hR.mono ?_⟩
      rintro e W3 (⟨rfl, hJ4, hk3⟩ | ⟨rfl, hx3⟩)
      · gi_wp2
        have hrg3 := hrg2.of_walks (hkw.trans hk3)
        go_roundw
        case rel => exact ⟨_, cnt2, ls ++ [a], hrg3, by rw [List.length_append, List.length_singleton]; omega, hC2, hJ4⟩
        case measure => rw [hrg3.left_eq, hrg.left_eq]; exact hlt
      · gi_wp2
        refine bodyPost_ret (results_none rfl _ _ _) rfl ?_
        exact ⟨⟨_, rfl⟩, .inr ⟨_, trivial, hx3⟩⟩
theorem stops_keys (n Bm b : Nat) (d : List Nf) (w : World) (hBm : Bm < w.heap.size) (hm : w.cell? ⟨Bm, 0, none⟩ = some (.map (some b))) (hown : KvM kyN elN w b d) :
    SeqStopsK Fence.wide n Tryz.prog 70 #[.pointer (some ⟨Bm, 0, none⟩)] (fun x : Nf => #[.agg (eN x)]) KeepsWalks (fun xs => xs.Perm d) (fun _ => True) d.length w := fun l J Jx W hW hJ hJx hY h0 =>
  it_keys n l Bm b d J Jx hY W hJ hJx ((hW.cell (p := ⟨Bm, 0, none⟩) hBm).trans hm) (hown.below hW) h0
set_option maxHeartbeats 1000000 in
/-- The call that makes it: the map is boxed. -/
theorem make_keys (mb : Option Nat) (w : World) : Calls Tryz.prog 32 #[.map mb] w fun e w' => e = .returned (.func (.func 70) #[] #[.pointer (some ⟨w.heap.size, 0, none⟩)]) ∧ w' = w.alloc (.cells #[.map mb] 50) := by
  go_enter Tryz.func32, Tryz.ntmps32
  go_wp2
  go_ret
  exact ⟨rfl, rfl⟩

/-! vals -/
theorem enter_itvals : ∀ args u, (callFunc 73 args).run Tryz.prog u = .ok (.enter 73 args) u := fun args u => by kernel_rfl
set_option maxRecDepth 100000 in
set_option maxHeartbeats 2000000 in
/-- The iterator over a map: each thing once, in some order, whatever the rounds do. -/
theorem it_vals (n l Bm b : Nat) (d : List Rf) (J Jx : List Rf → World → Prop)
    (hY : ∀ pre x W, J pre W → pre.length < d.length → YieldAt Fence.wide (n - 1) Tryz.prog l #[.agg (eR x)] W fun e W' => (e = .returned (.bool true) ∧ J (pre ++ [x]) W' ∧ KeepsWalks W W') ∨ (e = .returned (.bool false) ∧ Jx (pre ++ [x]) W'))
    (W : World) (hJ : AbidesFrom W.heap.size J) (hJx : AbidesFrom W.heap.size Jx) (hm : W.cell? ⟨Bm, 0, none⟩ = some (.map (some b))) (hown : KvM kyR elR W b d) (h0 : J [] W) :
    CallsIn Fence.wide n Tryz.prog 73 #[.func (.yield l) #[] #[], .pointer (some ⟨Bm, 0, none⟩)] W fun e W' => (∃ v, e = .returned v) ∧ ((∃ xs, xs.Perm d ∧ J xs W') ∨ (∃ pre, True ∧ Jx pre W')) := by
  obtain ⟨D, hmp, hsz, h3, h4, h5⟩ := hown
  have hmp' : W.ownsMap Tryz.prog 24 hE b (Maps.size D) D := hmp
  have hz := zero_mr15
  have HSZ : Hid (Maps.size D = d.length) := hsz
  clear hsz
  refine callsIn_of_wp Tryz.func73 rfl trivial ?_ rfl
  simp only [Tryz.ntmps73, List.size_toArray, List.length_cons, List.length_nil, Nat.reduceAdd, Nat.reduceSub, Array.replicate_succ, Array.replicate_zero, List.push_toArray, List.append_toArray, List.nil_append, List.cons_append]
  gi_wp2_with (first
    | (gi_at_range; refine wpListIn_range_own _ rfl _ 51 rfl 24 28 idKey Tryz.underlying51 hE b _ D rfl hmp' ?_; intro w0 hrg0 hg0 hs0)
    | gi_in)
  go_frame
  gi_loopw [4] (fun _ wr => ∃ (left : Lit → Bool) (cnt : Nat) (ls : List Rf), wr.ranges Tryz.prog 24 hE b W.heap.size (Maps.size D) D left cnt ∧ ls.length + cnt ≤ Maps.size D ∧ CoK kyR d left ls ∧ J ls wr)
    (fun _ wr => wr.rangeLeft b W.heap.size)
  case atStart =>
    exact ⟨_, _, [], hrg0, by simp, ⟨List.Pairwise.nil, fun a h => (by cases h), fun a ha => ⟨fun h => (by cases h), fun h => (by rw [hAt_has (h3 a ha).2] at h; cases h)⟩⟩, hJ [] W w0 none h0 hg0 (fun r e => by cases e)⟩
  case round =>
    obtain ⟨left, cnt, ls, hrg, hcs, hC, hJs⟩ := hrel
    gi_wp2_with (first
      | (gi_at_next; refine wpListIn_next_ranges _ rfl _ rfl 24 idKey hE (fun v : Value => v) (fun v : Value => v) (fun key kl _ => ⟨key, rfl⟩) (fun v y _ => ⟨v, rfl⟩) b W.heap.size (Maps.size D) D left cnt rfl hrg ?_ ?_)
      | gi_in)
    · intro hc0 hl0
      gi_wp2
      go_end0
      exact ⟨⟨_, rfl⟩, .inl ⟨ls, hC.perm h5 hl0, hJs⟩⟩
    · intro x c kl yd yp w2 cnt2 hkey hlk hv hat hrg2 hlt hg2 hs2 hen
      have hhas : Maps.has D kl = true := has_true_of_atKey hat
      obtain ⟨a, ha, hka⟩ := h4 kl hhas
      have hxa : x = .agg (idc (kyR a)) := idKey.inj hkey (by rw [hka]; exact kI_key _ (h3 a ha).1)
      have hca : c = elR a := by
        have h6 := (h3 a ha).2
        rw [← hka] at h6
        unfold hAt at h6
        rw [if_pos hhas, hat, hE_inv hv] at h6
        exact Option.some.inj h6
      have hC2 : CoK kyR d (fun z => left z && !z.sameKey kl) (ls ++ [a]) := by
        rw [hka]
        exact hC.step h5 (fun a ha => (h3 a ha).1) ha (by rw [← hka]; exact hlk)
      have hJ2 : J ls w2 := hJ ls wr w2 (some W.heap.size) hJs hg2 (fun r e => by cases e; exact ⟨Nat.le_refl _, hrg.iter_walk⟩)
      obtain ⟨X, hX⟩ : ∃ X, eR a = X := ⟨_, rfl⟩
      obtain ⟨hX1, hX2⟩ := eR_ok a
      have hJ3 : J ls (w2.alloc (.cells X 28)) := hJ ls w2 _ none hJ2 (World.grownBy_alloc w2 _ none) (fun r e => by cases e)
      obtain ⟨fn, tmps, assign, body, hy, hR⟩ := hY ls a _ hJ3 (by have := HSZ.out; omega)
      have hkw : KeepsWalks w2 (w2.alloc (.cells X 28)) := KeepsWalks.alloc _ _
      have hbk : Bk (w2.alloc (.cells X 28)) w2.heap.size X 28 := bk_new _ _ _
      rw [hX] at hX1 hX2 hy
      have hIX : (Tryz.prog.info? 28).map (·.size) = some X.size := by rw [hX1]; kernel_rfl
      subst hxa
      subst hca
      have hX0 : elR a = .agg X := by rw [← hX]; rfl
      rw [hX0] at hen ⊢
      clear hX0 hkey hka hhas hat hlk hv
      clear hs2 hX
      gi_wp2_with (first
        | (refine wpListIn_rowNew rfl 28 (.tmp 4) (.tmp 10) rfl X _ 28 w2.heap.size rfl rfl rfl hIX (by rw [hX1]; rfl) hX2 ?_)
        | (refine wpListIn_rowGet rfl 28 (.tmp 4) rfl w2.heap.size 0 X X 28 _ rfl hbk (fun j v hv => by rw [Nat.zero_add]; exact hv) Tryz.underlying28 rfl hIX ?_)
        | gi_in)
      refine ⟨fun h => (by simp [Fence.wide] at h), hR.mono ?_⟩
      rintro e W3 (⟨rfl, hJ4, hk3⟩ | ⟨rfl, hx3⟩)
      · gi_wp2
        have hrg3 := hrg2.of_walks (hkw.trans hk3)
        go_roundw
        case rel => exact ⟨_, cnt2, ls ++ [a], hrg3, by rw [List.length_append, List.length_singleton]; omega, hC2, hJ4⟩
        case measure => rw [hrg3.left_eq, hrg.left_eq]; exact hlt
      · gi_wp2
        refine bodyPost_ret (results_none rfl _ _ _) rfl ?_
        exact ⟨⟨_, rfl⟩, .inr ⟨_, trivial, hx3⟩⟩
theorem stops_vals (n Bm b : Nat) (d : List Rf) (w : World) (hBm : Bm < w.heap.size) (hm : w.cell? ⟨Bm, 0, none⟩ = some (.map (some b))) (hown : KvM kyR elR w b d) :
    SeqStopsK Fence.wide n Tryz.prog 73 #[.pointer (some ⟨Bm, 0, none⟩)] (fun x : Rf => #[.agg (eR x)]) KeepsWalks (fun xs => xs.Perm d) (fun _ => True) d.length w := fun l J Jx W hW hJ hJx hY h0 =>
  it_vals n l Bm b d J Jx hY W hJ hJx ((hW.cell (p := ⟨Bm, 0, none⟩) hBm).trans hm) (hown.below hW) h0
set_option maxHeartbeats 1000000 in
/-- The call that makes it: the map is boxed. -/
theorem make_vals (mb : Option Nat) (w : World) : Calls Tryz.prog 34 #[.map mb] w fun e w' => e = .returned (.func (.func 73) #[] #[.pointer (some ⟨w.heap.size, 0, none⟩)]) ∧ w' = w.alloc (.cells #[.map mb] 51) := by
  go_enter Tryz.func34, Tryz.ntmps34
  go_wp2
  go_ret
  exact ⟨rfl, rfl⟩
end Go.Proofs.YtfmfdaoipfpijaaGreatDoor
/- Operations that build something or append, by their run's equation; no program named. -/
namespace Go.Proofs.YtfmfdaoipfpijaaGreatDoor
open Go.RowKit
set_option linter.unusedSimpArgs false
set_option linter.unusedVariables false
theorem wpList_bdX2 {P : Program} {ops : Array Oper} {rest : List Oper} {o : Oper} {a : Act} {w : World} {Q : Exit → Act → World → Prop} (hgd : o.guard = none) (t : TypeId) (i j : Nat) (x0 x1 : Operand)
    (ho : o.op = .build t #[(i, x0), (j, x1)]) (v0 v1 r : Value) (h0 : a.eval x0 = v0) (h1 : a.eval x1 = v1) (hr : (Instr.build t #[(i, v0), (j, v1)]).run P w = .ok r w)
    (h : wpList P ops Q rest (a.put o.dst r) w) : wpList P ops Q (o :: rest) a w := by
  refine wpList_plain hgd fun K hK => ?_
  unfold Oper.wp execOp
  simp only [ho, Sem.run_bind, Sem.run_pure, Result.andThen_ok, List.map_toArray, List.map_cons, List.map_nil, h0, h1, hr]
  exact hK _ _ h
theorem wpList_bdX1 {P : Program} {ops : Array Oper} {rest : List Oper} {o : Oper} {a : Act} {w : World} {Q : Exit → Act → World → Prop} (hgd : o.guard = none) (t : TypeId) (i : Nat) (x0 : Operand)
    (ho : o.op = .build t #[(i, x0)]) (v0 r : Value) (h0 : a.eval x0 = v0) (hr : (Instr.build t #[(i, v0)]).run P w = .ok r w)
    (h : wpList P ops Q rest (a.put o.dst r) w) : wpList P ops Q (o :: rest) a w := by
  refine wpList_plain hgd fun K hK => ?_
  unfold Oper.wp execOp
  simp only [ho, Sem.run_bind, Sem.run_pure, Result.andThen_ok, List.map_toArray, List.map_cons, List.map_nil, h0, hr]
  exact hK _ _ h
theorem wpList_bdX0 {P : Program} {ops : Array Oper} {rest : List Oper} {o : Oper} {a : Act} {w : World} {Q : Exit → Act → World → Prop} (hgd : o.guard = none) (t : TypeId)
    (ho : o.op = .build t #[]) (r : Value) (hr : (Instr.build t #[]).run P w = .ok r w)
    (h : wpList P ops Q rest (a.put o.dst r) w) : wpList P ops Q (o :: rest) a w := by
  refine wpList_plain hgd fun K hK => ?_
  unfold Oper.wp execOp
  simp only [ho, Sem.run_bind, Sem.run_pure, Result.andThen_ok, List.map_toArray, List.map_nil, hr]
  exact hK _ _ h
theorem wpList_bdX4 {P : Program} {ops : Array Oper} {rest : List Oper} {o : Oper} {a : Act} {w : World} {Q : Exit → Act → World → Prop} (hgd : o.guard = none) (t : TypeId) (x0 x1 x2 x3 : Operand)
    (ho : o.op = .build t #[(0, x0), (1, x1), (2, x2), (3, x3)]) (v0 v1 v2 v3 r : Value) (h0 : a.eval x0 = v0) (h1 : a.eval x1 = v1) (h2 : a.eval x2 = v2) (h3 : a.eval x3 = v3) (hr : (Instr.build t #[(0, v0), (1, v1), (2, v2), (3, v3)]).run P w = .ok r w)
    (h : wpList P ops Q rest (a.put o.dst r) w) : wpList P ops Q (o :: rest) a w := by
  refine wpList_plain hgd fun K hK => ?_
  unfold Oper.wp execOp
  simp only [ho, Sem.run_bind, Sem.run_pure, Result.andThen_ok, List.map_toArray, List.map_cons, List.map_nil, h0, h1, h2, h3, hr]
  exact hK _ _ h
theorem wpList_bsX {P : Program} {ops : Array Oper} {rest : List Oper} {o : Oper} {a : Act} {w : World} {Q : Exit → Act → World → Prop} (hgd : o.guard = none) (t : TypeId) (x : Operand)
    (ho : o.op = .buildSlice t 1 #[(0, x)]) (v r : Value) (w' : World) (hx : a.eval x = v) (hr : (Instr.buildSlice t 1 #[(0, v)]).run P w = .ok r w')
    (h : wpList P ops Q rest (a.put o.dst r) w') : wpList P ops Q (o :: rest) a w := by
  refine wpList_plain hgd fun K hK => ?_
  unfold Oper.wp execOp
  simp only [ho, Sem.run_bind, Sem.run_pure, Result.andThen_ok, List.map_toArray, List.map_cons, List.map_nil, hx, hr]
  exact hK _ _ h
theorem wpList_appX {P : Program} {ops : Array Oper} {rest : List Oper} {o : Oper} {a : Act} {w : World} {Q : Exit → Act → World → Prop} (hgd : o.guard = none) (sl x : Operand) (t u : TypeId)
    (ho : o.op = .call { callee := .builtin .append, args := #[sl, x], argTypes := #[t, u] }) (v y v' : Value) (w' : World) (hs : a.eval sl = v) (hx : a.eval x = y) (hr : (Builtin.append_ #[t, u] o.type #[v, y]).run P w = .ok v' w')
    (h : wpList P ops Q rest (a.put o.dst v') w') : wpList P ops Q (o :: rest) a w := by
  refine wpList_plain hgd fun K hK => ?_
  unfold Oper.wp execOp
  simp only [ho, resolve, invoke, builtin, Sem.run_bind, Sem.run_pure, Result.andThen_ok, List.map_toArray, List.map_cons, List.map_nil, hs, hx, hr]
  exact hK _ _ h
theorem wpList_copyX {P : Program} {ops : Array Oper} {rest : List Oper} {o : Oper} {a : Act} {w : World} {Q : Exit → Act → World → Prop} (hgd : o.guard = none) (sl x : Operand) (t u : TypeId)
    (ho : o.op = .call { callee := .builtin .copy, args := #[sl, x], argTypes := #[t, u] }) (v y v' : Value) (w' : World) (hs : a.eval sl = v) (hx : a.eval x = y) (hr : (Builtin.copy_ #[t, u] o.type #[v, y]).run P w = .ok v' w')
    (h : wpList P ops Q rest (a.put o.dst v') w') : wpList P ops Q (o :: rest) a w := by
  refine wpList_plain hgd fun K hK => ?_
  unfold Oper.wp execOp
  simp only [ho, resolve, invoke, builtin, Sem.run_bind, Sem.run_pure, Result.andThen_ok, List.map_toArray, List.map_cons, List.map_nil, hs, hx, hr]
  exact hK _ _ h
/-- A whole row stored. -/
theorem wpList_stoX {P : Program} {ops : Array Oper} {rest : List Oper} {o : Oper} {a : Act} {w : World} {Q : Exit → Act → World → Prop} (hgd : o.guard = none) (ty : TypeId) (x y : Operand) (ho : o.op = .store ty x y)
    (g : Nat) (cells old : Array Value) (t : TypeId) (hx : a.eval x = .pointer (some ⟨g, 0, none⟩)) (hy : a.eval y = .agg cells) (hg : Bk w g old t) (hi : (P.info? ty).map (·.size) = some cells.size)
    (hold : old.size = cells.size) (h1 : cells.all (·.oneCell') = true) (h : ∀ w', Hid (Bk w' g cells t) → Hid (w.grownBy w' (some g)) → wpList P ops Q rest (a.put o.dst undef) w') : wpList P ops Q (o :: rest) a w := by
  refine wpList_store_row hgd ty x y ho g cells hx hy t old hg hi hold h1 (h _ (setRow_heap _ _ _ _ _ _ hg) ?_)
  refine ⟨rfl, rfl, rfl, by simp [World.setRow], fun k hk hne => ?_⟩
  have : g ≠ k := fun e => hne (by rw [e])
  simp [World.setRow, Array.getElem?_modify, this]
end Go.Proofs.YtfmfdaoipfpijaaGreatDoor
/- The walks of wire.New and of the closure through which all is taken. -/
namespace Go.Proofs.YtfmfdaoipfpijaaGreatDoor
open Go.RowKit
set_option linter.unusedSimpArgs false
set_option linter.unusedVariables false
set_option maxHeartbeats 400000 in
theorem new_any (s : ByteArray) (w : World) :
    Calls Tryz.prog 43 #[.string s] w fun e w' => e = .returned (.pointer (some ⟨w.heap.size, 0, none⟩)) ∧ w' = w.alloc (.cells #[.string s] 140) := by
  go_enter Tryz.func43, Tryz.ntmps43
  go_wp2
  go_ret
  exact ⟨rfl, rfl⟩
set_option maxHeartbeats 400000 in
theorem taker_any (o : Option Addr) (w : World) :
    Calls Tryz.prog 78 #[.pointer o] w fun e w' => e = .returned (.func (Fn.func 95) #[] #[.pointer (some ⟨w.heap.size, 0, none⟩)]) ∧ w' = w.alloc (.cells #[.pointer o] 100) := by
  go_enter Tryz.func78, Tryz.ntmps78
  go_wp2
  go_ret
  exact ⟨rfl, rfl⟩
set_option maxHeartbeats 400000 in
theorem take1_no (s : ByteArray) (b c : Nat) (h n : Nat) (w : World) (hs : s.size ≤ maxLen) (hp : w.cell? ⟨c, 0, none⟩ = some (.pointer (some ⟨b, 0, none⟩))) (hc : w.cell? ⟨b, 0, none⟩ = some (.string s))
    (hh : h ≤ s.size) (hn : s.size - h < n) :
    Calls Tryz.prog 95 #[.int .i64 h, .int .u64 n, .pointer (some ⟨c, 0, none⟩)] w fun e w' => e = .returned (.tuple #[.string ⟨#[]⟩, .int .i64 4]) ∧ w' = w := by
  unfold maxLen at hs
  go_enter Tryz.func95, Tryz.ntmps95
  go_wp2
  go_ret2
  exact ⟨rfl, rfl⟩
set_option maxHeartbeats 400000 in
theorem take1_ok (s : ByteArray) (b c : Nat) (h n : Nat) (w : World) (hs : s.size ≤ maxLen) (hp : w.cell? ⟨c, 0, none⟩ = some (.pointer (some ⟨b, 0, none⟩))) (hc : w.cell? ⟨b, 0, none⟩ = some (.string s)) (hf : w.frozen? ⟨b, 0, none⟩ = false)
    (hh : h + n ≤ s.size) :
    Calls Tryz.prog 95 #[.int .i64 h, .int .u64 n, .pointer (some ⟨c, 0, none⟩)] w fun e w' => e = .returned (.tuple #[.string (s.extract h (h + n)), .int .i64 0]) ∧ w' = (w.setCell ⟨b, 0, none⟩ (.string (s.extract (h + n) s.size))).drew := by
  unfold maxLen at hs
  go_enter Tryz.func95, Tryz.ntmps95
  go_wp2
  go_region
  go_wp2
  go_ret2
  exact ⟨rfl, rfl⟩
/-- A call that turns the reader in block b alone: it holds s' now; whatever else was there is as it was. -/
structure Step (b : Nat) (w w' : World) (s' : ByteArray) : Prop where
  os : w'.os = w.os
  tape : w'.tape = w.tape
  output : w'.output = w.output
  size : w.heap.size ≤ w'.heap.size
  cell : w'.cell? ⟨b, 0, none⟩ = some (.string s')
  frozen : w'.frozen? ⟨b, 0, none⟩ = false
  block : ∀ k, k < w.heap.size → k ≠ b → w'.heap[k]? = w.heap[k]?
theorem Step.of_below {b : Nat} {w w' : World} {s : ByteArray} (h : Below w.heap.size w w') (hb : b < w.heap.size) (hc : w.cell? ⟨b, 0, none⟩ = some (.string s)) (hf : w.frozen? ⟨b, 0, none⟩ = false) : Step b w w' s :=
  ⟨h.os, h.tape, h.output, h.size, by rw [h.cell (p := ⟨b, 0, none⟩) hb]; exact hc, by rw [h.frozen (p := ⟨b, 0, none⟩) hb]; exact hf, fun k hk _ => h.block k hk⟩
theorem Step.of_set {b : Nat} {w w' : World} {s s' : ByteArray} (h : Below w.heap.size (w.setCell ⟨b, 0, none⟩ (.string s')) w') (hb : b < w.heap.size) (hc : w.cell? ⟨b, 0, none⟩ = some (.string s)) (hf : w.frozen? ⟨b, 0, none⟩ = false) : Step b w w' s' := by
  refine ⟨h.os, h.tape, h.output, by have := h.size; simpa [World.setCell] using this, ?_, ?_, fun k hk hne => ?_⟩
  · rw [h.cell (p := ⟨b, 0, none⟩) hb]; exact World.cell?_setCell_same' w _ _ (by rw [hc]; rfl)
  · rw [h.frozen (p := ⟨b, 0, none⟩) hb]; rw [← hf]; exact World.frozen?_setCell _ _ _ _
  · rw [h.block k hk]; exact Below.heap_setCell _ _ _ _ hne
/-- Behind a call that has turned the reader in block b alone, which the callers own blocks end below. -/
theorem Step.below {b B : Nat} {w w' : World} {s : ByteArray} (h : Step b w w' s) (hB : B ≤ b) (hB2 : B ≤ w.heap.size) : Below B w w' :=
  ⟨h.os, h.tape, h.output, h.size, fun k hk => h.block k (by omega) (by omega)⟩
end Go.Proofs.YtfmfdaoipfpijaaGreatDoor
/- What a reader's calls do to the world: small laws. -/
namespace Go.Proofs.YtfmfdaoipfpijaaGreatDoor
open Go.RowKit
set_option linter.unusedSimpArgs false
set_option linter.unusedVariables false
theorem al_ptr (w : World) (v : Value) (T : TypeId) : (w.alloc (.cells #[v] T)).cell? ⟨w.heap.size, 0, none⟩ = some v := by rw [World.cell?_alloc_new]; rfl
theorem al_cell {w : World} {b : Nat} {v : Value} (o : Obj) (hb : b < w.heap.size) (hc : w.cell? ⟨b, 0, none⟩ = some v) : (w.alloc o).cell? ⟨b, 0, none⟩ = some v := by rw [World.cell?_alloc_past _ _ _ hb]; exact hc
theorem al_frozen {w : World} {b : Nat} {v : Bool} (o : Obj) (hb : b < w.heap.size) (hc : w.frozen? ⟨b, 0, none⟩ = v) : (w.alloc o).frozen? ⟨b, 0, none⟩ = v := by
  rw [((Below.refl w.heap.size w).alloc (Nat.le_refl _) o).frozen (p := ⟨b, 0, none⟩) hb]; exact hc
/-- Behind the taker's box and its store. -/
theorem taken {w : World} {b : Nat} {s s' : ByteArray} (o : Obj) (hb : b < w.heap.size) (hc : w.cell? ⟨b, 0, none⟩ = some (.string s)) (hf : w.frozen? ⟨b, 0, none⟩ = false) :
    Step b w ((w.setCell ⟨b, 0, none⟩ (.string s')).alloc o).drew s' :=
  Step.of_set (((Below.refl _ _).alloc (by simp [World.setCell]) o).drew) hb hc hf
theorem untaken {w : World} {b : Nat} {s : ByteArray} (o : Obj) (hb : b < w.heap.size) (hc : w.cell? ⟨b, 0, none⟩ = some (.string s)) (hf : w.frozen? ⟨b, 0, none⟩ = false) :
    Step b w (w.alloc o) s := Step.of_below ((Below.refl _ _).alloc (Nat.le_refl _) _) hb hc hf
theorem still {w : World} {b : Nat} {s : ByteArray} (hb : b < w.heap.size) (hc : w.cell? ⟨b, 0, none⟩ = some (.string s)) (hf : w.frozen? ⟨b, 0, none⟩ = false) :
    Step b w w s := Step.of_below (Below.refl _ _) hb hc hf
end Go.Proofs.YtfmfdaoipfpijaaGreatDoor
/- The walks of a reader's Take. -/
namespace Go.Proofs.YtfmfdaoipfpijaaGreatDoor
open Go.RowKit
set_option linter.unusedSimpArgs false
set_option linter.unusedVariables false
set_option maxHeartbeats 400000 in
theorem take_arg (s : ByteArray) (b : Nat) (w : World) (hs : s.size ≤ maxLen) (hc : w.cell? ⟨b, 0, none⟩ = some (.string s)) (hf : w.frozen? ⟨b, 0, none⟩ = false) (hb : b < w.heap.size) (n : Int) (hn : n < 0) :
    Calls Tryz.prog 44 #[.pointer (some ⟨b, 0, none⟩), .int .i64 n] w fun e w' => e = .returned (.tuple #[.string ⟨#[]⟩, .int .i64 1]) ∧ Step b w w' s := by
  have HS := still hb hc hf
  go_enter Tryz.func44, Tryz.ntmps44
  go_wp2
  go_ret2
  exact ⟨rfl, HS⟩
set_option maxHeartbeats 400000 in
theorem take_no (s : ByteArray) (b : Nat) (w : World) (hs : s.size ≤ maxLen) (hc : w.cell? ⟨b, 0, none⟩ = some (.string s)) (hf : w.frozen? ⟨b, 0, none⟩ = false) (hb : b < w.heap.size) (n : Nat) (hn : s.size < n) (hn2 : n ≤ 9223372036854775807) :
    Calls Tryz.prog 44 #[.pointer (some ⟨b, 0, none⟩), .int .i64 n] w fun e w' => e = .returned (.tuple #[.string ⟨#[]⟩, .int .i64 4]) ∧ Step b w w' s := by
  have hs' := hs
  unfold maxLen at hs'
  go_enter Tryz.func44, Tryz.ntmps44
  go_wp2_with fail
  refine (taker_any _ _).mono ?_
  rintro e w1 ⟨rfl, rfl⟩
  go_wp2_with fail
  refine (take1_no s b w.heap.size 0 n _ hs (al_ptr _ _ _) (al_cell _ hb hc) (by omega) (by omega)).mono ?_
  rintro e w1 ⟨rfl, rfl⟩
  go_wp2
  go_ret2
  exact ⟨rfl, untaken _ hb hc hf⟩
set_option maxHeartbeats 400000 in
theorem take_ok (s : ByteArray) (b : Nat) (w : World) (hs : s.size ≤ maxLen) (hc : w.cell? ⟨b, 0, none⟩ = some (.string s)) (hf : w.frozen? ⟨b, 0, none⟩ = false) (hb : b < w.heap.size) (n : Nat) (hn : n ≤ s.size) :
    Calls Tryz.prog 44 #[.pointer (some ⟨b, 0, none⟩), .int .i64 n] w fun e w' => e = .returned (.tuple #[.string (s.extract 0 n), .int .i64 0]) ∧ Step b w w' (s.extract n s.size) := by
  have hs' := hs
  unfold maxLen at hs'
  go_enter Tryz.func44, Tryz.ntmps44
  go_wp2_with fail
  refine (taker_any _ _).mono ?_
  rintro e w1 ⟨rfl, rfl⟩
  go_wp2_with fail
  refine (take1_ok s b w.heap.size 0 n _ hs (al_ptr _ _ _) (al_cell _ hb hc) (al_frozen _ hb hf) (by omega)).mono ?_
  rintro e w1 ⟨rfl, rfl⟩
  rw [Nat.zero_add]
  go_wp2
  go_ret2
  exact ⟨rfl, taken _ hb hc hf⟩
set_option maxHeartbeats 400000 in
theorem take_nil (w : World) (n : Int) :
    Calls Tryz.prog 44 #[.pointer none, .int .i64 n] w fun e w' => e = .returned (.tuple #[.string ⟨#[]⟩, .int .i64 2]) ∧ w' = w := by
  go_enter Tryz.func44, Tryz.ntmps44
  go_wp2
  go_ret2
  exact ⟨rfl, rfl⟩
end Go.Proofs.YtfmfdaoipfpijaaGreatDoor
/- The walk of a reader's Fixed. -/
namespace Go.Proofs.YtfmfdaoipfpijaaGreatDoor
open Go.RowKit
set_option linter.unusedSimpArgs false
set_option linter.unusedVariables false
theorem ret_ue {a b : Nat} {k l : IntKind} {c : Int} (h : a = b) : Ending.returned (.tuple #[.int k a, .int l c]) = .returned (.tuple #[.int k b, .int l c]) := by rw [h]
set_option maxHeartbeats 400000 in
theorem fixed_nil (w : World) (m : Int) :
    Calls Tryz.prog 45 #[.pointer none, .int .i64 m] w fun e w' => e = .returned (.tuple #[.int .u64 0, .int .i64 2]) ∧ w' = w := by
  go_enter Tryz.func45, Tryz.ntmps45
  go_wp2
  go_ret2
  exact ⟨rfl, rfl⟩
set_option maxHeartbeats 400000 in
theorem fixed_arg (s : ByteArray) (b : Nat) (w : World) (hs : s.size ≤ maxLen) (hc : w.cell? ⟨b, 0, none⟩ = some (.string s)) (hf : w.frozen? ⟨b, 0, none⟩ = false) (hb : b < w.heap.size) (m : Int) (hm : isW m = false) :
    Calls Tryz.prog 45 #[.pointer (some ⟨b, 0, none⟩), .int .i64 m] w fun e w' => e = .returned (.tuple #[.int .u64 0, .int .i64 1]) ∧ Step b w w' s := by
  have HS := still hb hc hf
  go_enter Tryz.func45, Tryz.ntmps45
  go_wp2_with (go_at_call 76; refine (isWidth_any _ _).mono ?_; rintro e w' ⟨rfl, rfl⟩; rw [hm])
  go_ret2
  exact ⟨rfl, HS⟩
set_option maxHeartbeats 400000 in
theorem fixed_no (s : ByteArray) (b : Nat) (w : World) (hs : s.size ≤ maxLen) (hc : w.cell? ⟨b, 0, none⟩ = some (.string s)) (hf : w.frozen? ⟨b, 0, none⟩ = false) (hb : b < w.heap.size) (d : Nat) (hd1 : 1 ≤ d) (hd2 : d ≤ 8) (hl : s.size < d) :
    Calls Tryz.prog 45 #[.pointer (some ⟨b, 0, none⟩), .int .i64 d] w fun e w' => e = .returned (.tuple #[.int .u64 0, .int .i64 4]) ∧ Step b w w' s := by
  have hiw : isW (d : Int) = true := isW_yes (by omega) (by omega)
  go_enter Tryz.func45, Tryz.ntmps45
  go_wp2_with (go_at_call 76; refine (isWidth_any _ _).mono ?_; rintro e w' ⟨rfl, rfl⟩; rw [hiw])
  refine (taker_any _ _).mono ?_
  rintro e w1 ⟨rfl, rfl⟩
  go_wp2_with fail
  refine (take1_no s b w'.heap.size 0 d _ hs (al_ptr _ _ _) (al_cell _ hb hc) (by omega) (by omega)).mono ?_
  rintro e w1 ⟨rfl, rfl⟩
  go_wp2
  refine wp_loop_rounds 1 ?_
  rw [rounds_succ]
  go_wp2
  go_ret2
  exact ⟨rfl, untaken _ hb hc hf⟩
set_option maxHeartbeats 400000 in
theorem fixed_ok (s : ByteArray) (b : Nat) (w : World) (hs : s.size ≤ maxLen) (hc : w.cell? ⟨b, 0, none⟩ = some (.string s)) (hf : w.frozen? ⟨b, 0, none⟩ = false) (hb : b < w.heap.size) (d : Nat) (hd1 : 1 ≤ d) (hd2 : d ≤ 8) (hl : d ≤ s.size) :
    Calls Tryz.prog 45 #[.pointer (some ⟨b, 0, none⟩), .int .i64 d] w fun e w' => e = .returned (.tuple #[.int .u64 (fixV ((bl s).take d)), .int .i64 0]) ∧ Step b w w' (s.extract d s.size) := by
  have hiw : isW (d : Int) = true := isW_yes (by omega) (by omega)
  obtain ⟨t, ht⟩ : ∃ t, t = s.extract 0 d := ⟨_, rfl⟩
  have htz : t.size = d := by subst ht; simp; omega
  have HT : Hid (bl t = (bl s).take d) := by subst ht; exact extract_take s d hl
  go_enter Tryz.func45, Tryz.ntmps45
  go_wp2_with (go_at_call 76; refine (isWidth_any _ _).mono ?_; rintro e w' ⟨rfl, rfl⟩; rw [hiw])
  refine (taker_any _ _).mono ?_
  rintro e w1 ⟨rfl, rfl⟩
  go_wp2_with fail
  refine (take1_ok s b w'.heap.size 0 d _ hs (al_ptr _ _ _) (al_cell _ hb hc) (al_frozen _ hb hf) (by omega)).mono ?_
  rintro e w1 ⟨rfl, rfl⟩
  rw [Nat.zero_add, ← ht]
  clear ht
  have HW : Hid (Step b w' ((w'.setCell ⟨b, 0, none⟩ (.string (s.extract d s.size))).alloc (.cells #[.pointer (some ⟨b, 0, none⟩)] 100)).drew (s.extract d s.size)) := taken _ hb hc hf
  go_wp2
  go_loop [8, 25] (fun v i => ∃ (k acc : Nat), k ≤ d ∧ acc < 2 ^ 64 ∧ i = .int .i64 k ∧ v = .int .u64 acc ∧ Hid (acc = fixV ((bl t).take k))) (fun _ i => 10 - (intOf i).toNat)
  case atStart => exact ⟨0, 0, by omega, by omega, rfl, rfl, rfl⟩
  case round =>
    obtain ⟨k, acc, hk1, hacc, rfl, rfl, HR⟩ := hrel
    by_cases hlt : k < d
    · have hkt : k < t.size := by omega
      go_wp2
      go_round
      case rel =>
        have hlt256 := t[k].toNat_lt
        have hl : acc < 256 ^ k := by
          have := fixV_lt ((bl t).take k)
          rw [← HR.out, List.length_take, bl_length, htz, Nat.min_eq_left (by omega)] at this
          exact this
        obtain ⟨e1, e2⟩ := fixStep acc t[k].toNat k hlt256 (by omega) hl
        refine ⟨k + 1, _, by omega, e2, by go_num, ?_, ?_⟩
        · rw [← e1, show IntKind.u64.wrap (t[k].toNat : Int) = t[k].toNat from by rw [IntKind.wrap_u64]; omega]
        · rw [take_snoc t k hkt, fixV_snoc, ← HR.out]; rfl
      case measure => simp [intOf]; omega
    · go_wp2
      go_ret2
      refine ⟨ret_ue ?_, HW.out⟩
      have e : k = d := by omega
      rw [HR.out, HT.out, List.take_take, e, Nat.min_self]
end Go.Proofs.YtfmfdaoipfpijaaGreatDoor
/- wire.Reader.Left. -/
namespace Go.Proofs.YtfmfdaoipfpijaaGreatDoor
open Go.RowKit
set_option linter.unusedSimpArgs false
set_option linter.unusedVariables false
set_option maxHeartbeats 400000 in
theorem left_any (s : ByteArray) (b : Nat) (w : World) (hs : s.size ≤ maxLen) (hc : w.cell? ⟨b, 0, none⟩ = some (.string s)) :
    Calls Tryz.prog 46 #[.pointer (some ⟨b, 0, none⟩)] w fun e w' => e = .returned (.int .i64 s.size) ∧ w' = w := by
  unfold maxLen at hs
  go_enter Tryz.func46, Tryz.ntmps46
  go_wp2
  go_ret
  exact ⟨rfl, rfl⟩
set_option maxHeartbeats 400000 in
theorem left_nil (w : World) : Calls Tryz.prog 46 #[.pointer none] w fun e w' => e = .returned (.int .i64 0) ∧ w' = w := by
  go_enter Tryz.func46, Tryz.ntmps46
  go_wp2
  go_ret
  exact ⟨rfl, rfl⟩
end Go.Proofs.YtfmfdaoipfpijaaGreatDoor
