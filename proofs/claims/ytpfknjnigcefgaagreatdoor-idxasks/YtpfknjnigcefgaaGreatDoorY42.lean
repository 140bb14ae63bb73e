import Derived.OrdersHeld
import Derived.Test.YtpfknjnigcefgaaGreatDoorY20
import Derived.Test.YtpfknjnigcefgaaGreatDoorY41
import Derived.Deep.Cut
import Derived.Test.YtpfknjnigcefgaaGreatDoorY34
/- A region that draws its order: two loads, two stores of what was loaded, an assignment: 'return a, b, 0' into named results of many cells. -/
namespace Go.Proofs.YtpfknjnigcefgaaGreatDoor
open Go.RowKit
set_option linter.unusedSimpArgs false
set_option linter.unusedVariables false
/-- What is asked of the region's shape. -/
def twoB (ops : Array Oper) : Bool :=
  let L0 := Array.replicate ops.size false
  let L1 := L0.setIfInBounds 0 true
  let L2 := L1.setIfInBounds 1 true
  let L3 := L2.setIfInBounds 2 true
  let L4 := L3.setIfInBounds 3 true
  let L5 := L4.setIfInBounds 4 true
  Region.noSelect ops && Region.free .any ops L0 0 && (Region.ready .any ops L0).contains 0 && Region.free .any ops L1 1 && (Region.ready .any ops L1).contains 1
    && (Region.ready .any ops L2 == [2]) && (Region.ready .any ops L3 == [3]) && (Region.ready .any ops L4 == [4]) && (Region.ready .any ops L5 == [])
theorem wpOp_skip {P : Program} {ops : Array Oper} {Q : Exit → Act → World → Prop} {i : Nat} {o : Oper} {K : Act → World → Prop} {a : Act} {w w' : World} (hi : ops[i]? = some o) (hg : o.guard = none) (hd : o.dst = none) (h : (execOp a.eval o).run P w = .ok .skip w') (hK : K a w') : wpOp P ops Q i K a w := by
  unfold wpOp
  have hw : Region.wanted o (yielded ops a.tmps) = true := by simp [Region.wanted, hg]
  simp only [hi, hw, if_true]
  refine .inl ?_
  unfold Oper.wp
  rw [h]
  simpa [Oper.upon, Act.put, hd] using hK
theorem wp_region_two {P : Program} {id : Nat} {Q : Exit → Act → World → Prop} {a : Act} {w : World} {o0 o1 o2 o3 o4 : Oper} (S : World → Prop) (hm : P.follows .mixedOrders = true) (hB : twoB #[o0, o1, o2, o3, o4] = true)
    (g0 : o0.guard = none) (g1 : o1.guard = none) (g2 : o2.guard = none) (g3 : o3.guard = none) (g4 : o4.guard = none) (d2 : o2.dst = none) (d3 : o3.dst = none) (v0 v1 v4 : Value) (W2 W3 : World) (hS : S w.drew) (S2 : S W2) (S3 : S W3)
    (h0 : ∀ w, S w → (execOp a.eval o0).run P w = .ok (.value v0) w) (h1 : ∀ w, S w → (execOp (a.put o0.dst v0).eval o1).run P w = .ok (.value v1) w)
    (h2 : (execOp ((a.put o0.dst v0).put o1.dst v1).eval o2).run P w.drew = .ok .skip W2) (h3 : (execOp ((a.put o0.dst v0).put o1.dst v1).eval o3).run P W2 = .ok .skip W3)
    (h4 : (execOp ((a.put o0.dst v0).put o1.dst v1).eval o4).run P W3 = .ok (.value v4) W3) (h : Q .normal (((a.put o0.dst v0).put o1.dst v1).put o4.dst v4) W3) : (Code.region id #[o0, o1, o2, o3, o4] true).wp P Q a w := by
  simp only [twoB, Bool.and_eq_true, beq_iff_eq] at hB
  obtain ⟨⟨⟨⟨⟨⟨⟨⟨b0, b1⟩, b2⟩, b3⟩, b4⟩, b5⟩, b6⟩, b7⟩, b8⟩ := hB
  refine Code.wp_mono (fun e a w q => by obtain ⟨rfl, q⟩ := q; exact q) (wp_region_held (Q := onlyN Q) (S := S) hm ?_)
  have hQ : ∀ (o : Oper) (v : Value) c (a : Act) w, onlyN Q (.panic c) (a.put o.dst v) w → onlyN Q (.panic c) a w := fun o v c a w q => by cases q.1
  have y : ∀ (o : Oper) (a : Act), o.guard = none → Region.wanted o (yielded #[o0, o1, o2, o3, o4] a.tmps) = true := fun o a hg => by simp [Region.wanted, hg]
  refine wpAnyH_take (i := 0) (oi := o0) (v := v0) rfl b0 b1 b2 (hQ o0 v0) (.inl ⟨y o0 a g0, h0⟩) hS ?_
  refine wpAnyH_take (i := 1) (oi := o1) (v := v1) rfl b0 b3 b4 (hQ o1 v1) (.inl ⟨y o1 _ g1, h1⟩) hS ?_
  refine wpAnyH_all b5 (by simp) (fun i hi => ?_)
  obtain rfl := List.mem_singleton.1 hi
  refine wpOp_skip rfl g2 d2 h2 ⟨S2, ?_⟩
  refine wpAnyH_all b6 (by simp) (fun i hi => ?_)
  obtain rfl := List.mem_singleton.1 hi
  refine wpOp_skip rfl g3 d3 h3 ⟨S3, ?_⟩
  refine wpAnyH_all b7 (by simp) (fun i hi => ?_)
  obtain rfl := List.mem_singleton.1 hi
  refine YieldsIf.wpOp (S := fun w => w = W3) (v := v4) rfl (.inl ⟨y o4 _ g4, fun w hw => by rw [hw]; exact h4⟩) rfl ⟨S3, ?_⟩
  exact wpAnyH_done b8 ⟨rfl, h⟩ _
theorem exec_load {P : Program} {o : Oper} {a : Act} {w : World} {t : TypeId} {x : Operand} {b : Addr} {v : Value} (ho : o.op = .load t x) (hx : a.eval x = .pointer (some b)) (h : (loadVar t b).run P w = .ok v w) : (execOp a.eval o).run P w = .ok (.value v) w := by
  unfold execOp
  simp [ho, hx, Instr.loadAt, Instr.sureAddr, h]
theorem exec_store {P : Program} {o : Oper} {a : Act} {w w' : World} {t : TypeId} {x y : Operand} {b : Addr} {v : Value} (ho : o.op = .store t x y) (hx : a.eval x = .pointer (some b)) (hy : a.eval y = v) (h : (storeVar t b v).run P w = .ok () w') : (execOp a.eval o).run P w = .ok .skip w' := by
  unfold execOp
  simp [ho, hx, hy, Instr.storeAt, Instr.sureAddr, h]
theorem exec_assign {P : Program} {o : Oper} {a : Act} {w : World} {x : Operand} (ho : o.op = .assign x) : (execOp a.eval o).run P w = .ok (.value (a.eval x)) w := by
  unfold execOp
  simp [ho]
/-- A whole row is stored: the world behind it. -/
theorem row_stored {P : Program} {W : World} {g : Nat} {t ty : TypeId} {old cells : Array Value} (hg : Bk W g old t) (hi : (P.info? ty).map (·.size) = some cells.size) (ho : old.size = cells.size) (h1 : cells.all (·.oneCell') = true) :
    ∃ W', (storeVar ty ⟨g, 0, none⟩ (.agg cells)).run P W = .ok () W' ∧ Bk W' g cells t ∧ W.grownBy W' (some g) := by
  refine ⟨_, run_storeVar_row _ _ t _ _ _ hg hi ho h1, setRow_heap _ _ _ _ _ _ hg, rfl, rfl, rfl, by simp [World.setRow], fun k hk hne => ?_⟩
  have : g ≠ k := fun e => hne (by rw [e])
  simp [World.setRow, Array.getElem?_modify, this]
end Go.Proofs.YtpfknjnigcefgaaGreatDoor
/- The document's Sums, where the label has the form. -/
namespace Go.Proofs.YtpfknjnigcefgaaGreatDoor
open Go.RowKit
set_option linter.unusedSimpArgs false
set_option linter.unusedVariables false
/-- The two answers' blocks, and those of the two that were parsed. -/
structure SV (w : World) (C D : Array Value) (ga : Nat) (A : Array Value) (gb : Nat) (B : Array Value) (W : World) : Prop where
  su : SU w C D W
  a : Bk W ga A 23
  b : Bk W gb B 23
  la : w.heap.size + 1 < ga
  lb : w.heap.size + 1 < gb
theorem SV.next {w W W' : World} {C D A B : Array Value} {ga gb : Nat} (h : SV w C D ga A gb B W) (hb : Below W.heap.size W W') : SV w C D ga A gb B W' := ⟨h.su.next hb, h.a.below hb h.a.lt, h.b.below hb h.b.lt, h.la, h.lb⟩
theorem SV.put2 {w W W' : World} {C D C' A B : Array Value} {ga gb : Nat} (h : SV w C D ga A gb B W) (hg : W.grownBy W' (some w.heap.size)) (hb : Bk W' w.heap.size C' 23) : SV w C' D ga A gb B W' :=
  ⟨h.su.put2 hg hb, h.a.grown hg (fun e => by injection e with e; have := h.la; omega), h.b.grown hg (fun e => by injection e with e; have := h.lb; omega), h.la, h.lb⟩
theorem SV.put3 {w W W' : World} {C D D' A B : Array Value} {ga gb : Nat} (h : SV w C D ga A gb B W) (hg : W.grownBy W' (some (w.heap.size + 1))) (hb : Bk W' (w.heap.size + 1) D' 23) : SV w C D' ga A gb B W' :=
  ⟨h.su.put3 hg hb, h.a.grown hg (fun e => by injection e with e; have := h.la; omega), h.b.grown hg (fun e => by injection e with e; have := h.lb; omega), h.la, h.lb⟩
set_option maxHeartbeats 4000000 in
set_option maxRecDepth 100000 in
theorem rsums13_yes (s : ByteArray) (w : World) (h1 : s.size = 136) (h2 : s.extract 0 4 = xF) (h3 : (bl s)[68]? = some 45) (h4 : s.extract 133 136 = xE) :
    Calls Tryz.prog 15 #[.string s] w fun e w' => SmI s e ∧ Below w.heap.size w w' := by
  obtain ⟨k1, k2, k3⟩ := isLb_of h1 h2 h3 h4
  obtain ⟨f, hf⟩ : ∃ f, s.extract 4 68 = f := ⟨_, rfl⟩
  obtain ⟨g, hg⟩ : ∃ g, s.extract 69 133 = g := ⟨_, rfl⟩
  have HRES : Hid ((rpE f = 0 ∧ rpE g = 0 → SmI s (.returned (.tuple #[.agg (rpA f), .agg (rpA g), .int .i64 0]))) ∧ (¬ (rpE f = 0 ∧ rpE g = 0) → SmI s (.returned (.tuple #[.agg z32c, .agg z32c, .int .i64 10])))) := by
    rw [hf, hg] at k1
    rw [hf] at k2
    rw [hg] at k3
    constructor
    · rintro ⟨q1, q2⟩
      obtain ⟨a1, a2⟩ := (rp_64 k2).1 q1
      obtain ⟨b1, b2⟩ := (rp_64 k3).1 q2
      exact .inl ⟨f, g, ⟨k1, k2, k3, a1, b1⟩, by rw [a2, b2]⟩
    · intro q
      refine .inr ⟨fun f' g' hl => q ?_, rfl⟩
      obtain ⟨_, _, _, _, e1, e2⟩ := hl.parts
      rw [hf] at e1
      rw [hg] at e2
      subst e1
      subst e2
      exact ⟨(rp_64 k2).2 hl.2.2.2.1, (rp_64 k3).2 hl.2.2.2.2⟩
  have e1 : ((s.size : Int) != 136) = false := by rw [bne_eq_false_iff_eq]; omega
  have z4 : (4 : Int) ≤ (s.size : Int) := by omega
  have z68 : (68 : Int) < (s.size : Int) := by omega
  have z68b : (68 : Int) ≤ (s.size : Int) := by omega
  have z133 : (133 : Int) ≤ (s.size : Int) := by omega
  have h68 : 68 < s.size := by omega
  obtain ⟨c, hc⟩ : ∃ c : Nat, (s[68]'h68).toNat = c := ⟨_, rfl⟩
  have hc256 : c < 256 := by rw [← hc]; exact UInt8.toNat_lt _
  have hc45 : c = 45 := by
    obtain ⟨hx, hv⟩ := List.getElem?_eq_some_iff.1 h3
    rw [← hc, show s[68]'h68 = (bl s)[68]'hx from rfl, hv]; rfl
  have e3 : ((c : Int) != 45) = false := by rw [bne_eq_false_iff_eq]; omega
  obtain ⟨M, hM⟩ : ∃ M, s.extract 0 4 = M := ⟨_, rfl⟩
  have e2 : (M.toList == [105, 100, 120, 45]) = true := str_is (by rw [← hM, h2]; rfl)
  obtain ⟨T, hT⟩ : ∃ T, s.extract 133 s.size = T := ⟨_, rfl⟩
  have e4 : (T.toList == [46, 105, 120]) = true := str_is (by rw [← hT, h1, h4]; rfl)
  have hfz : f.size ≤ 140737488351232 := by rw [← hf, ByteArray.size_extract]; omega
  have hgz : g.size ≤ 140737488351232 := by rw [← hg, ByteArray.size_extract]; omega
  have HPF : Hid (∀ W, Calls Tryz.prog 45 #[.string f] W fun e w' => e = .returned (.tuple #[.agg (rpA f), .int .i64 (rpE f)]) ∧ Below W.heap.size W w') := fun W => rparse13 f W hfz
  have HPG : Hid (∀ W, Calls Tryz.prog 45 #[.string g] W fun e w' => e = .returned (.tuple #[.agg (rpA g), .int .i64 (rpE g)]) ∧ Below W.heap.size W w') := fun W => rparse13 g W hgz
  have HAF : Hid ((rpA f).size = 32 ∧ (rpA f).all (·.oneCell') = true ∧ (rpA g).size = 32 ∧ (rpA g).all (·.oneCell') = true ∧ (rpE f = 0 ∨ rpE f = 4) ∧ (rpE g = 0 ∨ rpE g = 4)) := ⟨rpA_size f, rpA_one f, rpA_size g, rpA_one g, rpE_val f, rpE_val g⟩
  obtain ⟨A, hA⟩ : ∃ A, rpA f = A := ⟨_, rfl⟩
  obtain ⟨B, hB⟩ : ∃ B, rpA g = B := ⟨_, rfl⟩
  obtain ⟨E, hE⟩ : ∃ E, rpE f = E := ⟨_, rfl⟩
  obtain ⟨F, hF⟩ : ∃ F, rpE g = F := ⟨_, rfl⟩
  rw [hA, hE] at HPF
  rw [hB, hF] at HPG
  rw [hA, hB, hE, hF] at HAF HRES
  have hz := zero_id
  have hbz : ∀ w, (Instr.build 23 #[]).run Tryz.prog w = .ok (.agg z32c) w := fun w => by kernel_rfl
  have S0 : Hid (SU w z32c z32c ((w.alloc (.cells z32c 23)).alloc (.cells z32c 23))) := by
    have := bk_new (w.alloc (.cells z32c 23)) z32c 23
    rw [al_size] at this
    exact ⟨(bk_new _ _ _).alloc _, this, ((Below.refl _ _).alloc (Nat.le_refl _) _).alloc (by rw [al_size]; omega) _⟩
  clear h1 h2 h3 h4 k1 k2 k3 hA hB hE hF hfz hgz hc45
  go_enter Tryz.func15, Tryz.ntmps15
  go_wp2_with fail
  refine (HPF.out _).mono ?_
  rintro e w1 ⟨rfl, hb1⟩
  have S1 : Hid (SU w z32c z32c w1) := S0.out.next hb1
  clear hb1 HPF S0
  have hl1 : w.heap.size + 1 < w1.heap.size := S1.out.b3.lt
  go_wp2_with (first
    | (refine wpList_store_new rfl 23 (.tmp 5) (.tmp 33) rfl A _ 23 w1.heap.size rfl rfl rfl (info_32 HAF.out.1) (by rw [HAF.out.1, z32c_size]) HAF.out.2.1 ?_)
    | fail)
  refine (HPG.out _).mono ?_
  rintro e w2 ⟨rfl, hb2⟩
  have V2 : Hid (SV w z32c z32c w1.heap.size A w2.heap.size B (w2.alloc (.cells B 23))) := by
    have hb := (Below.refl w1.heap.size w1).alloc (Nat.le_refl _) (.cells A 23)
    have hba := (Below.refl w2.heap.size w2).alloc (Nat.le_refl _) (.cells B 23)
    have q := (bk_new w1 A 23).below hb2 (bk_new _ _ _).lt
    exact ⟨((S1.out.next hb).next hb2).next hba, q.below hba q.lt, bk_new _ _ _, hl1, by have := q.lt; omega⟩
  clear hb2 HPG S1
  have HI : Hid ((Tryz.prog.info? 23).map (·.size) = some A.size ∧ (Tryz.prog.info? 23).map (·.size) = some B.size) := ⟨info_32 HAF.out.1, info_32 HAF.out.2.2.1⟩
  by_cases hok : E = 0 ∧ F = 0
  · obtain ⟨rfl, rfl⟩ := hok
    have HS : Hid (SmI s (.returned (.tuple #[.agg A, .agg B, .int .i64 0]))) := HRES.out.1 ⟨rfl, rfl⟩
    obtain ⟨W, hW⟩ : ∃ W, w2.alloc (.cells B 23) = W := ⟨_, rfl⟩
    rw [hW] at V2
    have V3 : SV w z32c z32c w1.heap.size A w2.heap.size B W.drew := V2.out.next (Below.refl _ _).drew
    obtain ⟨W4, s4, q4, q5⟩ := row_stored (P := Tryz.prog) (ty := 23) V3.su.b2 HI.out.1 (by rw [HAF.out.1, z32c_size]) HAF.out.2.1
    have V4 := V3.put2 q5 q4
    obtain ⟨W5, s5, q6, q7⟩ := row_stored (P := Tryz.prog) (ty := 23) V4.su.b3 HI.out.2 (by rw [HAF.out.2.2.1, z32c_size]) HAF.out.2.2.2.1
    have V5 := V4.put3 q7 q6
    have V6 : Hid (SV w A B w1.heap.size A w2.heap.size B W5) := V5
    have HRUN : Hid ((storeVar 23 ⟨w.heap.size, 0, none⟩ (.agg A)).run Tryz.prog W.drew = .ok () W4 ∧ (storeVar 23 ⟨w.heap.size + 1, 0, none⟩ (.agg B)).run Tryz.prog W4 = .ok () W5) := ⟨s4, s5⟩
    have HSS : Hid ((Bk W.drew w1.heap.size A 23 ∧ Bk W.drew w2.heap.size B 23) ∧ (Bk W4 w1.heap.size A 23 ∧ Bk W4 w2.heap.size B 23) ∧ (Bk W5 w1.heap.size A 23 ∧ Bk W5 w2.heap.size B 23)) := ⟨⟨V3.a, V3.b⟩, ⟨V4.a, V4.b⟩, ⟨V5.a, V5.b⟩⟩
    clear HRES V2 V3 V4 V5 s4 s5 q4 q5 q6 q7
    go_wp2_with (first
      | (refine wpList_store_new rfl 23 (.tmp 7) (.tmp 39) rfl B _ 23 w2.heap.size rfl rfl rfl HI.out.2 (by rw [HAF.out.2.2.1, z32c_size]) HAF.out.2.2.2.1 ?_)
      | fail)
    clear hW
    refine wp_region_two (fun W' => Bk W' w1.heap.size A 23 ∧ Bk W' w2.heap.size B 23) (by kernel_rfl) ?hB ?g0 ?g1 ?g2 ?g3 ?g4 ?d2 ?d3 (.agg A) (.agg B) (.int .i64 0) W4 W5 HSS.out.1 HSS.out.2.1 HSS.out.2.2 ?h0 ?h1 ?h2 ?h3 ?h4 ?h5
    case hB => kernel_rfl
    case g0 => rfl
    case g1 => rfl
    case g2 => rfl
    case g3 => rfl
    case g4 => rfl
    case d2 => rfl
    case d3 => rfl
    case h0 => exact fun W' hW' => exec_load (t := 23) (x := .tmp 5) (b := ⟨w1.heap.size, 0, none⟩) rfl rfl (run_loadVar_row _ _ 23 _ _ _ _ hW'.1 Tryz.underlying23 rfl HI.out.1)
    case h1 => exact fun W' hW' => exec_load (t := 23) (x := .tmp 7) (b := ⟨w2.heap.size, 0, none⟩) rfl rfl (run_loadVar_row _ _ 23 _ _ _ _ hW'.2 Tryz.underlying23 rfl HI.out.2)
    case h2 => exact exec_store (t := 23) (x := .tmp 2) (y := .tmp 49) (b := ⟨w.heap.size, 0, none⟩) (v := .agg A) rfl rfl rfl HRUN.out.1
    case h3 => exact exec_store (t := 23) (x := .tmp 3) (y := .tmp 50) (b := ⟨w.heap.size + 1, 0, none⟩) (v := .agg B) rfl rfl rfl HRUN.out.2
    case h4 => exact exec_assign (x := .const (.int .i64 0)) rfl
    simp only [Act.put, List.setIfInBounds_toArray, List.set_cons_zero, List.set_cons_succ]
    go_wp2
    refine bodyPost_ret (results_cct rfl _ _ w.heap.size (w.heap.size + 1) 23 A B (0, 0) _ rfl rfl V6.out.su.b2 V6.out.su.b3 Tryz.underlying23 rfl HI.out.1 HI.out.2) rfl ⟨by exact HS.out, V6.out.su.bel⟩
  · have HS : Hid (SmI s (.returned (.tuple #[.agg z32c, .agg z32c, .int .i64 10]))) := HRES.out.2 hok
    have hor : E = 4 ∨ (E = 0 ∧ F = 4) := by have := HAF.out.2.2.2.2; omega
    obtain ⟨W, hW⟩ : ∃ W, w2.alloc (.cells B 23) = W := ⟨_, rfl⟩
    rw [hW] at V2
    have HV : Hid (SV w z32c z32c w1.heap.size A w2.heap.size B W) := V2.out
    clear HRES V2 hok
    go_upto_region 5 with (first
      | (refine wpList_store_new rfl 23 (.tmp 7) (.tmp 39) rfl B _ 23 w2.heap.size rfl rfl rfl HI.out.2 (by rw [HAF.out.2.2.1, z32c_size]) HAF.out.2.2.2.1 ?_)
      | fail)
    clear hW
    rcases hor with rfl | ⟨rfl, rfl⟩
    all_goals
      go_wp2_with (first
        | (refine wpList_bdX0 rfl 23 rfl (.agg z32c) (hbz _) ?_)
        | (refine wpList_stoX rfl 23 (.tmp 2) (.tmp 47) rfl w.heap.size z32c z32c 23 rfl rfl HV.out.su.b2 (info_32 z32c_size) rfl z32c_one ?_; intro w7 HB7 HG7; have S7 : Hid (SU w z32c z32c w7) := HV.out.su.put2 HG7.out HB7.out)
        | (refine wpList_stoX rfl 23 (.tmp 3) (.tmp 48) rfl (w.heap.size + 1) z32c z32c 23 rfl rfl S7.out.b3 (info_32 z32c_size) rfl z32c_one ?_; intro w8 HB8 HG8; have S8 : Hid (SU w z32c z32c w8) := S7.out.put3 HG8.out HB8.out)
        | fail)
      refine bodyPost_ret (results_cct rfl _ _ w.heap.size (w.heap.size + 1) 23 z32c z32c (0, 0) _ rfl rfl S8.out.b2 S8.out.b3 Tryz.underlying23 rfl (info_32 z32c_size) (info_32 z32c_size)) rfl ⟨by exact HS.out, S8.out.bel⟩
/-- Of any label. -/
theorem rsums13 (s : ByteArray) (w : World) (hs : s.size ≤ 140737488351232) : Calls Tryz.prog 15 #[.string s] w fun e w' => SmI s e ∧ Below w.heap.size w w' := by
  by_cases h : s.size = 136 ∧ s.extract 0 4 = xF ∧ (bl s)[68]? = some 45 ∧ s.extract 133 136 = xE
  · exact rsums13_yes s w h.1 h.2.1 h.2.2.1 h.2.2.2
  · exact rsums13_no s w hs h
end Go.Proofs.YtpfknjnigcefgaaGreatDoor
/- idx.Fits of a label that fits. -/
namespace Go.Proofs.YtpfknjnigcefgaaGreatDoor
open Go.RowKit
set_option linter.unusedSimpArgs false
set_option linter.unusedVariables false
set_option maxHeartbeats 2000000 in
set_option maxRecDepth 100000 in
theorem fits_yes (a x S : ByteArray) (w : World) (ha : a.size = 32) (hx : x = sb (sha (byl S))) (hS : S.size ≤ 140737488355328) (hA : All w) :
    Calls Tryz.prog 16 #[.string (ilb a x), .string S] w fun e w' => e = .returned (.bool true) ∧ Below w.heap.size w w' := by
  have hx32 : x.size = 32 := by rw [hx]; exact sha_size _
  have HA : Hid (All w) := hA
  have hls : (ilb a x).size ≤ 140737488351232 := by
    rw [ilb, lbI, ByteArray.size_append, ByteArray.size_append, ByteArray.size_append, ByteArray.size_append, tx32_size ha, tx32_size hx32]
    decide
  have HSU : Hid (Calls Tryz.prog 14 #[.string (ilb a x)] w fun e w' => e = .returned (.tuple #[.agg (idc a), .agg (idc x), .int .i64 0]) ∧ Below w.heap.size w w') := (sums13 (ilb a x) w hls hA).mono fun e w' q => ⟨q.1.ilb ha hx32, q.2⟩
  have HSM : Hid (∀ W, All W → Calls Tryz.prog 34 #[.string S] W fun e w' => e = .returned (.agg (idc x)) ∧ Below W.heap.size W w') := fun W hW => by rw [hx]; exact sum_id S W hW.l (by omega)
  have hEQ := eql_ids x x hx32 hx32
  have hdx : decide (x = x) = true := decide_eq_true rfl
  rw [hdx] at hEQ
  have HI : Hid ((Tryz.prog.info? 23).map (·.size) = some (idc a).size ∧ (idc a).all (·.oneCell') = true ∧ (idc a).size = 32 ∧ (Tryz.prog.info? 23).map (·.size) = some (idc x).size ∧ (idc x).all (·.oneCell') = true ∧ (idc x).size = 32) := ⟨info_32 (by rw [idc_size, ha]), idc_allX a, by rw [idc_size, ha], info_32 (by rw [idc_size, hx32]), idc_allX x, by rw [idc_size, hx32]⟩
  obtain ⟨A, hAe⟩ : ∃ A, idc a = A := ⟨_, rfl⟩
  obtain ⟨X, hXe⟩ : ∃ X, idc x = X := ⟨_, rfl⟩
  obtain ⟨L, hL⟩ : ∃ L, ilb a x = L := ⟨_, rfl⟩
  rw [hAe, hXe, hL] at HSU
  rw [hXe] at HSM hEQ
  rw [hAe, hXe] at HI
  rw [hL]
  have hz := zero_id
  clear hA hx hx32 hls hAe hXe hL hdx ha
  go_enter Tryz.func16, Tryz.ntmps16
  go_wp2_with fail
  refine HSU.out.mono ?_
  rintro e w1 ⟨rfl, hb1⟩
  have H1 : Hid (Below w.heap.size w w1) := hb1
  have R0 : Hid (Bk (w1.alloc (.cells z32c 23)) w1.heap.size z32c 23) := bk_new _ _ _
  have S0 : Hid (SU w1 z32c z32c ((w1.alloc (.cells z32c 23)).alloc (.cells z32c 23))) := by
    have := bk_new (w1.alloc (.cells z32c 23)) z32c 23
    rw [al_size] at this
    exact ⟨(bk_new _ _ _).alloc _, this, ((Below.refl _ _).alloc (Nat.le_refl _) _).alloc (by rw [al_size]; omega) _⟩
  clear hb1 HSU
  go_wp2_with (first
    | (refine wpList_stoX rfl 23 (.tmp 5) (.tmp 11) rfl w1.heap.size A z32c 23 rfl rfl S0.out.b2 HI.out.1 (by rw [HI.out.2.2.1]; exact z32c_size) HI.out.2.1 ?_; intro w5 HB5 HG5; have S5 : Hid (SU w1 A z32c w5) := S0.out.put2 HG5.out HB5.out)
    | (refine wpList_stoX rfl 23 (.tmp 6) (.tmp 12) rfl (w1.heap.size + 1) X z32c 23 rfl rfl S5.out.b3 HI.out.2.2.2.1 (by rw [HI.out.2.2.2.2.2]; exact z32c_size) HI.out.2.2.2.2.1 ?_; intro w6 HB6 HG6; have S6 : Hid (SU w1 A X w6) := S5.out.put3 HG6.out HB6.out)
    | fail)
  clear HB5 HG5 HB6 HG6
  have C1 : Hid (∀ W, SU w1 A X W → Calls Tryz.prog 34 #[.string S] W fun e w' => e = .returned (.agg X) ∧ SU w1 A X w') := fun W hW => (HSM.out W (HA.out.below (H1.out.trans (hW.bel.mono H1.out.size)))).mono fun e w' q => ⟨q.1, hW.next q.2⟩
  refine region_class10 (SU w1 A X) (by kernel_rfl) (by kernel_rfl) (S6.out.next ((Below.refl _ _).drew)) ?_
  try simp only [Act.put, List.setIfInBounds_toArray, List.set_cons_zero, List.set_cons_succ]
  repeat (first
    | go_big_quiet_skip
    | (go_big_quiet_want
       first
         | (refine quiet_row 23 _ rfl (w1.heap.size + 1) 0 X X 23 _ rfl (fun _ h => h.b3) (fun j v hv => by rw [Nat.zero_add]; exact hv) Tryz.underlying23 rfl HI.out.2.2.2.1 ?_; go_big_quiet_on; simp only [Act.put, List.setIfInBounds_toArray, List.set_cons_zero, List.set_cons_succ])
         | (refine quiet_call10 (.agg X) 34 #[.string S] ?_ ?_ ?_; (focus (intro W hW; go_simp; done)); (focus (intro W hW; exact C1.out W hW)); go_big_quiet_on; simp only [Act.put, List.setIfInBounds_toArray, List.set_cons_zero, List.set_cons_succ])
         | (refine quiet_val10 (.bool true) ?_ ?_; (focus (intro W hW; go_simp; done)); go_big_quiet_on; simp only [Act.put, List.setIfInBounds_toArray, List.set_cons_zero, List.set_cons_succ])
         | (go_big_quiet_op; go_big_quiet_on)))
  refine wpQuiet_nil ?_
  intro w9 hw9
  have H9 : Hid (Below w1.heap.size w1 w9) := hw9.bel
  clear hw9
  go_wp2
  go_ret
  exact ⟨rfl, H1.out.trans (H9.out.mono H1.out.size)⟩
end Go.Proofs.YtpfknjnigcefgaaGreatDoor
/- idx.Fits of any label. -/
namespace Go.Proofs.YtpfknjnigcefgaaGreatDoor
open Go.RowKit
set_option linter.unusedSimpArgs false
set_option linter.unusedVariables false
/-- What Fits tells. -/
def FtS (lb S : ByteArray) (e : Ending) : Prop := ∃ b, e = .returned (.bool b) ∧ (b = true ↔ ∃ f g, IsLb lb f g ∧ uhS g = sb (sha (byl S)))
theorem FtS.one {lb S : ByteArray} {e e' : Ending} (h : FtS lb S e) (h' : FtS lb S e') : ∃ b, e = .returned (.bool b) ∧ e' = .returned (.bool b) := by
  obtain ⟨b, h1, h2⟩ := h
  obtain ⟨b', h3, h4⟩ := h'
  have : b = b' := by rw [Bool.eq_iff_iff, h2, h4]
  exact ⟨b, h1, by rw [this]; exact h3⟩
theorem IsLb.uh {s f g : ByteArray} (h : IsLb s f g) : (uhS f).size = 32 ∧ (uhS g).size = 32 ∧ pid f = idc (uhS f) ∧ pid g = idc (uhS g) := by
  have a := hexd_len11 f h.2.2.2.1
  have b := hexd_len11 g h.2.2.2.2
  have h1 := h.2.1
  have h2 := h.2.2.1
  have c : (uhS f).size = 32 := by omega
  have d : (uhS g).size = 32 := by omega
  exact ⟨c, d, pid_ok f c, pid_ok g d⟩
theorem IsLb.same {s f g f' g' : ByteArray} (h : IsLb s f g) (h' : IsLb s f' g') : f = f' ∧ g = g' := lbI_one (h.1.symm.trans h'.1) h.dash h'.dash
set_option maxHeartbeats 2000000 in
set_option maxRecDepth 100000 in
theorem fits13 (lb S : ByteArray) (w : World) (hl : lb.size ≤ 140737488351232) (hS : S.size ≤ 140737488351232) (hA : All w) :
    Calls Tryz.prog 16 #[.string lb, .string S] w fun e w' => FtS lb S e ∧ Below w.heap.size w w' := by
  have HSU : Hid (Calls Tryz.prog 14 #[.string lb] w fun e w' => SmI lb e ∧ Below w.heap.size w w') := sums13 lb w hl hA
  obtain ⟨x, hx⟩ : ∃ x, sb (sha (byl S)) = x := ⟨_, rfl⟩
  have hx32 : x.size = 32 := by rw [← hx]; exact sha_size _
  have HXX : Hid (sb (sha (byl S)) = x ∧ x.size = 32) := ⟨hx, hx32⟩
  have HSM : Hid (∀ W, Below w.heap.size w W → Calls Tryz.prog 34 #[.string S] W fun e w' => e = .returned (.agg (idc x)) ∧ Below W.heap.size W w') := fun W hW => by rw [← hx]; exact sum_id S W (hA.below hW).l (by omega)
  have hz := zero_id
  clear hx hx32 hl hS hA
  go_enter Tryz.func16, Tryz.ntmps16
  go_wp2_with fail
  refine HSU.out.mono ?_
  rintro e w1 ⟨hSm, hb1⟩
  have H1 : Hid (Below w.heap.size w w1) := hb1
  have R0 : Hid (Bk (w1.alloc (.cells z32c 23)) w1.heap.size z32c 23) := bk_new _ _ _
  have S0 : Hid (SU w1 z32c z32c ((w1.alloc (.cells z32c 23)).alloc (.cells z32c 23))) := by
    have := bk_new (w1.alloc (.cells z32c 23)) z32c 23
    rw [al_size] at this
    exact ⟨(bk_new _ _ _).alloc _, this, ((Below.refl _ _).alloc (Nat.le_refl _) _).alloc (by rw [al_size]; omega) _⟩
  rcases hSm with ⟨f, g, hlb, rfl⟩ | ⟨hno, rfl⟩
  · obtain ⟨k1, k2, k3, k4⟩ := hlb.uh
    rw [k3, k4]
    have HLB : Hid (IsLb lb f g) := hlb
    have hEQ := eql_ids (uhS g) x k2 HXX.out.2
    have HI : Hid ((Tryz.prog.info? 23).map (·.size) = some (idc (uhS f)).size ∧ (idc (uhS f)).all (·.oneCell') = true ∧ (idc (uhS f)).size = 32 ∧ (Tryz.prog.info? 23).map (·.size) = some (idc (uhS g)).size ∧ (idc (uhS g)).all (·.oneCell') = true ∧ (idc (uhS g)).size = 32) := ⟨info_32 (by rw [idc_size, k1]), idc_allX _, by rw [idc_size, k1], info_32 (by rw [idc_size, k2]), idc_allX _, by rw [idc_size, k2]⟩
    obtain ⟨A, hAe⟩ : ∃ A, idc (uhS f) = A := ⟨_, rfl⟩
    obtain ⟨X, hXe⟩ : ∃ X, idc (uhS g) = X := ⟨_, rfl⟩
    obtain ⟨Y, hYe⟩ : ∃ Y, idc x = Y := ⟨_, rfl⟩
    obtain ⟨b, hb⟩ : ∃ b, decide (uhS g = x) = b := ⟨_, rfl⟩
    have HB : Hid (decide (uhS g = x) = b) := hb
    rw [hXe, hYe, hb] at hEQ
    rw [hYe] at HSM
    rw [hAe, hXe] at HI
    rw [hAe, hXe]
    clear hb1 HSU k1 k2 k3 k4 hlb hAe hXe hYe hb
    go_wp2_with (first
      | (refine wpList_stoX rfl 23 (.tmp 5) (.tmp 11) rfl w1.heap.size A z32c 23 rfl rfl S0.out.b2 HI.out.1 (by rw [HI.out.2.2.1]; exact z32c_size) HI.out.2.1 ?_; intro w5 HB5 HG5; have S5 : Hid (SU w1 A z32c w5) := S0.out.put2 HG5.out HB5.out)
      | (refine wpList_stoX rfl 23 (.tmp 6) (.tmp 12) rfl (w1.heap.size + 1) X z32c 23 rfl rfl S5.out.b3 HI.out.2.2.2.1 (by rw [HI.out.2.2.2.2.2]; exact z32c_size) HI.out.2.2.2.2.1 ?_; intro w6 HB6 HG6; have S6 : Hid (SU w1 A X w6) := S5.out.put3 HG6.out HB6.out)
      | fail)
    clear HB5 HG5 HB6 HG6
    have C1 : Hid (∀ W, SU w1 A X W → Calls Tryz.prog 34 #[.string S] W fun e w' => e = .returned (.agg Y) ∧ SU w1 A X w') := fun W hW => (HSM.out W (H1.out.trans (hW.bel.mono H1.out.size))).mono fun e w' q => ⟨q.1, hW.next q.2⟩
    refine region_class10 (SU w1 A X) (by kernel_rfl) (by kernel_rfl) (S6.out.next ((Below.refl _ _).drew)) ?_
    try simp only [Act.put, List.setIfInBounds_toArray, List.set_cons_zero, List.set_cons_succ]
    repeat (first
      | go_big_quiet_skip
      | (go_big_quiet_want
         first
           | (refine quiet_row 23 _ rfl (w1.heap.size + 1) 0 X X 23 _ rfl (fun _ h => h.b3) (fun j v hv => by rw [Nat.zero_add]; exact hv) Tryz.underlying23 rfl HI.out.2.2.2.1 ?_; go_big_quiet_on; simp only [Act.put, List.setIfInBounds_toArray, List.set_cons_zero, List.set_cons_succ])
           | (refine quiet_call10 (.agg Y) 34 #[.string S] ?_ ?_ ?_; (focus (intro W hW; go_simp; done)); (focus (intro W hW; exact C1.out W hW)); go_big_quiet_on; simp only [Act.put, List.setIfInBounds_toArray, List.set_cons_zero, List.set_cons_succ])
           | (refine quiet_val10 (.bool true) ?_ ?_; (focus (intro W hW; go_simp; done)); go_big_quiet_on; simp only [Act.put, List.setIfInBounds_toArray, List.set_cons_zero, List.set_cons_succ])
           | (refine quiet_val10 (.bool b) ?_ ?_; (focus (intro W hW; go_simp; done)); go_big_quiet_on; simp only [Act.put, List.setIfInBounds_toArray, List.set_cons_zero, List.set_cons_succ])
           | (go_big_quiet_op; go_big_quiet_on)))
    refine wpQuiet_nil ?_
    intro w9 hw9
    have H9 : Hid (Below w1.heap.size w1 w9) := hw9.bel
    clear hw9
    go_wp2
    go_ret
    refine ⟨⟨b, rfl, ?_⟩, H1.out.trans (H9.out.mono H1.out.size)⟩
    rw [← HB.out, HXX.out.1, decide_eq_true_iff]
    constructor
    · exact fun q => ⟨f, g, HLB.out, q⟩
    · rintro ⟨f', g', q1, q2⟩
      obtain ⟨_, rfl⟩ := q1.same HLB.out
      exact q2
  · have HNO : Hid (∀ f g, ¬ IsLb lb f g) := hno
    clear hb1 HSU hno
    go_wp2_with (first
      | (refine wpList_stoX rfl 23 (.tmp 5) (.tmp 11) rfl w1.heap.size z32c z32c 23 rfl rfl S0.out.b2 (info_32 z32c_size) rfl z32c_one ?_; intro w5 HB5 HG5; have S5 : Hid (SU w1 z32c z32c w5) := S0.out.put2 HG5.out HB5.out)
      | (refine wpList_stoX rfl 23 (.tmp 6) (.tmp 12) rfl (w1.heap.size + 1) z32c z32c 23 rfl rfl S5.out.b3 (info_32 z32c_size) rfl z32c_one ?_; intro w6 HB6 HG6; have S6 : Hid (SU w1 z32c z32c w6) := S5.out.put3 HG6.out HB6.out)
      | fail)
    clear HB5 HG5 HB6 HG6
    refine region_class10 (SU w1 z32c z32c) (by kernel_rfl) (by kernel_rfl) (S6.out.next ((Below.refl _ _).drew)) ?_
    try simp only [Act.put, List.setIfInBounds_toArray, List.set_cons_zero, List.set_cons_succ]
    repeat (first
      | go_big_quiet_skip
      | (go_big_quiet_want
         first
           | (refine quiet_val10 (.bool false) ?_ ?_; (focus (intro W hW; go_simp; done)); go_big_quiet_on; simp only [Act.put, List.setIfInBounds_toArray, List.set_cons_zero, List.set_cons_succ])
           | (go_big_quiet_op; go_big_quiet_on)))
    refine wpQuiet_nil ?_
    intro w9 hw9
    have H9 : Hid (Below w1.heap.size w1 w9) := hw9.bel
    clear hw9
    go_wp2
    go_ret
    exact ⟨⟨false, rfl, ⟨fun q => (by cases q), fun ⟨f, g, q, _⟩ => absurd q (HNO.out f g)⟩⟩, H1.out.trans (H9.out.mono H1.out.size)⟩
end Go.Proofs.YtpfknjnigcefgaaGreatDoor
