import Derived.Test.YtbdkacfpeokggaaY7
import Derived.Test.YtbdkacfpeokggaaY2
import Derived.Laws.StructEq
import Derived.Test.YtbdkacfpeokggaaY4
import Derived.BigQuiet
import Derived.Test.YtbdkacfpeokggaaY5
/- Loads in a class of worlds: one cell, many cells. -/
namespace Go.Proofs.Ytbdkacfpeokggaa
open Go.RowKit
set_option linter.unusedSimpArgs false
set_option linter.unusedVariables false
theorem quiet_one {P : Program} {o : Oper} {a : Act} {C : World → Prop} {K : Act → Prop} (t : TypeId) (x : Operand) (ho : o.op = .load t x) (g f : Nat) (v : Value) (hx : a.eval x = .pointer (some ⟨g, f, none⟩)) (ha : ∀ w, (isAgg t).run P w = .ok false w)
    (hc : ∀ w, C w → w.cell? ⟨g, f, none⟩ = some v) (hn : K (a.put o.dst v)) : o.quiet P a C K :=
  quiet_val10 v (fun w hw => by
    have h := hc w hw
    have h2 := ha w
    unfold execOp
    simp [ho, hx, Instr.loadAt, Instr.sureAddr, loadVar, h2, h]) hn
theorem quiet_row {P : Program} {o : Oper} {a : Act} {C : World → Prop} {K : Act → Prop} (t : TypeId) (x : Operand) (ho : o.op = .load t x) (g f : Nat) (D cells : Array Value) (T : TypeId) (d : TypeDesc) (hx : a.eval x = .pointer (some ⟨g, f, none⟩))
    (hc : ∀ w, C w → Bk w g D T) (hD : ∀ j v, cells[j]? = some v → D[f + j]? = some v) (hu : P.underlying t = some d) (hd : d.isRow = true) (hi : (P.info? t).map (·.size) = some cells.size) (hn : K (a.put o.dst (.agg cells))) : o.quiet P a C K :=
  quiet_val10 (.agg cells) (fun w hw => by
    have h := hc w hw
    have hr := run_loadVar_mid (P := P) w g f t cells.toList d (fun j v hv => by rw [h.cell]; exact hD j v (by rwa [Array.getElem?_toList] at hv)) hu hd (by rw [Array.length_toList]; exact hi)
    unfold execOp
    simp [ho, hx, Instr.loadAt, Instr.sureAddr, hr]) hn
/-- The load of many cells, of an operation that is wanted. -/
theorem wpList_getG {P : Program} {ops : Array Oper} {rest : List Oper} {op : Oper} {a : Act} {w : World} {Q : Exit → Act → World → Prop} (hw : Region.wanted op (yielded ops a.tmps) = true) (ty : TypeId) (x : Operand) (ho : op.op = .load ty x)
    (b o : Nat) (C cells : Array Value) (T : TypeId) (d : TypeDesc) (hx : a.eval x = .pointer (some ⟨b, o, none⟩))
    (hB : Bk w b C T) (hc : ∀ j v, cells[j]? = some v → C[o + j]? = some v) (hu : P.underlying ty = some d) (hd : d.isRow = true) (hi : (P.info? ty).map (·.size) = some cells.size)
    (h : wpList P ops Q rest (a.put op.dst (.agg cells)) w) : wpList P ops Q (op :: rest) a w :=
  wpList_step fun K hK => by
    rw [if_pos hw]
    have e : cells.toList.toArray = cells := Array.toArray_toList
    refine wp_load_mid ty x ho b o hx cells.toList d (fun j v hv => by rw [hB.cell]; exact hc j v (by rwa [Array.getElem?_toList] at hv)) hu hd (by rw [hi]; simp) ?_
    rw [e]
    exact hK _ _ h
/-- A comparison whose run is known. -/
theorem wpList_eqR {P : Program} {ops : Array Oper} {rest : List Oper} {op : Oper} {a : Act} {w : World} {Q : Exit → Act → World → Prop} (hw : Region.wanted op (yielded ops a.tmps) = true) (t : TypeId) (x y : Operand) (ho : op.op = .binOp .eql t x y t)
    (v1 v2 : Array Value) (r : Value) (hm : P.eqGuardType P.depth t = false) (hx : a.eval x = .agg v1) (hy : a.eval y = .agg v2) (hr : (binOp .eql t (.agg v1) (.agg v2)).run P w = .ok r w)
    (h : wpList P ops Q rest (a.put op.dst r) w) : wpList P ops Q (op :: rest) a w :=
  wpList_step fun K hK => by
    rw [if_pos hw]
    unfold Oper.wp execOp
    simp only [ho, hx, hy, Sem.run_bind, run_eqGuard_agg w .eql t x y v1 v2 hm, hr, Result.andThen_ok, Sem.run_pure]
    exact hK _ _ h
theorem list_of_quiet {P : Program} {ops : Array Oper} {Q : Exit → Act → World → Prop} {C : World → Prop} : ∀ (l : List Oper) (a : Act) (w : World), wpQuiet P ops C (fun a' => ∀ w', C w' → Q .normal a' w') l a → C w → wpList P ops Q l a w
  | [], a, w, h, hC => h w hC
  | o :: rest, a, w, h, hC => by
    unfold wpQuiet at h
    refine wpList_step fun K hK => ?_
    split at h
    · rename_i hw
      rw [if_pos hw]
      exact Oper.wp_of_quiet hC (fun a w' hw' ha => hK a w' (list_of_quiet rest a w' ha hw')) h
    · rename_i hw
      rw [if_neg hw]
      exact hK _ _ (list_of_quiet rest _ w h hC)
/-- A region that does not draw, over a class of worlds. -/
theorem region_plain11 {P : Program} {id : Nat} {Q : Exit → Act → World → Prop} {a : Act} {w : World} {l : List Oper} (C : World → Prop) (hC : C w)
    (h : wpQuiet P l.toArray C (fun a' => ∀ w', C w' → Q .normal a' w') l a) : (Code.region id l.toArray false).wp P Q a w :=
  wp_region_lit (list_of_quiet l a w h hC)
end Go.Proofs.Ytbdkacfpeokggaa
/- idx.mayBeEntries. -/
namespace Go.Proofs.Ytbdkacfpeokggaa
open Go.RowKit
set_option linter.unusedSimpArgs false
set_option linter.unusedVariables false
/-- The load of many cells that lie somewhere, in a class of worlds. -/
theorem quiet_rowc {P : Program} {o : Oper} {a : Act} {C : World → Prop} {K : Act → Prop} (t : TypeId) (x : Operand) (ho : o.op = .load t x) (g f : Nat) (cells : Array Value) (d : TypeDesc) (hx : a.eval x = .pointer (some ⟨g, f, none⟩))
    (hc : ∀ w, C w → ∀ j v, cells[j]? = some v → w.cell? ⟨g, f + j, none⟩ = some v) (hu : P.underlying t = some d) (hd : d.isRow = true) (hi : (P.info? t).map (·.size) = some cells.size) (hn : K (a.put o.dst (.agg cells))) : o.quiet P a C K :=
  quiet_val10 (.agg cells) (fun w hw => by
    have h := hc w hw
    have hr := run_loadVar_mid (P := P) w g f t cells.toList d (fun j v hv => h j v (by rwa [Array.getElem?_toList] at hv)) hu hd (by rw [Array.length_toList]; exact hi)
    unfold execOp
    simp [ho, hx, Instr.loadAt, Instr.sureAddr, hr]) hn
/-- The one ahead. -/
def prvX (l : List Xe) : Nat → Option Xe
  | 0 => none
  | k + 1 => l[k]?
/-- Is this one right behind that one? -/
def stR : Option Xe → Xe → Bool
  | none, e => okX e
  | some d, e => okX e && ltN d.id e.id
theorem okR_step {l : List Xe} {k : Nat} {e : Xe} (he : l[k]? = some e) : okR (prvX l k) (l.drop k) = (stR (prvX l k) e && okR (prvX l (k + 1)) (l.drop (k + 1))) := by
  obtain ⟨hk, rfl⟩ := List.getElem?_eq_some_iff.1 he
  have e2 : prvX l (k + 1) = some l[k] := he
  rw [List.drop_eq_getElem_cons hk, e2]
  show ((okX l[k] && (match prvX l k with | none => true | some d => ltN d.id l[k].id)) && okR (some l[k]) (l.drop (k + 1))) = _
  congr 1
  cases prvX l k with
  | none => simp [stR]
  | some d => rfl
structure MbS (wr : World) (X : Array Value) (W : World) : Prop where
  bx : Bk W wr.heap.size X 38
  bel : Below wr.heap.size wr W
theorem MbS.next {wr W W' : World} {X : Array Value} (h : MbS wr X W) (hb : Below W.heap.size W W') : MbS wr X W' := ⟨h.bx.below hb h.bx.lt, h.bel.trans (hb.mono h.bel.size)⟩
theorem retBB {a b : Bool} (h : b = a) : Ending.returned (.bool a) = .returned (.bool b) := by rw [h]
theorem ord_lt {a b : Xe} (h : ltN a.id b.id = true) : ordI a b = -1 := by
  unfold ordI
  rw [if_neg (fun q => by rw [q, ltN_irr] at h; cases h), if_pos h]
theorem ord_ge {a b : Xe} (h : ltN a.id b.id = false) : 0 ≤ ordI a b := by
  unfold ordI
  split
  · exact Int.le_refl _
  · rw [if_neg (by rw [h]; simp)]; decide
set_option maxHeartbeats 8000000 in
set_option maxRecDepth 100000 in
theorem mayBe_any (l : List Xe) (a : Option Addr) (n c : Nat) (w : World) (hX : XeL w a l) (hl : l.length = n) (hn : n ≤ 1152921504606846976) :
    Calls Try.prog 23 #[.slice a n c] w fun e w' => e = .returned (.bool (okR none l)) ∧ Below w.heap.size w w' := by
  have HX : Hid (XeL w a l) := hX
  have HL : Hid (l.length = n) := hl
  clear hX hl
  go_enter Try.func23, Try.ntmps23
  go_wp2
  go_loopw [7] (fun v wr => ∃ k : Nat, v = .int .i64 k ∧ k ≤ n ∧ Hid (Below w.heap.size w wr) ∧ Hid (okR none l = okR (prvX l k) (l.drop k))) (fun v _ => n - (intOf v).toNat)
  case atStart => exact ⟨0, rfl, Nat.zero_le _, Below.refl _ _, rfl⟩
  case round =>
    obtain ⟨k, rfl, hk, HB, HE⟩ := hrel
    by_cases hlt : k < n
    · have hkz : (k : Int) < (n : Nat) := by omega
      obtain ⟨e, he⟩ : ∃ e, l[k]? = some e := ⟨l[k]'(by rw [HL.out]; exact hlt), List.getElem?_eq_getElem _⟩
      have HXr : Hid (XeL wr a l) := HX.out.below HB.out
      obtain ⟨ga, oa, rfl, hga, h32, hcells⟩ := HXr.out.get he
      have HST : Hid (okR (prvX l k) (l.drop k) = (stR (prvX l k) e && okR (prvX l (k + 1)) (l.drop (k + 1)))) := okR_step he
      obtain ⟨X, hXe⟩ : ∃ X, xeC e = X := ⟨_, rfl⟩
      have HIX : Hid ((Try.prog.info? 38).map (·.size) = some X.toList.length ∧ X.all (·.oneCell') = true ∧ X.size = 35) := by rw [← hXe]; exact ⟨by rw [inf_xe35, Array.length_toList, xeC_size e h32], xeC_all e, xeC_size e h32⟩
      rw [hXe] at hcells
      have HCE : Hid (∀ j v, X[j]? = some v → wr.cell? ⟨ga, oa + k * 35 + j, none⟩ = some v) := hcells
      have R1 : Hid (MbS wr X (wr.alloc (.cells X 38)).drew) := ⟨bk_new _ _ _, ((Below.refl _ _).alloc (Nat.le_refl _) _).drew⟩
      have HMB : Hid (∀ W, MbS wr X W → Calls Try.prog 16 #[.agg X] W fun r w' => r = .returned (.bool (okX e)) ∧ MbS wr X w') := fun W hW => by
        rw [← hXe] at hW ⊢
        exact (maybe_any e W h32).mono fun r w' q => ⟨q.1, hW.next (by rw [q.2]; exact (Below.refl _ _).alloc (Nat.le_refl _) _)⟩
      cases hok : okX e with
      | false =>
        rw [hok] at HMB
        have HF : Hid (okR none l = false) := by
          have : stR (prvX l k) e = false := by
            cases prvX l k with
            | none => exact hok
            | some d => simp [stR, hok]
          show _ = _
          rw [HE.out, HST.out, this]; rfl
        clear HE HST hok hcells he hXe h32
        go_wp2_with (first
          | (refine wpList_load_mid rfl 38 (.tmp 10) rfl ga (oa + k * 35) rfl X.toList _ (fun j v hv => HCE.out j v (by rwa [Array.getElem?_toList] at hv)) Try.underlying38 rfl HIX.out.1 ?_)
          | (refine wpList_store_new rfl 38 (.tmp 4) (.tmp 11) rfl X _ 38 wr.heap.size rfl rfl rfl (info_xe HIX.out.2.2) (by rw [HIX.out.2.2]; rfl) HIX.out.2.1 ?_)
          | fail)
        refine region_class10 (MbS wr X) (by kernel_rfl) (by kernel_rfl) R1.out ?_
        try simp only [Act.put, List.setIfInBounds_toArray, List.set_cons_zero, List.set_cons_succ]
        repeat (first
          | go_big_quiet_skip
          | (go_big_quiet_want
             first
               | (refine quiet_row 38 _ rfl wr.heap.size 0 X X 38 _ rfl (fun _ h => h.bx) (fun j v hv => by rw [Nat.zero_add]; exact hv) Try.underlying38 rfl (info_xe HIX.out.2.2) ?_; go_big_quiet_on; simp only [Act.put, List.setIfInBounds_toArray, List.set_cons_zero, List.set_cons_succ])
               | (refine quiet_call10 (.bool false) 16 #[.agg X] ?_ ?_ ?_; (focus (intro W hW; go_simp; done)); (focus (intro W hW; exact HMB.out W hW)); go_big_quiet_on; simp only [Act.put, List.setIfInBounds_toArray, List.set_cons_zero, List.set_cons_succ])
               | (refine quiet_val10 (.bool true) ?_ ?_; (focus (intro W hW; go_simp; done)); go_big_quiet_on; simp only [Act.put, List.setIfInBounds_toArray, List.set_cons_zero, List.set_cons_succ])
               | (go_big_quiet_op; go_big_quiet_on)))
        refine wpQuiet_nil ?_
        intro w9 hw9
        have H9 : Hid (MbS wr X w9) := hw9
        clear hw9
        go_wp2
        go_ret
        exact ⟨retBB HF.out, HB.out.trans (H9.out.bel.mono HB.out.size)⟩
      | true =>
        rw [hok] at HMB
        cases k with
        | zero =>
          have HF : Hid (okR none l = okR (prvX l 1) (l.drop 1)) := by
            have : stR (prvX l 0) e = true := hok
            show _ = _
            rw [HE.out, HST.out, this]; rfl
          clear HE HST hok hcells he hXe h32
          go_wp2_with (first
            | (refine wpList_load_mid rfl 38 (.tmp 10) rfl ga (oa + 0 * 35) (by simp [Act.eval]) X.toList _ (fun j v hv => HCE.out j v (by rwa [Array.getElem?_toList] at hv)) Try.underlying38 rfl HIX.out.1 ?_)
            | (refine wpList_store_new rfl 38 (.tmp 4) (.tmp 11) rfl X _ 38 wr.heap.size rfl rfl rfl (info_xe HIX.out.2.2) (by rw [HIX.out.2.2]; rfl) HIX.out.2.1 ?_)
            | fail)
          refine region_class10 (MbS wr X) (by kernel_rfl) (by kernel_rfl) R1.out ?_
          try simp only [Act.put, List.setIfInBounds_toArray, List.set_cons_zero, List.set_cons_succ]
          repeat (first
            | go_big_quiet_skip
            | (go_big_quiet_want
               first
                 | (refine quiet_row 38 _ rfl wr.heap.size 0 X X 38 _ rfl (fun _ h => h.bx) (fun j v hv => by rw [Nat.zero_add]; exact hv) Try.underlying38 rfl (info_xe HIX.out.2.2) ?_; go_big_quiet_on; simp only [Act.put, List.setIfInBounds_toArray, List.set_cons_zero, List.set_cons_succ])
                 | (refine quiet_call10 (.bool true) 16 #[.agg X] ?_ ?_ ?_; (focus (intro W hW; go_simp; done)); (focus (intro W hW; exact HMB.out W hW)); go_big_quiet_on; simp only [Act.put, List.setIfInBounds_toArray, List.set_cons_zero, List.set_cons_succ])
                 | (refine quiet_val10 (.bool false) ?_ ?_; (focus (intro W hW; go_simp; done)); go_big_quiet_on; simp only [Act.put, List.setIfInBounds_toArray, List.set_cons_zero, List.set_cons_succ])
                 | (go_big_quiet_op; go_big_quiet_on)))
          refine wpQuiet_nil ?_
          intro w9 hw9
          have H9 : Hid (MbS wr X w9) := hw9
          clear hw9
          go_wp2
          go_roundw
          case rel => exact ⟨1, by go_num, by omega, HB.out.trans (H9.out.bel.mono HB.out.size), HF.out⟩
          case measure => simp [intOf]; omega
        | succ d =>
          obtain ⟨p, hp⟩ : ∃ p, l[d]? = some p := ⟨l[d]'(by rw [HL.out]; omega), List.getElem?_eq_getElem _⟩
          obtain ⟨ga', oa', he', hga', h32', hcells'⟩ := HXr.out.get hp
          injection he' with he'
          injection he' with he1 he2 he3
          subst he1
          subst he2
          obtain ⟨Y, hYe⟩ : ∃ Y, xeC p = Y := ⟨_, rfl⟩
          have HIY : Hid ((Try.prog.info? 38).map (·.size) = some Y.size) := by rw [← hYe]; exact info_xe (xeC_size p h32')
          rw [hYe] at hcells'
          have HCY : Hid (∀ W, MbS wr X W → ∀ j v, Y[j]? = some v → W.cell? ⟨ga, oa + d * 35 + j, none⟩ = some v) := fun W hW j v hv => by
            rw [hW.bel.cell hga']; exact hcells' j v hv
          obtain ⟨O, hO⟩ : ∃ O, ordI p e = O := ⟨_, rfl⟩
          have HOR : Hid (∀ W, MbS wr X W → Calls Try.prog 19 #[.agg Y, .agg X] W fun r w' => r = .returned (.int .i64 O) ∧ MbS wr X w') := fun W hW => by
            rw [← hYe, ← hXe, ← hO]
            rw [← hXe] at hW
            exact (order_any p e W h32' h32).mono fun r w' ⟨q1, q, os, q2⟩ => ⟨q1, hW.next (by rw [q2]; exact grow_below _ _ _)⟩
          have hst : stR (prvX l (d + 1)) e = ltN p.id e.id := by
            have : prvX l (d + 1) = some p := hp
            rw [this]
            simp [stR, hok]
          obtain ⟨f, hf⟩ : ∃ f, d + 1 = f := ⟨_, rfl⟩
          have h3n : 0 < f := by omega
          have h7n : d < n := by omega
          have hfb : f ≤ 1152921504606846976 := by omega
          have hwr : IntKind.i64.wrap (d : Int) = (d : Int) := by rw [IntKind.wrap_i64]; omega
          have h3 : (0 : Int) < f := by omega
          have h4 : (f : Int) - 1 = d := by omega
          have h6 : (0 : Int) ≤ d := by omega
          have h7 : (d : Int) < (n : Nat) := by omega
          cases hlt2 : ltN p.id e.id with
          | true =>
            have hOO : O = -1 := by rw [← hO]; exact ord_lt hlt2
            subst hOO
            have HF : Hid (okR none l = okR (prvX l (d + 1 + 1)) (l.drop (d + 1 + 1))) := by
              show _ = _
              rw [HE.out, HST.out, hst, hlt2]; rfl
            clear HE HST hok hcells he hXe h32 hO hst hlt2 hcells' hYe hp h32'
            rw [hf] at HF HCE hkz ⊢
            go_wp2_with (first
              | (refine wpList_load_mid rfl 38 (.tmp 10) rfl ga (oa + f * 35) rfl X.toList _ (fun j v hv => HCE.out j v (by rwa [Array.getElem?_toList] at hv)) Try.underlying38 rfl HIX.out.1 ?_)
              | (refine wpList_store_new rfl 38 (.tmp 4) (.tmp 11) rfl X _ 38 wr.heap.size rfl rfl rfl (info_xe HIX.out.2.2) (by rw [HIX.out.2.2]; rfl) HIX.out.2.1 ?_)
              | fail)
            refine region_class10 (MbS wr X) (by kernel_rfl) (by kernel_rfl) R1.out ?_
            try simp only [Act.put, List.setIfInBounds_toArray, List.set_cons_zero, List.set_cons_succ]
            repeat (first
              | go_big_quiet_skip
              | (go_big_quiet_want
                 first
                   | (refine quiet_row 38 _ rfl wr.heap.size 0 X X 38 _ rfl (fun _ h => h.bx) (fun j v hv => by rw [Nat.zero_add]; exact hv) Try.underlying38 rfl (info_xe HIX.out.2.2) ?_; go_big_quiet_on; simp only [Act.put, List.setIfInBounds_toArray, List.set_cons_zero, List.set_cons_succ])
                   | (refine quiet_rowc 38 _ rfl ga (oa + d * 35) Y _ rfl HCY.out Try.underlying38 rfl HIY.out ?_; go_big_quiet_on; simp only [Act.put, List.setIfInBounds_toArray, List.set_cons_zero, List.set_cons_succ])
                   | (refine quiet_call10 (.bool true) 16 #[.agg X] ?_ ?_ ?_; (focus (intro W hW; go_simp; done)); (focus (intro W hW; exact HMB.out W hW)); go_big_quiet_on; simp only [Act.put, List.setIfInBounds_toArray, List.set_cons_zero, List.set_cons_succ])
                   | (refine quiet_call10 (.int .i64 (-1)) 19 #[.agg Y, .agg X] ?_ ?_ ?_; (focus (intro W hW; go_simp; done)); (focus (intro W hW; exact HOR.out W hW)); go_big_quiet_on; simp only [Act.put, List.setIfInBounds_toArray, List.set_cons_zero, List.set_cons_succ])
                   | (refine quiet_val10 (.pointer (some ⟨ga, oa + d * 35, none⟩)) ?_ ?_; (focus (intro W hW; go_simp; done)); go_big_quiet_on; simp only [Act.put, List.setIfInBounds_toArray, List.set_cons_zero, List.set_cons_succ])
                   | (refine quiet_val10 (.int .i64 (d : Int)) ?_ ?_; (focus (intro W hW; go_simp; done)); go_big_quiet_on; simp only [Act.put, List.setIfInBounds_toArray, List.set_cons_zero, List.set_cons_succ])
                   | (refine quiet_val10 (.bool true) ?_ ?_; (focus (intro W hW; go_simp; done)); go_big_quiet_on; simp only [Act.put, List.setIfInBounds_toArray, List.set_cons_zero, List.set_cons_succ])
                   | (refine quiet_val10 (.bool false) ?_ ?_; (focus (intro W hW; go_simp; done)); go_big_quiet_on; simp only [Act.put, List.setIfInBounds_toArray, List.set_cons_zero, List.set_cons_succ])
                   | (go_big_quiet_op; go_big_quiet_on)))
            refine wpQuiet_nil ?_
            intro w9 hw9
            have H9 : Hid (MbS wr X w9) := hw9
            clear hw9
            go_wp2
            go_roundw
            case rel => exact ⟨f + 1, by go_num, by omega, HB.out.trans (H9.out.bel.mono HB.out.size), HF.out⟩
            case measure => simp [intOf]; omega
          | false =>
            have hOO : 0 ≤ O := by rw [← hO]; exact ord_ge hlt2
            have HF : Hid (okR none l = false) := by
              show _ = _
              rw [HE.out, HST.out, hst, hlt2]; rfl
            clear HE HST hok hcells he hXe h32 hO hst hlt2 hcells' hYe hp h32'
            rw [hf] at HCE hkz ⊢
            go_wp2_with (first
              | (refine wpList_load_mid rfl 38 (.tmp 10) rfl ga (oa + f * 35) rfl X.toList _ (fun j v hv => HCE.out j v (by rwa [Array.getElem?_toList] at hv)) Try.underlying38 rfl HIX.out.1 ?_)
              | (refine wpList_store_new rfl 38 (.tmp 4) (.tmp 11) rfl X _ 38 wr.heap.size rfl rfl rfl (info_xe HIX.out.2.2) (by rw [HIX.out.2.2]; rfl) HIX.out.2.1 ?_)
              | fail)
            refine region_class10 (MbS wr X) (by kernel_rfl) (by kernel_rfl) R1.out ?_
            try simp only [Act.put, List.setIfInBounds_toArray, List.set_cons_zero, List.set_cons_succ]
            repeat (first
              | go_big_quiet_skip
              | (go_big_quiet_want
                 first
                   | (refine quiet_row 38 _ rfl wr.heap.size 0 X X 38 _ rfl (fun _ h => h.bx) (fun j v hv => by rw [Nat.zero_add]; exact hv) Try.underlying38 rfl (info_xe HIX.out.2.2) ?_; go_big_quiet_on; simp only [Act.put, List.setIfInBounds_toArray, List.set_cons_zero, List.set_cons_succ])
                   | (refine quiet_rowc 38 _ rfl ga (oa + d * 35) Y _ rfl HCY.out Try.underlying38 rfl HIY.out ?_; go_big_quiet_on; simp only [Act.put, List.setIfInBounds_toArray, List.set_cons_zero, List.set_cons_succ])
                   | (refine quiet_call10 (.bool true) 16 #[.agg X] ?_ ?_ ?_; (focus (intro W hW; go_simp; done)); (focus (intro W hW; exact HMB.out W hW)); go_big_quiet_on; simp only [Act.put, List.setIfInBounds_toArray, List.set_cons_zero, List.set_cons_succ])
                   | (refine quiet_call10 (.int .i64 O) 19 #[.agg Y, .agg X] ?_ ?_ ?_; (focus (intro W hW; go_simp; done)); (focus (intro W hW; exact HOR.out W hW)); go_big_quiet_on; simp only [Act.put, List.setIfInBounds_toArray, List.set_cons_zero, List.set_cons_succ])
                   | (refine quiet_val10 (.pointer (some ⟨ga, oa + d * 35, none⟩)) ?_ ?_; (focus (intro W hW; go_simp; done)); go_big_quiet_on; simp only [Act.put, List.setIfInBounds_toArray, List.set_cons_zero, List.set_cons_succ])
                   | (refine quiet_val10 (.int .i64 (d : Int)) ?_ ?_; (focus (intro W hW; go_simp; done)); go_big_quiet_on; simp only [Act.put, List.setIfInBounds_toArray, List.set_cons_zero, List.set_cons_succ])
                   | (refine quiet_val10 (.bool true) ?_ ?_; (focus (intro W hW; go_simp; done)); go_big_quiet_on; simp only [Act.put, List.setIfInBounds_toArray, List.set_cons_zero, List.set_cons_succ])
                   | (refine quiet_val10 (.bool false) ?_ ?_; (focus (intro W hW; go_simp; done)); go_big_quiet_on; simp only [Act.put, List.setIfInBounds_toArray, List.set_cons_zero, List.set_cons_succ])
                   | (go_big_quiet_op; go_big_quiet_on)))
            refine wpQuiet_nil ?_
            intro w9 hw9
            have H9 : Hid (MbS wr X w9) := hw9
            clear hw9
            go_wp2
            go_ret
            exact ⟨retBB HF.out, HB.out.trans (H9.out.bel.mono HB.out.size)⟩
    · have hkz : ¬ (k : Int) < (n : Nat) := by omega
      obtain rfl : k = n := by omega
      have HF : Hid (okR none l = true) := by
        show _ = _
        rw [HE.out, List.drop_eq_nil_of_le (by rw [HL.out]; omega)]
        cases prvX l k <;> rfl
      clear HE
      go_wp2
      go_ret
      exact ⟨retBB HF.out, HB.out⟩
end Go.Proofs.Ytbdkacfpeokggaa
/- idx.Open. -/
namespace Go.Proofs.Ytbdkacfpeokggaa
open Go.RowKit
set_option linter.unusedSimpArgs false
set_option linter.unusedVariables false
theorem str_neX {x y : ByteArray} (h : x ≠ y) : (x.toList == y.toList) = false := by
  rw [beq_eq_false_iff_ne, Lib.toList_data, Lib.toList_data]
  intro e
  exact h (bl_inj e)
theorem isIx_size {S s : ByteArray} {l : List Xe} (h : IsIx S s l) : 1064 ≤ S.size ∧ S.size ≤ 2688040 := by
  have := congrArg List.length h.2.2
  rw [bl_length, ixB_len h.1 h.2.1.id] at this
  have := h.2.1.len
  omega
/-- What Open tells. -/
def OpS (S : ByteArray) (e : Ending) (w' : World) : Prop :=
  (e = .returned (.tuple #[.pointer none, .int .i64 4]) ∧ ∀ s l, ¬ IsIx S s l) ∨ ∃ g s l, e = .returned (.tuple #[.pointer (some ⟨g, 0, none⟩), .int .i64 0]) ∧ IsIx S s l ∧ IxS w' g s l
set_option maxHeartbeats 4000000 in
set_option maxRecDepth 100000 in
theorem open_any (S : ByteArray) (w : World) (hS : S.size ≤ 4611686018427387904) :
    Calls Try.prog 7 #[.string S] w fun e w' => OpS S e w' ∧ Below w.heap.size w w' := by
  by_cases h1 : S.size < 1064
  · have HN : Hid (∀ s l, ¬ IsIx S s l) := fun s l h => by have := isIx_size h; omega
    have h1z : (S.size : Int) < 1064 := by omega
    go_enter Try.func7, Try.ntmps7
    go_wp2
    go_ret2
    exact ⟨.inl ⟨rfl, HN.out⟩, Below.refl _ _⟩
  by_cases h2 : 2688040 < S.size
  · have HN : Hid (∀ s l, ¬ IsIx S s l) := fun s l h => by have := isIx_size h; omega
    have h1z : ¬ (S.size : Int) < 1064 := by omega
    have h2z : (2688040 : Int) < S.size := by omega
    go_enter Try.func7, Try.ntmps7
    go_wp2
    go_ret2
    exact ⟨.inl ⟨rfl, HN.out⟩, Below.refl _ _⟩
  have h1z : ¬ (S.size : Int) < 1064 := by omega
  have h2z : ¬ (2688040 : Int) < S.size := by omega
  obtain ⟨s, hs⟩ : ∃ s, rdS (bl S) = s := ⟨_, rfl⟩
  obtain ⟨l, hl⟩ : ∃ l, rdA (bl S) = l := ⟨_, rfl⟩
  have hss : s.size = 32 := by
    rw [← hs, ← bl_length]
    show (((bl S).drop 4).take 32).length = 32
    rw [List.length_take, List.length_drop, bl_length]; omega
  have hll : l.length = (S.size - 1064) / 41 := by rw [← hl, rdA, rdL_len, bl_length]
  have HT := itake_any S w (by omega) (by omega)
  rw [hs, hl] at HT
  have HQ : Hid (∀ s' l', IsIx S s' l' → s' = s ∧ l' = l) := fun s' l' h => by
    have := h.take
    rw [hs, hl] at this
    exact ⟨this.1.symm, this.2.symm⟩
  have HI : Hid ((Try.prog.info? 30).map (·.size) = some (idc s).size ∧ (idc s).all (·.oneCell') = true ∧ (idc s).size = 32) := ⟨info_32 (by rw [idc_size, hss]), idc_allX s, by rw [idc_size, hss]⟩
  have HSS : Hid (s.size = 32 ∧ l.length ≤ 65536) := ⟨hss, by rw [hll]; omega⟩
  obtain ⟨n, hn⟩ : ∃ n, (S.size - 1064) / 41 = n := ⟨_, rfl⟩
  rw [hn] at hll
  have HLL : Hid (l.length = n) := hll
  have hn6 : n ≤ 65536 := by omega
  have HTK2 : Hid (Calls Try.prog 22 #[.string S] w fun e w' => ∃ g, e = .returned (.tuple #[.agg (idc s), .slice (some ⟨g, 0, none⟩) n n]) ∧ XeL w' (some ⟨g, 0, none⟩) l ∧ Below w.heap.size w w')   := HT.mono fun e w' ⟨g, m, q1, q2, q3, q4⟩ => ⟨g, by rw [q1, q2, hn], q3, q4⟩
  clear HT hs hl hss hll hn
  go_enter Try.func7, Try.ntmps7
  go_wp2_with fail
  refine HTK2.out.mono ?_
  rintro e w1 ⟨g, rfl, hX1, hb1⟩
  have HX : Hid (XeL w1 (some ⟨g, 0, none⟩) l ∧ Below w.heap.size w w1) := ⟨hX1, hb1⟩
  obtain ⟨D, hD⟩ : ∃ D, idc s = D := ⟨_, rfl⟩
  have HDD : Hid (idc s = D) := hD
  rw [hD] at HI ⊢
  have H2 : Hid (Bk (w1.alloc (.cells D 30)) w1.heap.size D 30 ∧ Below w1.heap.size w1 (w1.alloc (.cells D 30))) := ⟨bk_new _ _ _, (Below.refl _ _).alloc (Nat.le_refl _) _⟩
  clear hX1 hb1 HTK2 hD
  go_wp2_with (first
    | (refine wpList_store_new rfl 30 (.tmp 4) (.tmp 18) rfl D _ 30 w1.heap.size rfl rfl rfl HI.out.1 (by rw [HI.out.2.2]; rfl) HI.out.2.1 ?_)
    | fail)
  obtain ⟨w2, hw2⟩ : ∃ w2, w1.alloc (.cells D 30) = w2 := ⟨_, rfl⟩
  rw [hw2] at H2 ⊢
  refine (mayBe_any l (some ⟨g, 0, none⟩) n n w2 (HX.out.1.below H2.out.2) HLL.out (by omega)).mono ?_
  rintro e w3 ⟨rfl, hb3⟩
  have H3 : Hid (Bk w3 w1.heap.size D 30 ∧ XeL w3 (some ⟨g, 0, none⟩) l ∧ Below w.heap.size w w3) := ⟨H2.out.1.below hb3 H2.out.1.lt, (HX.out.1.below H2.out.2).below hb3, (HX.out.2.trans (H2.out.2.mono HX.out.2.size)).trans (hb3.mono (Nat.le_trans HX.out.2.size H2.out.2.size))⟩
  clear hb3 H2 HX hw2
  cases hok : okR none l with
  | false =>
    have HN : Hid (∀ s' l', ¬ IsIx S s' l') := fun s' l' h => by
      obtain ⟨rfl, rfl⟩ := HQ.out s' l' h
      rw [(okR_iff l').2 ⟨h.2.1.ok, h.2.1.ri⟩] at hok
      cases hok
    clear hok
    go_wp2
    go_ret2
    exact ⟨.inl ⟨rfl, HN.out⟩, H3.out.2.2⟩
  | true =>
    have HOK : Hid (OkL l) := by
      obtain ⟨q1, q2⟩ := (okR_iff l).1 hok
      exact ⟨q1, H3.out.2.1.ids, q2, HSS.out.2⟩
    clear hok
    have HIO : Hid (Calls Try.prog 20 #[.agg D, .slice (some ⟨g, 0, none⟩) n n] w3 fun e w' => ∃ gI, e = .returned (.pointer (some ⟨gI, 0, none⟩)) ∧ IxS w' gI s l ∧ Below w.heap.size w w') := by
      rw [← HDD.out]
      exact (indexOf_any s l _ n n w3 HSS.out.1 H3.out.2.1 HLL.out (Nat.le_refl _) (.inr ⟨g, 0, rfl⟩) (by omega)).mono fun e w' ⟨gI, h1, h2, h3, h4⟩ => ⟨gI, h1, h3, H3.out.2.2.trans (h4.mono H3.out.2.2.size)⟩
    obtain ⟨R, hR⟩ : ∃ R : ByteArray, (⟨(ixB s l).toArray⟩ : ByteArray) = R := ⟨_, rfl⟩
    have HR : Hid ((⟨(ixB s l).toArray⟩ : ByteArray) = R) := hR
    clear hR
    by_cases hEq : R = S
    · have HIS : Hid (IsIx S s l) := ⟨HSS.out.1, HOK.out, by
        rw [← hEq, ← HR.out]; rfl⟩
      have hbq : (R.toList == S.toList) = true := by rw [hEq]; simp
      clear hEq
      go_wp2_with (first
        | (go_at_call 20; refine HIO.out.mono ?_; rintro e w4 ⟨gI, rfl, hI, hb4⟩; have H4 : Hid (IxS w4 gI s l ∧ Below w.heap.size w w4) := ⟨hI, hb4⟩; clear hI hb4)
        | (go_at_call 21; refine (bytes_any gI s l _ H4.out.1 HOK.out.ok HOK.out.len).mono ?_; rw [HR.out]; rintro e w5 ⟨rfl, hb5⟩; have H5 : Hid (Below w4.heap.size w4 w5) := hb5; clear hb5)
        | (refine wpList_get rfl 30 (.tmp 4) rfl w1.heap.size 0 D D 30 _ rfl H3.out.1 (fun j v hv => by rw [Nat.zero_add]; exact hv) Try.underlying30 rfl HI.out.1 ?_)
        | fail)
      go_ret2
      exact ⟨.inr ⟨gI, s, l, rfl, HIS.out, H4.out.1.below H5.out⟩, H4.out.2.trans (H5.out.mono H4.out.2.size)⟩
    · have HN : Hid (∀ s' l', ¬ IsIx S s' l') := fun s' l' h => by
        obtain ⟨rfl, rfl⟩ := HQ.out s' l' h
        apply hEq
        rw [← HR.out]
        apply bl_inj
        rw [h.2.2]; rfl
      have hbq := str_neX hEq
      clear hEq
      go_wp2_with (first
        | (go_at_call 20; refine HIO.out.mono ?_; rintro e w4 ⟨gI, rfl, hI, hb4⟩; have H4 : Hid (IxS w4 gI s l ∧ Below w.heap.size w w4) := ⟨hI, hb4⟩; clear hI hb4)
        | (go_at_call 21; refine (bytes_any gI s l _ H4.out.1 HOK.out.ok HOK.out.len).mono ?_; rw [HR.out]; rintro e w5 ⟨rfl, hb5⟩; have H5 : Hid (Below w4.heap.size w4 w5) := hb5; clear hb5)
        | (refine wpList_get rfl 30 (.tmp 4) rfl w1.heap.size 0 D D 30 _ rfl H3.out.1 (fun j v hv => by rw [Nat.zero_add]; exact hv) Try.underlying30 rfl HI.out.1 ?_)
        | fail)
      go_ret2
      exact ⟨.inl ⟨rfl, HN.out⟩, H4.out.2.trans (H5.out.mono H4.out.2.size)⟩
end Go.Proofs.Ytbdkacfpeokggaa
/- idx.Index: Pack, Len, At, Range, All. -/
namespace Go.Proofs.Ytbdkacfpeokggaa
open Go.RowKit
set_option linter.unusedSimpArgs false
set_option linter.unusedVariables false
theorem fanB_succ (l : List Xe) (b : Nat) : fanB l (b + 1) = fanL l b := by
  unfold fanB fanL
  congr 1
  funext e
  exact decide_eq_decide.2 (by omega)
theorem fanB_zero (l : List Xe) : fanB l 0 = 0 := by
  unfold fanB
  rw [List.countP_eq_zero]
  intro e _
  simp
set_option maxHeartbeats 400000 in
theorem ilen_any (g : Nat) (s : ByteArray) (l : List Xe) (w : World) (h : IxS w g s l) : Calls Try.prog 8 #[.pointer (some ⟨g, 0, none⟩)] w fun e w' => e = .returned (.int .i64 (l.length : Int)) ∧ w' = w := by
  obtain ⟨a, n, c, hB, hX, hl, hc, hA⟩ := h.row
  have hq : w.cell? ⟨g, 288, none⟩ = some (.slice a n c) := by rw [hB.cell]; exact ixC_row s _ _ h.id
  rw [hl]
  clear h hB hX hl
  go_enter Try.func8, Try.ntmps8
  go_wp2
  go_ret
  exact ⟨rfl, rfl⟩
set_option maxHeartbeats 400000 in
theorem ilen_nil (w : World) : Calls Try.prog 8 #[.pointer none] w fun e w' => e = .returned (.int .i64 0) ∧ w' = w := by
  go_enter Try.func8, Try.ntmps8
  go_wp2
  go_ret
  exact ⟨rfl, rfl⟩
set_option maxHeartbeats 2000000 in
set_option maxRecDepth 100000 in
theorem irange_any (g : Nat) (s : ByteArray) (l : List Xe) (b : Nat) (hb : b < 256) (w : World) (h : IxS w g s l) : Calls Try.prog 11 #[.pointer (some ⟨g, 0, none⟩), .int .u8 (b : Int)] w fun e w' => e = .returned (.tuple #[.int .i64 (fanB l b : Int), .int .i64 (fanL l b : Int)]) ∧ ∃ q, w' = w.drewN q := by
  obtain ⟨a, n, c, hB, hX, hl, hc, hA⟩ := h.row
  have hq : w.cell? ⟨g, 32 + b, none⟩ = some (.int .i64 (fanL l b : Int)) := by rw [hB.cell]; exact ixC_fan s _ _ h.id b hb
  obtain ⟨u, hu⟩ : ∃ u, fanL l b = u := ⟨_, rfl⟩
  rw [hu] at hq ⊢
  have h0 : (0 : Int) ≤ b := by omega
  have h1 : (b : Int) < 256 := by omega
  by_cases hz : b = 0
  · subst hz
    rw [fanB_zero]
    clear h hB hX hl hu
    go_enter Try.func11, Try.ntmps11
    go_wp2
    go_region
    go_wp2
    go_ret2
    exact ⟨rfl, 1, rfl⟩
  · obtain ⟨d, rfl⟩ : ∃ d, b = d + 1 := ⟨b - 1, by omega⟩
    rw [fanB_succ]
    have hq2 : w.cell? ⟨g, 32 + d, none⟩ = some (.int .i64 (fanL l d : Int)) := by rw [hB.cell]; exact ixC_fan s _ _ h.id d (by omega)
    obtain ⟨v, hv⟩ : ∃ v, fanL l d = v := ⟨_, rfl⟩
    rw [hv] at hq2 ⊢
    obtain ⟨f, hf⟩ : ∃ f, d + 1 = f := ⟨_, rfl⟩
    rw [hf] at hq h0 h1 ⊢
    have h3 : (0 : Int) < f := by omega
    have h4 : (f : Int) - 1 = d := by omega
    have h5 : IntKind.u8.wrap (d : Int) = (d : Int) := by
      simp [IntKind.wrap, IntKind.bits, IntKind.signed]; omega
    have h6 : (0 : Int) ≤ d := by omega
    have h7 : (d : Int) < 256 := by omega
    clear h hB hX hl hu hv hf hz hb
    go_enter Try.func11, Try.ntmps11
    go_wp2
    go_region
    go_wp2
    go_ret2
    exact ⟨rfl, 1, rfl⟩
theorem irange_nil (b : Nat) (w : World) : Calls Try.prog 11 #[.pointer none, .int .u8 (b : Int)] w fun e w' => e = .returned (.tuple #[.int .i64 0, .int .i64 0]) ∧ w' = w := by
  go_enter Try.func11, Try.ntmps11
  go_wp2
  go_ret2
  exact ⟨rfl, rfl⟩
theorem iall_any (g : Nat) (s : ByteArray) (l : List Xe) (w : World) (h : IxS w g s l) (hn : l.length ≤ 65536) : Calls Try.prog 13 #[.pointer (some ⟨g, 0, none⟩)] w fun e w' => ∃ v, e = .returned v ∧ w'.ownsRow w.heap.size 38 35 v l.length (xvs l) ∧ Below w.heap.size w w' := by
  obtain ⟨a, n, c, hB, hX, hl, hc, hA⟩ := h.row
  have hq : w.cell? ⟨g, 288, none⟩ = some (.slice a n c) := by rw [hB.cell]; exact ixC_row s _ _ h.id
  have HC : Hid (Calls Try.prog 17 #[.slice a n c] w fun e w' => ∃ v, e = .returned v ∧ w'.ownsRow w.heap.size 38 35 v n (xvs l) ∧ Below w.heap.size w w') := clone_any a n c l w hX hl hA (by omega)
  rw [hl]
  clear h hB hX hl hA
  go_enter Try.func13, Try.ntmps13
  go_wp2_with fail
  refine HC.out.mono ?_
  rintro e w1 ⟨v, rfl, ho, hb⟩
  have HE : Hid (w1.ownsRow w.heap.size 38 35 v n (xvs l) ∧ Below w.heap.size w w1) := ⟨ho, hb⟩
  obtain ⟨va, vc, hvv⟩ : ∃ va vc, v = .slice va n vc := by
    rcases ho.2 with ⟨h1, h0⟩ | ⟨g, cap, cur, h1, _⟩
    · exact ⟨none, 0, by rw [h1, h0]⟩
    · exact ⟨_, _, h1⟩
  subst hvv
  clear ho hb
  go_wp2
  go_ret
  exact ⟨_, rfl, HE.out⟩
end Go.Proofs.Ytbdkacfpeokggaa
/- idx.Index.Find: its closure. -/
namespace Go.Proofs.Ytbdkacfpeokggaa
open Go.RowKit
set_option linter.unusedSimpArgs false
set_option linter.unusedVariables false
/-- Worlds that have grown out of this one. -/
def Grw (W0 W : World) : Prop := ∃ q os, W = Sort.grow (W0.drewN q) os
theorem Grw.drew (W0 : World) : Grw W0 W0.drew := ⟨1, #[], by rw [Sort.grow_empty]; rfl⟩
theorem Grw.next {W0 W W' : World} (h : Grw W0 W) (h' : Grw W W') : Grw W0 W' := by
  obtain ⟨q, os, rfl⟩ := h
  obtain ⟨q', os', rfl⟩ := h'
  refine ⟨q + q', os ++ os', ?_⟩
  show Sort.grow (Sort.grow ((W0.drewN q).drewN q') os) os' = _
  rw [Sort.grow_grow, World.drewN_drewN]
theorem Grw.below {W0 W : World} (h : Grw W0 W) : Below W0.heap.size W0 W := by
  obtain ⟨q, os, rfl⟩ := h
  exact grow_below _ _ _
theorem ret_bX {a b : Bool} (h : b = a) : Ending.returned (.bool a) = .returned (.bool b) := by rw [h]
set_option maxHeartbeats 4000000 in
set_option maxRecDepth 100000 in
theorem find1_any (bx bf bi g f i : Nat) (s x : ByteArray) (l : List Xe) (e : Xe) (w : World) (hx : w.cell? ⟨bx, 0, none⟩ = some (.pointer (some ⟨g, 0, none⟩))) (hf : w.cell? ⟨bf, 0, none⟩ = some (.int .i64 (f : Int)))
    (hi : Bk w bi (idc x) 30) (hx32 : x.size = 32) (h : IxS w g s l) (hn : l.length ≤ 65536) (he : l[f + i]? = some e) :
    Calls Try.prog 24 (#[.int .i64 (i : Int)] ++ #[.pointer (some ⟨bx, 0, none⟩), .pointer (some ⟨bf, 0, none⟩), .pointer (some ⟨bi, 0, none⟩)]) w fun r w' => r = .returned (.bool (!ltN e.id x)) ∧ Grw w w' := by
  obtain ⟨a, n, c, hB, hX, hl, hc, hA⟩ := h.row
  obtain ⟨m, hm⟩ : ∃ m, f + i = m := ⟨_, rfl⟩
  rw [hm] at he
  have hmn : m < n := by rw [← hl]; exact (List.getElem?_eq_some_iff.1 he).1
  have hmz : (m : Int) < (n : Nat) := by omega
  have hm0 : (0 : Int) ≤ m := by omega
  have hadd : (f : Int) + (i : Int) = (m : Int) := by omega
  have hwr : IntKind.i64.wrap (m : Int) = (m : Int) := by rw [IntKind.wrap_i64]; omega
  obtain ⟨ga, oa, rfl, hga, h32, hcells⟩ := hX.get he
  have lx := block_lt_of_cell hx
  have lf := block_lt_of_cell hf
  have C1 : Hid (∀ W, Grw w W → W.cell? ⟨bx, 0, none⟩ = some (.pointer (some ⟨g, 0, none⟩))) := fun W hW => by rw [hW.below.cell lx]; exact hx
  have C2 : Hid (∀ W, Grw w W → W.cell? ⟨bf, 0, none⟩ = some (.int .i64 (f : Int))) := fun W hW => by rw [hW.below.cell lf]; exact hf
  have C3 : Hid (∀ W, Grw w W → Bk W bi (idc x) 30) := fun W hW => hi.below hW.below hi.lt
  have C4 : Hid (∀ W, Grw w W → W.cell? ⟨g, 288, none⟩ = some (.slice (some ⟨ga, oa, none⟩) n c)) := fun W hW => by
    rw [(hB.below hW.below hB.lt).cell]; exact ixC_row s _ _ h.id
  have C5 : Hid (∀ W, Grw w W → ∀ j v, (idc e.id)[j]? = some v → W.cell? ⟨ga, oa + m * 35 + j, none⟩ = some v) := fun W hW j v hv => by
    rw [hW.below.cell hga]; exact hcells j v (by have := xeC_id e h32 j v hv; rwa [Nat.zero_add] at this)
  have C6 : Hid (∀ W, Grw w W → Calls Try.prog 14 #[.agg (idc e.id), .agg (idc x)] W fun r w' => r = .returned (.bool (ltN e.id x)) ∧ Grw w w') := fun W hW => (less_grow e.id x W h32 hx32).mono fun r w' ⟨q1, q2⟩ => ⟨q1, hW.next q2⟩
  have HI1 : Hid ((Try.prog.info? 30).map (·.size) = some (idc e.id).size ∧ (Try.prog.info? 30).map (·.size) = some (idc x).size) := ⟨info_32 (by rw [idc_size, h32]), info_32 (by rw [idc_size, hx32])⟩
  obtain ⟨L, hL⟩ : ∃ L, ltN e.id x = L := ⟨_, rfl⟩
  obtain ⟨D, hD⟩ : ∃ D, idc e.id = D := ⟨_, rfl⟩
  obtain ⟨Y, hY⟩ : ∃ Y, idc x = Y := ⟨_, rfl⟩
  rw [hL, hD, hY] at C6
  rw [hD] at C5
  rw [hY] at C3
  rw [hD, hY] at HI1
  rw [hL]
  clear hx hf hi hx32 h hB hX hl hc hA hcells he h32 hL hD hY
  show Calls Try.prog 24 #[.int .i64 (i : Int), .pointer (some ⟨bx, 0, none⟩), .pointer (some ⟨bf, 0, none⟩), .pointer (some ⟨bi, 0, none⟩)] w _
  go_enter Try.func24, Try.ntmps24
  go_wp2_with fail
  refine region_class10 (Grw w) (by kernel_rfl) (by kernel_rfl) (Grw.drew w) ?_
  try simp only [Act.put, List.setIfInBounds_toArray, List.set_cons_zero, List.set_cons_succ]
  repeat (first
    | go_big_quiet_skip
    | (go_big_quiet_want
       first
         | (refine quiet_one 32 _ rfl bx 0 (.pointer (some ⟨g, 0, none⟩)) rfl (fun _ => by kernel_rfl) C1.out ?_; go_big_quiet_on; simp only [Act.put, List.setIfInBounds_toArray, List.set_cons_zero, List.set_cons_succ])
         | (refine quiet_one 3 _ rfl bf 0 (.int .i64 (f : Int)) rfl (fun _ => by kernel_rfl) C2.out ?_; go_big_quiet_on; simp only [Act.put, List.setIfInBounds_toArray, List.set_cons_zero, List.set_cons_succ])
         | (refine quiet_one 24 _ rfl g 288 (.slice (some ⟨ga, oa, none⟩) n c) rfl (fun _ => by kernel_rfl) C4.out ?_; go_big_quiet_on; simp only [Act.put, List.setIfInBounds_toArray, List.set_cons_zero, List.set_cons_succ])
         | (refine quiet_row 30 _ rfl bi 0 Y Y 30 _ rfl C3.out (fun j v hv => by rw [Nat.zero_add]; exact hv) Try.underlying30 rfl HI1.out.2 ?_; go_big_quiet_on; simp only [Act.put, List.setIfInBounds_toArray, List.set_cons_zero, List.set_cons_succ])
         | (refine quiet_rowc 30 _ rfl ga (oa + m * 35) D _ rfl C5.out Try.underlying30 rfl HI1.out.1 ?_; go_big_quiet_on; simp only [Act.put, List.setIfInBounds_toArray, List.set_cons_zero, List.set_cons_succ])
         | (refine quiet_call10 (.bool L) 14 #[.agg D, .agg Y] ?_ ?_ ?_; (focus (intro W hW; go_simp; done)); (focus (intro W hW; exact C6.out W hW)); go_big_quiet_on; simp only [Act.put, List.setIfInBounds_toArray, List.set_cons_zero, List.set_cons_succ])
         | (refine quiet_val10 (.pointer (some ⟨g, 0, none⟩)) ?_ ?_; (focus (intro W hW; go_simp; done)); go_big_quiet_on; simp only [Act.put, List.setIfInBounds_toArray, List.set_cons_zero, List.set_cons_succ])
         | (refine quiet_val10 (.pointer (some ⟨g, 288, none⟩)) ?_ ?_; (focus (intro W hW; go_simp; done)); go_big_quiet_on; simp only [Act.put, List.setIfInBounds_toArray, List.set_cons_zero, List.set_cons_succ])
         | (refine quiet_val10 (.int .i64 (m : Int)) ?_ ?_; (focus (intro W hW; go_simp; done)); go_big_quiet_on; simp only [Act.put, List.setIfInBounds_toArray, List.set_cons_zero, List.set_cons_succ])
         | (refine quiet_val10 (.pointer (some ⟨ga, oa + m * 35, none⟩)) ?_ ?_; (focus (intro W hW; go_simp; done)); go_big_quiet_on; simp only [Act.put, List.setIfInBounds_toArray, List.set_cons_zero, List.set_cons_succ])
         | (refine quiet_val10 (.bool !L) ?_ ?_; (focus (intro W hW; go_simp; done)); go_big_quiet_on; simp only [Act.put, List.setIfInBounds_toArray, List.set_cons_zero, List.set_cons_succ])
         | (go_big_quiet_op; go_big_quiet_on)))
  refine wpQuiet_nil ?_
  intro w9 hw9
  have H9 : Hid (Grw w w9) := hw9
  clear hw9
  go_wp2
  go_ret
  exact ⟨rfl, H9.out⟩
end Go.Proofs.Ytbdkacfpeokggaa
