import Derived.Test.YtbfoiocbmhhdbaaGreatY7
import Derived.Test.YtbfoiocbmhhdbaaGreatY2
import Derived.Laws.StructEq
import Derived.BigQuiet
import Derived.Test.YtbfoiocbmhhdbaaGreatChecked
import Derived.Deep.QuietTactic
import Derived.StillTail
import Derived.Deep.Quiet
/- Loads in a class of worlds: one cell, many cells. -/
namespace Go.Proofs.YtbfoiocbmhhdbaaGreat
open Go.RowKit
set_option linter.unusedSimpArgs false
set_option linter.unusedVariables false
theorem quiet_one {P : Program} {o : Oper} {a : Act} {C : World → Prop} {K : Act → Prop} (t : TypeId) (x : Operand) (ho : o.op = .load t x) (g f : Nat) (v : Value) (hx : a.eval x = .pointer (some ⟨g, f, none⟩)) (ha : ∀ w, (isAgg t).run P w = .ok false w)
    (hc : ∀ w, C w → w.cell? ⟨g, f, none⟩ = some v) (hn : K (a.put o.dst v)) : o.quiet P a C K :=
  quiet_val10 v (fun w hw => by
    have h := hc w hw
    have h2 := ha w
    unfold execOp
    simp [ho, hx, Instr.loadAt, Instr.sureAddr, loadVar, h2, h]) hn
theorem quiet_row {P : Program} {o : Oper} {a : Act} {C : World → Prop} {K : Act → Prop} (t : TypeId) (x : Operand) (ho : o.op = .load t x) (g f : Nat) (D cells : Array Value) (T : TypeId) (d : TypeDesc) (hx : a.eval x = .pointer (some ⟨g, f, none⟩))
    (hc : ∀ w, C w → Bk w g D T) (hD : ∀ j v, cells[j]? = some v → D[f + j]? = some v) (hu : P.underlying t = some d) (hd : d.isRow = true) (hi : (P.info? t).map (·.size) = some cells.size) (hn : K (a.put o.dst (.agg cells))) : o.quiet P a C K :=
  quiet_val10 (.agg cells) (fun w hw => by
    have h := hc w hw
    have hr := run_loadVar_mid (P := P) w g f t cells.toList d (fun j v hv => by rw [h.cell]; exact hD j v (by rwa [Array.getElem?_toList] at hv)) hu hd (by rw [Array.length_toList]; exact hi)
    unfold execOp
    simp [ho, hx, Instr.loadAt, Instr.sureAddr, hr]) hn
/-- The load of many cells, of an operation that is wanted. -/
theorem wpList_getG {P : Program} {ops : Array Oper} {rest : List Oper} {op : Oper} {a : Act} {w : World} {Q : Exit → Act → World → Prop} (hw : Region.wanted op (yielded ops a.tmps) = true) (ty : TypeId) (x : Operand) (ho : op.op = .load ty x)
    (b o : Nat) (C cells : Array Value) (T : TypeId) (d : TypeDesc) (hx : a.eval x = .pointer (some ⟨b, o, none⟩))
    (hB : Bk w b C T) (hc : ∀ j v, cells[j]? = some v → C[o + j]? = some v) (hu : P.underlying ty = some d) (hd : d.isRow = true) (hi : (P.info? ty).map (·.size) = some cells.size)
    (h : wpList P ops Q rest (a.put op.dst (.agg cells)) w) : wpList P ops Q (op :: rest) a w :=
  wpList_step fun K hK => by
    rw [if_pos hw]
    have e : cells.toList.toArray = cells := Array.toArray_toList
    refine wp_load_mid ty x ho b o hx cells.toList d (fun j v hv => by rw [hB.cell]; exact hc j v (by rwa [Array.getElem?_toList] at hv)) hu hd (by rw [hi]; simp) ?_
    rw [e]
    exact hK _ _ h
/-- A comparison whose run is known. -/
theorem wpList_eqR {P : Program} {ops : Array Oper} {rest : List Oper} {op : Oper} {a : Act} {w : World} {Q : Exit → Act → World → Prop} (hw : Region.wanted op (yielded ops a.tmps) = true) (t : TypeId) (x y : Operand) (ho : op.op = .binOp .eql t x y t)
    (v1 v2 : Array Value) (r : Value) (hm : P.eqGuardType P.depth t = false) (hx : a.eval x = .agg v1) (hy : a.eval y = .agg v2) (hr : (binOp .eql t (.agg v1) (.agg v2)).run P w = .ok r w)
    (h : wpList P ops Q rest (a.put op.dst r) w) : wpList P ops Q (op :: rest) a w :=
  wpList_step fun K hK => by
    rw [if_pos hw]
    unfold Oper.wp execOp
    simp only [ho, hx, hy, Sem.run_bind, run_eqGuard_agg w .eql t x y v1 v2 hm, hr, Result.andThen_ok, Sem.run_pure]
    exact hK _ _ h
theorem list_of_quiet {P : Program} {ops : Array Oper} {Q : Exit → Act → World → Prop} {C : World → Prop} : ∀ (l : List Oper) (a : Act) (w : World), wpQuiet P ops C (fun a' => ∀ w', C w' → Q .normal a' w') l a → C w → wpList P ops Q l a w
  | [], a, w, h, hC => h w hC
  | o :: rest, a, w, h, hC => by
    unfold wpQuiet at h
    refine wpList_step fun K hK => ?_
    split at h
    · rename_i hw
      rw [if_pos hw]
      exact Oper.wp_of_quiet hC (fun a w' hw' ha => hK a w' (list_of_quiet rest a w' ha hw')) h
    · rename_i hw
      rw [if_neg hw]
      exact hK _ _ (list_of_quiet rest _ w h hC)
/-- A region that does not draw, over a class of worlds. -/
theorem region_plain11 {P : Program} {id : Nat} {Q : Exit → Act → World → Prop} {a : Act} {w : World} {l : List Oper} (C : World → Prop) (hC : C w)
    (h : wpQuiet P l.toArray C (fun a' => ∀ w', C w' → Q .normal a' w') l a) : (Code.region id l.toArray false).wp P Q a w :=
  wp_region_lit (list_of_quiet l a w h hC)
end Go.Proofs.YtbfoiocbmhhdbaaGreat
/- idx.mayBeEntries. -/
namespace Go.Proofs.YtbfoiocbmhhdbaaGreat
open Go.RowKit
set_option linter.unusedSimpArgs false
set_option linter.unusedVariables false
/-- The load of many cells that lie somewhere, in a class of worlds. -/
theorem quiet_rowc {P : Program} {o : Oper} {a : Act} {C : World → Prop} {K : Act → Prop} (t : TypeId) (x : Operand) (ho : o.op = .load t x) (g f : Nat) (cells : Array Value) (d : TypeDesc) (hx : a.eval x = .pointer (some ⟨g, f, none⟩))
    (hc : ∀ w, C w → ∀ j v, cells[j]? = some v → w.cell? ⟨g, f + j, none⟩ = some v) (hu : P.underlying t = some d) (hd : d.isRow = true) (hi : (P.info? t).map (·.size) = some cells.size) (hn : K (a.put o.dst (.agg cells))) : o.quiet P a C K :=
  quiet_val10 (.agg cells) (fun w hw => by
    have h := hc w hw
    have hr := run_loadVar_mid (P := P) w g f t cells.toList d (fun j v hv => h j v (by rwa [Array.getElem?_toList] at hv)) hu hd (by rw [Array.length_toList]; exact hi)
    unfold execOp
    simp [ho, hx, Instr.loadAt, Instr.sureAddr, hr]) hn
/-- The one ahead. -/
def prvX (l : List Xe) : Nat → Option Xe
  | 0 => none
  | k + 1 => l[k]?
/-- Is this one right behind that one? -/
def stRx : Option Xe → Xe → Bool
  | none, e => okX e
  | some d, e => okX e && ltN d.id e.id
theorem okR_step {l : List Xe} {k : Nat} {e : Xe} (he : l[k]? = some e) : okR (prvX l k) (l.drop k) = (stRx (prvX l k) e && okR (prvX l (k + 1)) (l.drop (k + 1))) := by
  obtain ⟨hk, rfl⟩ := List.getElem?_eq_some_iff.1 he
  have e2 : prvX l (k + 1) = some l[k] := he
  rw [List.drop_eq_getElem_cons hk, e2]
  show ((okX l[k] && (match prvX l k with | none => true | some d => ltN d.id l[k].id)) && okR (some l[k]) (l.drop (k + 1))) = _
  congr 1
  cases prvX l k with
  | none => simp [stRx]
  | some d => rfl
structure MbS (wr : World) (X : Array Value) (W : World) : Prop where
  bx : Bk W wr.heap.size X 50
  bel : Below wr.heap.size wr W
theorem MbS.next {wr W W' : World} {X : Array Value} (h : MbS wr X W) (hb : Below W.heap.size W W') : MbS wr X W' := ⟨h.bx.below hb h.bx.lt, h.bel.trans (hb.mono h.bel.size)⟩
theorem retBB {a b : Bool} (h : b = a) : Ending.returned (.bool a) = .returned (.bool b) := by rw [h]
theorem ord_lt {a b : Xe} (h : ltN a.id b.id = true) : ordI a b = -1 := by
  unfold ordI
  rw [if_neg (fun q => by rw [q, ltN_irr] at h; cases h), if_pos h]
theorem ord_ge {a b : Xe} (h : ltN a.id b.id = false) : 0 ≤ ordI a b := by
  unfold ordI
  split
  · exact Int.le_refl _
  · rw [if_neg (by rw [h]; simp)]; decide
set_option maxHeartbeats 8000000 in
set_option maxRecDepth 100000 in
theorem mayBe_any (l : List Xe) (a : Option Addr) (n c : Nat) (w : World) (hX : XeL w a l) (hl : l.length = n) (hn : n ≤ 1152921504606846976) :
    Calls Tryz.prog 47 #[.slice a n c] w fun e w' => e = .returned (.bool (okR none l)) ∧ Below w.heap.size w w' := by
  have HX : Hid (XeL w a l) := hX
  have HL : Hid (l.length = n) := hl
  clear hX hl
  go_enter Tryz.func47, Tryz.ntmps47
  go_wp2
  go_loopw [7] (fun v wr => ∃ k : Nat, v = .int .i64 k ∧ k ≤ n ∧ Hid (Below w.heap.size w wr) ∧ Hid (okR none l = okR (prvX l k) (l.drop k))) (fun v _ => n - (intOf v).toNat)
  case atStart => exact ⟨0, rfl, Nat.zero_le _, Below.refl _ _, rfl⟩
  case round =>
    obtain ⟨k, rfl, hk, HB, HE⟩ := hrel
    by_cases hlt : k < n
    · have hkz : (k : Int) < (n : Nat) := by omega
      obtain ⟨e, he⟩ : ∃ e, l[k]? = some e := ⟨l[k]'(by rw [HL.out]; exact hlt), List.getElem?_eq_getElem _⟩
      have HXr : Hid (XeL wr a l) := HX.out.below HB.out
      obtain ⟨ga, oa, rfl, hga, h32, hcells⟩ := HXr.out.get he
      have HST : Hid (okR (prvX l k) (l.drop k) = (stRx (prvX l k) e && okR (prvX l (k + 1)) (l.drop (k + 1)))) := okR_step he
      obtain ⟨X, hXe⟩ : ∃ X, xeC e = X := ⟨_, rfl⟩
      have HIX : Hid ((Tryz.prog.info? 50).map (·.size) = some X.toList.length ∧ X.all (·.oneCell') = true ∧ X.size = 35) := by rw [← hXe]; exact ⟨by rw [inf_xe35, Array.length_toList, xeC_size e h32], xeC_all e, xeC_size e h32⟩
      rw [hXe] at hcells
      have HCE : Hid (∀ j v, X[j]? = some v → wr.cell? ⟨ga, oa + k * 35 + j, none⟩ = some v) := hcells
      have R1 : Hid (MbS wr X (wr.alloc (.cells X 50)).drew) := ⟨bk_new _ _ _, ((Below.refl _ _).alloc (Nat.le_refl _) _).drew⟩
      have HMB : Hid (∀ W, MbS wr X W → Calls Tryz.prog 51 #[.agg X] W fun r w' => r = .returned (.bool (okX e)) ∧ MbS wr X w') := fun W hW => by
        rw [← hXe] at hW ⊢
        exact (maybe_any e W h32).mono fun r w' q => ⟨q.1, hW.next (by rw [q.2]; exact (Below.refl _ _).alloc (Nat.le_refl _) _)⟩
      cases hok : okX e with
      | false =>
        rw [hok] at HMB
        have HF : Hid (okR none l = false) := by
          have : stRx (prvX l k) e = false := by
            cases prvX l k with
            | none => exact hok
            | some d => simp [stRx, hok]
          show _ = _
          rw [HE.out, HST.out, this]; rfl
        clear HE HST hok hcells he hXe h32
        go_wp2_with (first
          | (refine wpList_load_mid rfl 50 (.tmp 10) rfl ga (oa + k * 35) rfl X.toList _ (fun j v hv => HCE.out j v (by rwa [Array.getElem?_toList] at hv)) Tryz.underlying50 rfl HIX.out.1 ?_)
          | (refine wpList_store_new rfl 50 (.tmp 4) (.tmp 11) rfl X _ 50 wr.heap.size rfl rfl rfl (info_xe HIX.out.2.2) (by rw [HIX.out.2.2]; rfl) HIX.out.2.1 ?_)
          | fail)
        refine region_class10 (MbS wr X) (by kernel_rfl) (by kernel_rfl) R1.out ?_
        try simp only [Act.put, List.setIfInBounds_toArray, List.set_cons_zero, List.set_cons_succ]
        repeat (first
          | go_big_quiet_skip
          | (go_big_quiet_want
             first
               | (refine quiet_row 50 _ rfl wr.heap.size 0 X X 50 _ rfl (fun _ h => h.bx) (fun j v hv => by rw [Nat.zero_add]; exact hv) Tryz.underlying50 rfl (info_xe HIX.out.2.2) ?_; go_big_quiet_on; simp only [Act.put, List.setIfInBounds_toArray, List.set_cons_zero, List.set_cons_succ])
               | (refine quiet_call10 (.bool false) 51 #[.agg X] ?_ ?_ ?_; (focus (intro W hW; go_simp; done)); (focus (intro W hW; exact HMB.out W hW)); go_big_quiet_on; simp only [Act.put, List.setIfInBounds_toArray, List.set_cons_zero, List.set_cons_succ])
               | (refine quiet_val10 (.bool true) ?_ ?_; (focus (intro W hW; go_simp; done)); go_big_quiet_on; simp only [Act.put, List.setIfInBounds_toArray, List.set_cons_zero, List.set_cons_succ])
               | (go_big_quiet_op; go_big_quiet_on)))
        refine wpQuiet_nil ?_
        intro w9 hw9
        have H9 : Hid (MbS wr X w9) := hw9
        clear hw9
        go_wp2
        go_ret
        exact ⟨retBB HF.out, HB.out.trans (H9.out.bel.mono HB.out.size)⟩
      | true =>
        rw [hok] at HMB
        cases k with
        | zero =>
          have HF : Hid (okR none l = okR (prvX l 1) (l.drop 1)) := by
            have : stRx (prvX l 0) e = true := hok
            show _ = _
            rw [HE.out, HST.out, this]; rfl
          clear HE HST hok hcells he hXe h32
          go_wp2_with (first
            | (refine wpList_load_mid rfl 50 (.tmp 10) rfl ga (oa + 0 * 35) (by simp [Act.eval]) X.toList _ (fun j v hv => HCE.out j v (by rwa [Array.getElem?_toList] at hv)) Tryz.underlying50 rfl HIX.out.1 ?_)
            | (refine wpList_store_new rfl 50 (.tmp 4) (.tmp 11) rfl X _ 50 wr.heap.size rfl rfl rfl (info_xe HIX.out.2.2) (by rw [HIX.out.2.2]; rfl) HIX.out.2.1 ?_)
            | fail)
          refine region_class10 (MbS wr X) (by kernel_rfl) (by kernel_rfl) R1.out ?_
          try simp only [Act.put, List.setIfInBounds_toArray, List.set_cons_zero, List.set_cons_succ]
          repeat (first
            | go_big_quiet_skip
            | (go_big_quiet_want
               first
                 | (refine quiet_row 50 _ rfl wr.heap.size 0 X X 50 _ rfl (fun _ h => h.bx) (fun j v hv => by rw [Nat.zero_add]; exact hv) Tryz.underlying50 rfl (info_xe HIX.out.2.2) ?_; go_big_quiet_on; simp only [Act.put, List.setIfInBounds_toArray, List.set_cons_zero, List.set_cons_succ])
                 | (refine quiet_call10 (.bool true) 51 #[.agg X] ?_ ?_ ?_; (focus (intro W hW; go_simp; done)); (focus (intro W hW; exact HMB.out W hW)); go_big_quiet_on; simp only [Act.put, List.setIfInBounds_toArray, List.set_cons_zero, List.set_cons_succ])
                 | (refine quiet_val10 (.bool false) ?_ ?_; (focus (intro W hW; go_simp; done)); go_big_quiet_on; simp only [Act.put, List.setIfInBounds_toArray, List.set_cons_zero, List.set_cons_succ])
                 | (go_big_quiet_op; go_big_quiet_on)))
          refine wpQuiet_nil ?_
          intro w9 hw9
          have H9 : Hid (MbS wr X w9) := hw9
          clear hw9
          go_wp2
          go_roundw
          case rel => exact ⟨1, by go_num, by omega, HB.out.trans (H9.out.bel.mono HB.out.size), HF.out⟩
          case measure => simp [intOf]; omega
        | succ d =>
          obtain ⟨p, hp⟩ : ∃ p, l[d]? = some p := ⟨l[d]'(by rw [HL.out]; omega), List.getElem?_eq_getElem _⟩
          obtain ⟨ga', oa', he', hga', h32', hcells'⟩ := HXr.out.get hp
          injection he' with he'
          injection he' with he1 he2 he3
          subst he1
          subst he2
          obtain ⟨Y, hYe⟩ : ∃ Y, xeC p = Y := ⟨_, rfl⟩
          have HIY : Hid ((Tryz.prog.info? 50).map (·.size) = some Y.size) := by rw [← hYe]; exact info_xe (xeC_size p h32')
          rw [hYe] at hcells'
          have HCY : Hid (∀ W, MbS wr X W → ∀ j v, Y[j]? = some v → W.cell? ⟨ga, oa + d * 35 + j, none⟩ = some v) := fun W hW j v hv => by
            rw [hW.bel.cell hga']; exact hcells' j v hv
          obtain ⟨O, hO⟩ : ∃ O, ordI p e = O := ⟨_, rfl⟩
          have HOR : Hid (∀ W, MbS wr X W → Calls Tryz.prog 53 #[.agg Y, .agg X] W fun r w' => r = .returned (.int .i64 O) ∧ MbS wr X w') := fun W hW => by
            rw [← hYe, ← hXe, ← hO]
            rw [← hXe] at hW
            exact (order_any p e W h32' h32).mono fun r w' ⟨q1, q, os, q2⟩ => ⟨q1, hW.next (by rw [q2]; exact grow_below _ _ _)⟩
          have hst : stRx (prvX l (d + 1)) e = ltN p.id e.id := by
            have : prvX l (d + 1) = some p := hp
            rw [this]
            simp [stRx, hok]
          obtain ⟨f, hf⟩ : ∃ f, d + 1 = f := ⟨_, rfl⟩
          have h3n : 0 < f := by omega
          have h7n : d < n := by omega
          have hfb : f ≤ 1152921504606846976 := by omega
          have hwr : IntKind.i64.wrap (d : Int) = (d : Int) := by rw [IntKind.wrap_i64]; omega
          have h3 : (0 : Int) < f := by omega
          have h4 : (f : Int) - 1 = d := by omega
          have h6 : (0 : Int) ≤ d := by omega
          have h7 : (d : Int) < (n : Nat) := by omega
          cases hlt2 : ltN p.id e.id with
          | true =>
            have hOO : O = -1 := by rw [← hO]; exact ord_lt hlt2
            subst hOO
            have HF : Hid (okR none l = okR (prvX l (d + 1 + 1)) (l.drop (d + 1 + 1))) := by
              show _ = _
              rw [HE.out, HST.out, hst, hlt2]; rfl
            clear HE HST hok hcells he hXe h32 hO hst hlt2 hcells' hYe hp h32'
            rw [hf] at HF HCE hkz ⊢
            go_wp2_with (first
              | (refine wpList_load_mid rfl 50 (.tmp 10) rfl ga (oa + f * 35) rfl X.toList _ (fun j v hv => HCE.out j v (by rwa [Array.getElem?_toList] at hv)) Tryz.underlying50 rfl HIX.out.1 ?_)
              | (refine wpList_store_new rfl 50 (.tmp 4) (.tmp 11) rfl X _ 50 wr.heap.size rfl rfl rfl (info_xe HIX.out.2.2) (by rw [HIX.out.2.2]; rfl) HIX.out.2.1 ?_)
              | fail)
            refine region_class10 (MbS wr X) (by kernel_rfl) (by kernel_rfl) R1.out ?_
            try simp only [Act.put, List.setIfInBounds_toArray, List.set_cons_zero, List.set_cons_succ]
            repeat (first
              | go_big_quiet_skip
              | (go_big_quiet_want
                 first
                   | (refine quiet_row 50 _ rfl wr.heap.size 0 X X 50 _ rfl (fun _ h => h.bx) (fun j v hv => by rw [Nat.zero_add]; exact hv) Tryz.underlying50 rfl (info_xe HIX.out.2.2) ?_; go_big_quiet_on; simp only [Act.put, List.setIfInBounds_toArray, List.set_cons_zero, List.set_cons_succ])
                   | (refine quiet_rowc 50 _ rfl ga (oa + d * 35) Y _ rfl HCY.out Tryz.underlying50 rfl HIY.out ?_; go_big_quiet_on; simp only [Act.put, List.setIfInBounds_toArray, List.set_cons_zero, List.set_cons_succ])
                   | (refine quiet_call10 (.bool true) 51 #[.agg X] ?_ ?_ ?_; (focus (intro W hW; go_simp; done)); (focus (intro W hW; exact HMB.out W hW)); go_big_quiet_on; simp only [Act.put, List.setIfInBounds_toArray, List.set_cons_zero, List.set_cons_succ])
                   | (refine quiet_call10 (.int .i64 (-1)) 53 #[.agg Y, .agg X] ?_ ?_ ?_; (focus (intro W hW; go_simp; done)); (focus (intro W hW; exact HOR.out W hW)); go_big_quiet_on; simp only [Act.put, List.setIfInBounds_toArray, List.set_cons_zero, List.set_cons_succ])
                   | (refine quiet_val10 (.pointer (some ⟨ga, oa + d * 35, none⟩)) ?_ ?_; (focus (intro W hW; go_simp; done)); go_big_quiet_on; simp only [Act.put, List.setIfInBounds_toArray, List.set_cons_zero, List.set_cons_succ])
                   | (refine quiet_val10 (.int .i64 (d : Int)) ?_ ?_; (focus (intro W hW; go_simp; done)); go_big_quiet_on; simp only [Act.put, List.setIfInBounds_toArray, List.set_cons_zero, List.set_cons_succ])
                   | (refine quiet_val10 (.bool true) ?_ ?_; (focus (intro W hW; go_simp; done)); go_big_quiet_on; simp only [Act.put, List.setIfInBounds_toArray, List.set_cons_zero, List.set_cons_succ])
                   | (refine quiet_val10 (.bool false) ?_ ?_; (focus (intro W hW; go_simp; done)); go_big_quiet_on; simp only [Act.put, List.setIfInBounds_toArray, List.set_cons_zero, List.set_cons_succ])
                   | (go_big_quiet_op; go_big_quiet_on)))
            refine wpQuiet_nil ?_
            intro w9 hw9
            have H9 : Hid (MbS wr X w9) := hw9
            clear hw9
            go_wp2
            go_roundw
            case rel => exact ⟨f + 1, by go_num, by omega, HB.out.trans (H9.out.bel.mono HB.out.size), HF.out⟩
            case measure => simp [intOf]; omega
          | false =>
            have hOO : 0 ≤ O := by rw [← hO]; exact ord_ge hlt2
            have HF : Hid (okR none l = false) := by
              show _ = _
              rw [HE.out, HST.out, hst, hlt2]; rfl
            clear HE HST hok hcells he hXe h32 hO hst hlt2 hcells' hYe hp h32'
            rw [hf] at HCE hkz ⊢
            go_wp2_with (first
              | (refine wpList_load_mid rfl 50 (.tmp 10) rfl ga (oa + f * 35) rfl X.toList _ (fun j v hv => HCE.out j v (by rwa [Array.getElem?_toList] at hv)) Tryz.underlying50 rfl HIX.out.1 ?_)
              | (refine wpList_store_new rfl 50 (.tmp 4) (.tmp 11) rfl X _ 50 wr.heap.size rfl rfl rfl (info_xe HIX.out.2.2) (by rw [HIX.out.2.2]; rfl) HIX.out.2.1 ?_)
              | fail)
            refine region_class10 (MbS wr X) (by kernel_rfl) (by kernel_rfl) R1.out ?_
            try simp only [Act.put, List.setIfInBounds_toArray, List.set_cons_zero, List.set_cons_succ]
            repeat (first
              | go_big_quiet_skip
              | (go_big_quiet_want
                 first
                   | (refine quiet_row 50 _ rfl wr.heap.size 0 X X 50 _ rfl (fun _ h => h.bx) (fun j v hv => by rw [Nat.zero_add]; exact hv) Tryz.underlying50 rfl (info_xe HIX.out.2.2) ?_; go_big_quiet_on; simp only [Act.put, List.setIfInBounds_toArray, List.set_cons_zero, List.set_cons_succ])
                   | (refine quiet_rowc 50 _ rfl ga (oa + d * 35) Y _ rfl HCY.out Tryz.underlying50 rfl HIY.out ?_; go_big_quiet_on; simp only [Act.put, List.setIfInBounds_toArray, List.set_cons_zero, List.set_cons_succ])
                   | (refine quiet_call10 (.bool true) 51 #[.agg X] ?_ ?_ ?_; (focus (intro W hW; go_simp; done)); (focus (intro W hW; exact HMB.out W hW)); go_big_quiet_on; simp only [Act.put, List.setIfInBounds_toArray, List.set_cons_zero, List.set_cons_succ])
                   | (refine quiet_call10 (.int .i64 O) 53 #[.agg Y, .agg X] ?_ ?_ ?_; (focus (intro W hW; go_simp; done)); (focus (intro W hW; exact HOR.out W hW)); go_big_quiet_on; simp only [Act.put, List.setIfInBounds_toArray, List.set_cons_zero, List.set_cons_succ])
                   | (refine quiet_val10 (.pointer (some ⟨ga, oa + d * 35, none⟩)) ?_ ?_; (focus (intro W hW; go_simp; done)); go_big_quiet_on; simp only [Act.put, List.setIfInBounds_toArray, List.set_cons_zero, List.set_cons_succ])
                   | (refine quiet_val10 (.int .i64 (d : Int)) ?_ ?_; (focus (intro W hW; go_simp; done)); go_big_quiet_on; simp only [Act.put, List.setIfInBounds_toArray, List.set_cons_zero, List.set_cons_succ])
                   | (refine quiet_val10 (.bool true) ?_ ?_; (focus (intro W hW; go_simp; done)); go_big_quiet_on; simp only [Act.put, List.setIfInBounds_toArray, List.set_cons_zero, List.set_cons_succ])
                   | (refine quiet_val10 (.bool false) ?_ ?_; (focus (intro W hW; go_simp; done)); go_big_quiet_on; simp only [Act.put, List.setIfInBounds_toArray, List.set_cons_zero, List.set_cons_succ])
                   | (go_big_quiet_op; go_big_quiet_on)))
            refine wpQuiet_nil ?_
            intro w9 hw9
            have H9 : Hid (MbS wr X w9) := hw9
            clear hw9
            go_wp2
            go_ret
            exact ⟨retBB HF.out, HB.out.trans (H9.out.bel.mono HB.out.size)⟩
    · have hkz : ¬ (k : Int) < (n : Nat) := by omega
      obtain rfl : k = n := by omega
      have HF : Hid (okR none l = true) := by
        show _ = _
        rw [HE.out, List.drop_eq_nil_of_le (by rw [HL.out]; omega)]
        cases prvX l k <;> rfl
      clear HE
      go_wp2
      go_ret
      exact ⟨retBB HF.out, HB.out⟩
end Go.Proofs.YtbfoiocbmhhdbaaGreat
/- A region that draws its order: its first operations quiet in a class of worlds, in whatever order; the last ones, which wait for all of these, one behind the other. -/
namespace Go.Proofs.YtbfoiocbmhhdbaaGreat
open Go.RowKit
set_option linter.unusedSimpArgs false
set_option linter.unusedVariables false
theorem quiet_val {P : Program} {o : Oper} {a : Act} {C : World → Prop} {K : Act → Prop} (v : Value) (h : ∀ w, C w → (execOp a.eval o).run P w = .ok (.value v) w) (hn : K (a.put o.dst v)) : o.quiet P a C K :=
  ⟨v, fun w hw => by unfold Oper.quietAt; rw [h w hw]; exact ⟨rfl, rfl⟩, hn⟩
theorem quiet_call {P : Program} {o : Oper} {a : Act} {C : World → Prop} {K : Act → Prop} (v : Value) (f : FuncId) (args : Array Value) (h : ∀ w, C w → (execOp a.eval o).run P w = .ok (.enter f args) w)
    (hc : ∀ w, C w → Calls P f args w (fun e w'' => e = .returned v ∧ C w'')) (hn : K (a.put o.dst v)) : o.quiet P a C K :=
  ⟨v, fun w hw => by unfold Oper.quietAt; rw [h w hw]; exact ⟨rfl, hc w hw⟩, hn⟩
section
variable {P : Program} {ops : Array Oper} {md : Region.Mode} {C : World → Prop}
/-- So many operations of the head come up, in whatever order, then L holds. -/
def headQ (P : Program) (md : Region.Mode) (ops : Array Oper) (C : World → Prop) (n : Nat) (L : Array Bool → Act → Prop) : Nat → Array Bool → Act → Prop
  | 0, listed, a => L listed a
  | f + 1, listed, a => (∃ i, i ∈ Region.ready md ops listed) ∧ ∀ i, i ∈ Region.ready md ops listed → i < n ∧ qOp P ops C i (headQ P md ops C n L f (listed.setIfInBounds i true)) a
theorem any_of_headQ {n g : Nat} {L : Array Bool → Act → Prop} {R : Exit → Act → World → Prop} (hL : ∀ listed a w, C w → L listed a → wpAny P md ops R g listed a w) (f : Nat) :
    ∀ (listed : Array Bool) (a : Act) (w : World), C w → headQ P md ops C n L f listed a → wpAny P md ops R (f + g) listed a w := by
  induction f with
  | zero => intro listed a w hw h; rw [Nat.zero_add]; exact hL _ _ _ hw h
  | succ f ih =>
    intro listed a w hw h
    rw [Nat.add_right_comm]
    refine ⟨fun h0 => ?_, fun i hi => wpOp_of_qOp hw (fun a' w' hw' h' => ih _ a' w' hw' h') (h.2 i hi).2⟩
    obtain ⟨i, hi⟩ := h.1
    rw [h0] at hi; cases hi
/-- One of the head may be taken first. -/
theorem headQ_first {n i : Nat} {oi : Oper} {v : Value} {L : Array Bool → Act → Prop} (hi : ops[i]? = some oi) (hsel : ∀ (j : Nat) (o : Oper) cs b, ops[j]? = some o → o.op ≠ .select cs b)
    (hs : Region.sinkB md ops n = true) (hc : Region.chainB md ops n = true) (hn : n < ops.size) (hin : i < n) (hdone : ∀ listed a, L listed a → ∀ j, j ∈ Region.ready md ops listed → n ≤ j) (f : Nat) :
    ∀ (listed : Array Bool) (a : Act), HeadInv md ops n listed →
      (∀ j oj, ops[j]? = some oj → j ≠ i → listed.getD j true = false → (∀ e ∈ oj.after, Region.binds md e = true → e.on ≠ i) → oi.apart ops oj = true) →
      i ∈ Region.ready md ops listed → YieldsIn P ops C oi v a →
      headQ P md ops C n L f (listed.setIfInBounds i true) (a.put oi.dst v) → headQ P md ops C n L (f + 1) listed a := by
  induction f with
  | zero =>
    intro listed a inv _ hr hy H
    refine ⟨⟨i, hr⟩, fun j hj => ?_⟩
    have hun := (mem_ready.1 hr).1
    have hjn : j < n := Nat.lt_of_not_le fun h => tail_waits hs hc hn inv _ i rfl hin hun j h hj
    by_cases e : j = i
    · subst e; exact ⟨hjn, hy.qOp hi H⟩
    · have := hdone _ _ H j (ready_mono hj e); omega
  | succ f ih =>
    intro listed a inv hfree hr hy H
    refine ⟨⟨i, hr⟩, fun j hj => ?_⟩
    have hun := (mem_ready.1 hr).1
    have hjn : j < n := Nat.lt_of_not_le fun h => tail_waits hs hc hn inv _ i rfl hin hun j h hj
    refine ⟨hjn, ?_⟩
    by_cases e : j = i
    · subst e; exact hy.qOp hi H
    · obtain ⟨hjun, oj, hoj, hall⟩ := mem_ready.1 hj
      have hap : oi.apart ops oj = true := hfree j oj hoj e hjun (fun d hd hb he => by
        have h1 := hall d hd hb
        rw [he, getD_both hun] at h1; cases h1)
      have h2 := qOp_put hoj hap (fun cs b => hsel i oi cs b hi) (fun cs b => hsel j oj cs b hoj) hy (H.2 j (ready_mono hj e)).2
      refine qOp_mono (fun a' h3 => ih _ a' (inv.set hj hjn) (fun k ok hk hki hu hno => hfree k ok hk hki ?_ hno) (ready_mono hr (Ne.symm e)) h3.1 ?_) h2
      · by_cases ejk : j = k
        · subst ejk; exact hjun
        · rwa [getD_set_ne true ejk] at hu
      · rw [Array.setIfInBounds_comm _ _ e]; exact h3.2
theorem headQ_lex {n g : Nat} {Lq : Act → Prop} (hsel : Region.noSelect ops = true) (hs : Region.sinkB md ops n = true) (hc : Region.chainB md ops n = true) (hn : n < ops.size) (l : List Oper) :
    ∀ (k : Nat) (listed : Array Bool) (a : Act), (∀ j, j < l.length → l[j]? = ops[k + j]?) → k + l.length = n → HeadInv md ops n listed → Region.lexHead md ops g l.length k listed = true → wpQuiet P ops C Lq l a →
    headQ P md ops C n (fun listed' a' => Region.seqB md ops g n listed' = true ∧ Lq a') l.length listed a := by
  induction l with
  | nil =>
    intro k listed a _ hk _ hB h
    obtain rfl : k = n := by simpa using hk
    exact ⟨hB, h⟩
  | cons o l ih =>
    intro k listed a hl hk inv hB h
    rw [List.length_cons] at hk
    have h0 : ops[k]? = some o := by have := hl 0 (by simp); simpa using this.symm
    simp only [List.length_cons, Region.lexHead, Bool.and_eq_true] at hB
    have hr : k ∈ Region.ready md ops listed := by simpa using hB.1.1
    have hq : qOp P ops C k (wpQuiet P ops C Lq l) a := by unfold qOp; simp only [h0]; exact h
    obtain ⟨v, hy, hK⟩ := yieldsIn_of_qOp h0 hq
    refine headQ_first h0 (Region.noSelect_spec hsel) hs hc hn (by omega) (fun listed' a' hL => seqB_ready hL.1) l.length listed a inv (Region.free_spec h0 hB.1.2) hr hy ?_
    refine ih (k + 1) _ _ (fun j hj => ?_) (by omega) (inv.set hr (by omega)) hB.2 hK
    have := hl (j + 1) (by simp; omega)
    rw [List.getElem?_cons_succ] at this
    rw [this]; congr 1; omega
theorem wp_region_tail {id : Nat} {Q : Exit → Act → World → Prop} {a : Act} {w : World} {l : List Oper} (C : World → Prop) (n : Nat) (hm : P.follows .mixedOrders = true) (hB : Region.lexTailB .any l.toArray n = true) (hC : C w.drew)
    (h : wpQuiet P l.toArray C (fun a' => ∀ w', C w' → wpList P l.toArray Q (l.drop n) a' w') (l.take n) a) : (Code.region id l.toArray true).wp P Q a w := by
  simp only [Region.lexTailB, Bool.and_eq_true, decide_eq_true_eq] at hB
  obtain ⟨⟨⟨⟨hsel, hn⟩, hs⟩, hc⟩, hlex⟩ := hB
  have hn' : n < l.length := by simpa using hn
  have htl : (l.take n).length = n := by rw [List.length_take]; omega
  have hdl : (l.drop n).length = l.toArray.size - n := by simp
  have inv0 : HeadInv .any l.toArray n (Array.replicate l.toArray.size false) := by
    refine ⟨by simp, fun j oj _ hl => ?_, fun t _ ht => getD_in (by simpa using ht) (getD_replicate_false _ _)⟩
    rw [getD_replicate_false] at hl; cases hl
  have H := headQ_lex (P := P) (C := C) (md := .any) (g := l.toArray.size - n) hsel hs hc hn (l.take n) 0 _ a (fun j hj => by
    rw [htl] at hj
    rw [List.getElem?_take_of_lt hj]; simp) (by omega) inv0 (by rw [htl]; exact hlex) h
  have H2 := any_of_headQ (R := Q) (g := l.toArray.size - n) (fun listed a' w' hw' hL => by
    have := wpAny_of_seq (md := .any) (Q' := Q) (l.drop n) n listed a' w' (fun j => by simp [List.getElem?_drop]) (by rw [hdl]; exact hL.1) (hL.2 w' hw')
    rwa [hdl] at this) _ _ _ _ hC H
  refine wp_region_any hm ?_
  rwa [htl, show n + (l.toArray.size - n) = l.toArray.size from by omega] at H2
end
end Go.Proofs.YtbfoiocbmhhdbaaGreat
