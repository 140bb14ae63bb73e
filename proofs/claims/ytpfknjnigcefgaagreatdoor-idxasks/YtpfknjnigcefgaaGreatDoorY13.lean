import Derived.Test.YtpfknjnigcefgaaGreatDoorChecked
import Derived.BigQuiet
import Derived.Deep.QuietTactic
import Derived.Test.YtpfknjnigcefgaaGreatDoorY8
import Derived.Laws.StructEq
import Derived.Test.YtpfknjnigcefgaaGreatDoorY9
import Derived.Test.YtpfknjnigcefgaaGreatDoorY10
import Derived.Test.YtpfknjnigcefgaaGreatDoorY12
/- A region that draws its order, over a class of worlds of one's own: each operation gives the same value in every world of the class. -/
namespace Go.Proofs.YtpfknjnigcefgaaGreatDoor
open Go.RowKit
set_option linter.unusedSimpArgs false
set_option linter.unusedVariables false
theorem region_class10 {P : Program} {id : Nat} {Q : Exit → Act → World → Prop} {a : Act} {w : World} {l : List Oper} (C : World → Prop) (hm : P.follows .mixedOrders = true) (hB : Region.lexB .any l.toArray = true) (hC : C w.drew)
    (h : wpQuiet P l.toArray C (fun a' => ∀ w', C w' → Q .normal a' w') l a) : (Code.region id l.toArray true).wp P Q a w :=
  wp_region_quiet (C := C) hm hB hC (by simpa using h)
theorem quiet_val10 {P : Program} {o : Oper} {a : Act} {C : World → Prop} {K : Act → Prop} (v : Value) (h : ∀ w, C w → (execOp a.eval o).run P w = .ok (.value v) w) (hn : K (a.put o.dst v)) : o.quiet P a C K :=
  ⟨v, fun w hw => by unfold Oper.quietAt; rw [h w hw]; exact ⟨rfl, rfl⟩, hn⟩
theorem quiet_call10 {P : Program} {o : Oper} {a : Act} {C : World → Prop} {K : Act → Prop} (v : Value) (f : FuncId) (args : Array Value) (h : ∀ w, C w → (execOp a.eval o).run P w = .ok (.enter f args) w)
    (hc : ∀ w, C w → Calls P f args w (fun e w'' => e = .returned v ∧ C w'')) (hn : K (a.put o.dst v)) : o.quiet P a C K :=
  ⟨v, fun w hw => by unfold Oper.quietAt; rw [h w hw]; exact ⟨rfl, hc w hw⟩, hn⟩
theorem quiet_str10 {o : Oper} {a : Act} {C : World → Prop} {K : Act → Prop} (x : Operand) (ho : o.op = .load 9 x) (g f : Nat) (s : ByteArray) (hx : a.eval x = .pointer (some ⟨g, f, none⟩))
    (hc : ∀ w, C w → w.cell? ⟨g, f, none⟩ = some (.string s)) (hn : K (a.put o.dst (.string s))) : o.quiet Tryz.prog a C K :=
  quiet_val10 (.string s) (fun w hw => by
    have h := hc w hw
    have ha : (isAgg 9).run Tryz.prog w = .ok false w := by kernel_rfl
    unfold execOp
    simp [ho, hx, Instr.loadAt, Instr.sureAddr, loadVar, ha, h]) hn
end Go.Proofs.YtpfknjnigcefgaaGreatDoor
/- Loads in a class of worlds: one cell, many cells. -/
namespace Go.Proofs.YtpfknjnigcefgaaGreatDoor
open Go.RowKit
set_option linter.unusedSimpArgs false
set_option linter.unusedVariables false
theorem quiet_one {P : Program} {o : Oper} {a : Act} {C : World → Prop} {K : Act → Prop} (t : TypeId) (x : Operand) (ho : o.op = .load t x) (g f : Nat) (v : Value) (hx : a.eval x = .pointer (some ⟨g, f, none⟩)) (ha : ∀ w, (isAgg t).run P w = .ok false w)
    (hc : ∀ w, C w → w.cell? ⟨g, f, none⟩ = some v) (hn : K (a.put o.dst v)) : o.quiet P a C K :=
  quiet_val10 v (fun w hw => by
    have h := hc w hw
    have h2 := ha w
    unfold execOp
    simp [ho, hx, Instr.loadAt, Instr.sureAddr, loadVar, h2, h]) hn
theorem quiet_row {P : Program} {o : Oper} {a : Act} {C : World → Prop} {K : Act → Prop} (t : TypeId) (x : Operand) (ho : o.op = .load t x) (g f : Nat) (D cells : Array Value) (T : TypeId) (d : TypeDesc) (hx : a.eval x = .pointer (some ⟨g, f, none⟩))
    (hc : ∀ w, C w → Bk w g D T) (hD : ∀ j v, cells[j]? = some v → D[f + j]? = some v) (hu : P.underlying t = some d) (hd : d.isRow = true) (hi : (P.info? t).map (·.size) = some cells.size) (hn : K (a.put o.dst (.agg cells))) : o.quiet P a C K :=
  quiet_val10 (.agg cells) (fun w hw => by
    have h := hc w hw
    have hr := run_loadVar_mid (P := P) w g f t cells.toList d (fun j v hv => by rw [h.cell]; exact hD j v (by rwa [Array.getElem?_toList] at hv)) hu hd (by rw [Array.length_toList]; exact hi)
    unfold execOp
    simp [ho, hx, Instr.loadAt, Instr.sureAddr, hr]) hn
/-- The load of many cells, of an operation that is wanted. -/
theorem wpList_getG {P : Program} {ops : Array Oper} {rest : List Oper} {op : Oper} {a : Act} {w : World} {Q : Exit → Act → World → Prop} (hw : Region.wanted op (yielded ops a.tmps) = true) (ty : TypeId) (x : Operand) (ho : op.op = .load ty x)
    (b o : Nat) (C cells : Array Value) (T : TypeId) (d : TypeDesc) (hx : a.eval x = .pointer (some ⟨b, o, none⟩))
    (hB : Bk w b C T) (hc : ∀ j v, cells[j]? = some v → C[o + j]? = some v) (hu : P.underlying ty = some d) (hd : d.isRow = true) (hi : (P.info? ty).map (·.size) = some cells.size)
    (h : wpList P ops Q rest (a.put op.dst (.agg cells)) w) : wpList P ops Q (op :: rest) a w :=
  wpList_step fun K hK => by
    rw [if_pos hw]
    have e : cells.toList.toArray = cells := Array.toArray_toList
    refine wp_load_mid ty x ho b o hx cells.toList d (fun j v hv => by rw [hB.cell]; exact hc j v (by rwa [Array.getElem?_toList] at hv)) hu hd (by rw [hi]; simp) ?_
    rw [e]
    exact hK _ _ h
/-- A comparison whose run is known. -/
theorem wpList_eqR {P : Program} {ops : Array Oper} {rest : List Oper} {op : Oper} {a : Act} {w : World} {Q : Exit → Act → World → Prop} (hw : Region.wanted op (yielded ops a.tmps) = true) (t : TypeId) (x y : Operand) (ho : op.op = .binOp .eql t x y t)
    (v1 v2 : Array Value) (r : Value) (hm : P.eqGuardType P.depth t = false) (hx : a.eval x = .agg v1) (hy : a.eval y = .agg v2) (hr : (binOp .eql t (.agg v1) (.agg v2)).run P w = .ok r w)
    (h : wpList P ops Q rest (a.put op.dst r) w) : wpList P ops Q (op :: rest) a w :=
  wpList_step fun K hK => by
    rw [if_pos hw]
    unfold Oper.wp execOp
    simp only [ho, hx, hy, Sem.run_bind, run_eqGuard_agg w .eql t x y v1 v2 hm, hr, Result.andThen_ok, Sem.run_pure]
    exact hK _ _ h
theorem list_of_quiet {P : Program} {ops : Array Oper} {Q : Exit → Act → World → Prop} {C : World → Prop} : ∀ (l : List Oper) (a : Act) (w : World), wpQuiet P ops C (fun a' => ∀ w', C w' → Q .normal a' w') l a → C w → wpList P ops Q l a w
  | [], a, w, h, hC => h w hC
  | o :: rest, a, w, h, hC => by
    unfold wpQuiet at h
    refine wpList_step fun K hK => ?_
    split at h
    · rename_i hw
      rw [if_pos hw]
      exact Oper.wp_of_quiet hC (fun a w' hw' ha => hK a w' (list_of_quiet rest a w' ha hw')) h
    · rename_i hw
      rw [if_neg hw]
      exact hK _ _ (list_of_quiet rest _ w h hC)
/-- A region that does not draw, over a class of worlds. -/
theorem region_plain11 {P : Program} {id : Nat} {Q : Exit → Act → World → Prop} {a : Act} {w : World} {l : List Oper} (C : World → Prop) (hC : C w)
    (h : wpQuiet P l.toArray C (fun a' => ∀ w', C w' → Q .normal a' w') l a) : (Code.region id l.toArray false).wp P Q a w :=
  wp_region_lit (list_of_quiet l a w h hC)
end Go.Proofs.YtpfknjnigcefgaaGreatDoor
/- idx.mayBeEntries. -/
namespace Go.Proofs.YtpfknjnigcefgaaGreatDoor
open Go.RowKit
set_option linter.unusedSimpArgs false
set_option linter.unusedVariables false
/-- The load of many cells that lie somewhere, in a class of worlds. -/
theorem quiet_rowc {P : Program} {o : Oper} {a : Act} {C : World → Prop} {K : Act → Prop} (t : TypeId) (x : Operand) (ho : o.op = .load t x) (g f : Nat) (cells : Array Value) (d : TypeDesc) (hx : a.eval x = .pointer (some ⟨g, f, none⟩))
    (hc : ∀ w, C w → ∀ j v, cells[j]? = some v → w.cell? ⟨g, f + j, none⟩ = some v) (hu : P.underlying t = some d) (hd : d.isRow = true) (hi : (P.info? t).map (·.size) = some cells.size) (hn : K (a.put o.dst (.agg cells))) : o.quiet P a C K :=
  quiet_val10 (.agg cells) (fun w hw => by
    have h := hc w hw
    have hr := run_loadVar_mid (P := P) w g f t cells.toList d (fun j v hv => h j v (by rwa [Array.getElem?_toList] at hv)) hu hd (by rw [Array.length_toList]; exact hi)
    unfold execOp
    simp [ho, hx, Instr.loadAt, Instr.sureAddr, hr]) hn
/-- The one ahead. -/
def prvX (l : List Xe) : Nat → Option Xe
  | 0 => none
  | k + 1 => l[k]?
/-- Is this one right behind that one? -/
def stR : Option Xe → Xe → Bool
  | none, e => okX e
  | some d, e => okX e && ltN d.id e.id
theorem okR_step {l : List Xe} {k : Nat} {e : Xe} (he : l[k]? = some e) : okR (prvX l k) (l.drop k) = (stR (prvX l k) e && okR (prvX l (k + 1)) (l.drop (k + 1))) := by
  obtain ⟨hk, rfl⟩ := List.getElem?_eq_some_iff.1 he
  have e2 : prvX l (k + 1) = some l[k] := he
  rw [List.drop_eq_getElem_cons hk, e2]
  show ((okX l[k] && (match prvX l k with | none => true | some d => ltN d.id l[k].id)) && okR (some l[k]) (l.drop (k + 1))) = _
  congr 1
  cases prvX l k with
  | none => simp [stR]
  | some d => rfl
structure MbS (wr : World) (X : Array Value) (W : World) : Prop where
  bx : Bk W wr.heap.size X 34
  bel : Below wr.heap.size wr W
theorem MbS.next {wr W W' : World} {X : Array Value} (h : MbS wr X W) (hb : Below W.heap.size W W') : MbS wr X W' := ⟨h.bx.below hb h.bx.lt, h.bel.trans (hb.mono h.bel.size)⟩
theorem retBB {a b : Bool} (h : b = a) : Ending.returned (.bool a) = .returned (.bool b) := by rw [h]
theorem ord_lt {a b : Xe} (h : ltN a.id b.id = true) : ordI a b = -1 := by
  unfold ordI
  rw [if_neg (fun q => by rw [q, ltN_irr] at h; cases h), if_pos h]
theorem ord_ge {a b : Xe} (h : ltN a.id b.id = false) : 0 ≤ ordI a b := by
  unfold ordI
  split
  · exact Int.le_refl _
  · rw [if_neg (by rw [h]; simp)]; decide
set_option maxHeartbeats 8000000 in
set_option maxRecDepth 100000 in
theorem mayBe_any (l : List Xe) (a : Option Addr) (n c : Nat) (w : World) (hX : XeL w a l) (hl : l.length = n) (hn : n ≤ 1152921504606846976) :
    Calls Tryz.prog 38 #[.slice a n c] w fun e w' => e = .returned (.bool (okR none l)) ∧ Below w.heap.size w w' := by
  have HX : Hid (XeL w a l) := hX
  have HL : Hid (l.length = n) := hl
  clear hX hl
  go_enter Tryz.func38, Tryz.ntmps38
  go_wp2
  go_loopw [7] (fun v wr => ∃ k : Nat, v = .int .i64 k ∧ k ≤ n ∧ Hid (Below w.heap.size w wr) ∧ Hid (okR none l = okR (prvX l k) (l.drop k))) (fun v _ => n - (intOf v).toNat)
  case atStart => exact ⟨0, rfl, Nat.zero_le _, Below.refl _ _, rfl⟩
  case round =>
    obtain ⟨k, rfl, hk, HB, HE⟩ := hrel
    by_cases hlt : k < n
    · have hkz : (k : Int) < (n : Nat) := by omega
      obtain ⟨e, he⟩ : ∃ e, l[k]? = some e := ⟨l[k]'(by rw [HL.out]; exact hlt), List.getElem?_eq_getElem _⟩
      have HXr : Hid (XeL wr a l) := HX.out.below HB.out
      obtain ⟨ga, oa, rfl, hga, h32, hcells⟩ := HXr.out.get he
      have HST : Hid (okR (prvX l k) (l.drop k) = (stR (prvX l k) e && okR (prvX l (k + 1)) (l.drop (k + 1)))) := okR_step he
      obtain ⟨X, hXe⟩ : ∃ X, xeC e = X := ⟨_, rfl⟩
      have HIX : Hid ((Tryz.prog.info? 34).map (·.size) = some X.toList.length ∧ X.all (·.oneCell') = true ∧ X.size = 35) := by rw [← hXe]; exact ⟨by rw [inf_xe35, Array.length_toList, xeC_size e h32], xeC_all e, xeC_size e h32⟩
      rw [hXe] at hcells
      have HCE : Hid (∀ j v, X[j]? = some v → wr.cell? ⟨ga, oa + k * 35 + j, none⟩ = some v) := hcells
      have R1 : Hid (MbS wr X (wr.alloc (.cells X 34)).drew) := ⟨bk_new _ _ _, ((Below.refl _ _).alloc (Nat.le_refl _) _).drew⟩
      have HMB : Hid (∀ W, MbS wr X W → Calls Tryz.prog 24 #[.agg X] W fun r w' => r = .returned (.bool (okX e)) ∧ MbS wr X w') := fun W hW => by
        rw [← hXe] at hW ⊢
        exact (maybe_any e W h32).mono fun r w' q => ⟨q.1, hW.next (by rw [q.2]; exact (Below.refl _ _).alloc (Nat.le_refl _) _)⟩
      cases hok : okX e with
      | false =>
        rw [hok] at HMB
        have HF : Hid (okR none l = false) := by
          have : stR (prvX l k) e = false := by
            cases prvX l k with
            | none => exact hok
            | some d => simp [stR, hok]
          show _ = _
          rw [HE.out, HST.out, this]; rfl
        clear HE HST hok hcells he hXe h32
        go_wp2_with (first
          | (refine wpList_load_mid rfl 34 (.tmp 10) rfl ga (oa + k * 35) rfl X.toList _ (fun j v hv => HCE.out j v (by rwa [Array.getElem?_toList] at hv)) Tryz.underlying34 rfl HIX.out.1 ?_)
          | (refine wpList_store_new rfl 34 (.tmp 4) (.tmp 11) rfl X _ 34 wr.heap.size rfl rfl rfl (info_xe HIX.out.2.2) (by rw [HIX.out.2.2]; rfl) HIX.out.2.1 ?_)
          | fail)
        refine region_class10 (MbS wr X) (by kernel_rfl) (by kernel_rfl) R1.out ?_
        try simp only [Act.put, List.setIfInBounds_toArray, List.set_cons_zero, List.set_cons_succ]
        repeat (first
          | go_big_quiet_skip
          | (go_big_quiet_want
             first
               | (refine quiet_row 34 _ rfl wr.heap.size 0 X X 34 _ rfl (fun _ h => h.bx) (fun j v hv => by rw [Nat.zero_add]; exact hv) Tryz.underlying34 rfl (info_xe HIX.out.2.2) ?_; go_big_quiet_on; simp only [Act.put, List.setIfInBounds_toArray, List.set_cons_zero, List.set_cons_succ])
               | (refine quiet_call10 (.bool false) 24 #[.agg X] ?_ ?_ ?_; (focus (intro W hW; go_simp; done)); (focus (intro W hW; exact HMB.out W hW)); go_big_quiet_on; simp only [Act.put, List.setIfInBounds_toArray, List.set_cons_zero, List.set_cons_succ])
               | (refine quiet_val10 (.bool true) ?_ ?_; (focus (intro W hW; go_simp; done)); go_big_quiet_on; simp only [Act.put, List.setIfInBounds_toArray, List.set_cons_zero, List.set_cons_succ])
               | (go_big_quiet_op; go_big_quiet_on)))
        refine wpQuiet_nil ?_
        intro w9 hw9
        have H9 : Hid (MbS wr X w9) := hw9
        clear hw9
        go_wp2
        go_ret
        exact ⟨retBB HF.out, HB.out.trans (H9.out.bel.mono HB.out.size)⟩
      | true =>
        rw [hok] at HMB
        cases k with
        | zero =>
          have HF : Hid (okR none l = okR (prvX l 1) (l.drop 1)) := by
            have : stR (prvX l 0) e = true := hok
            show _ = _
            rw [HE.out, HST.out, this]; rfl
          clear HE HST hok hcells he hXe h32
          go_wp2_with (first
            | (refine wpList_load_mid rfl 34 (.tmp 10) rfl ga (oa + 0 * 35) (by simp [Act.eval]) X.toList _ (fun j v hv => HCE.out j v (by rwa [Array.getElem?_toList] at hv)) Tryz.underlying34 rfl HIX.out.1 ?_)
            | (refine wpList_store_new rfl 34 (.tmp 4) (.tmp 11) rfl X _ 34 wr.heap.size rfl rfl rfl (info_xe HIX.out.2.2) (by rw [HIX.out.2.2]; rfl) HIX.out.2.1 ?_)
            | fail)
          refine region_class10 (MbS wr X) (by kernel_rfl) (by kernel_rfl) R1.out ?_
          try simp only [Act.put, List.setIfInBounds_toArray, List.set_cons_zero, List.set_cons_succ]
          repeat (first
            | go_big_quiet_skip
            | (go_big_quiet_want
               first
                 | (refine quiet_row 34 _ rfl wr.heap.size 0 X X 34 _ rfl (fun _ h => h.bx) (fun j v hv => by rw [Nat.zero_add]; exact hv) Tryz.underlying34 rfl (info_xe HIX.out.2.2) ?_; go_big_quiet_on; simp only [Act.put, List.setIfInBounds_toArray, List.set_cons_zero, List.set_cons_succ])
                 | (refine quiet_call10 (.bool true) 24 #[.agg X] ?_ ?_ ?_; (focus (intro W hW; go_simp; done)); (focus (intro W hW; exact HMB.out W hW)); go_big_quiet_on; simp only [Act.put, List.setIfInBounds_toArray, List.set_cons_zero, List.set_cons_succ])
                 | (refine quiet_val10 (.bool false) ?_ ?_; (focus (intro W hW; go_simp; done)); go_big_quiet_on; simp only [Act.put, List.setIfInBounds_toArray, List.set_cons_zero, List.set_cons_succ])
                 | (go_big_quiet_op; go_big_quiet_on)))
          refine wpQuiet_nil ?_
          intro w9 hw9
          have H9 : Hid (MbS wr X w9) := hw9
          clear hw9
          go_wp2
          go_roundw
          case rel => exact ⟨1, by go_num, by omega, HB.out.trans (H9.out.bel.mono HB.out.size), HF.out⟩
          case measure => simp [intOf]; omega
        | succ d =>
          obtain ⟨p, hp⟩ : ∃ p, l[d]? = some p := ⟨l[d]'(by rw [HL.out]; omega), List.getElem?_eq_getElem _⟩
          obtain ⟨ga', oa', he', hga', h32', hcells'⟩ := HXr.out.get hp
          injection he' with he'
          injection he' with he1 he2 he3
          subst he1
          subst he2
          obtain ⟨Y, hYe⟩ : ∃ Y, xeC p = Y := ⟨_, rfl⟩
          have HIY : Hid ((Tryz.prog.info? 34).map (·.size) = some Y.size) := by rw [← hYe]; exact info_xe (xeC_size p h32')
          rw [hYe] at hcells'
          have HCY : Hid (∀ W, MbS wr X W → ∀ j v, Y[j]? = some v → W.cell? ⟨ga, oa + d * 35 + j, none⟩ = some v) := fun W hW j v hv => by
            rw [hW.bel.cell hga']; exact hcells' j v hv
          obtain ⟨O, hO⟩ : ∃ O, ordI p e = O := ⟨_, rfl⟩
          have HOR : Hid (∀ W, MbS wr X W → Calls Tryz.prog 27 #[.agg Y, .agg X] W fun r w' => r = .returned (.int .i64 O) ∧ MbS wr X w') := fun W hW => by
            rw [← hYe, ← hXe, ← hO]
            rw [← hXe] at hW
            exact (order_any p e W h32' h32).mono fun r w' ⟨q1, q, os, q2⟩ => ⟨q1, hW.next (by rw [q2]; exact grow_below _ _ _)⟩
          have hst : stR (prvX l (d + 1)) e = ltN p.id e.id := by
            have : prvX l (d + 1) = some p := hp
            rw [this]
            simp [stR, hok]
          obtain ⟨f, hf⟩ : ∃ f, d + 1 = f := ⟨_, rfl⟩
          have h3n : 0 < f := by omega
          have h7n : d < n := by omega
          have hfb : f ≤ 1152921504606846976 := by omega
          have hwr : IntKind.i64.wrap (d : Int) = (d : Int) := by rw [IntKind.wrap_i64]; omega
          have h3 : (0 : Int) < f := by omega
          have h4 : (f : Int) - 1 = d := by omega
          have h6 : (0 : Int) ≤ d := by omega
          have h7 : (d : Int) < (n : Nat) := by omega
          cases hlt2 : ltN p.id e.id with
          | true =>
            have hOO : O = -1 := by rw [← hO]; exact ord_lt hlt2
            subst hOO
            have HF : Hid (okR none l = okR (prvX l (d + 1 + 1)) (l.drop (d + 1 + 1))) := by
              show _ = _
              rw [HE.out, HST.out, hst, hlt2]; rfl
            clear HE HST hok hcells he hXe h32 hO hst hlt2 hcells' hYe hp h32'
            rw [hf] at HF HCE hkz ⊢
            go_wp2_with (first
              | (refine wpList_load_mid rfl 34 (.tmp 10) rfl ga (oa + f * 35) rfl X.toList _ (fun j v hv => HCE.out j v (by rwa [Array.getElem?_toList] at hv)) Tryz.underlying34 rfl HIX.out.1 ?_)
              | (refine wpList_store_new rfl 34 (.tmp 4) (.tmp 11) rfl X _ 34 wr.heap.size rfl rfl rfl (info_xe HIX.out.2.2) (by rw [HIX.out.2.2]; rfl) HIX.out.2.1 ?_)
              | fail)
            refine region_class10 (MbS wr X) (by kernel_rfl) (by kernel_rfl) R1.out ?_
            try simp only [Act.put, List.setIfInBounds_toArray, List.set_cons_zero, List.set_cons_succ]
            repeat (first
              | go_big_quiet_skip
              | (go_big_quiet_want
                 first
                   | (refine quiet_row 34 _ rfl wr.heap.size 0 X X 34 _ rfl (fun _ h => h.bx) (fun j v hv => by rw [Nat.zero_add]; exact hv) Tryz.underlying34 rfl (info_xe HIX.out.2.2) ?_; go_big_quiet_on; simp only [Act.put, List.setIfInBounds_toArray, List.set_cons_zero, List.set_cons_succ])
                   | (refine quiet_rowc 34 _ rfl ga (oa + d * 35) Y _ rfl HCY.out Tryz.underlying34 rfl HIY.out ?_; go_big_quiet_on; simp only [Act.put, List.setIfInBounds_toArray, List.set_cons_zero, List.set_cons_succ])
                   | (refine quiet_call10 (.bool true) 24 #[.agg X] ?_ ?_ ?_; (focus (intro W hW; go_simp; done)); (focus (intro W hW; exact HMB.out W hW)); go_big_quiet_on; simp only [Act.put, List.setIfInBounds_toArray, List.set_cons_zero, List.set_cons_succ])
                   | (refine quiet_call10 (.int .i64 (-1)) 27 #[.agg Y, .agg X] ?_ ?_ ?_; (focus (intro W hW; go_simp; done)); (focus (intro W hW; exact HOR.out W hW)); go_big_quiet_on; simp only [Act.put, List.setIfInBounds_toArray, List.set_cons_zero, List.set_cons_succ])
                   | (refine quiet_val10 (.pointer (some ⟨ga, oa + d * 35, none⟩)) ?_ ?_; (focus (intro W hW; go_simp; done)); go_big_quiet_on; simp only [Act.put, List.setIfInBounds_toArray, List.set_cons_zero, List.set_cons_succ])
                   | (refine quiet_val10 (.int .i64 (d : Int)) ?_ ?_; (focus (intro W hW; go_simp; done)); go_big_quiet_on; simp only [Act.put, List.setIfInBounds_toArray, List.set_cons_zero, List.set_cons_succ])
                   | (refine quiet_val10 (.bool true) ?_ ?_; (focus (intro W hW; go_simp; done)); go_big_quiet_on; simp only [Act.put, List.setIfInBounds_toArray, List.set_cons_zero, List.set_cons_succ])
                   | (refine quiet_val10 (.bool false) ?_ ?_; (focus (intro W hW; go_simp; done)); go_big_quiet_on; simp only [Act.put, List.setIfInBounds_toArray, List.set_cons_zero, List.set_cons_succ])
                   | (go_big_quiet_op; go_big_quiet_on)))
            refine wpQuiet_nil ?_
            intro w9 hw9
            have H9 : Hid (MbS wr X w9) := hw9
            clear hw9
            go_wp2
            go_roundw
            case rel => exact ⟨f + 1, by go_num, by omega, HB.out.trans (H9.out.bel.mono HB.out.size), HF.out⟩
            case measure => simp [intOf]; omega
          | false =>
            have hOO : 0 ≤ O := by rw [← hO]; exact ord_ge hlt2
            have HF : Hid (okR none l = false) := by
              show _ = _
              rw [HE.out, HST.out, hst, hlt2]; rfl
            clear HE HST hok hcells he hXe h32 hO hst hlt2 hcells' hYe hp h32'
            rw [hf] at HCE hkz ⊢
            go_wp2_with (first
              | (refine wpList_load_mid rfl 34 (.tmp 10) rfl ga (oa + f * 35) rfl X.toList _ (fun j v hv => HCE.out j v (by rwa [Array.getElem?_toList] at hv)) Tryz.underlying34 rfl HIX.out.1 ?_)
              | (refine wpList_store_new rfl 34 (.tmp 4) (.tmp 11) rfl X _ 34 wr.heap.size rfl rfl rfl (info_xe HIX.out.2.2) (by rw [HIX.out.2.2]; rfl) HIX.out.2.1 ?_)
              | fail)
            refine region_class10 (MbS wr X) (by kernel_rfl) (by kernel_rfl) R1.out ?_
            try simp only [Act.put, List.setIfInBounds_toArray, List.set_cons_zero, List.set_cons_succ]
            repeat (first
              | go_big_quiet_skip
              | (go_big_quiet_want
                 first
                   | (refine quiet_row 34 _ rfl wr.heap.size 0 X X 34 _ rfl (fun _ h => h.bx) (fun j v hv => by rw [Nat.zero_add]; exact hv) Tryz.underlying34 rfl (info_xe HIX.out.2.2) ?_; go_big_quiet_on; simp only [Act.put, List.setIfInBounds_toArray, List.set_cons_zero, List.set_cons_succ])
                   | (refine quiet_rowc 34 _ rfl ga (oa + d * 35) Y _ rfl HCY.out Tryz.underlying34 rfl HIY.out ?_; go_big_quiet_on; simp only [Act.put, List.setIfInBounds_toArray, List.set_cons_zero, List.set_cons_succ])
                   | (refine quiet_call10 (.bool true) 24 #[.agg X] ?_ ?_ ?_; (focus (intro W hW; go_simp; done)); (focus (intro W hW; exact HMB.out W hW)); go_big_quiet_on; simp only [Act.put, List.setIfInBounds_toArray, List.set_cons_zero, List.set_cons_succ])
                   | (refine quiet_call10 (.int .i64 O) 27 #[.agg Y, .agg X] ?_ ?_ ?_; (focus (intro W hW; go_simp; done)); (focus (intro W hW; exact HOR.out W hW)); go_big_quiet_on; simp only [Act.put, List.setIfInBounds_toArray, List.set_cons_zero, List.set_cons_succ])
                   | (refine quiet_val10 (.pointer (some ⟨ga, oa + d * 35, none⟩)) ?_ ?_; (focus (intro W hW; go_simp; done)); go_big_quiet_on; simp only [Act.put, List.setIfInBounds_toArray, List.set_cons_zero, List.set_cons_succ])
                   | (refine quiet_val10 (.int .i64 (d : Int)) ?_ ?_; (focus (intro W hW; go_simp; done)); go_big_quiet_on; simp only [Act.put, List.setIfInBounds_toArray, List.set_cons_zero, List.set_cons_succ])
                   | (refine quiet_val10 (.bool true) ?_ ?_; (focus (intro W hW; go_simp; done)); go_big_quiet_on; simp only [Act.put, List.setIfInBounds_toArray, List.set_cons_zero, List.set_cons_succ])
                   | (refine quiet_val10 (.bool false) ?_ ?_; (focus (intro W hW; go_simp; done)); go_big_quiet_on; simp only [Act.put, List.setIfInBounds_toArray, List.set_cons_zero, List.set_cons_succ])
                   | (go_big_quiet_op; go_big_quiet_on)))
            refine wpQuiet_nil ?_
            intro w9 hw9
            have H9 : Hid (MbS wr X w9) := hw9
            clear hw9
            go_wp2
            go_ret
            exact ⟨retBB HF.out, HB.out.trans (H9.out.bel.mono HB.out.size)⟩
    · have hkz : ¬ (k : Int) < (n : Nat) := by omega
      obtain rfl : k = n := by omega
      have HF : Hid (okR none l = true) := by
        show _ = _
        rw [HE.out, List.drop_eq_nil_of_le (by rw [HL.out]; omega)]
        cases prvX l k <;> rfl
      clear HE
      go_wp2
      go_ret
      exact ⟨retBB HF.out, HB.out⟩
end Go.Proofs.YtpfknjnigcefgaaGreatDoor
/- idx.Index: Pack, Len, At, Range, All. -/
namespace Go.Proofs.YtpfknjnigcefgaaGreatDoor
open Go.RowKit
set_option linter.unusedSimpArgs false
set_option linter.unusedVariables false
theorem fanB_succ (l : List Xe) (b : Nat) : fanB l (b + 1) = fanL l b := by
  unfold fanB fanL
  congr 1
  funext e
  exact decide_eq_decide.2 (by omega)
theorem fanB_zero (l : List Xe) : fanB l 0 = 0 := by
  unfold fanB
  rw [List.countP_eq_zero]
  intro e _
  simp
set_option maxHeartbeats 400000 in
theorem ilen_any (g : Nat) (s : ByteArray) (l : List Xe) (w : World) (h : IxS w g s l) : Calls Tryz.prog 21 #[.pointer (some ⟨g, 0, none⟩)] w fun e w' => e = .returned (.int .i64 (l.length : Int)) ∧ w' = w := by
  obtain ⟨a, n, c, hB, hX, hl, hc, hA⟩ := h.row
  have hq : w.cell? ⟨g, 288, none⟩ = some (.slice a n c) := by rw [hB.cell]; exact ixC_row s _ _ h.id
  rw [hl]
  clear h hB hX hl
  go_enter Tryz.func21, Tryz.ntmps21
  go_wp2
  go_ret
  exact ⟨rfl, rfl⟩
set_option maxHeartbeats 400000 in
theorem ilen_nil (w : World) : Calls Tryz.prog 21 #[.pointer none] w fun e w' => e = .returned (.int .i64 0) ∧ w' = w := by
  go_enter Tryz.func21, Tryz.ntmps21
  go_wp2
  go_ret
  exact ⟨rfl, rfl⟩
set_option maxHeartbeats 2000000 in
set_option maxRecDepth 100000 in
theorem irange_any (g : Nat) (s : ByteArray) (l : List Xe) (b : Nat) (hb : b < 256) (w : World) (h : IxS w g s l) : Calls Tryz.prog 55 #[.pointer (some ⟨g, 0, none⟩), .int .u8 (b : Int)] w fun e w' => e = .returned (.tuple #[.int .i64 (fanB l b : Int), .int .i64 (fanL l b : Int)]) ∧ ∃ q, w' = w.drewN q := by
  obtain ⟨a, n, c, hB, hX, hl, hc, hA⟩ := h.row
  have hq : w.cell? ⟨g, 32 + b, none⟩ = some (.int .i64 (fanL l b : Int)) := by rw [hB.cell]; exact ixC_fan s _ _ h.id b hb
  obtain ⟨u, hu⟩ : ∃ u, fanL l b = u := ⟨_, rfl⟩
  rw [hu] at hq ⊢
  have h0 : (0 : Int) ≤ b := by omega
  have h1 : (b : Int) < 256 := by omega
  by_cases hz : b = 0
  · subst hz
    rw [fanB_zero]
    clear h hB hX hl hu
    go_enter Tryz.func55, Tryz.ntmps55
    go_wp2
    go_region
    go_wp2
    go_ret2
    exact ⟨rfl, 1, rfl⟩
  · obtain ⟨d, rfl⟩ : ∃ d, b = d + 1 := ⟨b - 1, by omega⟩
    rw [fanB_succ]
    have hq2 : w.cell? ⟨g, 32 + d, none⟩ = some (.int .i64 (fanL l d : Int)) := by rw [hB.cell]; exact ixC_fan s _ _ h.id d (by omega)
    obtain ⟨v, hv⟩ : ∃ v, fanL l d = v := ⟨_, rfl⟩
    rw [hv] at hq2 ⊢
    obtain ⟨f, hf⟩ : ∃ f, d + 1 = f := ⟨_, rfl⟩
    rw [hf] at hq h0 h1 ⊢
    have h3 : (0 : Int) < f := by omega
    have h4 : (f : Int) - 1 = d := by omega
    have h5 : IntKind.u8.wrap (d : Int) = (d : Int) := by
      simp [IntKind.wrap, IntKind.bits, IntKind.signed]; omega
    have h6 : (0 : Int) ≤ d := by omega
    have h7 : (d : Int) < 256 := by omega
    clear h hB hX hl hu hv hf hz hb
    go_enter Tryz.func55, Tryz.ntmps55
    go_wp2
    go_region
    go_wp2
    go_ret2
    exact ⟨rfl, 1, rfl⟩
theorem irange_nil (b : Nat) (w : World) : Calls Tryz.prog 55 #[.pointer none, .int .u8 (b : Int)] w fun e w' => e = .returned (.tuple #[.int .i64 0, .int .i64 0]) ∧ w' = w := by
  go_enter Tryz.func55, Tryz.ntmps55
  go_wp2
  go_ret2
  exact ⟨rfl, rfl⟩
theorem iall_any (g : Nat) (s : ByteArray) (l : List Xe) (w : World) (h : IxS w g s l) (hn : l.length ≤ 65536) : Calls Tryz.prog 50 #[.pointer (some ⟨g, 0, none⟩)] w fun e w' => ∃ v, e = .returned v ∧ w'.ownsRow w.heap.size 34 35 v l.length (xvs l) ∧ Below w.heap.size w w' := by
  obtain ⟨a, n, c, hB, hX, hl, hc, hA⟩ := h.row
  have hq : w.cell? ⟨g, 288, none⟩ = some (.slice a n c) := by rw [hB.cell]; exact ixC_row s _ _ h.id
  have HC : Hid (Calls Tryz.prog 25 #[.slice a n c] w fun e w' => ∃ v, e = .returned v ∧ w'.ownsRow w.heap.size 34 35 v n (xvs l) ∧ Below w.heap.size w w') := clone_any a n c l w hX hl hA (by omega)
  rw [hl]
  clear h hB hX hl hA
  go_enter Tryz.func50, Tryz.ntmps50
  go_wp2_with fail
  refine HC.out.mono ?_
  rintro e w1 ⟨v, rfl, ho, hb⟩
  have HE : Hid (w1.ownsRow w.heap.size 34 35 v n (xvs l) ∧ Below w.heap.size w w1) := ⟨ho, hb⟩
  obtain ⟨va, vc, hvv⟩ : ∃ va vc, v = .slice va n vc := by
    rcases ho.2 with ⟨h1, h0⟩ | ⟨g, cap, cur, h1, _⟩
    · exact ⟨none, 0, by rw [h1, h0]⟩
    · exact ⟨_, _, h1⟩
  subst hvv
  clear ho hb
  go_wp2
  go_ret
  exact ⟨_, rfl, HE.out⟩
end Go.Proofs.YtpfknjnigcefgaaGreatDoor
