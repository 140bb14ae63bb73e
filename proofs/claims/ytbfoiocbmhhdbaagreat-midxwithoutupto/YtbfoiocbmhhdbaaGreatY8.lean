import Derived.Test.YtbfoiocbmhhdbaaGreatY7
import Derived.BigQuiet
import Derived.Test.YtbfoiocbmhhdbaaGreatChecked
import Derived.Deep.QuietTactic
import Derived.StillTail
import Derived.Deep.Quiet
import Derived.Test.YtbfoiocbmhhdbaaGreatY6
/- idx.mayBeEntries. -/
namespace Go.Proofs.YtbfoiocbmhhdbaaGreat
open Go.RowKit
set_option linter.unusedSimpArgs false
set_option linter.unusedVariables false
/-- The load of many cells that lie somewhere, in a class of worlds. -/
theorem quiet_rowc {P : Program} {o : Oper} {a : Act} {C : World → Prop} {K : Act → Prop} (t : TypeId) (x : Operand) (ho : o.op = .load t x) (g f : Nat) (cells : Array Value) (d : TypeDesc) (hx : a.eval x = .pointer (some ⟨g, f, none⟩))
    (hc : ∀ w, C w → ∀ j v, cells[j]? = some v → w.cell? ⟨g, f + j, none⟩ = some v) (hu : P.underlying t = some d) (hd : d.isRow = true) (hi : (P.info? t).map (·.size) = some cells.size) (hn : K (a.put o.dst (.agg cells))) : o.quiet P a C K :=
  quiet_val10 (.agg cells) (fun w hw => by
    have h := hc w hw
    have hr := run_loadVar_mid (P := P) w g f t cells.toList d (fun j v hv => h j v (by rwa [Array.getElem?_toList] at hv)) hu hd (by rw [Array.length_toList]; exact hi)
    unfold execOp
    simp [ho, hx, Instr.loadAt, Instr.sureAddr, hr]) hn
/-- The one ahead. -/
def prvX (l : List Xe) : Nat → Option Xe
  | 0 => none
  | k + 1 => l[k]?
/-- Is this one right behind that one? -/
def stRx : Option Xe → Xe → Bool
  | none, e => okX e
  | some d, e => okX e && ltN d.id e.id
theorem okR_step {l : List Xe} {k : Nat} {e : Xe} (he : l[k]? = some e) : okR (prvX l k) (l.drop k) = (stRx (prvX l k) e && okR (prvX l (k + 1)) (l.drop (k + 1))) := by
  obtain ⟨hk, rfl⟩ := List.getElem?_eq_some_iff.1 he
  have e2 : prvX l (k + 1) = some l[k] := he
  rw [List.drop_eq_getElem_cons hk, e2]
  show ((okX l[k] && (match prvX l k with | none => true | some d => ltN d.id l[k].id)) && okR (some l[k]) (l.drop (k + 1))) = _
  congr 1
  cases prvX l k with
  | none => simp [stRx]
  | some d => rfl
structure MbS (wr : World) (X : Array Value) (W : World) : Prop where
  bx : Bk W wr.heap.size X 50
  bel : Below wr.heap.size wr W
theorem MbS.next {wr W W' : World} {X : Array Value} (h : MbS wr X W) (hb : Below W.heap.size W W') : MbS wr X W' := ⟨h.bx.below hb h.bx.lt, h.bel.trans (hb.mono h.bel.size)⟩
theorem retBB {a b : Bool} (h : b = a) : Ending.returned (.bool a) = .returned (.bool b) := by rw [h]
theorem ord_lt {a b : Xe} (h : ltN a.id b.id = true) : ordI a b = -1 := by
  unfold ordI
  rw [if_neg (fun q => by rw [q, ltN_irr] at h; cases h), if_pos h]
theorem ord_ge {a b : Xe} (h : ltN a.id b.id = false) : 0 ≤ ordI a b := by
  unfold ordI
  split
  · exact Int.le_refl _
  · rw [if_neg (by rw [h]; simp)]; decide
set_option maxHeartbeats 8000000 in
set_option maxRecDepth 100000 in
theorem mayBe_any (l : List Xe) (a : Option Addr) (n c : Nat) (w : World) (hX : XeL w a l) (hl : l.length = n) (hn : n ≤ 1152921504606846976) :
    Calls Tryz.prog 47 #[.slice a n c] w fun e w' => e = .returned (.bool (okR none l)) ∧ Below w.heap.size w w' := by
  have HX : Hid (XeL w a l) := hX
  have HL : Hid (l.length = n) := hl
  clear hX hl
  go_enter Tryz.func47, Tryz.ntmps47
  go_wp2
  go_loopw [7] (fun v wr => ∃ k : Nat, v = .int .i64 k ∧ k ≤ n ∧ Hid (Below w.heap.size w wr) ∧ Hid (okR none l = okR (prvX l k) (l.drop k))) (fun v _ => n - (intOf v).toNat)
  case atStart => exact ⟨0, rfl, Nat.zero_le _, Below.refl _ _, rfl⟩
  case round =>
    obtain ⟨k, rfl, hk, HB, HE⟩ := hrel
    by_cases hlt : k < n
    · have hkz : (k : Int) < (n : Nat) := by omega
      obtain ⟨e, he⟩ : ∃ e, l[k]? = some e := ⟨l[k]'(by rw [HL.out]; exact hlt), List.getElem?_eq_getElem _⟩
      have HXr : Hid (XeL wr a l) := HX.out.below HB.out
      obtain ⟨ga, oa, rfl, hga, h32, hcells⟩ := HXr.out.get he
      have HST : Hid (okR (prvX l k) (l.drop k) = (stRx (prvX l k) e && okR (prvX l (k + 1)) (l.drop (k + 1)))) := okR_step he
      obtain ⟨X, hXe⟩ : ∃ X, xeC e = X := ⟨_, rfl⟩
      have HIX : Hid ((Tryz.prog.info? 50).map (·.size) = some X.toList.length ∧ X.all (·.oneCell') = true ∧ X.size = 35) := by rw [← hXe]; exact ⟨by rw [inf_xe35, Array.length_toList, xeC_size e h32], xeC_all e, xeC_size e h32⟩
      rw [hXe] at hcells
      have HCE : Hid (∀ j v, X[j]? = some v → wr.cell? ⟨ga, oa + k * 35 + j, none⟩ = some v) := hcells
      have R1 : Hid (MbS wr X (wr.alloc (.cells X 50)).drew) := ⟨bk_new _ _ _, ((Below.refl _ _).alloc (Nat.le_refl _) _).drew⟩
      have HMB : Hid (∀ W, MbS wr X W → Calls Tryz.prog 51 #[.agg X] W fun r w' => r = .returned (.bool (okX e)) ∧ MbS wr X w') := fun W hW => by
        rw [← hXe] at hW ⊢
        exact (maybe_any e W h32).mono fun r w' q => ⟨q.1, hW.next (by rw [q.2]; exact (Below.refl _ _).alloc (Nat.le_refl _) _)⟩
      cases hok : okX e with
      | false =>
        rw [hok] at HMB
        have HF : Hid (okR none l = false) := by
          have : stRx (prvX l k) e = false := by
            cases prvX l k with
            | none => exact hok
            | some d => simp [stRx, hok]
          show _ = _
          rw [HE.out, HST.out, this]; rfl
        clear HE HST hok hcells he hXe h32
        go_wp2_with (first
          | (refine wpList_load_mid rfl 50 (.tmp 10) rfl ga (oa + k * 35) rfl X.toList _ (fun j v hv => HCE.out j v (by rwa [Array.getElem?_toList] at hv)) Tryz.underlying50 rfl HIX.out.1 ?_)
          | (refine wpList_store_new rfl 50 (.tmp 4) (.tmp 11) rfl X _ 50 wr.heap.size rfl rfl rfl (info_xe HIX.out.2.2) (by rw [HIX.out.2.2]; rfl) HIX.out.2.1 ?_)
          | fail)
        refine region_class10 (MbS wr X) (by kernel_rfl) (by kernel_rfl) R1.out ?_
        try simp only [Act.put, List.setIfInBounds_toArray, List.set_cons_zero, List.set_cons_succ]
        repeat (first
          | go_big_quiet_skip
          | (go_big_quiet_want
             first
               | (refine quiet_row 50 _ rfl wr.heap.size 0 X X 50 _ rfl (fun _ h => h.bx) (fun j v hv => by rw [Nat.zero_add]; exact hv) Tryz.underlying50 rfl (info_xe HIX.out.2.2) ?_; go_big_quiet_on; simp only [Act.put, List.setIfInBounds_toArray, List.set_cons_zero, List.set_cons_succ])
               | (refine quiet_call10 (.bool false) 51 #[.agg X] ?_ ?_ ?_; (focus (intro W hW; go_simp; done)); (focus (intro W hW; exact HMB.out W hW)); go_big_quiet_on; simp only [Act.put, List.setIfInBounds_toArray, List.set_cons_zero, List.set_cons_succ])
               | (refine quiet_val10 (.bool true) ?_ ?_; (focus (intro W hW; go_simp; done)); go_big_quiet_on; simp only [Act.put, List.setIfInBounds_toArray, List.set_cons_zero, List.set_cons_succ])
               | (go_big_quiet_op; go_big_quiet_on)))
        refine wpQuiet_nil ?_
        intro w9 hw9
        have H9 : Hid (MbS wr X w9) := hw9
        clear hw9
        go_wp2
        go_ret
        exact ⟨retBB HF.out, HB.out.trans (H9.out.bel.mono HB.out.size)⟩
      | true =>
        rw [hok] at HMB
        cases k with
        | zero =>
          have HF : Hid (okR none l = okR (prvX l 1) (l.drop 1)) := by
            have : stRx (prvX l 0) e = true := hok
            show _ = _
            rw [HE.out, HST.out, this]; rfl
          clear HE HST hok hcells he hXe h32
          go_wp2_with (first
            | (refine wpList_load_mid rfl 50 (.tmp 10) rfl ga (oa + 0 * 35) (by simp [Act.eval]) X.toList _ (fun j v hv => HCE.out j v (by rwa [Array.getElem?_toList] at hv)) Tryz.underlying50 rfl HIX.out.1 ?_)
            | (refine wpList_store_new rfl 50 (.tmp 4) (.tmp 11) rfl X _ 50 wr.heap.size rfl rfl rfl (info_xe HIX.out.2.2) (by rw [HIX.out.2.2]; rfl) HIX.out.2.1 ?_)
            | fail)
          refine region_class10 (MbS wr X) (by kernel_rfl) (by kernel_rfl) R1.out ?_
          try simp only [Act.put, List.setIfInBounds_toArray, List.set_cons_zero, List.set_cons_succ]
          repeat (first
            | go_big_quiet_skip
            | (go_big_quiet_want
               first
                 | (refine quiet_row 50 _ rfl wr.heap.size 0 X X 50 _ rfl (fun _ h => h.bx) (fun j v hv => by rw [Nat.zero_add]; exact hv) Tryz.underlying50 rfl (info_xe HIX.out.2.2) ?_; go_big_quiet_on; simp only [Act.put, List.setIfInBounds_toArray, List.set_cons_zero, List.set_cons_succ])
                 | (refine quiet_call10 (.bool true) 51 #[.agg X] ?_ ?_ ?_; (focus (intro W hW; go_simp; done)); (focus (intro W hW; exact HMB.out W hW)); go_big_quiet_on; simp only [Act.put, List.setIfInBounds_toArray, List.set_cons_zero, List.set_cons_succ])
                 | (refine quiet_val10 (.bool false) ?_ ?_; (focus (intro W hW; go_simp; done)); go_big_quiet_on; simp only [Act.put, List.setIfInBounds_toArray, List.set_cons_zero, List.set_cons_succ])
                 | (go_big_quiet_op; go_big_quiet_on)))
          refine wpQuiet_nil ?_
          intro w9 hw9
          have H9 : Hid (MbS wr X w9) := hw9
          clear hw9
          go_wp2
          go_roundw
          case rel => exact ⟨1, by go_num, by omega, HB.out.trans (H9.out.bel.mono HB.out.size), HF.out⟩
          case measure => simp [intOf]; omega
        | succ d =>
          obtain ⟨p, hp⟩ : ∃ p, l[d]? = some p := ⟨l[d]'(by rw [HL.out]; omega), List.getElem?_eq_getElem _⟩
          obtain ⟨ga', oa', he', hga', h32', hcells'⟩ := HXr.out.get hp
          injection he' with he'
          injection he' with he1 he2 he3
          subst he1
          subst he2
          obtain ⟨Y, hYe⟩ : ∃ Y, xeC p = Y := ⟨_, rfl⟩
          have HIY : Hid ((Tryz.prog.info? 50).map (·.size) = some Y.size) := by rw [← hYe]; exact info_xe (xeC_size p h32')
          rw [hYe] at hcells'
          have HCY : Hid (∀ W, MbS wr X W → ∀ j v, Y[j]? = some v → W.cell? ⟨ga, oa + d * 35 + j, none⟩ = some v) := fun W hW j v hv => by
            rw [hW.bel.cell hga']; exact hcells' j v hv
          obtain ⟨O, hO⟩ : ∃ O, ordI p e = O := ⟨_, rfl⟩
          have HOR : Hid (∀ W, MbS wr X W → Calls Tryz.prog 53 #[.agg Y, .agg X] W fun r w' => r = .returned (.int .i64 O) ∧ MbS wr X w') := fun W hW => by
            rw [← hYe, ← hXe, ← hO]
            rw [← hXe] at hW
            exact (order_any p e W h32' h32).mono fun r w' ⟨q1, q, os, q2⟩ => ⟨q1, hW.next (by rw [q2]; exact grow_below _ _ _)⟩
          have hst : stRx (prvX l (d + 1)) e = ltN p.id e.id := by
            have : prvX l (d + 1) = some p := hp
            rw [this]
            simp [stRx, hok]
          obtain ⟨f, hf⟩ : ∃ f, d + 1 = f := ⟨_, rfl⟩
          have h3n : 0 < f := by omega
          have h7n : d < n := by omega
          have hfb : f ≤ 1152921504606846976 := by omega
          have hwr : IntKind.i64.wrap (d : Int) = (d : Int) := by rw [IntKind.wrap_i64]; omega
          have h3 : (0 : Int) < f := by omega
          have h4 : (f : Int) - 1 = d := by omega
          have h6 : (0 : Int) ≤ d := by omega
          have h7 : (d : Int) < (n : Nat) := by omega
          cases hlt2 : ltN p.id e.id with
          | true =>
            have hOO : O = -1 := by rw [← hO]; exact ord_lt hlt2
            subst hOO
            have HF : Hid (okR none l = okR (prvX l (d + 1 + 1)) (l.drop (d + 1 + 1))) := by
              show _ = _
              rw [HE.out, HST.out, hst, hlt2]; rfl
            clear HE HST hok hcells he hXe h32 hO hst hlt2 hcells' hYe hp h32'
            rw [hf] at HF HCE hkz ⊢
            go_wp2_with (first
              | (refine wpList_load_mid rfl 50 (.tmp 10) rfl ga (oa + f * 35) rfl X.toList _ (fun j v hv => HCE.out j v (by rwa [Array.getElem?_toList] at hv)) Tryz.underlying50 rfl HIX.out.1 ?_)
              | (refine wpList_store_new rfl 50 (.tmp 4) (.tmp 11) rfl X _ 50 wr.heap.size rfl rfl rfl (info_xe HIX.out.2.2) (by rw [HIX.out.2.2]; rfl) HIX.out.2.1 ?_)
              | fail)
            refine region_class10 (MbS wr X) (by kernel_rfl) (by kernel_rfl) R1.out ?_
            try simp only [Act.put, List.setIfInBounds_toArray, List.set_cons_zero, List.set_cons_succ]
            repeat (first
              | go_big_quiet_skip
              | (go_big_quiet_want
                 first
                   | (refine quiet_row 50 _ rfl wr.heap.size 0 X X 50 _ rfl (fun _ h => h.bx) (fun j v hv => by rw [Nat.zero_add]; exact hv) Tryz.underlying50 rfl (info_xe HIX.out.2.2) ?_; go_big_quiet_on; simp only [Act.put, List.setIfInBounds_toArray, List.set_cons_zero, List.set_cons_succ])
                   | (refine quiet_rowc 50 _ rfl ga (oa + d * 35) Y _ rfl HCY.out Tryz.underlying50 rfl HIY.out ?_; go_big_quiet_on; simp only [Act.put, List.setIfInBounds_toArray, List.set_cons_zero, List.set_cons_succ])
                   | (refine quiet_call10 (.bool true) 51 #[.agg X] ?_ ?_ ?_; (focus (intro W hW; go_simp; done)); (focus (intro W hW; exact HMB.out W hW)); go_big_quiet_on; simp only [Act.put, List.setIfInBounds_toArray, List.set_cons_zero, List.set_cons_succ])
                   | (refine quiet_call10 (.int .i64 (-1)) 53 #[.agg Y, .agg X] ?_ ?_ ?_; (focus (intro W hW; go_simp; done)); (focus (intro W hW; exact HOR.out W hW)); go_big_quiet_on; simp only [Act.put, List.setIfInBounds_toArray, List.set_cons_zero, List.set_cons_succ])
                   | (refine quiet_val10 (.pointer (some ⟨ga, oa + d * 35, none⟩)) ?_ ?_; (focus (intro W hW; go_simp; done)); go_big_quiet_on; simp only [Act.put, List.setIfInBounds_toArray, List.set_cons_zero, List.set_cons_succ])
                   | (refine quiet_val10 (.int .i64 (d : Int)) ?_ ?_; (focus (intro W hW; go_simp; done)); go_big_quiet_on; simp only [Act.put, List.setIfInBounds_toArray, List.set_cons_zero, List.set_cons_succ])
                   | (refine quiet_val10 (.bool true) ?_ ?_; (focus (intro W hW; go_simp; done)); go_big_quiet_on; simp only [Act.put, List.setIfInBounds_toArray, List.set_cons_zero, List.set_cons_succ])
                   | (refine quiet_val10 (.bool false) ?_ ?_; (focus (intro W hW; go_simp; done)); go_big_quiet_on; simp only [Act.put, List.setIfInBounds_toArray, List.set_cons_zero, List.set_cons_succ])
                   | (go_big_quiet_op; go_big_quiet_on)))
            refine wpQuiet_nil ?_
            intro w9 hw9
            have H9 : Hid (MbS wr X w9) := hw9
            clear hw9
            go_wp2
            go_roundw
            case rel => exact ⟨f + 1, by go_num, by omega, HB.out.trans (H9.out.bel.mono HB.out.size), HF.out⟩
            case measure => simp [intOf]; omega
          | false =>
            have hOO : 0 ≤ O := by rw [← hO]; exact ord_ge hlt2
            have HF : Hid (okR none l = false) := by
              show _ = _
              rw [HE.out, HST.out, hst, hlt2]; rfl
            clear HE HST hok hcells he hXe h32 hO hst hlt2 hcells' hYe hp h32'
            rw [hf] at HCE hkz ⊢
            go_wp2_with (first
              | (refine wpList_load_mid rfl 50 (.tmp 10) rfl ga (oa + f * 35) rfl X.toList _ (fun j v hv => HCE.out j v (by rwa [Array.getElem?_toList] at hv)) Tryz.underlying50 rfl HIX.out.1 ?_)
              | (refine wpList_store_new rfl 50 (.tmp 4) (.tmp 11) rfl X _ 50 wr.heap.size rfl rfl rfl (info_xe HIX.out.2.2) (by rw [HIX.out.2.2]; rfl) HIX.out.2.1 ?_)
              | fail)
            refine region_class10 (MbS wr X) (by kernel_rfl) (by kernel_rfl) R1.out ?_
            try simp only [Act.put, List.setIfInBounds_toArray, List.set_cons_zero, List.set_cons_succ]
            repeat (first
              | go_big_quiet_skip
              | (go_big_quiet_want
                 first
                   | (refine quiet_row 50 _ rfl wr.heap.size 0 X X 50 _ rfl (fun _ h => h.bx) (fun j v hv => by rw [Nat.zero_add]; exact hv) Tryz.underlying50 rfl (info_xe HIX.out.2.2) ?_; go_big_quiet_on; simp only [Act.put, List.setIfInBounds_toArray, List.set_cons_zero, List.set_cons_succ])
                   | (refine quiet_rowc 50 _ rfl ga (oa + d * 35) Y _ rfl HCY.out Tryz.underlying50 rfl HIY.out ?_; go_big_quiet_on; simp only [Act.put, List.setIfInBounds_toArray, List.set_cons_zero, List.set_cons_succ])
                   | (refine quiet_call10 (.bool true) 51 #[.agg X] ?_ ?_ ?_; (focus (intro W hW; go_simp; done)); (focus (intro W hW; exact HMB.out W hW)); go_big_quiet_on; simp only [Act.put, List.setIfInBounds_toArray, List.set_cons_zero, List.set_cons_succ])
                   | (refine quiet_call10 (.int .i64 O) 53 #[.agg Y, .agg X] ?_ ?_ ?_; (focus (intro W hW; go_simp; done)); (focus (intro W hW; exact HOR.out W hW)); go_big_quiet_on; simp only [Act.put, List.setIfInBounds_toArray, List.set_cons_zero, List.set_cons_succ])
                   | (refine quiet_val10 (.pointer (some ⟨ga, oa + d * 35, none⟩)) ?_ ?_; (focus (intro W hW; go_simp; done)); go_big_quiet_on; simp only [Act.put, List.setIfInBounds_toArray, List.set_cons_zero, List.set_cons_succ])
                   | (refine quiet_val10 (.int .i64 (d : Int)) ?_ ?_; (focus (intro W hW; go_simp; done)); go_big_quiet_on; simp only [Act.put, List.setIfInBounds_toArray, List.set_cons_zero, List.set_cons_succ])
                   | (refine quiet_val10 (.bool true) ?_ ?_; (focus (intro W hW; go_simp; done)); go_big_quiet_on; simp only [Act.put, List.setIfInBounds_toArray, List.set_cons_zero, List.set_cons_succ])
                   | (refine quiet_val10 (.bool false) ?_ ?_; (focus (intro W hW; go_simp; done)); go_big_quiet_on; simp only [Act.put, List.setIfInBounds_toArray, List.set_cons_zero, List.set_cons_succ])
                   | (go_big_quiet_op; go_big_quiet_on)))
            refine wpQuiet_nil ?_
            intro w9 hw9
            have H9 : Hid (MbS wr X w9) := hw9
            clear hw9
            go_wp2
            go_ret
            exact ⟨retBB HF.out, HB.out.trans (H9.out.bel.mono HB.out.size)⟩
    · have hkz : ¬ (k : Int) < (n : Nat) := by omega
      obtain rfl : k = n := by omega
      have HF : Hid (okR none l = true) := by
        show _ = _
        rw [HE.out, List.drop_eq_nil_of_le (by rw [HL.out]; omega)]
        cases prvX l k <;> rfl
      clear HE
      go_wp2
      go_ret
      exact ⟨retBB HF.out, HB.out⟩
end Go.Proofs.YtbfoiocbmhhdbaaGreat
/- A region that draws its order: its first operations quiet in a class of worlds, in whatever order; the last ones, which wait for all of these, one behind the other. -/
namespace Go.Proofs.YtbfoiocbmhhdbaaGreat
open Go.RowKit
set_option linter.unusedSimpArgs false
set_option linter.unusedVariables false
theorem quiet_val {P : Program} {o : Oper} {a : Act} {C : World → Prop} {K : Act → Prop} (v : Value) (h : ∀ w, C w → (execOp a.eval o).run P w = .ok (.value v) w) (hn : K (a.put o.dst v)) : o.quiet P a C K :=
  ⟨v, fun w hw => by unfold Oper.quietAt; rw [h w hw]; exact ⟨rfl, rfl⟩, hn⟩
theorem quiet_call {P : Program} {o : Oper} {a : Act} {C : World → Prop} {K : Act → Prop} (v : Value) (f : FuncId) (args : Array Value) (h : ∀ w, C w → (execOp a.eval o).run P w = .ok (.enter f args) w)
    (hc : ∀ w, C w → Calls P f args w (fun e w'' => e = .returned v ∧ C w'')) (hn : K (a.put o.dst v)) : o.quiet P a C K :=
  ⟨v, fun w hw => by unfold Oper.quietAt; rw [h w hw]; exact ⟨rfl, hc w hw⟩, hn⟩
section
variable {P : Program} {ops : Array Oper} {md : Region.Mode} {C : World → Prop}
/-- So many operations of the head come up, in whatever order, then L holds. -/
def headQ (P : Program) (md : Region.Mode) (ops : Array Oper) (C : World → Prop) (n : Nat) (L : Array Bool → Act → Prop) : Nat → Array Bool → Act → Prop
  | 0, listed, a => L listed a
  | f + 1, listed, a => (∃ i, i ∈ Region.ready md ops listed) ∧ ∀ i, i ∈ Region.ready md ops listed → i < n ∧ qOp P ops C i (headQ P md ops C n L f (listed.setIfInBounds i true)) a
theorem any_of_headQ {n g : Nat} {L : Array Bool → Act → Prop} {R : Exit → Act → World → Prop} (hL : ∀ listed a w, C w → L listed a → wpAny P md ops R g listed a w) (f : Nat) :
    ∀ (listed : Array Bool) (a : Act) (w : World), C w → headQ P md ops C n L f listed a → wpAny P md ops R (f + g) listed a w := by
  induction f with
  | zero => intro listed a w hw h; rw [Nat.zero_add]; exact hL _ _ _ hw h
  | succ f ih =>
    intro listed a w hw h
    rw [Nat.add_right_comm]
    refine ⟨fun h0 => ?_, fun i hi => wpOp_of_qOp hw (fun a' w' hw' h' => ih _ a' w' hw' h') (h.2 i hi).2⟩
    obtain ⟨i, hi⟩ := h.1
    rw [h0] at hi; cases hi
/-- One of the head may be taken first. -/
theorem headQ_first {n i : Nat} {oi : Oper} {v : Value} {L : Array Bool → Act → Prop} (hi : ops[i]? = some oi) (hsel : ∀ (j : Nat) (o : Oper) cs b, ops[j]? = some o → o.op ≠ .select cs b)
    (hs : Region.sinkB md ops n = true) (hc : Region.chainB md ops n = true) (hn : n < ops.size) (hin : i < n) (hdone : ∀ listed a, L listed a → ∀ j, j ∈ Region.ready md ops listed → n ≤ j) (f : Nat) :
    ∀ (listed : Array Bool) (a : Act), HeadInv md ops n listed →
      (∀ j oj, ops[j]? = some oj → j ≠ i → listed.getD j true = false → (∀ e ∈ oj.after, Region.binds md e = true → e.on ≠ i) → oi.apart ops oj = true) →
      i ∈ Region.ready md ops listed → YieldsIn P ops C oi v a →
      headQ P md ops C n L f (listed.setIfInBounds i true) (a.put oi.dst v) → headQ P md ops C n L (f + 1) listed a := by
  induction f with
  | zero =>
    intro listed a inv _ hr hy H
    refine ⟨⟨i, hr⟩, fun j hj => ?_⟩
    have hun := (mem_ready.1 hr).1
    have hjn : j < n := Nat.lt_of_not_le fun h => tail_waits hs hc hn inv _ i rfl hin hun j h hj
    by_cases e : j = i
    · subst e; exact ⟨hjn, hy.qOp hi H⟩
    · have := hdone _ _ H j (ready_mono hj e); omega
  | succ f ih =>
    intro listed a inv hfree hr hy H
    refine ⟨⟨i, hr⟩, fun j hj => ?_⟩
    have hun := (mem_ready.1 hr).1
    have hjn : j < n := Nat.lt_of_not_le fun h => tail_waits hs hc hn inv _ i rfl hin hun j h hj
    refine ⟨hjn, ?_⟩
    by_cases e : j = i
    · subst e; exact hy.qOp hi H
    · obtain ⟨hjun, oj, hoj, hall⟩ := mem_ready.1 hj
      have hap : oi.apart ops oj = true := hfree j oj hoj e hjun (fun d hd hb he => by
        have h1 := hall d hd hb
        rw [he, getD_both hun] at h1; cases h1)
      have h2 := qOp_put hoj hap (fun cs b => hsel i oi cs b hi) (fun cs b => hsel j oj cs b hoj) hy (H.2 j (ready_mono hj e)).2
      refine qOp_mono (fun a' h3 => ih _ a' (inv.set hj hjn) (fun k ok hk hki hu hno => hfree k ok hk hki ?_ hno) (ready_mono hr (Ne.symm e)) h3.1 ?_) h2
      · by_cases ejk : j = k
        · subst ejk; exact hjun
        · rwa [getD_set_ne true ejk] at hu
      · rw [Array.setIfInBounds_comm _ _ e]; exact h3.2
theorem headQ_lex {n g : Nat} {Lq : Act → Prop} (hsel : Region.noSelect ops = true) (hs : Region.sinkB md ops n = true) (hc : Region.chainB md ops n = true) (hn : n < ops.size) (l : List Oper) :
    ∀ (k : Nat) (listed : Array Bool) (a : Act), (∀ j, j < l.length → l[j]? = ops[k + j]?) → k + l.length = n → HeadInv md ops n listed → Region.lexHead md ops g l.length k listed = true → wpQuiet P ops C Lq l a →
    headQ P md ops C n (fun listed' a' => Region.seqB md ops g n listed' = true ∧ Lq a') l.length listed a := by
  induction l with
  | nil =>
    intro k listed a _ hk _ hB h
    obtain rfl : k = n := by simpa using hk
    exact ⟨hB, h⟩
  | cons o l ih =>
    intro k listed a hl hk inv hB h
    rw [List.length_cons] at hk
    have h0 : ops[k]? = some o := by have := hl 0 (by simp); simpa using this.symm
    simp only [List.length_cons, Region.lexHead, Bool.and_eq_true] at hB
    have hr : k ∈ Region.ready md ops listed := by simpa using hB.1.1
    have hq : qOp P ops C k (wpQuiet P ops C Lq l) a := by unfold qOp; simp only [h0]; exact h
    obtain ⟨v, hy, hK⟩ := yieldsIn_of_qOp h0 hq
    refine headQ_first h0 (Region.noSelect_spec hsel) hs hc hn (by omega) (fun listed' a' hL => seqB_ready hL.1) l.length listed a inv (Region.free_spec h0 hB.1.2) hr hy ?_
    refine ih (k + 1) _ _ (fun j hj => ?_) (by omega) (inv.set hr (by omega)) hB.2 hK
    have := hl (j + 1) (by simp; omega)
    rw [List.getElem?_cons_succ] at this
    rw [this]; congr 1; omega
theorem wp_region_tail {id : Nat} {Q : Exit → Act → World → Prop} {a : Act} {w : World} {l : List Oper} (C : World → Prop) (n : Nat) (hm : P.follows .mixedOrders = true) (hB : Region.lexTailB .any l.toArray n = true) (hC : C w.drew)
    (h : wpQuiet P l.toArray C (fun a' => ∀ w', C w' → wpList P l.toArray Q (l.drop n) a' w') (l.take n) a) : (Code.region id l.toArray true).wp P Q a w := by
  simp only [Region.lexTailB, Bool.and_eq_true, decide_eq_true_eq] at hB
  obtain ⟨⟨⟨⟨hsel, hn⟩, hs⟩, hc⟩, hlex⟩ := hB
  have hn' : n < l.length := by simpa using hn
  have htl : (l.take n).length = n := by rw [List.length_take]; omega
  have hdl : (l.drop n).length = l.toArray.size - n := by simp
  have inv0 : HeadInv .any l.toArray n (Array.replicate l.toArray.size false) := by
    refine ⟨by simp, fun j oj _ hl => ?_, fun t _ ht => getD_in (by simpa using ht) (getD_replicate_false _ _)⟩
    rw [getD_replicate_false] at hl; cases hl
  have H := headQ_lex (P := P) (C := C) (md := .any) (g := l.toArray.size - n) hsel hs hc hn (l.take n) 0 _ a (fun j hj => by
    rw [htl] at hj
    rw [List.getElem?_take_of_lt hj]; simp) (by omega) inv0 (by rw [htl]; exact hlex) h
  have H2 := any_of_headQ (R := Q) (g := l.toArray.size - n) (fun listed a' w' hw' hL => by
    have := wpAny_of_seq (md := .any) (Q' := Q) (l.drop n) n listed a' w' (fun j => by simp [List.getElem?_drop]) (by rw [hdl]; exact hL.1) (hL.2 w' hw')
    rwa [hdl] at this) _ _ _ _ hC H
  refine wp_region_any hm ?_
  rwa [htl, show n + (l.toArray.size - n) = l.toArray.size from by omega] at H2
end
end Go.Proofs.YtbfoiocbmhhdbaaGreat
/- midx.takeRow. -/
namespace Go.Proofs.YtbfoiocbmhhdbaaGreat
open Go.RowKit
set_option linter.unusedSimpArgs false
set_option linter.unusedVariables false
/-- A row that is being taken: the reader, the answer's block and the name's. -/
structure TM (w : World) (b : Nat) (t : ByteArray) (j : Nat) (C : Array Value) (wr : World) : Prop where
  rd : Step b w wr t
  rb : Bk wr w.heap.size z67 52
  nb : Bk wr j C 48
  bl : b < w.heap.size
  jl : w.heap.size < j
theorem TM.step {w wr w' : World} {b j : Nat} {t t' : ByteArray} {C : Array Value} (h : TM w b t j C wr) (hs : Step b wr w' t') : TM w b t' j C w' := by
  have hb := h.bl
  have hj := h.jl
  refine ⟨h.rd.then hs, ?_, ?_, hb, hj⟩
  · unfold Bk; rw [hs.block _ h.rb.lt (by omega)]; exact h.rb
  · unfold Bk; rw [hs.block _ h.nb.lt (by omega)]; exact h.nb
theorem TM.turn {w wr w' : World} {b j : Nat} {t : ByteArray} {C C' : Array Value} (h : TM w b t j C wr) (hg : wr.grownBy w' (some j)) (hn : Bk w' j C' 48) : TM w b t j C' w' := by
  have hb := h.bl
  have hj := h.jl
  have hlt : b < wr.heap.size := Nat.lt_of_lt_of_le hb h.rd.size
  have hne : ∀ k, k < w.heap.size → some k ≠ some j := fun k hk e => by injection e with e; omega
  have q := cell_blkX (j := 0) (hg.block b hlt (hne b hb))
  refine ⟨⟨hg.os.trans h.rd.os, hg.tape.trans h.rd.tape, hg.output.trans h.rd.output, Nat.le_trans h.rd.size hg.size, by rw [q.1]; exact h.rd.cell, by rw [q.2]; exact h.rd.frozen, fun k hk hk2 => (hg.block k (Nat.lt_of_lt_of_le hk h.rd.size) (hne k hk)).trans (h.rd.block k hk hk2)⟩, ?_, hn, hb, hj⟩
  unfold Bk
  rw [hg.block _ h.rb.lt (fun e => by injection e with e; omega)]
  exact h.rb
/-- A step that leaves the blocks below where they are, but the reader's. -/
theorem NmL.step {w w' : World} {a : Option Addr} {l : List ByteArray} {b : Nat} {t : ByteArray} (h : NmL w a l) (hs : Step b w w' t) (hn : ∀ p : Addr, a = some p → p.block ≠ b) : NmL w' a l := fun i s hi => by
  obtain ⟨h1, g, o, h2, h3, h4⟩ := h i s hi
  refine ⟨h1, g, o, h2, Nat.lt_of_lt_of_le h3 hs.size, fun j v hv => ?_⟩
  have := hs.block g h3 (hn _ h2)
  rw [show w'.cell? ⟨g, o + i * 32 + j, none⟩ = w.cell? ⟨g, o + i * 32 + j, none⟩ from (cell_blkX this).1]
  exact h4 j v hv
theorem rdMr_some {ps : List ByteArray} {t : List UInt8} {p : ByteArray} (h : ps[rdNm t]? = some p) : rdMr ps t = ⟨p, rdXm t⟩ := by rw [rdMr, h]
theorem rdMr_none {ps : List ByteArray} {t : List UInt8} (h : ps.length ≤ rdNm t) : rdMr ps t = zMr := by rw [rdMr, List.getElem?_eq_none h]
theorem quiet_bd4 {P : Program} {o : Oper} {a : Act} {C : World → Prop} {K : Act → Prop} (t : TypeId) (x0 x1 x2 x3 : Operand) (ho : o.op = .build t #[(0, x0), (1, x1), (2, x2), (3, x3)]) (v0 v1 v2 v3 r : Value) (h0 : a.eval x0 = v0) (h1 : a.eval x1 = v1) (h2 : a.eval x2 = v2) (h3 : a.eval x3 = v3)
    (hr : ∀ w, (Instr.build t #[(0, v0), (1, v1), (2, v2), (3, v3)]).run P w = .ok r w) (hn : K (a.put o.dst r)) : o.quiet P a C K :=
  quiet_val10 r (fun w _ => by
    unfold execOp
    simp only [ho, Sem.run_bind, Sem.run_pure, Result.andThen_ok, List.map_toArray, List.map_cons, List.map_nil, h0, h1, h2, h3, hr]) hn
theorem quiet_bd2 {P : Program} {o : Oper} {a : Act} {C : World → Prop} {K : Act → Prop} (t : TypeId) (x0 x1 : Operand) (ho : o.op = .build t #[(0, x0), (1, x1)]) (v0 v1 r : Value) (h0 : a.eval x0 = v0) (h1 : a.eval x1 = v1)
    (hr : ∀ w, (Instr.build t #[(0, v0), (1, v1)]).run P w = .ok r w) (hn : K (a.put o.dst r)) : o.quiet P a C K :=
  quiet_val10 r (fun w _ => by
    unfold execOp
    simp only [ho, Sem.run_bind, Sem.run_pure, Result.andThen_ok, List.map_toArray, List.map_cons, List.map_nil, h0, h1, hr]) hn
set_option maxHeartbeats 4000000 in
set_option maxRecDepth 100000 in
theorem takeRow_any (ps : List ByteArray) (ap : Option Addr) (np cp : Nat) (t : ByteArray) (b : Nat) (w : World) (hc : w.cell? ⟨b, 0, none⟩ = some (.string t)) (hf : w.frozen? ⟨b, 0, none⟩ = false) (hb : b < w.heap.size) (ht : 45 ≤ t.size) (hs : t.size ≤ maxLen) (hP : NmL w ap ps) (hPn : ps.length = np) (hnp : np ≤ 4096) (hne : ∀ p : Addr, ap = some p → p.block ≠ b) :
    Calls Tryz.prog 78 #[.pointer (some ⟨b, 0, none⟩), .slice ap np cp] w fun e w' => e = .returned (.agg (mrC (rdMr ps (bl t)))) ∧ Step b w w' (t.extract 45 t.size) := by
  obtain ⟨x, hx⟩ : ∃ x, (⟨((bl t).take 32).toArray⟩ : ByteArray) = x := ⟨_, rfl⟩
  obtain ⟨t1, ht1⟩ : ∃ t1, t.extract 32 t.size = t1 := ⟨_, rfl⟩
  obtain ⟨t2, ht2⟩ : ∃ t2, t1.extract 4 t1.size = t2 := ⟨_, rfl⟩
  obtain ⟨t3, ht3⟩ : ∃ t3, t2.extract 1 t2.size = t3 := ⟨_, rfl⟩
  obtain ⟨t4, ht4⟩ : ∃ t4, t3.extract 4 t3.size = t4 := ⟨_, rfl⟩
  obtain ⟨t5, ht5⟩ : ∃ t5, t4.extract 4 t4.size = t5 := ⟨_, rfl⟩
  have b1 : bl t1 = (bl t).drop 32 := by rw [← ht1]; exact bl_ex t 32
  have b2 : bl t2 = (bl t).drop 36 := by rw [← ht2, bl_ex, b1, List.drop_drop]
  have b3 : bl t3 = (bl t).drop 37 := by rw [← ht3, bl_ex, b2, List.drop_drop]
  have b4 : bl t4 = (bl t).drop 41 := by rw [← ht4, bl_ex, b3, List.drop_drop]
  have b5 : bl t5 = (bl t).drop 45 := by rw [← ht5, bl_ex, b4, List.drop_drop]
  have s1 : t1.size = t.size - 32 := by rw [← ht1]; exact ex_size t 32
  have s2 : t2.size = t.size - 36 := by rw [← ht2, ex_size, s1]; omega
  have s3 : t3.size = t.size - 37 := by rw [← ht3, ex_size, s2]; omega
  have s4 : t4.size = t.size - 41 := by rw [← ht4, ex_size, s3]; omega
  have hxs : x.size = 32 := by
    rw [← hx]
    show ((bl t).take 32).toArray.size = 32
    rw [List.size_toArray, List.length_take, bl_length]; omega
  obtain ⟨nz, hnz⟩ : ∃ k, fixV ((bl t1).take 4) = k := ⟨_, rfl⟩
  obtain ⟨kz, hkz⟩ : ∃ k, fixV ((bl t2).take 1) = k := ⟨_, rfl⟩
  obtain ⟨oz, hoz⟩ : ∃ k, fixV ((bl t3).take 4) = k := ⟨_, rfl⟩
  obtain ⟨zz, hzz⟩ : ∃ k, fixV ((bl t4).take 4) = k := ⟨_, rfl⟩
  have ln : nz < 4294967296 := by rw [← hnz]; have := fix_lt t1 4 (by omega); omega
  have lk : kz < 256 := by rw [← hkz]; have := fix_lt t2 1 (by omega); omega
  have lo : oz < 4294967296 := by rw [← hoz]; have := fix_lt t3 4 (by omega); omega
  have lz : zz < 4294967296 := by rw [← hzz]; have := fix_lt t4 4 (by omega); omega
  have hnm : rdNm (bl t) = nz := by rw [rdNm, ← b1]; exact hnz
  have hid : (rdXm (bl t)).id = x := hx
  have hid32 : (rdXm (bl t)).id.size = 32 := by rw [hid, hxs]
  have hkk : ((rdXm (bl t)).k.toNat : Int) = (kz : Int) := by
    have q : (bl t2).take 1 = [((bl t).drop 36).headD 0] := by
      rw [b2]
      cases hq : (bl t).drop 36 with
      | nil =>
        have := congrArg List.length hq
        rw [List.length_drop, bl_length] at this
        simp at this
        omega
      | cons a r => rfl
    rw [← hkz, q]
    show _ = ((fixV [((bl t).drop 36).headD 0] : Nat) : Int)
    simp [fixV, rdXm]
  have hoo : (rdXm (bl t)).off = (oz : Int) := by rw [← hoz, b3]; rfl
  have hss : (rdXm (bl t)).sz = (zz : Int) := by rw [← hzz, b4]; rfl
  obtain ⟨Y, hY⟩ : ∃ Y, xeC (rdXm (bl t)) = Y := ⟨_, rfl⟩
  obtain ⟨X, hX⟩ : ∃ X, idc x = X := ⟨_, rfl⟩
  have HB1 : Hid (∀ u, (Instr.build 50 #[(0, .agg X), (1, .int .u8 (kz : Int)), (2, .int .i64 (oz : Int)), (3, .int .i64 (zz : Int))]).run Tryz.prog u = .ok (.agg Y) u) := fun u => by
    have := build_xe (rdXm (bl t)) hid32 u
    rw [hid, hkk, hoo, hss, hX, hY] at this
    exact this
  have HIX : Hid ((Tryz.prog.info? 48).map (·.size) = some X.size ∧ X.all (·.oneCell') = true ∧ X.size = 32) := by rw [← hX]; exact ⟨info_32 (by rw [idc_size, hxs]), idc_allX _, by rw [idc_size, hxs]⟩
  obtain ⟨R, hR⟩ : ∃ R, mrC (rdMr ps (bl t)) = R := ⟨_, rfl⟩
  have HRI : Hid ((Tryz.prog.info? 52).map (·.size) = some R.size ∧ R.all (·.oneCell') = true ∧ R.size = 67) := by
    have hq : R.size = 67 := by
      rw [← hR]
      cases hp : ps[rdNm (bl t)]? with
      | none => rw [rdMr, hp]; rw [← z67_is]; exact z67_size
      | some p => rw [rdMr_some hp]; exact mrC_size _ (hP _ _ hp).1 hid32
    exact ⟨info_mr hq, by rw [← hR]; exact mrC_all _, hq⟩
  have HNo : Hid (np ≤ nz → R = z67) := fun q => by rw [← hR, rdMr_none (by rw [hPn, hnm]; exact q), ← z67_is]
  have HYe : Hid (nz < np → ∃ p, ps[nz]? = some p ∧ p.size = 32 ∧ ∀ u, (Instr.build 52 #[(0, .agg (idc p)), (1, .agg Y)]).run Tryz.prog u = .ok (.agg R) u) := fun q => by
    obtain ⟨p, hp⟩ : ∃ p, ps[nz]? = some p := ⟨_, List.getElem?_eq_getElem (by omega)⟩
    refine ⟨p, hp, (hP _ _ hp).1, fun u => ?_⟩
    have := build_mr ⟨p, rdXm (bl t)⟩ (hP _ _ hp).1 hid32 u
    rw [← rdMr_some (by rw [hnm]; exact hp), hR, rdMr_some (by rw [hnm]; exact hp)] at this
    rw [← hY]
    exact this
  have h45 : t.extract 45 t.size = t5 := by apply bl_inj; rw [bl_ex, b5]
  rw [hR, h45]
  have HS : Hid (t1.size = t.size - 32 ∧ t2.size = t.size - 36 ∧ t3.size = t.size - 37 ∧ t4.size = t.size - 41 ∧ 45 ≤ t.size ∧ t.size ≤ maxLen) := ⟨s1, s2, s3, s4, ht, hs⟩
  have HT : Hid (t.extract 32 t.size = t1 ∧ t1.extract 4 t1.size = t2 ∧ t2.extract 1 t2.size = t3 ∧ t3.extract 4 t3.size = t4 ∧ t4.extract 4 t4.size = t5) := ⟨ht1, ht2, ht3, ht4, ht5⟩
  have HF : Hid (fixV ((bl t1).take 4) = nz ∧ fixV ((bl t2).take 1) = kz ∧ fixV ((bl t3).take 4) = oz ∧ fixV ((bl t4).take 4) = zz) := ⟨hnz, hkz, hoz, hzz⟩
  have HX : Hid ((⟨((bl t).take 32).toArray⟩ : ByteArray) = x ∧ idc x = X) := ⟨hx, hX⟩
  have HPP : Hid (NmL w ap ps ∧ ∀ p : Addr, ap = some p → p.block ≠ b) := ⟨hP, hne⟩
  have HW0 : Hid (Bk (w.alloc (.cells z67 52)) w.heap.size z67 52 ∧ Step b w (w.alloc (.cells z67 52)) t) := ⟨bk_new _ _ _, Step.of_below ((Below.refl _ _).alloc (Nat.le_refl _) _) hb hc hf⟩
  have hz0 : (w.alloc (.cells z67 52)).heap.size = w.heap.size + 1 := al_size _ _
  clear hc hf b1 b2 b3 b4 b5 s1 s2 s3 s4 ht1 ht2 ht3 ht4 ht5 hnz hkz hoz hzz hid hid32 hkk hoo hss hY hX hR h45 hx hxs hnm hP hne ht hs
  have hbz := build_mz
  go_enter Tryz.func78, Tryz.ntmps78
  go_wp2_with fail
  refine (takeId_any t b _ HW0.out.2.cell HW0.out.2.frozen (by show b < (w.alloc (.cells z67 52)).heap.size; omega) (by have := HS.out.2.2.2.2; omega) HS.out.2.2.2.2.2).mono ?_
  rintro e w1 ⟨rfl, hst1⟩
  rw [HX.out.1, HX.out.2]
  rw [HT.out.1] at hst1
  have T1 : Hid (TM w b t1 w1.heap.size z32c (w1.alloc (.cells z32c 48))) := by
    have h1 : (w.alloc (.cells z67 52)).heap.size ≤ w1.heap.size := hst1.size
    have hlt : b < w1.heap.size := by omega
    refine ⟨(HW0.out.2.then hst1).then (Step.of_below ((Below.refl _ _).alloc (Nat.le_refl _) _) hlt hst1.cell hst1.frozen), ?_, bk_new _ _ _, hb, by omega⟩
    have : Bk w1 w.heap.size z67 52 := by unfold Bk; rw [hst1.block _ HW0.out.1.lt (by omega)]; exact HW0.out.1
    exact this.alloc _
  obtain ⟨j, hj⟩ : ∃ j, w1.heap.size = j := ⟨_, rfl⟩
  have HJ : Hid (w1.heap.size = j) := hj
  clear hst1 HW0 hz0 hj
  go_wp2_with (first
    | (refine wpList_stoX rfl 48 (.tmp 5) (.tmp 15) rfl w1.heap.size X z32c 48 rfl rfl T1.out.nb HIX.out.1 (by rw [HIX.out.2.2]; exact z32c_size.symm) HIX.out.2.1 ?_; intro w2 HB2 HG2; have T2 : Hid (TM w b t1 j X w2) := by rw [← HJ.out]; exact T1.out.turn HG2.out HB2.out)
    | fail)
  refine (fixed_ok t1 b w2 (by have := HS.out; omega) T2.out.rd.cell T2.out.rd.frozen (Nat.lt_of_lt_of_le hb T2.out.rd.size) 4 (by omega) (by omega) (by have := HS.out; omega)).mono ?_
  rintro e w3 ⟨rfl, hst3⟩
  rw [HF.out.1]
  rw [HT.out.2.1] at hst3
  have T3 : Hid (TM w b t2 j X w3) := T2.out.step hst3
  clear hst3 T2 T1 HB2 HG2
  go_wp2_with fail
  refine (fixed_ok t2 b w3 (by have := HS.out; omega) T3.out.rd.cell T3.out.rd.frozen (Nat.lt_of_lt_of_le hb T3.out.rd.size) 1 (by omega) (by omega) (by have := HS.out; omega)).mono ?_
  rintro e w4 ⟨rfl, hst4⟩
  rw [HF.out.2.1]
  rw [HT.out.2.2.1] at hst4
  have T4 : Hid (TM w b t3 j X w4) := T3.out.step hst4
  clear hst4 T3
  go_wp2_with fail
  refine (fixed_ok t3 b w4 (by have := HS.out; omega) T4.out.rd.cell T4.out.rd.frozen (Nat.lt_of_lt_of_le hb T4.out.rd.size) 4 (by omega) (by omega) (by have := HS.out; omega)).mono ?_
  rintro e w5 ⟨rfl, hst5⟩
  rw [HF.out.2.2.1]
  rw [HT.out.2.2.2.1] at hst5
  have T5 : Hid (TM w b t4 j X w5) := T4.out.step hst5
  clear hst5 T4
  go_wp2_with fail
  refine (fixed_ok t4 b w5 (by have := HS.out; omega) T5.out.rd.cell T5.out.rd.frozen (Nat.lt_of_lt_of_le hb T5.out.rd.size) 4 (by omega) (by omega) (by have := HS.out; omega)).mono ?_
  rintro e w6 ⟨rfl, hst6⟩
  rw [HF.out.2.2.2]
  rw [HT.out.2.2.2.2] at hst6
  have T6 : Hid (TM w b t5 j X w6) := T5.out.step hst6
  clear hst6 T5
  have q1 : IntKind.u8.wrap (kz : Int) = (kz : Int) := by simp [IntKind.wrap, IntKind.bits, IntKind.signed]; omega
  have q2 : IntKind.i64.wrap (oz : Int) = (oz : Int) := by rw [IntKind.wrap_i64]; omega
  have q3 : IntKind.i64.wrap (zz : Int) = (zz : Int) := by rw [IntKind.wrap_i64]; omega
  have q4 : IntKind.u64.wrap (np : Int) = (np : Int) := by simp [IntKind.wrap, IntKind.bits, IntKind.signed]; omega
  have HEND : Hid (∀ W, Step b w6 W t5 → Step b w W t5) := fun W hW => T6.out.rd.then hW
  by_cases hlt : nz < np
  · have hltz : (nz : Int) < (np : Int) := by omega
    have hge : ¬ (np : Int) ≤ (nz : Int) := by omega
    obtain ⟨p, hp, hp32, hbp⟩ := HYe.out hlt
    have HB2 : Hid (∀ u, (Instr.build 52 #[(0, .agg (idc p)), (1, .agg Y)]).run Tryz.prog u = .ok (.agg R) u) := hbp
    obtain ⟨P, hPe⟩ : ∃ P, idc p = P := ⟨_, rfl⟩
    have HPI : Hid ((Tryz.prog.info? 48).map (·.size) = some P.size) := by rw [← hPe]; exact info_32 (by rw [idc_size, hp32])
    have HPC : Hid (∃ g o, ap = some ⟨g, o, none⟩ ∧ ∀ j v, P[j]? = some v → w6.cell? ⟨g, o + nz * 32 + j, none⟩ = some v) := by
      obtain ⟨_, g, o, k1, k2, k3⟩ := (HPP.out.1.step T6.out.rd HPP.out.2) nz p hp
      exact ⟨g, o, k1, by rw [← hPe]; exact k3⟩
    obtain ⟨g, o, rfl, HPcell⟩ := HPC.out
    have HC : Hid (∀ W, Below w6.heap.size w6 W → ∀ j v, P[j]? = some v → W.cell? ⟨g, o + nz * 32 + j, none⟩ = some v) := fun W hW => by
      obtain ⟨_, g', o', k1, k2, k3⟩ := (HPP.out.1.step T6.out.rd HPP.out.2) nz p hp
      simp only [Option.some.injEq, Addr.mk.injEq] at k1
      obtain ⟨rfl, rfl, _⟩ := k1
      intro j v hv
      rw [hW.cell (p := ⟨g, o + nz * 32 + j, none⟩) k2]
      exact k3 j v (by rw [hPe]; exact hv)
    have HN : Hid (∀ W, Below w6.heap.size w6 W → Bk W w1.heap.size X 48) := fun W hW => by rw [HJ.out]; exact T6.out.nb.below hW T6.out.nb.lt
    rw [hPe] at HB2
    clear HPcell HPC hbp hPe hp hp32 HYe HNo hbz
    go_wp2_with fail
    refine wp_region_tail (fun W => Below w6.heap.size w6 W) 13 (by kernel_rfl) (by kernel_rfl) (Below.refl _ _).drew ?_
    simp only [List.take_succ_cons, List.take_zero, List.drop_succ_cons, List.drop_zero]
    repeat (first
      | go_big_quiet_skip
      | (go_big_quiet_want
         first
           | (refine quiet_rowc 48 _ rfl g (o + nz * 32) P _ rfl (fun W hW => HC.out W hW) Tryz.underlying48 rfl HPI.out ?_; go_big_quiet_on; simp only [Act.put, List.setIfInBounds_toArray, List.set_cons_zero, List.set_cons_succ])
           | (refine quiet_row 48 _ rfl w1.heap.size 0 X X 48 _ rfl (fun W hW => HN.out W hW) (fun j v hv => by rw [Nat.zero_add]; exact hv) Tryz.underlying48 rfl HIX.out.1 ?_; go_big_quiet_on; simp only [Act.put, List.setIfInBounds_toArray, List.set_cons_zero, List.set_cons_succ])
           | (refine quiet_val10 (.int .u8 (kz : Int)) ?_ ?_; (focus (intro W hW; go_simp; done)); go_big_quiet_on; simp only [Act.put, List.setIfInBounds_toArray, List.set_cons_zero, List.set_cons_succ])
           | (refine quiet_val10 (.int .i64 (oz : Int)) ?_ ?_; (focus (intro W hW; go_simp; done)); go_big_quiet_on; simp only [Act.put, List.setIfInBounds_toArray, List.set_cons_zero, List.set_cons_succ])
           | (refine quiet_val10 (.int .i64 (zz : Int)) ?_ ?_; (focus (intro W hW; go_simp; done)); go_big_quiet_on; simp only [Act.put, List.setIfInBounds_toArray, List.set_cons_zero, List.set_cons_succ])
           | (refine quiet_bd4 50 _ _ _ _ rfl (.agg X) (.int .u8 (kz : Int)) (.int .i64 (oz : Int)) (.int .i64 (zz : Int)) (.agg Y) rfl rfl rfl rfl HB1.out ?_; go_big_quiet_on; simp only [Act.put, List.setIfInBounds_toArray, List.set_cons_zero, List.set_cons_succ])
           | (refine quiet_bd2 52 _ _ rfl (.agg P) (.agg Y) (.agg R) rfl rfl HB2.out ?_; go_big_quiet_on; simp only [Act.put, List.setIfInBounds_toArray, List.set_cons_zero, List.set_cons_succ])
           | (refine quiet_val10 (.pointer (some ⟨g, o + nz * 32, none⟩)) ?_ ?_; (focus (intro W hW; go_simp; done)); go_big_quiet_on; simp only [Act.put, List.setIfInBounds_toArray, List.set_cons_zero, List.set_cons_succ])
           | (go_big_quiet_op; go_big_quiet_on)))
    refine wpQuiet_nil ?_
    intro w8 hw8
    have T8 : Hid (Bk w8 w.heap.size z67 52 ∧ Step b w6 w8 t5) := ⟨T6.out.rb.below hw8 T6.out.rb.lt, Step.of_below hw8 (Nat.lt_of_lt_of_le hb T6.out.rd.size) T6.out.rd.cell T6.out.rd.frozen⟩
    clear hw8 HC HN HB1 HB2
    refine wpList_stoX rfl 52 (.tmp 4) (.tmp 54) rfl w.heap.size R z67 52 rfl rfl T8.out.1 HRI.out.1 (by rw [HRI.out.2.2]; exact z67_size.symm) HRI.out.2.1 ?_
    intro w7 HB7 HG7
    go_wp2_with fail
    refine bodyPost_ret (results_cell_row rfl _ _ w.heap.size 52 R (0, 0) _ rfl HB7.out Tryz.underlying52 rfl HRI.out.1) rfl ⟨rfl, ?_⟩
    have hg := HG7.out
    have h6 := T6.out.rd.then T8.out.2
    have hne : ∀ k, k < w.heap.size → some k ≠ some w.heap.size := fun k hk e => by injection e with e; omega
    have q := cell_blkX (j := 0) (hg.block b (Nat.lt_of_lt_of_le hb h6.size) (hne b hb))
    exact ⟨hg.os.trans h6.os, hg.tape.trans h6.tape, hg.output.trans h6.output, Nat.le_trans h6.size hg.size, by rw [q.1]; exact h6.cell, by rw [q.2]; exact h6.frozen, fun k hk hk2 => (hg.block k (Nat.lt_of_lt_of_le hk h6.size) (hne k hk)).trans (h6.block k hk hk2)⟩
  · have hge : (np : Int) ≤ (nz : Int) := by omega
    have hRz := HNo.out (by omega)
    subst hRz
    go_wp2_with (first
      | (refine wpList_stoX rfl 52 (.tmp 4) (.tmp 41) rfl w.heap.size z67 z67 52 rfl rfl T6.out.rb HRI.out.1 rfl HRI.out.2.1 ?_; intro w7 HB7 HG7)
      | fail)
    refine bodyPost_ret (results_cell_row rfl _ _ w.heap.size 52 z67 (0, 0) _ rfl HB7.out Tryz.underlying52 rfl HRI.out.1) rfl ⟨rfl, ?_⟩
    have hg := HG7.out
    have h6 := T6.out.rd
    have hne : ∀ k, k < w.heap.size → some k ≠ some w.heap.size := fun k hk e => by injection e with e; omega
    have q := cell_blkX (j := 0) (hg.block b (Nat.lt_of_lt_of_le hb h6.size) (hne b hb))
    exact ⟨hg.os.trans h6.os, hg.tape.trans h6.tape, hg.output.trans h6.output, Nat.le_trans h6.size hg.size, by rw [q.1]; exact h6.cell, by rw [q.2]; exact h6.frozen, fun k hk hk2 => (hg.block k (Nat.lt_of_lt_of_le hk h6.size) (hne k hk)).trans (h6.block k hk hk2)⟩
end Go.Proofs.YtbfoiocbmhhdbaaGreat
