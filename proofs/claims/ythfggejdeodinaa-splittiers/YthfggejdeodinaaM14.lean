/- Loads in a class of worlds: one cell, many cells. -/
import Derived.Test.YthfggejdeodinaaM13
import Derived.Test.YthfggejdeodinaaM0
import Derived.Laws.StructEq
namespace Go.Proofs.Ythfggejdeodinaa
open Go.RowKit
set_option linter.unusedSimpArgs false
set_option linter.unusedVariables false
theorem quiet_one {P : Program} {o : Oper} {a : Act} {C : World → Prop} {K : Act → Prop} (t : TypeId) (x : Operand) (ho : o.op = .load t x) (g f : Nat) (v : Value) (hx : a.eval x = .pointer (some ⟨g, f, none⟩)) (ha : ∀ w, (isAgg t).run P w = .ok false w)
    (hc : ∀ w, C w → w.cell? ⟨g, f, none⟩ = some v) (hn : K (a.put o.dst v)) : o.quiet P a C K :=
  quiet_val10 v (fun w hw => by
    have h := hc w hw
    have h2 := ha w
    unfold execOp
    simp [ho, hx, Instr.loadAt, Instr.sureAddr, loadVar, h2, h]) hn
theorem quiet_row {P : Program} {o : Oper} {a : Act} {C : World → Prop} {K : Act → Prop} (t : TypeId) (x : Operand) (ho : o.op = .load t x) (g f : Nat) (D cells : Array Value) (T : TypeId) (d : TypeDesc) (hx : a.eval x = .pointer (some ⟨g, f, none⟩))
    (hc : ∀ w, C w → Bk w g D T) (hD : ∀ j v, cells[j]? = some v → D[f + j]? = some v) (hu : P.underlying t = some d) (hd : d.isRow = true) (hi : (P.info? t).map (·.size) = some cells.size) (hn : K (a.put o.dst (.agg cells))) : o.quiet P a C K :=
  quiet_val10 (.agg cells) (fun w hw => by
    have h := hc w hw
    have hr := run_loadVar_mid (P := P) w g f t cells.toList d (fun j v hv => by rw [h.cell]; exact hD j v (by rwa [Array.getElem?_toList] at hv)) hu hd (by rw [Array.length_toList]; exact hi)
    unfold execOp
    simp [ho, hx, Instr.loadAt, Instr.sureAddr, hr]) hn
/-- The load of many cells, of an operation that is wanted. -/
theorem wpList_getG {P : Program} {ops : Array Oper} {rest : List Oper} {op : Oper} {a : Act} {w : World} {Q : Exit → Act → World → Prop} (hw : Region.wanted op (yielded ops a.tmps) = true) (ty : TypeId) (x : Operand) (ho : op.op = .load ty x)
    (b o : Nat) (C cells : Array Value) (T : TypeId) (d : TypeDesc) (hx : a.eval x = .pointer (some ⟨b, o, none⟩))
    (hB : Bk w b C T) (hc : ∀ j v, cells[j]? = some v → C[o + j]? = some v) (hu : P.underlying ty = some d) (hd : d.isRow = true) (hi : (P.info? ty).map (·.size) = some cells.size)
    (h : wpList P ops Q rest (a.put op.dst (.agg cells)) w) : wpList P ops Q (op :: rest) a w :=
  wpList_step fun K hK => by
    rw [if_pos hw]
    have e : cells.toList.toArray = cells := Array.toArray_toList
    refine wp_load_mid ty x ho b o hx cells.toList d (fun j v hv => by rw [hB.cell]; exact hc j v (by rwa [Array.getElem?_toList] at hv)) hu hd (by rw [hi]; simp) ?_
    rw [e]
    exact hK _ _ h
/-- A comparison whose run is known. -/
theorem wpList_eqR {P : Program} {ops : Array Oper} {rest : List Oper} {op : Oper} {a : Act} {w : World} {Q : Exit → Act → World → Prop} (hw : Region.wanted op (yielded ops a.tmps) = true) (t : TypeId) (x y : Operand) (ho : op.op = .binOp .eql t x y t)
    (v1 v2 : Array Value) (r : Value) (hm : P.eqGuardType P.depth t = false) (hx : a.eval x = .agg v1) (hy : a.eval y = .agg v2) (hr : (binOp .eql t (.agg v1) (.agg v2)).run P w = .ok r w)
    (h : wpList P ops Q rest (a.put op.dst r) w) : wpList P ops Q (op :: rest) a w :=
  wpList_step fun K hK => by
    rw [if_pos hw]
    unfold Oper.wp execOp
    simp only [ho, hx, hy, Sem.run_bind, run_eqGuard_agg w .eql t x y v1 v2 hm, hr, Result.andThen_ok, Sem.run_pure]
    exact hK _ _ h
theorem list_of_quiet {P : Program} {ops : Array Oper} {Q : Exit → Act → World → Prop} {C : World → Prop} : ∀ (l : List Oper) (a : Act) (w : World), wpQuiet P ops C (fun a' => ∀ w', C w' → Q .normal a' w') l a → C w → wpList P ops Q l a w
  | [], a, w, h, hC => h w hC
  | o :: rest, a, w, h, hC => by
    unfold wpQuiet at h
    refine wpList_step fun K hK => ?_
    split at h
    · rename_i hw
      rw [if_pos hw]
      exact Oper.wp_of_quiet hC (fun a w' hw' ha => hK a w' (list_of_quiet rest a w' ha hw')) h
    · rename_i hw
      rw [if_neg hw]
      exact hK _ _ (list_of_quiet rest _ w h hC)
/-- A region that does not draw, over a class of worlds. -/
theorem region_plain11 {P : Program} {id : Nat} {Q : Exit → Act → World → Prop} {a : Act} {w : World} {l : List Oper} (C : World → Prop) (hC : C w)
    (h : wpQuiet P l.toArray C (fun a' => ∀ w', C w' → Q .normal a' w') l a) : (Code.region id l.toArray false).wp P Q a w :=
  wp_region_lit (list_of_quiet l a w h hC)
end Go.Proofs.Ythfggejdeodinaa
