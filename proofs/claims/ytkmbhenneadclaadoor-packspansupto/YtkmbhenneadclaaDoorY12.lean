import Derived.Test.YtkmbhenneadclaaDoorY11
import Derived.Test.YtkmbhenneadclaaDoorY5
import Derived.Laws.StructEq
/- Rows of objects read as lists; what a copied list gives. -/
namespace Go.Proofs.YtkmbhenneadclaaDoor
open Go.RowKit
set_option linter.unusedSimpArgs false
set_option linter.unusedVariables false
theorem obv_get : ∀ (l : List Ob) (i : Nat) (o : Ob), l[i]? = some o → (obv l)[i * 2]? = some (.int .u8 (o.k.toNat : Int)) ∧ (obv l)[i * 2 + 1]? = some (.string o.p)
  | [], _, _, h => by simp at h
  | a :: l, 0, o, h => by simp at h; subst h; simp [obv]
  | a :: l, i + 1, o, h => by
    obtain ⟨h1, h2⟩ := obv_get l i o (by simpa using h)
    have e : obv (a :: l) = Value.int .u8 (a.k.toNat : Int) :: Value.string a.p :: obv l := rfl
    rw [e, show (i + 1) * 2 = i * 2 + 1 + 1 from by omega, show i * 2 + 1 + 1 + 1 = i * 2 + 1 + 1 + 1 from rfl]
    simp only [List.getElem?_cons_succ]
    exact ⟨h1, h2⟩
theorem obv_length (l : List Ob) : (obv l).length = l.length * 2 := by
  induction l with
  | nil => rfl
  | cons a l ih =>
    have e : obv (a :: l) = Value.int .u8 (a.k.toNat : Int) :: Value.string a.p :: obv l := rfl
    rw [e, List.length_cons, List.length_cons, ih, List.length_cons]; omega
/-- Objects whose payloads are short enough to be at all. -/
def ObZ (l : List Ob) : Prop := ∀ o ∈ l, o.p.size ≤ 140737488351232
theorem ObL.sz {w : World} {a : Option Addr} {l : List Ob} (h : ObL w a l) : ObZ l := fun o ho => by
  obtain ⟨i, hi, e⟩ := List.getElem_of_mem ho
  obtain ⟨_, _, _, _, _, _, h6⟩ := h i o (by rw [List.getElem?_eq_getElem hi, e])
  exact h6
theorem row_obl {w : World} {B n m : Nat} {v : Value} {l x : List Ob} (h : w.ownsRow B 30 2 v m (obv (l ++ x))) (hz : ObZ l) (hm : (l ++ x).length = m) :
    ∃ a c, v = .slice a m c ∧ ObL w a l := by
  rcases h.2 with ⟨rfl, h0⟩ | ⟨g, cap, cur, rfl, hle, hg, hnc, _, hc, ht⟩
  · subst h0
    have : l = [] := by
      have := List.eq_nil_of_length_eq_zero hm
      exact (List.append_eq_nil_iff.1 this).1
    subst this
    exact ⟨none, 0, rfl, fun i o hi => by simp at hi⟩
  · refine ⟨some ⟨g, 0, none⟩, cap, rfl, fun i o hi => ⟨g, 0, rfl, (Array.getElem?_eq_some_iff.1 hg).1, ?_, ?_, hz o (List.mem_of_getElem? hi)⟩⟩
    all_goals
      have hil : i < l.length := (List.getElem?_eq_some_iff.1 hi).1
      have hil2 : i < m := by rw [← hm, List.length_append]; omega
      have hix : (l ++ x)[i]? = some o := by rw [List.getElem?_append_left hil]; exact hi
      obtain ⟨q1, q2⟩ := obv_get _ i o hix
      have hb : Bk w g cur 30 := hg
    · rw [← ht, List.getElem?_take, if_pos (by omega), Array.getElem?_toList] at q1
      rw [hb.cell, Nat.zero_add]; exact q1
    · rw [← ht, List.getElem?_take, if_pos (by omega), Array.getElem?_toList] at q2
      rw [hb.cell, Nat.zero_add]; exact q2
theorem row_obl0 {w : World} {B m : Nat} {v : Value} {l : List Ob} (h : w.ownsRow B 30 2 v m (obv l)) (hz : ObZ l) (hm : l.length = m) : ∃ a c, v = .slice a m c ∧ ObL w a l := by
  have := row_obl (x := []) (n := 0) (by rw [List.append_nil]; exact h) hz (by rw [List.append_nil]; exact hm)
  exact this
/-- What own gives is a list. -/
theorem own_list {w : World} {B n g cp : Nat} {l : List Ob} (h : w.ownsRow B 30 2 (.slice (some ⟨g, 0, none⟩) (n + 1) cp) (n + 1) (obv (l ++ [mkO]))) (hz : ObZ l) (hm : l.length = n) : ObL w (some ⟨g, 0, none⟩) l := by
  obtain ⟨a, c, h1, h2⟩ := row_obl (n := 0) h hz (by rw [List.length_append, List.length_singleton, hm])
  injection h1 with h1 _ _
  rw [h1]; exact h2
/-- own and Build, one behind the other. -/
theorem own_build (l : List Ob) (ad : Option Addr) (n c : Nat) (w : World) (hO : ObL w ad l) (hl : l.length = n) (hn : (n + 1) * 24 ≤ 140737488355328) (hL : Lst w) :
    Calls Tryd.prog 7 #[.slice ad n c] w fun e w' => ∃ v, e = .returned v ∧ Hid (Below w.heap.size w w' ∧ Calls Tryd.prog 8 #[v] w' fun e w'' => e = .returned (.tuple #[.string (buS l), .int .i64 (buE l)]) ∧ Below w.heap.size w w'') := by
  refine (own11 l ad n c w hO hl hn).mono ?_
  rintro e w1 ⟨g, cp, rfl, h1, h2⟩
  refine ⟨_, rfl, h2, ?_⟩
  refine (build_any l _ n cp w1 (own_list h1 hO.sz hl) hl (by omega) (hL.below h2)).mono ?_
  rintro e w2 ⟨rfl, h3⟩
  exact ⟨rfl, h2.trans (h3.mono h2.size)⟩
theorem neq_obj (k : UInt8) (p : ByteArray) (w : World) : (binOp .neq 30 (.agg #[.int .u8 (k.toNat : Int), .string p]) (.agg #[.int .u8 (k.toNat : Int), .string p])).run Tryd.prog w = .ok (.bool false) w := by
  have hu : Tryd.prog.underlying 30 = some (.struct (Tryd.prog.fieldsOf 30)) := by kernel_rfl
  have hst : Tryd.prog.stoodInHeld 30 = false := by kernel_rfl
  have hfs : (Tryd.prog.fieldsOf 30).toList.map (fun q => (q.name != "_", q.type, q.offset)) = [(true, 5, 0), (true, 9, 1)] := by kernel_rfl
  rw [run_neq_struct, run_equalIn_struct w 9999 30 _ _ hu hst]
  generalize (Tryd.prog.fieldsOf 30).toList = fs at hfs
  have hlen : fs.length = 2 := by have := congrArg List.length hfs; simpa using this
  match fs, hlen, hfs with
  | [f0, f1], _, hfs =>
    simp only [List.map_cons, List.map_nil, List.cons.injEq, Prod.mk.injEq, and_true, bne_iff_ne] at hfs
    obtain ⟨⟨n0, t0, o0⟩, n1, t1, o1⟩ := hfs
    have u8a : (isAgg 5).run Tryd.prog w = .ok false w := by kernel_rfl
    have sa : (isAgg 9).run Tryd.prog w = .ok false w := by kernel_rfl
    have q1 : (Op.equalIn 9999 5 (.int .u8 (k.toNat : Int)) (.int .u8 (k.toNat : Int))).run Tryd.prog w = .ok true w := by
      have := run_equalIn_int (P := Tryd.prog) w 9998 5 .u8 .u8 (k.toNat : Int) (k.toNat : Int) Tryd.underlying5
      rwa [beq_self_eq_true] at this
    have q2 : (Op.equalIn 9999 9 (.string p) (.string p)).run Tryd.prog w = .ok true w := by
      have := run_equalIn_string (P := Tryd.prog) w 9998 9 p p Tryd.underlying9
      rwa [beq_self_eq_true] at this
    have p1 : (part 5 #[.int .u8 (k.toNat : Int), .string p] 0).run Tryd.prog w = .ok (.int .u8 (k.toNat : Int)) w := part_cell _ _ _ w u8a rfl
    have p2 : (part 9 #[.int .u8 (k.toNat : Int), .string p] 1).run Tryd.prog w = .ok (.string p) w := part_cell _ _ _ w sa rfl
    simp only [Op.eqFields, n0, n1, t0, t1, o0, o1, ne_eq, not_false_eq_true, if_true, Sem.run_bind, p1, p2, Result.andThen_ok, q1, q2, Bool.not_true, Bool.false_eq_true, if_false, Sem.run_pure]
end Go.Proofs.YtkmbhenneadclaaDoor
/- Two copied lists, one appended to the other; packs of more objects begin alike. -/
namespace Go.Proofs.YtkmbhenneadclaaDoor
open Go.RowKit
set_option linter.unusedSimpArgs false
set_option linter.unusedVariables false
theorem obv_append (a b : List Ob) : obv (a ++ b) = obv a ++ obv b := by simp [obv]
theorem own_trim {w : World} {B n g cp : Nat} {l : List Ob} (h : w.ownsRow B 30 2 (.slice (some ⟨g, 0, none⟩) (n + 1) cp) (n + 1) (obv (l ++ [mkO]))) (hm : l.length = n) :
    w.ownsRow B 30 2 (.slice (some ⟨g, 0, none⟩) n cp) n (obv l) := by
  refine ⟨by rw [obv_length, hm], .inr ?_⟩
  rcases h.2 with ⟨h1, _⟩ | ⟨g', cap, cur, h1, hle, hg, hnc, hcm, hc, ht⟩
  · cases h1
  · injection h1 with h1 _ h3
    injection h1 with h1
    injection h1 with h1
    subst h1 h3
    refine ⟨g, cp, cur, rfl, hle, hg, by omega, hcm, hc, ?_⟩
    have := congrArg (List.take (n * 2)) ht
    rw [List.take_take, Nat.min_eq_left (by omega), obv_append, List.take_append_of_le_length (by rw [obv_length, hm]; exact Nat.le_refl _)] at this
    rw [this]
    exact List.take_of_length_le (by rw [obv_length, hm]; exact Nat.le_refl _)
theorem own_cells {w : World} {B n g cp : Nat} {l : List Ob} (h : w.ownsRow B 30 2 (.slice (some ⟨g, 0, none⟩) n cp) n (obv l)) : ∀ j u, (obv l)[j]? = some u → w.cell? ((⟨g, 0, none⟩ : Addr).add j) = some u := by
  intro j u hu
  rcases h.2 with ⟨h1, _⟩ | ⟨g', cap, cur, h1, hle, hg, hnc, hcm, hc, ht⟩
  · cases h1
  · injection h1 with h1 _ h3
    injection h1 with h1
    injection h1 with h1
    subst h1
    have hb : Bk w g cur 30 := hg
    have hj : j < (obv l).length := (List.getElem?_eq_some_iff.1 hu).1
    rw [h.1] at hj
    rw [WideShapes.add_plain, Nat.zero_add, hb.cell]
    rw [← ht, List.getElem?_take, if_pos hj, Array.getElem?_toList] at hu
    exact hu
theorem obv_one (l : List Ob) : ∀ u ∈ obv l, u.oneCell' = true := by
  intro u hu
  simp only [obv, List.mem_flatMap] at hu
  obtain ⟨o, _, ho⟩ := hu
  exact one_two_o _ _ u ho
/-- One list appended to the copy of another. -/
theorem app_two {w w1 w2 : World} {n1 n2 g1 cp1 g2 cp2 : Nat} {l more : List Ob} (h1 : w1.ownsRow w.heap.size 30 2 (.slice (some ⟨g1, 0, none⟩) (n1 + 1) cp1) (n1 + 1) (obv (l ++ [mkO]))) (hb1 : Below w.heap.size w w1)
    (h2 : w2.ownsRow w1.heap.size 30 2 (.slice (some ⟨g2, 0, none⟩) (n2 + 1) cp2) (n2 + 1) (obv (more ++ [mkO]))) (hb2 : Below w1.heap.size w1 w2) (hl : l.length = n1) (hm : more.length = n2) (hn : (n1 + n2) * 24 ≤ 140737488355328) (hz : ObZ (l ++ more)) :
    ∃ a c w3, (Builtin.append_ #[23, 23] 23 #[.slice (some ⟨g1, 0, none⟩) n1 cp1, .slice (some ⟨g2, 0, none⟩) n2 cp2]).run Tryd.prog w2 = .ok (.slice a (n1 + n2) c) w3 ∧ Hid (ObL w3 a (l ++ more) ∧ Below w.heap.size w w3) := by
  obtain ⟨i0, hi, hz0, hz1, hz2⟩ := info_parts inf_obj
  have t1 : w2.ownsRow w.heap.size 30 2 (.slice (some ⟨g1, 0, none⟩) n1 cp1) n1 (obv l) := rows_keep (own_trim h1 hl) (fun g _ hg => hb2.block g hg)
  have t2 := own_trim h2 hm
  have hB : Below w.heap.size w w2 := hb1.trans (hb2.mono hb1.size)
  obtain ⟨v', w3, hrun, hown, hgrow, _, hat⟩ := run_append_own_at (P := Tryd.prog) (w := w2) w.heap.size 23 23 30 i0 (.agg #[.int .u8 0, .string ⟨#[]⟩]) 2 24 Tryd.underlying23 hi hz0 hz1 hz2 rfl (by decide) (.slice (some ⟨g1, 0, none⟩) n1 cp1) n1 (obv l) t1 ⟨g2, 0, none⟩ n2 cp2 (obv more)
    (by rw [obv_length, hm]) (own_cells t2) (obv_one more) (by unfold maxLen; omega) hn hB.size
  rw [← obv_append] at hown
  obtain ⟨a, c, rfl, hO⟩ := row_obl0 hown hz (by rw [List.length_append, hl, hm])
  exact ⟨a, c, w3, hrun, hO, rows_bel hB hB.size t1 (Nat.le_refl _) hgrow⟩
theorem cwN_all (l : List Ob) : ∀ (a n : Nat), a + lenL l ≤ n → cwN n a l = l.length := by
  induction l with
  | nil => intro a n _; rfl
  | cons o l ih =>
    intro a n h
    rw [lenL] at h
    rw [cwN, if_pos (by omega), ih _ _ (by omega), List.length_cons]; omega
/-- Packs that begin with the same objects begin alike. -/
theorem front_same {l m : List Ob} (h : buE l = 0) (h' : buE (l ++ m) = 0) : (buS l).extract 0 (4 + lenL l) = (buS (l ++ m)).extract 0 (4 + lenL l) := by
  have hz := buS_size h
  have hz' := buS_size h'
  rw [lenL_append] at hz'
  apply bl_inj
  rw [extract_take _ _ (by omega), extract_take _ _ (by omega), buS_ok h, buS_ok h', recL_append]
  have hA : (mk4 ++ recL l).length = 4 + lenL l := by rw [List.length_append, recL_length]; rfl
  rw [← hA, List.take_left, show mk4 ++ (recL l ++ recL m) ++ bl (trl (l ++ m).length) = (mk4 ++ recL l) ++ (recL m ++ bl (trl (l ++ m).length)) from by simp, List.take_left]
end Go.Proofs.YtkmbhenneadclaaDoor
/- Loads in a class of worlds: one cell, many cells. -/
namespace Go.Proofs.YtkmbhenneadclaaDoor
open Go.RowKit
set_option linter.unusedSimpArgs false
set_option linter.unusedVariables false
theorem quiet_one {P : Program} {o : Oper} {a : Act} {C : World → Prop} {K : Act → Prop} (t : TypeId) (x : Operand) (ho : o.op = .load t x) (g f : Nat) (v : Value) (hx : a.eval x = .pointer (some ⟨g, f, none⟩)) (ha : ∀ w, (isAgg t).run P w = .ok false w)
    (hc : ∀ w, C w → w.cell? ⟨g, f, none⟩ = some v) (hn : K (a.put o.dst v)) : o.quiet P a C K :=
  quiet_val10 v (fun w hw => by
    have h := hc w hw
    have h2 := ha w
    unfold execOp
    simp [ho, hx, Instr.loadAt, Instr.sureAddr, loadVar, h2, h]) hn
theorem quiet_row {P : Program} {o : Oper} {a : Act} {C : World → Prop} {K : Act → Prop} (t : TypeId) (x : Operand) (ho : o.op = .load t x) (g f : Nat) (D cells : Array Value) (T : TypeId) (d : TypeDesc) (hx : a.eval x = .pointer (some ⟨g, f, none⟩))
    (hc : ∀ w, C w → Bk w g D T) (hD : ∀ j v, cells[j]? = some v → D[f + j]? = some v) (hu : P.underlying t = some d) (hd : d.isRow = true) (hi : (P.info? t).map (·.size) = some cells.size) (hn : K (a.put o.dst (.agg cells))) : o.quiet P a C K :=
  quiet_val10 (.agg cells) (fun w hw => by
    have h := hc w hw
    have hr := run_loadVar_mid (P := P) w g f t cells.toList d (fun j v hv => by rw [h.cell]; exact hD j v (by rwa [Array.getElem?_toList] at hv)) hu hd (by rw [Array.length_toList]; exact hi)
    unfold execOp
    simp [ho, hx, Instr.loadAt, Instr.sureAddr, hr]) hn
/-- The load of many cells, of an operation that is wanted. -/
theorem wpList_getG {P : Program} {ops : Array Oper} {rest : List Oper} {op : Oper} {a : Act} {w : World} {Q : Exit → Act → World → Prop} (hw : Region.wanted op (yielded ops a.tmps) = true) (ty : TypeId) (x : Operand) (ho : op.op = .load ty x)
    (b o : Nat) (C cells : Array Value) (T : TypeId) (d : TypeDesc) (hx : a.eval x = .pointer (some ⟨b, o, none⟩))
    (hB : Bk w b C T) (hc : ∀ j v, cells[j]? = some v → C[o + j]? = some v) (hu : P.underlying ty = some d) (hd : d.isRow = true) (hi : (P.info? ty).map (·.size) = some cells.size)
    (h : wpList P ops Q rest (a.put op.dst (.agg cells)) w) : wpList P ops Q (op :: rest) a w :=
  wpList_step fun K hK => by
    rw [if_pos hw]
    have e : cells.toList.toArray = cells := Array.toArray_toList
    refine wp_load_mid ty x ho b o hx cells.toList d (fun j v hv => by rw [hB.cell]; exact hc j v (by rwa [Array.getElem?_toList] at hv)) hu hd (by rw [hi]; simp) ?_
    rw [e]
    exact hK _ _ h
/-- A comparison whose run is known. -/
theorem wpList_eqR {P : Program} {ops : Array Oper} {rest : List Oper} {op : Oper} {a : Act} {w : World} {Q : Exit → Act → World → Prop} (hw : Region.wanted op (yielded ops a.tmps) = true) (t : TypeId) (x y : Operand) (ho : op.op = .binOp .eql t x y t)
    (v1 v2 : Array Value) (r : Value) (hm : P.eqGuardType P.depth t = false) (hx : a.eval x = .agg v1) (hy : a.eval y = .agg v2) (hr : (binOp .eql t (.agg v1) (.agg v2)).run P w = .ok r w)
    (h : wpList P ops Q rest (a.put op.dst r) w) : wpList P ops Q (op :: rest) a w :=
  wpList_step fun K hK => by
    rw [if_pos hw]
    unfold Oper.wp execOp
    simp only [ho, hx, hy, Sem.run_bind, run_eqGuard_agg w .eql t x y v1 v2 hm, hr, Result.andThen_ok, Sem.run_pure]
    exact hK _ _ h
theorem list_of_quiet {P : Program} {ops : Array Oper} {Q : Exit → Act → World → Prop} {C : World → Prop} : ∀ (l : List Oper) (a : Act) (w : World), wpQuiet P ops C (fun a' => ∀ w', C w' → Q .normal a' w') l a → C w → wpList P ops Q l a w
  | [], a, w, h, hC => h w hC
  | o :: rest, a, w, h, hC => by
    unfold wpQuiet at h
    refine wpList_step fun K hK => ?_
    split at h
    · rename_i hw
      rw [if_pos hw]
      exact Oper.wp_of_quiet hC (fun a w' hw' ha => hK a w' (list_of_quiet rest a w' ha hw')) h
    · rename_i hw
      rw [if_neg hw]
      exact hK _ _ (list_of_quiet rest _ w h hC)
/-- A region that does not draw, over a class of worlds. -/
theorem region_plain11 {P : Program} {id : Nat} {Q : Exit → Act → World → Prop} {a : Act} {w : World} {l : List Oper} (C : World → Prop) (hC : C w)
    (h : wpQuiet P l.toArray C (fun a' => ∀ w', C w' → Q .normal a' w') l a) : (Code.region id l.toArray false).wp P Q a w :=
  wp_region_lit (list_of_quiet l a w h hC)
end Go.Proofs.YtkmbhenneadclaaDoor
/- The walk of munimentlaw11.PackBack. -/
namespace Go.Proofs.YtkmbhenneadclaaDoor
open Go.RowKit
set_option linter.unusedSimpArgs false
set_option linter.unusedVariables false
theorem OwS.keep {w0 w w' : World} {l : List Ob} {v : Value} (h : OwS w0 l v w) (hb : Below w.heap.size w w') : OwS w0 l v w' :=
  ⟨rows_keep h.ow (fun g _ hg => hb.block g hg), h.bel.trans (hb.mono h.bel.size)⟩
theorem lst_all {w : World} (h : All w) : Lst w := h.l
set_option maxHeartbeats 4000000 in
set_option maxRecDepth 100000 in
/-- The pack is refused. -/
theorem back_no (l : List Ob) (ad : Option Addr) (n c : Nat) (cut : Nat) (w : World) (hO : ObL w ad l) (hl : l.length = n) (hn : (n + 1) * 24 ≤ 140737488355328) (hA : All w) (hE : buE l ≠ 0) :
    Calls Tryd.prog 5 #[.slice ad n c, .int .u32 (cut : Int)] w fun e w' => e = .returned (.bool true) ∧ Below w.heap.size w w' := by
  have HA : Hid (All w) := hA
  have HOB := own_build l ad n c w hO hl hn hA.l
  rw [buS_no hE] at HOB
  have HOB' : Hid (Calls Tryd.prog 7 #[.slice ad n c] w fun e w' => ∃ v, e = .returned v ∧ Hid (Below w.heap.size w w' ∧ Calls Tryd.prog 8 #[v] w' fun e w'' => e = .returned (.tuple #[.string ⟨#[]⟩, .int .i64 (buE l)]) ∧ Below w.heap.size w w'')) := HOB
  have hv : buE l = 1 ∨ buE l = 7 := by
    rcases bdE_vals l [] with h | h | h
    · exact absurd h hE
    · exact .inl h
    · exact .inr h
  clear hO hl hn hA hE HOB
  rcases hv with hv | hv
  all_goals
    rw [hv] at HOB'
    clear hv
    go_enter Tryd.func5, Tryd.ntmps5
    go_wp2_with fail
    refine HOB'.out.mono ?_
    rintro e w1 ⟨v, rfl, H1⟩
    clear HOB'
    go_wp2_with fail
    refine H1.out.2.mono ?_
    rintro e w2 ⟨rfl, hb2⟩
    have HB2 : Hid (Below w.heap.size w w2) := hb2
    clear hb2 H1
    go_wp2_with fail
    refine (awake11 _ (HA.out.below HB2.out).l).mono ?_
    rintro e w3 ⟨rfl, hb3⟩
    have HB3 : Hid (Below w.heap.size w w3) := HB2.out.trans (hb3.mono HB2.out.size)
    clear hb3
    go_wp2
    go_ret
    exact ⟨rfl, HB3.out⟩
end Go.Proofs.YtkmbhenneadclaaDoor
