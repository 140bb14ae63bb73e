import Derived.Test.YtpfknjnigcefgaaGreatDoorY26
/- The closures of Salvage and Scan. -/
namespace Go.Proofs.YtpfknjnigcefgaaGreatDoor
open Go.RowKit
set_option linter.unusedSimpArgs false
set_option linter.unusedVariables false
theorem ret_b11 {a b : Bool} (h : b = a) : Ending.returned (.bool a) = .returned (.bool b) := by rw [h]
theorem wpList_appR {P : Program} {ops : Array Oper} {rest : List Oper} {o : Oper} {a : Act} {w : World} {Q : Exit → Act → World → Prop} (hgd : o.guard = none) (sl x : Operand) (t u : TypeId)
    (ho : o.op = .call { callee := .builtin .append, args := #[sl, x], argTypes := #[t, u] }) (v y v' : Value) (w' : World) (hs : a.eval sl = v) (hx : a.eval x = y) (hr : (Builtin.append_ #[t, u] o.type #[v, y]).run P w = .ok v' w')
    (h : wpList P ops Q rest (a.put o.dst v') w') : wpList P ops Q (o :: rest) a w := by
  refine wpList_plain hgd fun K hK => ?_
  unfold Oper.wp execOp
  simp only [ho, resolve, invoke, builtin, Sem.run_bind, Sem.run_pure, Result.andThen_ok, List.map_toArray, List.map_cons, List.map_nil, hs, hx, hr]
  exact hK _ _ h
theorem wpList_bsR {P : Program} {ops : Array Oper} {rest : List Oper} {o : Oper} {a : Act} {w : World} {Q : Exit → Act → World → Prop} (hgd : o.guard = none) (t : TypeId) (x : Operand)
    (ho : o.op = .buildSlice t 1 #[(0, x)]) (v r : Value) (w' : World) (hx : a.eval x = v) (hr : (Instr.buildSlice t 1 #[(0, v)]).run P w = .ok r w')
    (h : wpList P ops Q rest (a.put o.dst r) w') : wpList P ops Q (o :: rest) a w := by
  refine wpList_plain hgd fun K hK => ?_
  unfold Oper.wp execOp
  simp only [ho, Sem.run_bind, Sem.run_pure, Result.andThen_ok, List.map_toArray, List.map_cons, List.map_nil, hx, hr]
  exact hK _ _ h
theorem wpList_bdR {P : Program} {ops : Array Oper} {rest : List Oper} {o : Oper} {a : Act} {w : World} {Q : Exit → Act → World → Prop} (hgd : o.guard = none) (t : TypeId) (x0 x1 x2 x3 : Operand)
    (ho : o.op = .build t #[(0, x0), (1, x1), (2, x2), (3, x3)]) (v0 v1 v2 v3 r : Value) (h0 : a.eval x0 = v0) (h1 : a.eval x1 = v1) (h2 : a.eval x2 = v2) (h3 : a.eval x3 = v3) (hr : (Instr.build t #[(0, v0), (1, v1), (2, v2), (3, v3)]).run P w = .ok r w)
    (h : wpList P ops Q rest (a.put o.dst r) w) : wpList P ops Q (o :: rest) a w := by
  refine wpList_plain hgd fun K hK => ?_
  unfold Oper.wp execOp
  simp only [ho, Sem.run_bind, Sem.run_pure, Result.andThen_ok, List.map_toArray, List.map_cons, List.map_nil, h0, h1, h2, h3, hr]
  exact hK _ _ h
def svN (l : List Ent) (e : Ent) : List Ent := if tkA l e = true then l ++ [e] else l
/-- Entries and their names, told so far. -/
structure ScS (w0 : World) (lb mb m : Nat) (l : List Ent) (w : World) : Prop where
  sv : SvS w0 lb l w
  mb : Bk w mb #[.map (some m)] 57
  st : St (fun v => v = .agg #[]) w m (l.map (·.id))
  mlb : w0.heap.size ≤ m
theorem ScS.keep {w0 w w' : World} {lb mb m : Nat} {l : List Ent} (h : ScS w0 lb mb m l w) (hk : Kx w0.heap.size w w') : ScS w0 lb mb m l w' := by
  obtain ⟨es, c, hm⟩ := h.st.isMap
  exact ⟨h.sv.keep hk, hk.bk h.mb (by decide), h.st.keep ((hk.blk m _ hm (.inr (by simp))).trans hm.symm), h.mlb⟩
theorem hasE_on (l : List Ent) (x : ByteArray) : onL (l.map (·.id)) x = hasE l x := by
  rw [onL, hasE, List.any_map]; rfl
theorem zero_unit (w : World) : (zeroValue 59).run Tryz.prog w = .ok (.agg #[]) w := by kernel_rfl
def scN (l : List Ent) (e : Ent) : List Ent := if tkS l e = true then l ++ [e] else l
set_option maxHeartbeats 1000000 in
set_option maxRecDepth 100000 in
theorem scan1_met (w0 : World) (lb mb m : Nat) (l : List Ent) (e : Ent) (w : World) (h : ScS w0 lb mb m l w) (he : e.id.size = 32) (hh : hasE l e.id = true) :
    Calls Tryz.prog 70 #[.agg (enC e), .pointer (some ⟨mb, 0, none⟩), .pointer (some ⟨lb, 0, none⟩)] w fun r w' => r = .returned (.bool (tkS l e)) ∧ ScS w0 lb mb m (scN l e) w' := by
  have h1 : ScS w0 lb mb m l (w.alloc (.cells (enC e) 34)) := h.keep (Kx.of ((Below.refl _ _).alloc (Nat.le_refl _) _))
  have hbx : Bk (w.alloc (.cells (enC e) 34)) w.heap.size (enC e) 34 := bk_new _ _ _
  have hi35 := info_en (enC_size e he)
  have hi32 : (Tryz.prog.info? 23).map (·.size) = some (idc e.id).size := info_32 (by rw [idc_size, he])
  have HX : Hid (Bk (w.alloc (.cells (enC e) 34)) w.heap.size (enC e) 34) := hbx
  have HI : Hid (∀ j v, (idc e.id)[j]? = some v → (enC e)[0 + j]? = some v) := enC_id e he
  obtain ⟨v, hlook, hv⟩ := h1.st.look Tryz.underlying57 (zero_unit _) rfl e.id he
  subst hv
  rw [hasE_on, hh] at hlook
  have c0 : (w.alloc (.cells (enC e) 34)).cell? ⟨mb, 0, none⟩ = some (.map (some m)) := by rw [h1.mb.cell]; rfl
  have HN : Hid (tkS l e = false) := by show tkS l e = false; rw [tkS, hh]; rfl
  have H2 : Hid (ScS w0 lb mb m l ((w.alloc (.cells (enC e) 34)).alloc (.cells #[] 59))) := h1.keep (Kx.of ((Below.refl _ _).alloc (Nat.le_refl _) _))
  clear h h1 hbx hh
  go_enter Tryz.func70, Tryz.ntmps70
  go_wp2_with (first
    | (refine wpList_get rfl 23 (.tmp 9) rfl w.heap.size 0 (enC e) (idc e.id) 34 _ rfl HX.out HI.out Tryz.underlying23 rfl hi32 ?_)
    | fail)
  go_ret
  refine ⟨ret_b11 HN.out, ?_⟩
  rw [scN, HN.out]
  exact H2.out
theorem SvS.mapped {w0 w w' : World} {lb m : Nat} {l : List Ent} (h : SvS w0 lb l w) (hm : ∃ es c, w.heap[m]? = some (.map es c)) (hg : w.grownBy w' (some m)) (hB : w0.heap.size ≤ m) : SvS w0 lb l w' := by
  obtain ⟨v, h1, h2⟩ := h.row
  obtain ⟨es, c, hm⟩ := hm
  have ne : ∀ (b : Nat) C T F, w.heap[b]? = some (.cells C T F) → some m ≠ some b := fun b C T F hb q => by
    injection q with q
    subst q
    rw [hm] at hb
    cases hb
  refine ⟨⟨v, h1.grown hg (ne _ _ _ _ h1), h2.1, ?_⟩, h.lb, below_own h.bel h.bel.size hg hB, h.lst⟩
  rcases h2.2 with q | ⟨g, cap, cur, q1, q2, hc, q3⟩
  · exact .inl q
  · exact .inr ⟨g, cap, cur, q1, q2, (hg.block g (Array.getElem?_eq_some_iff.1 hc).1 (fun q => ne _ _ _ _ hc q.symm)).trans hc, q3⟩
set_option maxHeartbeats 1000000 in
set_option maxRecDepth 100000 in
theorem scan1_new (w0 : World) (lb mb m : Nat) (l : List Ent) (e : Ent) (w : World) (h : ScS w0 lb mb m l w) (he : e.id.size = 32) (hh : hasE l e.id = false) (hl : l.length ≤ 65536) :
    Calls Tryz.prog 70 #[.agg (enC e), .pointer (some ⟨mb, 0, none⟩), .pointer (some ⟨lb, 0, none⟩)] w fun r w' => r = .returned (.bool (tkS l e)) ∧ ScS w0 lb mb m (scN l e) w' := by
  have h1 : ScS w0 lb mb m l (w.alloc (.cells (enC e) 34)) := h.keep (Kx.of ((Below.refl _ _).alloc (Nat.le_refl _) _))
  have hbx : Bk (w.alloc (.cells (enC e) 34)) w.heap.size (enC e) 34 := bk_new _ _ _
  have hi35 := info_en (enC_size e he)
  have hi32 : (Tryz.prog.info? 23).map (·.size) = some (idc e.id).size := info_32 (by rw [idc_size, he])
  have HX : Hid (Bk (w.alloc (.cells (enC e) 34)) w.heap.size (enC e) 34) := hbx
  have HI : Hid (∀ j v, (idc e.id)[j]? = some v → (enC e)[0 + j]? = some v) := enC_id e he
  obtain ⟨v, hlook, hv⟩ := h1.st.look Tryz.underlying57 (zero_unit _) rfl e.id he
  subst hv
  rw [hasE_on, hh] at hlook
  have c0 : (w.alloc (.cells (enC e) 34)).cell? ⟨mb, 0, none⟩ = some (.map (some m)) := by rw [h1.mb.cell]; rfl
  have h2 : ScS w0 lb mb m l ((w.alloc (.cells (enC e) 34)).alloc (.cells #[] 59)) := h1.keep (Kx.of ((Below.refl _ _).alloc (Nat.le_refl _) _))
  have hbx2 := hbx.alloc (.cells #[] 59)
  have HX2 : Hid (Bk ((w.alloc (.cells (enC e) 34)).alloc (.cells #[] 59)) w.heap.size (enC e) 34) := hbx2
  obtain ⟨v, hb, hr⟩ := h2.sv.row
  obtain ⟨a, c, hv⟩ := row_slice hr
  subst hv
  have c1 : ((w.alloc (.cells (enC e) 34)).alloc (.cells #[] 59)).cell? ⟨lb, 0, none⟩ = some (.slice a l.length c) := by rw [hb.cell]; rfl
  have c2 : ((w.alloc (.cells (enC e) 34)).alloc (.cells #[] 59)).cell? ⟨mb, 0, none⟩ = some (.map (some m)) := by rw [h2.mb.cell]; rfl
  obtain ⟨w3, hput, hst3, hg3⟩ := h2.st.put Tryz.underlying57 (by rw [List.length_map]; omega) e.id he (.agg #[]) rfl
  have hmp := h2.st.isMap
  have h3 : SvS w0 lb l w3 := h2.sv.mapped hmp hg3 h2.mlb
  have nem : ∀ (b : Nat) C T, Bk ((w.alloc (.cells (enC e) 34)).alloc (.cells #[] 59)) b C T → some m ≠ some b := fun b C T hb q => by
    injection q with q
    subst q
    obtain ⟨es, cc, hm⟩ := hmp
    have : ((w.alloc (.cells (enC e) 34)).alloc (.cells #[] 59)).heap[m]? = some (.cells C T (0, 0)) := hb
    rw [hm] at this
    cases this
  have hb3 : Bk w3 lb #[.slice a l.length c] 25 := hb.grown hg3 (nem _ _ _ hb)
  have hbx3 : Bk w3 w.heap.size (enC e) 34 := hbx2.grown hg3 (nem _ _ _ hbx2)
  have hmb3 : Bk w3 mb #[.map (some m)] 57 := h2.mb.grown hg3 (nem _ _ _ h2.mb)
  have HX3 : Hid (Bk w3 w.heap.size (enC e) 34) := hbx3
  have c3 : w3.cell? ⟨lb, 0, none⟩ = some (.slice a l.length c) := by rw [hb3.cell]; rfl
  have hse1 := slice_en e he w3
  obtain ⟨v', w7, hrun, hb7, hv7, h7, hm7, hk7⟩ := h3.app hb3 e he (by omega)
  obtain ⟨a', c', hv'⟩ : ∃ a' c', v' = .slice a' (l.length + 1) c' := by
    obtain ⟨v2, q1, q2⟩ := h7.row
    obtain rfl : v2 = v' := by
      have q3 : (w7.setCell ⟨lb, 0, none⟩ v').cell? ⟨lb, 0, none⟩ = some v2 := by rw [q1.cell]; rfl
      have q4 : (w7.setCell ⟨lb, 0, none⟩ v').cell? ⟨lb, 0, none⟩ = some v' := by rw [(hb7.set 0 v').cell]; rfl
      rw [q3] at q4; exact Option.some.inj q4
    rw [List.length_append, List.length_singleton] at q2
    exact row_slice q2
  subst hv'
  have c7 : w7.cell? ⟨lb, 0, none⟩ = some (.slice a l.length c) := by rw [hb7.cell]; rfl
  have f7 := hb7.frozen 0
  have H2 : Hid (ScS w0 lb mb m l ((w.alloc (.cells (enC e) 34)).alloc (.cells #[] 59))) := h2
  have H7 : Hid (ScS w0 lb mb m (l ++ [e]) (w7.setCell ⟨lb, 0, none⟩ (.slice a' (l.length + 1) c'))) := by
    have hg : w7.grownBy (w7.setCell ⟨lb, 0, none⟩ (.slice a' (l.length + 1) c')) (some lb) := Lib.grownBy_setB (World.grownBy.refl _ _) 0 _
    obtain ⟨es, cc, hm3⟩ := hst3.isMap
    have hm8 := hm7 m es cc hm3
    have st7 : St (fun v => v = .agg #[]) w7 m (l.map (·.id) ++ [e.id]) := hst3.keep (hm8.trans hm3.symm)
    have mb7 := hk7 mb _ _ hmb3 (by decide)
    refine ⟨h7, mb7.grown hg (fun q => ?_), ?_, h2.mlb⟩
    · injection q with q
      subst q
      have q9 : some (Obj.cells #[Value.map (some m)] 57 (0, 0)) = some (Obj.cells #[Value.slice a l.length c] 25 (0, 0)) := mb7.symm.trans hb7
      injection q9 with q9
      injection q9 with _ q9
      exact absurd q9 (by decide)
    · rw [List.map_append]
      refine st7.grown hg (fun q => ?_)
      injection q with q
      subst q
      have q9 : some (Obj.map es cc) = some (Obj.cells #[Value.slice a l.length c] 25 (0, 0)) := hm8.symm.trans hb7
      cases q9
  clear h h1 hbx h2 hbx2 hb hr hst3 hg3 hmp h3 nem hb3 hbx3 hmb3 hb7 hv7 h7 hm7 hk7
  by_cases hn : l.length = 65536
  · have HN : Hid (tkS l e = false) := by show tkS l e = false; simp [tkS, hn]
    have hz : ((l.length : Int) == 65536) = true := by rw [beq_iff_eq]; omega
    generalize l.length = n at c1 hz
    clear hn hrun hput c3 c7 H7 hse1 HX3 f7
    go_enter Tryz.func70, Tryz.ntmps70
    go_wp2_with (first
      | (refine wpList_get rfl 23 (.tmp 9) rfl w.heap.size 0 (enC e) (idc e.id) 34 _ rfl HX.out HI.out Tryz.underlying23 rfl hi32 ?_)
      | fail)
    go_ret
    refine ⟨ret_b11 HN.out, ?_⟩
    rw [scN, HN.out]
    exact H2.out
  · have HN : Hid (tkS l e = true) := by show tkS l e = true; simp [tkS, hn, hh]
    have hz : ((l.length : Int) == 65536) = false := by rw [beq_eq_false_iff_ne]; omega
    clear hn H2
    generalize l.length = n at c1 c3 c7 hz hrun hl H7
    go_enter Tryz.func70, Tryz.ntmps70
    go_wp2_with (first
      | (refine wpList_get rfl 23 (.tmp 9) rfl w.heap.size 0 (enC e) (idc e.id) 34 _ rfl HX.out HI.out Tryz.underlying23 rfl hi32 ?_)
      | (refine wpList_get rfl 23 (.tmp 21) rfl w.heap.size 0 (enC e) (idc e.id) 34 _ rfl HX2.out HI.out Tryz.underlying23 rfl hi32 ?_)
      | (refine wpList_get rfl 34 (.tmp 3) rfl w.heap.size 0 (enC e) (enC e) 34 _ rfl HX3.out (fun j u hu => by rw [Nat.zero_add]; exact hu) Tryz.underlying34 rfl hi35 ?_)
      | (refine wpList_bsR rfl 25 (.tmp 25) rfl (.agg (enC e)) (.slice (some ⟨w3.heap.size, 0, none⟩) 1 1) (w3.alloc (.cells (enC e) 34)) rfl hse1 ?_)
      | (refine wpList_appR rfl (.tmp 24) (.tmp 26) 25 25 rfl (.slice a n c) (.slice (some ⟨w3.heap.size, 0, none⟩) 1 1) (.slice a' (n + 1) c') w7 rfl rfl hrun ?_)
      | fail)
    go_ret
    refine ⟨ret_b11 HN.out, ?_⟩
    rw [scN, HN.out]
    exact H7.out
theorem scan1 (w0 : World) (lb mb m : Nat) (l : List Ent) (e : Ent) (w : World) (h : ScS w0 lb mb m l w) (he : e.id.size = 32) (hl : l.length ≤ 65536) :
    Calls Tryz.prog 70 #[.agg (enC e), .pointer (some ⟨mb, 0, none⟩), .pointer (some ⟨lb, 0, none⟩)] w fun r w' => r = .returned (.bool (tkS l e)) ∧ ScS w0 lb mb m (scN l e) w' := by
  cases hh : hasE l e.id with
  | true => exact scan1_met w0 lb mb m l e w h he hh
  | false => exact scan1_new w0 lb mb m l e w h he hh hl
end Go.Proofs.YtpfknjnigcefgaaGreatDoor
/- pack.each. -/
namespace Go.Proofs.YtpfknjnigcefgaaGreatDoor
open Go.RowKit
set_option linter.unusedSimpArgs false
set_option linter.unusedVariables false
theorem Kx.of_grown {B : Nat} {w w' : World} (h : w.grownBy w' none) : Kx B w w' :=
  ⟨h.os, h.tape, h.output, h.size, fun k o hk _ => (h.block k (Array.getElem?_eq_some_iff.1 hk).1 (by simp)).trans hk⟩
/-- A taker of entries: a closure over what lies there. -/
structure Tkr (B F : Nat) (cs : Array Value) (tk : List Ent → Ent → Bool) (E : List Ent → World → Prop) : Prop where
  enter : ∀ args u, (callFunc F args).run Tryz.prog u = .ok (.enter F args) u
  keep : ∀ l w w', E l w → Kx B w w' → E l w'
  lst : ∀ l w, E l w → Lst w
  size : ∀ l w, E l w → B ≤ w.heap.size
  few : ∀ l e, l.length ≤ 65536 → tk l e = true → l.length < 65536
  hand : ∀ l e w, E l w → e.id.size = 32 → l.length ≤ 65536 → Calls Tryz.prog F (#[.agg (enC e)] ++ cs) w fun r w' => r = .returned (.bool (tk l e)) ∧ E (if tk l e = true then l ++ [e] else l) w'
theorem ret_s11 {a b : ByteArray} (h : b = a) : Ending.returned (.string a) = .returned (.string b) := by rw [h]
def szV : Value → Nat
  | .string x => x.size
  | _ => 0
theorem nmO_size (o : Ob) : (nmO o).size = 32 := sha_size _
theorem of_nm (o : Ob) (w : World) (hp : o.p.size ≤ 140737488355328) (hL : Lst w) :
    Calls Tryz.prog 108 #[.int .u8 (o.k.toNat : Int), .string o.p] w fun e w' => e = .returned (.agg (idc (nmO o))) ∧ Below w.heap.size w w' := by
  have := of_big o.k.toNat o.p w o.k.toNat_lt hp hL
  rw [shc_idc] at this
  exact this
theorem Rn.few {tk : List Ent → Ent → Bool} {s : ByteArray} {a : Nat} {l : List Ent} (h : Rn tk s a l) (hf : ∀ l e, l.length ≤ 65536 → tk l e = true → l.length < 65536) : l.length ≤ 65536 := by
  induction h with
  | z => simp
  | st h1 h2 h3 ih => have := hf _ _ ih h3; rw [List.length_append, List.length_singleton]; omega
theorem frmO_step (s : ByteArray) (a : Nat) (h : atB (frmO s a) = true) : ufR (frmO s a) = frmO s (a + 9 + (enA s a).sz) := by
  obtain ⟨_, h2, _⟩ := at_fits h
  rw [h2]
  have e : a + 9 + (enA s a).sz = a + (9 + (atO (frmO s a)).p.size) := by simp only [enA]; rw [Nat.add_assoc]
  rw [e]
  generalize 9 + (atO (frmO s a)).p.size = z
  apply bl_inj
  rw [bl_frmO, bl_frmO, bl_frmO, List.drop_drop]
set_option maxHeartbeats 2000000 in
set_option maxRecDepth 100000 in
theorem each_any (B F : Nat) (cs : Array Value) (tk : List Ent → Ent → Bool) (E : List Ent → World → Prop) (T : Tkr B F cs tk E) (s : ByteArray) (w : World) (hs : s.size ≤ 140737488355328) (h4 : 4 ≤ s.size) (hE : E [] w) :
    Calls Tryz.prog 69 #[.string s, .func (.func F) #[] cs] w fun r w' => ∃ a l, r = .returned (.string (frmO s a)) ∧ Stk tk s a l ∧ E l w' := by
  have HT : Hid (Tkr B F cs tk E) := T
  have HE : Hid (E [] w) := hE
  have h4z : (4 : Int) ≤ (s.size : Int) := by omega
  obtain ⟨r0, hr0⟩ : ∃ r, r = frmO s 4 := ⟨_, rfl⟩
  have hx : s.extract 4 s.size = r0 := by rw [hr0]; rfl
  have HR0 : Hid (r0 = frmO s 4) := hr0
  clear T hE hr0
  go_enter Tryz.func69, Tryz.ntmps69
  go_wp2
  clear hx
  go_loopw [4] (fun v wr => ∃ (a : Nat) (l : List Ent) (r : ByteArray), v = .string r ∧ Hid (r = frmO s a ∧ Rn tk s a l ∧ E l wr)) (fun v _ => szV v)
  case atStart => exact ⟨4, [], r0, rfl, HR0.out, .z, HE.out⟩
  case round =>
    obtain ⟨a, l, r, rfl, HR⟩ := hrel
    have hle := HR.out.2.1.le h4
    have hrz : r.size = s.size - a := by rw [HR.out.1, frmO_size]
    have hrs : r.size ≤ 140737488355328 := by omega
    go_wp2_with fail
    refine (first_any r _ (by unfold maxLen; omega)).mono ?_
    rintro e w1 ⟨rfl, hb1⟩
    have hE1 : E l w1 := HT.out.keep _ _ _ HR.out.2.2 (Kx.of hb1)
    cases hat : atB r with
    | false =>
      obtain ⟨q1, q2, q3, q4⟩ := ft_no hat
      rw [q1, q2, q3, q4]
      have HA : Hid (atB r = false) := hat
      have H1 : Hid (E l w1) := hE1
      clear q1 q2 q3 q4 hat hE1 hb1
      go_wp2
      go_ret
      refine ⟨a, l, ret_s11 HR.out.1.symm, ⟨HR.out.2.1, fun h => ?_⟩, HT.out.keep _ _ _ H1.out (Kx.of ((Below.refl _ _).alloc (Nat.le_refl _) _))⟩
      rw [← HR.out.1, HA.out] at h
      cases h.1
    | true =>
      obtain ⟨q1, q2, q3⟩ := ft_yes hat
      rw [q1, q2, q3]
      have HA : Hid (atB r = true) := hat
      have hfit := at_fits hat
      obtain ⟨o, ho⟩ : ∃ o, o = atO r := ⟨_, rfl⟩
      obtain ⟨bh, hbh⟩ : ∃ bh, bh = ufR r := ⟨_, rfl⟩
      rw [← ho] at hfit
      rw [← ho, ← hbh]
      have HO : Hid (o = atO r) := ho
      have HH : Hid (bh = ufR r) := hbh
      have hbz : bh.size < r.size := by rw [hbh, hfit.2.1, frmO_size]; omega
      have hpz : o.p.size ≤ 2097152 := hfit.2.2
      clear q1 q2 q3 hat hfit ho hbh
      obtain ⟨k, p⟩ := o
      simp only at hpz ⊢
      have hb1' : Bk (w1.alloc (.cells #[.int .u8 (k.toNat : Int), .string p] 157)) w1.heap.size #[.int .u8 (k.toNat : Int), .string p] 157 := bk_new _ _ _
      have hE2 : E l (w1.alloc (.cells #[.int .u8 (k.toNat : Int), .string p] 157)) := HT.out.keep _ _ _ hE1 (Kx.of ((Below.refl _ _).alloc (Nat.le_refl _) _))
      have HOF : Hid (Calls Tryz.prog 108 #[.int .u8 (k.toNat : Int), .string p] (w1.alloc (.cells #[.int .u8 (k.toNat : Int), .string p] 157)) fun e w' => e = .returned (.agg (idc (nmO ⟨k, p⟩))) ∧ Hid (E l w' ∧ Bk w' w1.heap.size #[.int .u8 (k.toNat : Int), .string p] 157 ∧ w1.heap.size < w'.heap.size)) :=
        (of_nm ⟨k, p⟩ _ (by simp only; omega) (HT.out.lst _ _ hE2)).mono fun e w' h => ⟨h.1, HT.out.keep _ _ _ hE2 (Kx.of h.2), hb1'.below h.2 hb1'.lt, Nat.lt_of_lt_of_le hb1'.lt h.2.size⟩
      have hoff : (s.size : Int) - (r.size : Int) = (a : Int) := by omega
      obtain ⟨x, hx⟩ : ∃ x, x = nmO ⟨k, p⟩ := ⟨_, rfl⟩
      rw [← hx] at HOF
      have hxz : x.size = 32 := by rw [hx]; exact nmO_size _
      have HX : Hid (enA s a = ⟨x, k, a, p.size⟩) := by
        show enA s a = _
        simp only [enA, ← HR.out.1, ← HO.out, hx]
      have hi32 : (Tryz.prog.info? 23).map (·.size) = some (idc x).size := info_32 (by rw [idc_size, hxz])
      have hiz : z32c.size = (idc x).size := by rw [idc_size, hxz]; exact z32c_size
      have hbe := build_en ⟨x, k, a, p.size⟩ hxz
      simp only at hbe
      have hfew := HR.out.2.1.few HT.out.few
      have HHD : Hid (∀ u, E l u → Calls Tryz.prog F (#[.agg (enC ⟨x, k, a, p.size⟩)] ++ cs) u fun r w' => r = .returned (.bool (tk l ⟨x, k, a, p.size⟩)) ∧ E (if tk l ⟨x, k, a, p.size⟩ = true then l ++ [⟨x, k, a, p.size⟩] else l) w') :=
        fun u hu => HT.out.hand l ⟨x, k, a, p.size⟩ u hu hxz hfew
      have HRZ : Hid (r.size = s.size - a) := hrz
      clear hx hE1 hE2 hb1 hb1' hfew hrz
      go_wp2_with (first
        | (go_at_call 108; refine HOF.out.mono ?_; rintro e w2 ⟨rfl, H2⟩)
        | (refine wpList_store_abs rfl 23 (.tmp 8) (.tmp 24) rfl (idc x) z32c 23 w2.heap.size rfl rfl rfl hi32 hiz (idc_all x) ?_; intro w3 HBk HG hsz3; have HK : Hid (Bk w3 w2.heap.size (idc x) 23) := HBk.out; have hk3 : Bk w3 w1.heap.size #[.int .u8 (k.toNat : Int), .string p] 157 := H2.out.2.1.grown HG.out (by simp); have z0 : w3.cell? ⟨w1.heap.size, 0, none⟩ = some (.int .u8 (k.toNat : Int)) := by { rw [hk3.cell]; rfl }; have z1 : w3.cell? ⟨w1.heap.size, 1, none⟩ = some (.string p) := by { rw [hk3.cell]; rfl }; clear hk3)
        | (refine wpList_get rfl 23 (.tmp 8) rfl w2.heap.size 0 (idc x) (idc x) 23 _ rfl HK.out (fun j u hu => by rw [Nat.zero_add]; exact hu) Tryz.underlying23 rfl hi32 ?_)
        | (refine wpList_bdR rfl 34 (.tmp 26) (.tmp 28) (.tmp 33) (.tmp 36) rfl (.agg (idc x)) (.int .u8 (k.toNat : Int)) (.int .i64 (a : Int)) (.int .i64 (p.size : Int)) (.agg (enC ⟨x, k, a, p.size⟩)) rfl rfl rfl rfl (hbe _) ?_)
        | fail)
      rw [HT.out.enter, Oper.upon_enter]
      have hE3 : E l w3 := HT.out.keep _ _ _ H2.out.1 (Kx.of_grown HG.out)
      refine Calls.mono (HHD.out w3 hE3) ?_
      rintro e w4 ⟨rfl, hE4⟩
      cases htk : tk l ⟨x, k, a, p.size⟩ with
      | true =>
        rw [htk, if_pos rfl] at hE4
        have H4 : Hid (E (l ++ [⟨x, k, a, p.size⟩]) w4) := hE4
        have HTK : Hid (tk l ⟨x, k, a, p.size⟩ = true) := htk
        clear hE4 htk hE3
        go_wp2
        go_roundw
        case rel =>
          refine ⟨a + 9 + (enA s a).sz, l ++ [enA s a], bh, rfl, ?_, ?_, ?_⟩
          · rw [HH.out, HR.out.1]; exact frmO_step s a (by rw [← HR.out.1]; exact HA.out)
          · exact .st HR.out.2.1 (by rw [← HR.out.1]; exact HA.out) (by rw [HX.out]; exact HTK.out)
          · rw [HX.out]; exact H4.out
        case measure => simp only [szV]; exact hbz
      | false =>
        rw [htk, if_neg (by simp)] at hE4
        have H4 : Hid (E l w4) := hE4
        have HTK : Hid (tk l ⟨x, k, a, p.size⟩ = false) := htk
        clear hE4 htk hE3
        go_wp2
        go_ret
        refine ⟨a, l, ret_s11 HR.out.1.symm, ⟨HR.out.2.1, fun h => ?_⟩, H4.out⟩
        rw [HX.out, HTK.out] at h
        cases h.2
end Go.Proofs.YtpfknjnigcefgaaGreatDoor
/- strings.HasPrefix at the Mark; pack.Salvage, Scan. -/
namespace Go.Proofs.YtpfknjnigcefgaaGreatDoor
open Go.RowKit
set_option linter.unusedSimpArgs false
set_option linter.unusedVariables false
/-- The Mark; whether it stands at the front. -/
def mkB : ByteArray := ⟨#[109, 112, 107, 49]⟩
def pmB (s : ByteArray) : Bool := decide (4 ≤ s.size ∧ (bl s).take 4 = mk4)
theorem pmB_yes {s : ByteArray} (h : 4 ≤ s.size) (h2 : s.extract 0 4 = mkB) : pmB s = true := by
  have : (bl s).take 4 = mk4 := by rw [← extract_take s 4 h, h2]; rfl
  simp [pmB, h, this]
theorem pmB_ne {s : ByteArray} (h : 4 ≤ s.size) (h2 : s.extract 0 4 ≠ mkB) : pmB s = false := by
  simp only [pmB, decide_eq_false_iff_not]
  rintro ⟨_, h3⟩
  apply h2
  apply bl_inj
  rw [extract_take s 4 h, h3]; rfl
theorem str_neP {x y : ByteArray} (h : x ≠ y) : (x.toList == y.toList) = false := by
  rw [beq_eq_false_iff_ne, Lib.toList_data, Lib.toList_data]
  intro e
  exact h (bl_inj e)
set_option maxHeartbeats 1000000 in
theorem hasP (s : ByteArray) (w : World) (hs : s.size ≤ maxLen) :
    Calls Tryz.prog 106 #[.string s, .string mkB] w fun e w' => e = .returned (.bool (pmB s)) ∧ w' = w := by
  unfold maxLen at hs
  have hmz : mkB.size = 4 := rfl
  by_cases h4 : 4 ≤ s.size
  · have h4z : (4 : Int) ≤ (s.size : Int) := by omega
    obtain ⟨x, hx⟩ : ∃ x, s.extract 0 4 = x := ⟨_, rfl⟩
    by_cases he : x = mkB
    · subst he
      have HE : Hid (pmB s = true) := pmB_yes h4 hx
      go_enter Tryz.func106, Tryz.ntmps106
      go_wp2
      go_ret
      exact ⟨ret_b11 HE.out, rfl⟩
    · have HE : Hid (pmB s = false) := pmB_ne h4 (by rw [hx]; exact he)
      have hne := str_neP he
      clear he
      go_enter Tryz.func106, Tryz.ntmps106
      go_wp2
      go_ret
      exact ⟨ret_b11 HE.out, rfl⟩
  · have h4z : ¬ (4 : Int) ≤ (s.size : Int) := by omega
    have HE : Hid (pmB s = false) := by show pmB s = false; simp [pmB, h4]
    go_enter Tryz.func106, Tryz.ntmps106
    go_wp2
    go_ret
    exact ⟨ret_b11 HE.out, rfl⟩
set_option maxHeartbeats 1000000 in
theorem hasPrefix11 (s : ByteArray) (w : World) (hs : s.size ≤ maxLen) :
    Calls Tryz.prog 68 #[.string s, .string mkB] w fun e w' => e = .returned (.bool (pmB s)) ∧ w' = w := by
  go_enter Tryz.func68, Tryz.ntmps68
  go_wp2_with fail
  refine (hasP s _ hs).mono ?_
  rintro e w1 ⟨rfl, hw⟩
  obtain rfl : w = w1 := hw.symm
  go_wp2
  go_ret
  exact ⟨rfl, rfl⟩
/-- What Salvage tells. -/
def SvA (s : ByteArray) (l : List Ent) : Prop := (pmB s = false ∧ l = []) ∨ (pmB s = true ∧ ∃ a, Stk tkA s a l)
/-- What Scan tells. -/
def PkO (s : ByteArray) (l : List Ent) : Prop := s.size ≤ 67108864 ∧ pmB s = true ∧ ∃ a, Stk tkS s a l ∧ frmO s a = trl l.length
def ScA (s : ByteArray) (l : List Ent) (er : Int) : Prop := (er = 0 ∧ PkO s l) ∨ (er = 4 ∧ l = [] ∧ ∀ m, ¬ PkO s m)
theorem pm4 {s : ByteArray} (h : pmB s = true) : 4 ≤ s.size := by simp [pmB] at h; exact h.1
theorem SvS.start (w : World) (hL : Lst w) : SvS w w.heap.size [] (w.alloc (.cells #[.slice none 0 0] 25)) :=
  ⟨⟨_, bk_new _ _ _, rows_none⟩, Nat.le_refl _, (Below.refl _ _).alloc (Nat.le_refl _) _, hL⟩
theorem ScS.start (w w1 : World) (hL : Lst w) (hb : Below w.heap.size w w1) : ScS w w1.heap.size (w1.heap.size + 1 + 1) (w1.heap.size + 1) [] (((w1.alloc (.cells #[.slice none 0 0] 25)).alloc (.map #[] 0)).alloc (.cells #[.map (some (w1.heap.size + 1))] 57)) := by
  have s1 : (w1.alloc (.cells #[.slice none 0 0] 25)).heap.size = w1.heap.size + 1 := al_size _ _
  have s2 : ((w1.alloc (.cells #[.slice none 0 0] 25)).alloc (.map #[] 0)).heap.size = w1.heap.size + 1 + 1 := by rw [al_size, s1]
  have hz := hb.size
  have b3 := bk_new ((w1.alloc (.cells #[.slice none 0 0] 25)).alloc (.map #[] 0)) #[.map (some (w1.heap.size + 1))] 57
  rw [s2] at b3
  have b2 := St.made (fun v => v = .agg #[]) (w1.alloc (.cells #[.slice none 0 0] 25))
  rw [s1] at b2
  refine ⟨⟨⟨_, ((bk_new w1 _ _).alloc _).alloc _, rows_none⟩, hz, ((hb.alloc hz _).alloc (by rw [s1]; omega) _).alloc (by rw [s2]; omega) _, hL⟩, b3, b2.alloc _, by omega⟩
theorem scanT (w : World) (lb mb m : Nat) : Tkr w.heap.size 70 #[.pointer (some ⟨mb, 0, none⟩), .pointer (some ⟨lb, 0, none⟩)] tkS (ScS w lb mb m) where
  enter := fun args u => by
    have h1 : (Tryz.f70.name == "runtime.NumGoroutine") = false := by decide +kernel
    have h2 : Tryz.f70.body.isNone = false := by kernel_rfl
    simp at h1 h2
    simp [callFunc, go_sem, Tryz.func70, h1, h2]
    intro h; rw [h] at h2; cases h2
  keep := fun l a b h k => h.keep k
  lst := fun l a h => h.sv.all
  size := fun l a h => h.sv.bel.size
  few := fun l e h1 h => by
    have : ¬ l.length = 65536 := by simp [tkS] at h; exact h.2
    omega
  hand := fun l e u h he hl => scan1 w lb mb m l e u h he hl
set_option maxHeartbeats 1000000 in
set_option maxRecDepth 100000 in
theorem scan_any (s : ByteArray) (w : World) (hs : s.size ≤ 140737488355328) (hL : Lst w) :
    Calls Tryz.prog 33 #[.string s] w fun e w' => ∃ l v er, e = .returned (.tuple #[v, .int .i64 er]) ∧ ScA s l er ∧ w'.ownsRow w.heap.size 34 35 v l.length (env l) ∧ Below w.heap.size w w' := by
  have HL : Hid (Lst w) := hL
  have hmk : (⟨#[109, 112, 107, 49]⟩ : ByteArray) = mkB := rfl
  clear hL
  by_cases hbig : 67108864 < s.size
  · have hbz : (67108864 : Int) < (s.size : Int) := by omega
    have HN : Hid (∀ m, ¬ PkO s m) := fun m h => by have := h.1; omega
    go_enter Tryz.func33, Tryz.ntmps33
    go_wp2
    go_ret2
    exact ⟨[], _, 4, rfl, .inr ⟨rfl, rfl, HN.out⟩, rows_none, Below.refl _ _⟩
  have hbz : ¬ (67108864 : Int) < (s.size : Int) := by omega
  have HSZ : Hid (s.size ≤ 67108864) := by show s.size ≤ 67108864; omega
  have H1 := fun W => hasPrefix11 s W (by unfold maxLen; omega)
  cases hp : pmB s with
  | false =>
    rw [hp] at H1
    have HN : Hid (∀ m, ¬ PkO s m) := fun m h => by have := h.2.1; rw [hp] at this; cases this
    clear hp hbig
    go_enter Tryz.func33, Tryz.ntmps33
    go_wp2_with fail
    refine (H1 _).mono ?_
    rintro e w1 ⟨rfl, hw⟩
    obtain rfl : w = w1 := hw.symm
    go_wp2
    go_ret2
    exact ⟨[], _, 4, rfl, .inr ⟨rfl, rfl, HN.out⟩, rows_none, Below.refl _ _⟩
  | true =>
    rw [hp] at H1
    have HP : Hid (pmB s = true) := hp
    have HS0 : Hid (ScS w w.heap.size (w.heap.size + 1 + 1) (w.heap.size + 1) [] (((w.alloc (.cells #[.slice none 0 0] 25)).alloc (.map #[] 0)).alloc (.cells #[.map (some (w.heap.size + 1))] 57))) := ScS.start w w HL.out (Below.refl _ _)
    clear hp hbig
    have hmm := @run_makeMap Tryz.prog
    go_enter Tryz.func33, Tryz.ntmps33
    go_wp2_with fail
    refine (H1 _).mono ?_
    rintro e w1 ⟨rfl, hw⟩
    obtain rfl : w = w1 := hw.symm
    clear H1
    go_wp2_with fail
    refine (each_any w.heap.size 70 _ tkS (ScS w w.heap.size (w.heap.size + 1 + 1) (w.heap.size + 1)) (scanT w w.heap.size (w.heap.size + 1 + 1) (w.heap.size + 1)) s _ hs (pm4 HP.out) HS0.out).mono ?_
    rintro e w2 ⟨a, l, rfl, hst, hS⟩
    obtain ⟨v, hb, hr⟩ := hS.sv.row
    obtain ⟨ad, cp, hv⟩ := row_slice hr
    subst hv
    have c0 : w2.cell? ⟨w.heap.size, 0, none⟩ = some (.slice ad l.length cp) := by rw [hb.cell]; rfl
    have hle := hst.1.le (pm4 HP.out)
    have hll : l.length < 9223372036854775808 := by omega
    obtain ⟨R, hR⟩ : ∃ R, R = frmO s a := ⟨_, rfl⟩
    rw [← hR]
    obtain ⟨n, hn⟩ : ∃ n, n = l.length := ⟨_, rfl⟩
    rw [← hn] at c0 hr hll
    have HST : Hid (Stk tkS s a l) := hst
    have HR : Hid (R = frmO s a) := hR
    have HN : Hid (n = l.length) := hn
    have HS : Hid (ScS w w.heap.size (w.heap.size + 1 + 1) (w.heap.size + 1) l w2) := hS
    have HO : Hid (w2.ownsRow w.heap.size 34 35 (.slice ad n cp) n (env l)) := hr
    clear hst hS hr hle hR hn HS0
    go_wp2_with fail
    refine (trailer_any n _ hll).mono ?_
    rintro e w3 ⟨rfl, hb3⟩
    have hbk3 := hb.below hb3 hb.lt
    have c3 : w3.cell? ⟨w.heap.size, 0, none⟩ = some (.slice ad n cp) := by rw [hbk3.cell, HN.out]; rfl
    have HB3 : Hid (Below w.heap.size w w3) := HS.out.sv.bel.trans (hb3.mono HS.out.sv.bel.size)
    have HO3 : Hid (w3.ownsRow w.heap.size 34 35 (.slice ad n cp) n (env l)) := rows_keep HO.out (fun g _ hg => hb3.block g hg)
    obtain ⟨t, ht⟩ : ∃ t, t = trl n := ⟨_, rfl⟩
    rw [← ht]
    have HTR : Hid (t = trl n) := ht
    clear hb hb3 hbk3 ht
    by_cases he : R = t
    · subst he
      go_wp2
      go_ret2
      refine ⟨l, _, 0, rfl, .inl ⟨rfl, HSZ.out, HP.out, a, HST.out, ?_⟩, ?_, HB3.out⟩
      · rw [← HR.out, HTR.out, HN.out]
      · rw [← HN.out]; exact HO3.out
    · have hne := str_neP he
      have HE : Hid (¬ R = t) := he
      clear he
      go_wp2
      go_ret2
      refine ⟨[], _, 4, rfl, .inr ⟨rfl, rfl, ?_⟩, rows_none, HB3.out⟩
      rintro m ⟨_, _, a', hs', he'⟩
      obtain ⟨rfl, rfl⟩ := HST.out.one hs'
      apply HE.out
      rw [HR.out, HTR.out, HN.out, he']
end Go.Proofs.YtpfknjnigcefgaaGreatDoor
