import Derived.Test.YtpfknjnigcefgaaGreatDoorY8
import Derived.Laws.StructEq
import Derived.Test.YtpfknjnigcefgaaGreatDoorY13
import Derived.Test.YtpfknjnigcefgaaGreatDoorY14
import Derived.Test.YtpfknjnigcefgaaGreatDoorY39
import Derived.Test.YtpfknjnigcefgaaGreatDoorRows
import Derived.ProofKit
import Derived.Deep.Slices
import Derived.Lib.SmallJoins
import Derived.SizedLaws
/- Two entries compared. -/
namespace Go.Proofs.YtpfknjnigcefgaaGreatDoor
open Go.RowKit
set_option linter.unusedSimpArgs false
set_option linter.unusedVariables false
theorem eqItems_idsQ (d : Nat) (a b : ByteArray) (ha : a.size = 32) (hb : b.size = 32) (w : World) : ∀ is : List Nat, (∀ i ∈ is, i < 32) →
    (Op.eqItems (d + 1) 5 1 (idc a) (idc b) is).run Tryz.prog w = .ok (is.all fun i => (byl a).getD i 0 == (byl b).getD i 0) w
  | [], _ => by simp [Op.eqItems]
  | i :: is, h => by
    have hi : i < 32 := h i (List.mem_cons_self ..)
    have ih := eqItems_idsQ d a b ha hb w is (fun j hj => h j (List.mem_cons_of_mem _ hj))
    have e1 : (byl a).getD i 0 = a[i].toNat := by rw [List.getD, byl_getD a i (by omega)]; rfl
    have e2 : (byl b).getD i 0 = b[i].toNat := by rw [List.getD, byl_getD b i (by omega)]; rfl
    have e3 := run_equalIn_int (P := Tryz.prog) w d 5 .u8 .u8 (a[i].toNat : Int) (b[i].toNat : Int) Tryz.underlying5
    simp only [Op.eqItems, Sem.run_bind, Nat.mul_one, part_id a i (by omega), part_id b i (by omega), Result.andThen_ok, e3, List.all_cons, e1, e2]
    by_cases e : a[i].toNat = b[i].toNat
    · have e4 : ((a[i].toNat : Int) == (b[i].toNat : Int)) = true := by rw [e]; simp
      simp only [e4, Bool.not_true, Bool.false_eq_true, if_false, ih, e, beq_self_eq_true, Bool.true_and]
    · have e4 : ((a[i].toNat : Int) == (b[i].toNat : Int)) = false := by rw [beq_eq_false_iff_ne]; omega
      have e5 : (a[i].toNat == b[i].toNat) = false := by rw [beq_eq_false_iff_ne]; exact e
      simp only [e4, Bool.not_false, if_true, Sem.run_pure, e5, Bool.false_and]
theorem equalIn_idsQ (d : Nat) (a b : ByteArray) (ha : a.size = 32) (hb : b.size = 32) (w : World) : (Op.equalIn (d + 2) 23 (.agg (idc a)) (.agg (idc b))).run Tryz.prog w = .ok (decide (a = b)) w := by
  have hc : Tryz.prog.cellsOf 5 = 1 := by kernel_rfl
  obtain ⟨i0, hi⟩ := info_of_underlying Tryz.underlying5
  have hu : Tryz.prog.underlying 23 = some (.array 32 5) := Tryz.underlying23
  rw [run_equalIn_array w (d + 1) (idc a) (idc b) hu hi, hc, eqItems_idsQ d a b ha hb w _ (fun i hi => by simpa using hi), ids_all a b ha hb]
/-- Whether two entries are the same. -/
def xeQ (e f : Xe) : Bool := decide (e.id = f.id) && (((e.k.toNat : Int) == (f.k.toNat : Int)) && (((e.off : Int) == (f.off : Int)) && ((e.sz : Int) == (f.sz : Int))))
theorem xeQ_self (e : Xe) : xeQ e e = true := by simp [xeQ]
theorem xeQ_iff (e f : Xe) : xeQ e f = true ↔ e = f := by
  constructor
  · intro h
    simp only [xeQ, Bool.and_eq_true, decide_eq_true_eq, beq_iff_eq] at h
    obtain ⟨h1, h2, h3, h4⟩ := h
    obtain ⟨a, b, c, d⟩ := e
    obtain ⟨a', b', c', d'⟩ := f
    simp only at h1 h2 h3 h4
    subst h1
    have h2' : b = b' := UInt8.toNat.inj (by omega)
    subst h2'
    have h3' : c = c' := by omega
    have h4' : d = d' := by omega
    subst h3' h4'
    rfl
  · rintro rfl; exact xeQ_self e
theorem part_idQ (e : Xe) (h : e.id.size = 32) (w : World) : (part 23 (xeC e) 0).run Tryz.prog w = .ok (.agg (idc e.id)) w := by
  have ha : (isAgg 23).run Tryz.prog w = .ok true w := by kernel_rfl
  have hs : (sizeOf 23).run Tryz.prog w = .ok 32 w := by kernel_rfl
  have hx : (xeC e).extract 0 32 = idc e.id := by
    apply Array.ext'
    rw [Array.toList_extract, xeC]
    have hl : (idc e.id).toList.length = 32 := by rw [Array.length_toList, idc_size, h]
    simp only [List.extract_eq_take_drop, List.drop_zero, Nat.sub_zero]
    rw [List.take_append_of_le_length (by omega), List.take_of_length_le (by omega)]
  simp [part, ha, hs, hx]
theorem part_cellQ {t : TypeId} (C : Array Value) (j : Nat) (v : Value) (w : World) (ha : (isAgg t).run Tryz.prog w = .ok false w) (h : C[j]? = some v) : (part t C j).run Tryz.prog w = .ok v w := by
  simp [part, ha, h]
set_option maxRecDepth 100000 in
theorem equalIn_xe (e f : Xe) (he : e.id.size = 32) (hf : f.id.size = 32) (w : World) : (Op.equalIn 10000 34 (.agg (xeC e)) (.agg (xeC f))).run Tryz.prog w = .ok (xeQ e f) w := by
  have hu : Tryz.prog.underlying 34 = some (.struct (Tryz.prog.fieldsOf 34)) := by kernel_rfl
  have hst : Tryz.prog.stoodInHeld 34 = false := by kernel_rfl
  have hfs : (Tryz.prog.fieldsOf 34).toList.map (fun q => (q.name != "_", q.type, q.offset)) = [(true, 23, 0), (true, 5, 32), (true, 3, 33), (true, 3, 34)] := by kernel_rfl
  rw [run_equalIn_struct w 9999 34 (xeC e) (xeC f) hu hst]
  generalize (Tryz.prog.fieldsOf 34).toList = fs at hfs
  have hlen : fs.length = 4 := by have := congrArg List.length hfs; simpa using this
  match fs, hlen, hfs with
  | [f0, f1, f2, f3], _, hfs =>
    simp only [List.map_cons, List.map_nil, List.cons.injEq, Prod.mk.injEq, and_true, bne_iff_ne] at hfs
    obtain ⟨⟨n0, t0, o0⟩, ⟨n1, t1, o1⟩, ⟨n2, t2, o2⟩, n3, t3, o3⟩ := hfs
    obtain ⟨a1, a2, a3⟩ := xeC_at e he
    obtain ⟨b1, b2, b3⟩ := xeC_at f hf
    have u8a : (isAgg 5).run Tryz.prog w = .ok false w := by kernel_rfl
    have i64a : (isAgg 3).run Tryz.prog w = .ok false w := by kernel_rfl
    have q0 := equalIn_idsQ 9997 e.id f.id he hf w
    have q1 := run_equalIn_int (P := Tryz.prog) w 9998 5 .u8 .u8 (e.k.toNat : Int) (f.k.toNat : Int) Tryz.underlying5
    have q2 := run_equalIn_int (P := Tryz.prog) w 9998 3 .i64 .i64 (e.off : Int) (f.off : Int) Tryz.underlying3
    have q3 := run_equalIn_int (P := Tryz.prog) w 9998 3 .i64 .i64 (e.sz : Int) (f.sz : Int) Tryz.underlying3
    simp only [Op.eqFields, n0, n1, n2, n3, t0, t1, t2, t3, o0, o1, o2, o3, ne_eq, not_false_eq_true, if_true, Sem.run_bind, part_idQ e he, part_idQ f hf, part_cellQ _ _ _ w u8a a1, part_cellQ _ _ _ w u8a b1, part_cellQ _ _ _ w i64a a2, part_cellQ _ _ _ w i64a b2, part_cellQ _ _ _ w i64a a3, part_cellQ _ _ _ w i64a b3, Result.andThen_ok]
    rw [q0, Result.andThen_ok, xeQ]
    cases decide (e.id = f.id) with
    | false => rfl
    | true =>
      simp only [Bool.not_true, Bool.false_eq_true, if_false, Bool.true_and, Sem.run_bind, part_cellQ _ _ _ w u8a a1, part_cellQ _ _ _ w u8a b1, Result.andThen_ok, q1]
      cases ((e.k.toNat : Int) == (f.k.toNat : Int)) with
      | false => rfl
      | true =>
        simp only [Bool.not_true, Bool.false_eq_true, if_false, Bool.true_and, Sem.run_bind, part_cellQ _ _ _ w i64a a2, part_cellQ _ _ _ w i64a b2, Result.andThen_ok, q2]
        cases ((e.off : Int) == (f.off : Int)) with
        | false => rfl
        | true =>
          simp only [Bool.not_true, Bool.false_eq_true, if_false, Bool.true_and, Sem.run_bind, part_cellQ _ _ _ w i64a a3, part_cellQ _ _ _ w i64a b3, Result.andThen_ok, q3]
          cases ((e.sz : Int) == (f.sz : Int)) with
          | false => rfl
          | true => rfl
theorem neq_xe (e f : Xe) (he : e.id.size = 32) (hf : f.id.size = 32) (w : World) : (binOp .neq 34 (.agg (xeC e)) (.agg (xeC f))).run Tryz.prog w = .ok (.bool (!xeQ e f)) w := by
  rw [run_neq_struct, equalIn_xe e f he hf]; rfl
end Go.Proofs.YtpfknjnigcefgaaGreatDoor
/- The law's same, at lists that are alike. -/
namespace Go.Proofs.YtpfknjnigcefgaaGreatDoor
open Go.RowKit
set_option linter.unusedSimpArgs false
set_option linter.unusedVariables false
set_option maxHeartbeats 4000000 in
set_option maxRecDepth 100000 in
theorem same13 (l : List Xe) (a b : Option Addr) (n c d : Nat) (w : World) (hA : XeL w a l) (hB : XeL w b l) (hl : l.length = n) (hn : n ≤ 1000000000000000) :
    Calls Tryz.prog 10 #[.slice a n c, .slice b n d] w fun e w' => e = .returned (.bool true) ∧ Below w.heap.size w w' := by
  have HA : Hid (XeL w a l ∧ XeL w b l) := ⟨hA, hB⟩
  have HL : Hid (l.length = n) := hl
  clear hA hB hl
  go_enter Tryz.func10, Tryz.ntmps10
  go_wp2
  go_loopw [5] (fun v wr => ∃ k : Nat, v = .int .i64 k ∧ k ≤ n ∧ Hid (Below w.heap.size w wr)) (fun v _ => n - (intOf v).toNat)
  case atStart => exact ⟨0, rfl, Nat.zero_le _, Below.refl _ _⟩
  case round =>
    obtain ⟨k, rfl, hk, HB⟩ := hrel
    by_cases hlt : k < n
    · have hkz : (k : Int) < (n : Int) := by omega
      obtain ⟨e, he⟩ : ∃ e, l[k]? = some e := ⟨_, List.getElem?_eq_getElem (by rw [HL.out]; exact hlt)⟩
      obtain ⟨hid, g1, o1, ea, hg1, hc1⟩ := (HA.out.1.below HB.out) k e he
      obtain ⟨_, g2, o2, eb, hg2, hc2⟩ := (HA.out.2.below HB.out) k e he
      obtain ⟨X, hX⟩ : ∃ X, xeC e = X := ⟨_, rfl⟩
      have CX1 : Hid (∀ W, Below wr.heap.size wr W → ∀ j v, X[j]? = some v → W.cell? ⟨g1, o1 + k * 35 + j, none⟩ = some v) := fun W hW j v hv => by rw [hW.cell (p := ⟨g1, o1 + k * 35 + j, none⟩) hg1]; exact hc1 j v (by rw [hX]; exact hv)
      have CX2 : Hid (∀ W, Below wr.heap.size wr W → ∀ j v, X[j]? = some v → W.cell? ⟨g2, o2 + k * 35 + j, none⟩ = some v) := fun W hW j v hv => by rw [hW.cell (p := ⟨g2, o2 + k * 35 + j, none⟩) hg2]; exact hc2 j v (by rw [hX]; exact hv)
      have HOW : Hid (∀ W, Below wr.heap.size wr W → Calls Tryz.prog 23 #[.agg X] W fun r w' => r = .returned (.agg X) ∧ Below wr.heap.size wr w') := fun W hW => by
        rw [← hX]; exact (own13 e W hid).mono fun r w' q => ⟨q.1, hW.trans (q.2.mono hW.size)⟩
      have HNE : Hid (∀ W, (binOp .neq 34 (.agg X) (.agg X)).run Tryz.prog W = .ok (.bool false) W) := fun W => by rw [← hX, neq_xe e e hid hid W, xeQ_self]; rfl
      have HI1 : Hid ((Tryz.prog.info? 34).map (·.size) = some X.size) := by show _ = _; rw [← hX]; exact info_xe (xeC_size e hid)
      have HI2 : Hid ((Tryz.prog.info? 56).map (·.size) = some X.size) := by show _ = _; rw [← hX, xeC_size e hid]; kernel_rfl
      subst ea
      subst eb
      clear hX hc1 hc2 he hid
      go_wp2
      have hNE := HNE.out
      refine region_class10 (fun W => Below wr.heap.size wr W) (by kernel_rfl) (by kernel_rfl) ((Below.refl _ _).drew) ?_
      try simp only [Act.put, List.setIfInBounds_toArray, List.set_cons_zero, List.set_cons_succ]
      repeat (first
        | go_big_quiet_skip
        | (go_big_quiet_want
           first
             | (refine quiet_rowc 34 _ rfl g1 (o1 + k * 35) X _ rfl CX1.out Tryz.underlying34 rfl HI1.out ?_; go_big_quiet_on; simp only [Act.put, List.setIfInBounds_toArray, List.set_cons_zero, List.set_cons_succ])
             | (refine quiet_rowc 56 _ rfl g2 (o2 + k * 35) X _ rfl CX2.out Tryz.underlying56 rfl HI2.out ?_; go_big_quiet_on; simp only [Act.put, List.setIfInBounds_toArray, List.set_cons_zero, List.set_cons_succ])
             | (refine quiet_call10 (.agg X) 23 #[.agg X] ?_ ?_ ?_; (focus (intro W hW; go_simp; done)); (focus (intro W hW; exact HOW.out W hW)); go_big_quiet_on; simp only [Act.put, List.setIfInBounds_toArray, List.set_cons_zero, List.set_cons_succ])
             | (refine quiet_val10 (.bool false) ?_ ?_; (focus (intro W hW; go_simp; done)); go_big_quiet_on; simp only [Act.put, List.setIfInBounds_toArray, List.set_cons_zero, List.set_cons_succ])
             | (refine quiet_val10 (.pointer (some ⟨g1, o1 + k * 35, none⟩)) ?_ ?_; (focus (intro W hW; go_simp; done)); go_big_quiet_on; simp only [Act.put, List.setIfInBounds_toArray, List.set_cons_zero, List.set_cons_succ])
             | (refine quiet_val10 (.pointer (some ⟨g2, o2 + k * 35, none⟩)) ?_ ?_; (focus (intro W hW; go_simp; done)); go_big_quiet_on; simp only [Act.put, List.setIfInBounds_toArray, List.set_cons_zero, List.set_cons_succ])
             | (go_big_quiet_op; go_big_quiet_on)))
      refine wpQuiet_nil ?_
      intro w9 hw9
      have H9 : Hid (Below w.heap.size w w9) := HB.out.trans (Below.mono hw9 HB.out.size)
      clear hw9 HB CX1 CX2 HOW HNE HI1 HI2 hNE
      go_wp2
      go_roundw
      case rel => exact ⟨k + 1, by go_num, by omega, H9.out⟩
      case measure => simp [intOf]; omega
    · have hkz : ¬ (k : Int) < (n : Int) := by omega
      go_wp2
      go_ret
      exact ⟨rfl, HB.out⟩
end Go.Proofs.YtpfknjnigcefgaaGreatDoor
/- IdxBuilds: the walk. -/
namespace Go.Proofs.YtpfknjnigcefgaaGreatDoor
open Go.RowKit
set_option linter.unusedSimpArgs false
set_option linter.unusedVariables false
/-- Two that Build tells are one. -/
theorem BdX.one {s R R' : ByteArray} {l : List Xe} (h : BdX s l R) (h' : BdX s l R') : R = R' := by
  by_cases h0 : bE l = 0
  · obtain ⟨L, p, o, q⟩ := h.2 h0
    obtain ⟨L', p', o', q'⟩ := h'.2 h0
    rw [q, q', perm_one p p' o o']
  · rw [h.1 h0, h'.1 h0]
/-- Two that From tells are one. -/
theorem FmS.one {S : ByteArray} {e e' : Ending} (h : FmS S e) (h' : FmS S e') : ∃ R E, e = .returned (.tuple #[.string R, .int .i64 E]) ∧ e' = .returned (.tuple #[.string R, .int .i64 E]) := by
  rcases h with ⟨m, R, p1, p2, p3, p4⟩ | ⟨p1, p2⟩
  · rcases h' with ⟨m', R', q1, q2, q3, q4⟩ | ⟨q1, q2⟩
    · obtain rfl := p1.one q1
      obtain rfl := p4.one q4
      exact ⟨R, _, p3, q3⟩
    · exact absurd p1 (q1 m)
  · rcases h' with ⟨m', R', q1, q2, q3, q4⟩ | ⟨q1, q2⟩
    · exact absurd q1 (p1 m')
    · exact ⟨_, _, p2, q2⟩
structure BS13 (w0 : World) (D : Array Value) (ad am : Option Addr) (l : List Xe) (gm cm : Nat) (W : World) : Prop where
  bx : Bk W w0.heap.size D 23
  xl : XeL W ad l
  xm : XeL W (some ⟨gm, 0, none⟩) (l ++ [mkX])
  bel : Below w0.heap.size w0 W
theorem BS13.next {w0 W W' : World} {D : Array Value} {ad am : Option Addr} {l : List Xe} {gm cm : Nat} (h : BS13 w0 D ad am l gm cm W) (hb : Below W.heap.size W W') : BS13 w0 D ad am l gm cm W' := ⟨h.bx.below hb h.bx.lt, h.xl.below hb, h.xm.below hb, h.bel.trans (hb.mono h.bel.size)⟩
theorem XeL.front {w : World} {a : Option Addr} {l m : List Xe} (h : XeL w a (l ++ m)) : XeL w a l := fun i e he => h i e (by rw [List.getElem?_append_left (List.getElem?_eq_some_iff.1 he).1]; exact he)
set_option maxHeartbeats 16000000 in
set_option maxRecDepth 100000 in
theorem builds13 (s : ByteArray) (l : List Xe) (ad : Option Addr) (n c : Nat) (S : ByteArray) (w : World) (hs : s.size = 32) (hX : XeL w ad l) (hl : l.length = n) (hA : (ad = none ∧ c = 0) ∨ ∃ g o, ad = some ⟨g, o, none⟩) (hc : n ≤ c) (hn : (n + 1) * 56 ≤ 140737488355328) (hS : S.size ≤ 140737488351232) (hL : Lst w) :
    Calls Tryz.prog 3 #[.agg (idc s), .slice ad n c, .string S] w fun e w' => e = .returned (.bool true) ∧ Below w.heap.size w w' := by
  have HX : Hid (XeL w ad l) := hX
  have HL : Hid (l.length = n) := hl
  have HS : Hid (s.size = 32) := hs
  have HAC : Hid ((ad = none ∧ c = 0) ∨ ∃ g o, ad = some ⟨g, o, none⟩) := hA
  have HLT : Hid (∀ W, Below w.heap.size w W → Lst W) := fun W hW => hL.below hW
  obtain ⟨D, hD⟩ : ∃ D, idc s = D := ⟨_, rfl⟩
  have HD : Hid (idc s = D) := hD
  have HI32 : Hid ((Tryz.prog.info? 23).map (·.size) = some D.size) := info_32 (by rw [← hD, idc_size, hs])
  rw [hD]
  have b1 := bk_new w D 23
  have HB1 : Hid (Bk (w.alloc (.cells D 23)) w.heap.size D 23 ∧ Below w.heap.size w (w.alloc (.cells D 23))) := ⟨b1, (Below.refl _ _).alloc (Nat.le_refl _) _⟩
  have hOW := owns13 l ad n c (w.alloc (.cells D 23)) (hX.below HB1.out.2) hl hn
  have HOW : Hid (Calls Tryz.prog 5 #[.slice ad n c] (w.alloc (.cells D 23)) fun e w' => ∃ g cp, e = .returned (.slice (some ⟨g, 0, none⟩) n cp) ∧ n + 1 ≤ cp ∧ BS13 w D ad none l g cp w') := by
    refine hOW.mono ?_
    rintro e w' ⟨g, cp, h1, h2, h3, h4⟩
    refine ⟨g, cp, h1, h3, h4.mono (Nat.le_refl _) |> fun q => ?_⟩
    have hid : ∀ e ∈ l ++ [mkX], e.id.size = 32 := fun e he => by
      rcases List.mem_append.1 he with q | q
      · exact HX.out.ids e q
      · rw [List.mem_singleton.1 q]; exact mkX_id
    obtain ⟨a', c', hv, hx, _, _⟩ := own_xel h2 (by rw [List.length_append, HL.out]; rfl) hid
    injection hv with hv _ _
    subst hv
    exact ⟨HB1.out.1.below h4 HB1.out.1.lt, (HX.out.below HB1.out.2).below h4, hx, HB1.out.2.trans (h4.mono HB1.out.2.size)⟩
  clear hX hl hs hA hL hD b1 hOW
  go_enter Tryz.func3, Tryz.ntmps3
  go_wp2_with fail
  refine HOW.out.mono ?_
  rintro e w1 ⟨gm, cm, rfl, hcm, hB⟩
  have H1 : Hid (BS13 w D ad none l gm cm w1) := hB
  have HBU : Hid (Calls Tryz.prog 6 #[.agg D, .slice (some ⟨gm, 0, none⟩) n cm] w1 fun e w' => ∃ R, e = .returned (.tuple #[.string R, .int .i64 (bE l)]) ∧ BdX s l R ∧ Below w1.heap.size w1 w') := by
    rw [← HD.out]; exact ibuild_any sort_none s l _ n cm w1 HS.out hB.xm.front HL.out (.inr ⟨gm, 0, rfl⟩) (by omega)
  have HRB : Hid (∀ W, BS13 w D ad none l gm cm W → Calls Tryz.prog 7 #[.agg D, .slice ad n c] W fun e w' => ∃ R, e = .returned (.tuple #[.string R, .int .i64 (bE l)]) ∧ BdX s l R ∧ Below W.heap.size W w') := fun W hW => by
    rw [← HD.out]; exact rbuild13 s l ad n c W HS.out hW.xl HL.out HAC.out hc (by omega)
  have HSA : Hid (∀ W, BS13 w D ad none l gm cm W → Calls Tryz.prog 10 #[.slice (some ⟨gm, 0, none⟩) n cm, .slice ad n c] W fun e w' => e = .returned (.bool true) ∧ Below W.heap.size W w') := fun W hW =>
    same13 l _ _ n cm c W hW.xm.front hW.xl HL.out (by omega)
  obtain ⟨E, hE⟩ : ∃ E, bE l = E := ⟨_, rfl⟩
  rw [hE] at HBU HRB
  clear hB HOW hE
  go_wp2_with (first
    | (refine wpList_get rfl 23 (.tmp 3) rfl w.heap.size 0 D D 23 _ rfl H1.out.bx (fun j v hv => by rw [Nat.zero_add]; exact hv) Tryz.underlying23 rfl HI32.out ?_)
    | fail)
  refine HBU.out.mono ?_
  rintro e w2 ⟨R, rfl, hR, hb2⟩
  have H2 : Hid (BS13 w D ad none l gm cm w2) := H1.out.next hb2
  have HR : Hid (BdX s l R) := hR
  clear hR hb2 HBU H1
  go_wp2_with (first
    | (refine wpList_get rfl 23 (.tmp 3) rfl w.heap.size 0 D D 23 _ rfl H2.out.bx (fun j v hv => by rw [Nat.zero_add]; exact hv) Tryz.underlying23 rfl HI32.out ?_)
    | fail)
  refine (HRB.out _ H2.out).mono ?_
  rintro e w3 ⟨R3, rfl, hR3, hb3⟩
  have H3 : Hid (BS13 w D ad none l gm cm w3) := H2.out.next hb3
  obtain rfl : R = R3 := HR.out.one hR3
  clear hR3 hb3 HRB H2 HR
  go_wp2_with fail
  refine (from_any S w3 (by omega) (HLT.out _ H3.out.bel)).mono ?_
  rintro e w4 ⟨hF, hb4⟩
  have H4 : Hid (BS13 w D ad none l gm cm w4) := H3.out.next hb4
  clear hb4 H3
  have HRF : Hid (∃ U F, e = .returned (.tuple #[.string U, .int .i64 F]) ∧ Calls Tryz.prog 9 #[.string S] w4 fun e' w' => e' = .returned (.tuple #[.string U, .int .i64 F]) ∧ Below w4.heap.size w4 w') := by
    obtain ⟨U, F, q1, _⟩ := hF.one hF
    refine ⟨U, F, q1, (rfrom13 S w4 hS).mono ?_⟩
    rintro e' w' ⟨hG, hb⟩
    obtain ⟨U', F', r1, r2⟩ := hF.one hG
    rw [q1] at r1
    injection r1 with r1
    injection r1 with r1
    simp only [Array.mk.injEq, List.cons.injEq, Value.string.injEq, Value.int.injEq, and_true, true_and] at r1
    rw [r2, r1.1, r1.2]
    exact ⟨rfl, hb⟩
  obtain ⟨U, F, rfl, hRF⟩ := HRF.out
  have HRG : Hid (Calls Tryz.prog 9 #[.string S] w4 fun e' w' => e' = .returned (.tuple #[.string U, .int .i64 F]) ∧ Below w4.heap.size w4 w') := hRF
  clear hF HRF hRF
  go_wp2_with fail
  refine HRG.out.mono ?_
  rintro e w5 ⟨rfl, hb5⟩
  have H5 : Hid (BS13 w D ad none l gm cm w5) := H4.out.next hb5
  have hcz : ((n : Int) + 1) ≤ (cm : Int) := by omega
  clear hb5 HRG H4
  go_wp2_with fail
  refine (HSA.out _ H5.out).mono ?_
  rintro e w6 ⟨rfl, hb6⟩
  have H6 : Hid (BS13 w D ad none l gm cm w6) := H5.out.next hb6
  clear hb6 H5 HSA
  have ck : w6.cell? ⟨gm, n * 35 + 32, none⟩ = some (.int .u8 77) := by
    obtain ⟨_, g, o, ea, _, hcc⟩ := H6.out.xm n mkX (by rw [List.getElem?_append_right (by rw [HL.out]; exact Nat.le_refl _), HL.out, Nat.sub_self]; rfl)
    injection ea with ea
    injection ea with e1 e2
    subst e1
    subst e2
    have := hcc 32 _ (xeC_at mkX mkX_id).1
    rw [Nat.zero_add] at this
    exact this
  go_wp2_with (first
    | (go_at_call 11; refine (awake13 _).mono ?_; rintro e w7 ⟨rfl, hb7⟩)
    | fail)
  go_ret
  exact ⟨rfl, H6.out.bel.trans (hb7.mono H6.out.bel.size)⟩
end Go.Proofs.YtpfknjnigcefgaaGreatDoor
/- A slice of structs that came in, opened at an index: plain laws on readings, over any program. -/
namespace Go.Proofs.YtpfknjnigcefgaaGreatDoor
open Go.ChangeShapes Go.WideShapes Go.ChangeAt Go.RowKit
set_option linter.unusedSimpArgs false
set_option linter.unusedVariables false
theorem weightsAll_mem {H : Type} {P : Program} {e : TypeId} : ∀ {l : List (DataW H)} {d : DataW H}, d ∈ l → ∀ n ∈ d.weights P e, n ∈ DataW.weightsAll P e l
  | [], _, h, _, _ => by simp at h
  | x :: l, d, hd, n, hn => by
    simp only [DataW.weightsAll, List.mem_append]
    rcases List.mem_cons.1 hd with rfl | h
    · exact Or.inl hn
    · exact Or.inr (weightsAll_mem h n hn)
theorem open_elem {H : Type} {enc : TypeId × Value → H} {P : Program} {w : World} {t e : TypeId} {d : DataW H} {ps : List MemPlace} {a0 : Option Addr} {len cap : Nat}
    (ht : P.underlying t = some (.slice e)) (hce : 0 < P.cellsOf e) (h : DataW.Trod enc P w 0 (fun _ => true) true t (.slice a0 len cap) d ps) :
    len ≤ maxLen ∧ ∀ i, i < len → ∃ (b off : Nat) (cs : List Value) (D : DataW H) (Pl : List MemPlace) (n : Nat), a0 = some ⟨b, off, none⟩ ∧ b < w.heap.size ∧ cs.length = P.cellsOf e ∧
      (∀ j, j < P.cellsOf e → w.cell? ⟨b, off + i * P.cellsOf e + j, none⟩ = cs[j]?) ∧ DataW.trod enc P w 0 (fun _ => true) true n e cs = some (D, Pl) ∧ ∀ q ∈ D.weights P e, q ∈ d.weights P t := by
  obtain ⟨fuel, hf⟩ := h
  have hcs : (Value.slice a0 len cap).cells.toList = [.slice a0 len cap] := by simp [Value.cells]
  rw [hcs] at hf
  rcases Go.Deep.open_slice ht hf with ⟨h1, _⟩ | ⟨a, l, c, m, n, D, Pl, h1, _, hl, hm, hmm, hx, hi⟩
  · simp only [List.cons.injEq, Value.slice.injEq, and_true] at h1
    obtain ⟨rfl, rfl, rfl⟩ := h1
    exact ⟨by unfold maxLen; omega, fun i hi => by omega⟩
  · simp only [List.cons.injEq, Value.slice.injEq, and_true] at h1
    obtain ⟨rfl, rfl, rfl⟩ := h1
    have hmc : m = cap := by simpa using hmm
    refine ⟨by omega, fun i hil => ?_⟩
    obtain ⟨cs, h2, h3⟩ := hi i (by omega)
    obtain ⟨_, hlen, hcell⟩ := World.cells?_some h2
    obtain ⟨b, off, spot⟩ := a
    have hsp : spot = none := by
      obtain ⟨cs0, k2, _⟩ := hi 0 (by omega)
      obtain ⟨_, klen, kcell⟩ := World.cells?_some k2
      have kc := kcell 0 hce
      rw [Go.Deep.add_add, Nat.zero_mul, Nat.zero_add, show (⟨b, off, spot⟩ : Addr).add 0 = ⟨b, off, spot⟩ from rfl, List.getElem?_eq_getElem (by omega)] at kc
      exact World.cell?_spot kc
    subst hsp
    have hc0 := hcell 0 hce
    rw [Go.Deep.add_add, add_plain, List.getElem?_eq_getElem (by omega)] at hc0
    refine ⟨b, off, cs, D i, Pl i, n, rfl, block_lt_of_cell hc0, hlen, fun j hj => ?_, h3, fun q hq => ?_⟩
    · have := hcell j hj
      rw [Go.Deep.add_add, add_plain, ← Nat.add_assoc] at this
      exact this
    · simp only [Prod.mk.injEq] at hx
      rw [hx.1]
      simp only [DataW.weights, ht, List.mem_cons, List.mem_append]
      exact Or.inr (Or.inl (weightsAll_mem (List.mem_map.2 ⟨i, by simpa using hil, rfl⟩) q hq))
theorem open_cap {H : Type} {enc : TypeId × Value → H} {P : Program} {w : World} {t e : TypeId} {d : DataW H} {ps : List MemPlace} {a0 : Option Addr} {len cap : Nat}
    (ht : P.underlying t = some (.slice e)) (h : DataW.Trod enc P w 0 (fun _ => true) true t (.slice a0 len cap) d ps) : len ≤ cap ∧ cap ≤ maxLen := by
  obtain ⟨fuel, hf⟩ := h
  have hcs : (Value.slice a0 len cap).cells.toList = [.slice a0 len cap] := by simp [Value.cells]
  rw [hcs] at hf
  rcases Go.Deep.open_slice ht hf with ⟨h1, _⟩ | ⟨a, l, c, m, n, D, Pl, h1, _, hl, hm, hmm, hx, hi⟩
  · simp only [List.cons.injEq, Value.slice.injEq, and_true] at h1
    obtain ⟨rfl, rfl, rfl⟩ := h1
    exact ⟨Nat.le_refl _, by unfold maxLen; omega⟩
  · simp only [List.cons.injEq, Value.slice.injEq, and_true] at h1
    obtain ⟨rfl, rfl, rfl⟩ := h1
    have hmc : m = cap := by simpa using hmm
    omega
end Go.Proofs.YtpfknjnigcefgaaGreatDoor
