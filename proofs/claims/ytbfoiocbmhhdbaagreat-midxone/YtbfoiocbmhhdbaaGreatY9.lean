import Derived.Test.YtbfoiocbmhhdbaaGreatY6
import Derived.Test.YtbfoiocbmhhdbaaGreatY8
import Derived.RegionTactic
import Derived.BigRegion
import Derived.Laws.MakeOwn
/- midx.takeRow. -/
namespace Go.Proofs.YtbfoiocbmhhdbaaGreat
open Go.RowKit
set_option linter.unusedSimpArgs false
set_option linter.unusedVariables false
/-- A row that is being taken: the reader, the answer's block and the name's. -/
structure TM (w : World) (b : Nat) (t : ByteArray) (j : Nat) (C : Array Value) (wr : World) : Prop where
  rd : Step b w wr t
  rb : Bk wr w.heap.size z67 52
  nb : Bk wr j C 48
  bl : b < w.heap.size
  jl : w.heap.size < j
theorem TM.step {w wr w' : World} {b j : Nat} {t t' : ByteArray} {C : Array Value} (h : TM w b t j C wr) (hs : Step b wr w' t') : TM w b t' j C w' := by
  have hb := h.bl
  have hj := h.jl
  refine ⟨h.rd.then hs, ?_, ?_, hb, hj⟩
  · unfold Bk; rw [hs.block _ h.rb.lt (by omega)]; exact h.rb
  · unfold Bk; rw [hs.block _ h.nb.lt (by omega)]; exact h.nb
theorem TM.turn {w wr w' : World} {b j : Nat} {t : ByteArray} {C C' : Array Value} (h : TM w b t j C wr) (hg : wr.grownBy w' (some j)) (hn : Bk w' j C' 48) : TM w b t j C' w' := by
  have hb := h.bl
  have hj := h.jl
  have hlt : b < wr.heap.size := Nat.lt_of_lt_of_le hb h.rd.size
  have hne : ∀ k, k < w.heap.size → some k ≠ some j := fun k hk e => by injection e with e; omega
  have q := cell_blkX (j := 0) (hg.block b hlt (hne b hb))
  refine ⟨⟨hg.os.trans h.rd.os, hg.tape.trans h.rd.tape, hg.output.trans h.rd.output, Nat.le_trans h.rd.size hg.size, by rw [q.1]; exact h.rd.cell, by rw [q.2]; exact h.rd.frozen, fun k hk hk2 => (hg.block k (Nat.lt_of_lt_of_le hk h.rd.size) (hne k hk)).trans (h.rd.block k hk hk2)⟩, ?_, hn, hb, hj⟩
  unfold Bk
  rw [hg.block _ h.rb.lt (fun e => by injection e with e; omega)]
  exact h.rb
/-- A step that leaves the blocks below where they are, but the reader's. -/
theorem NmL.step {w w' : World} {a : Option Addr} {l : List ByteArray} {b : Nat} {t : ByteArray} (h : NmL w a l) (hs : Step b w w' t) (hn : ∀ p : Addr, a = some p → p.block ≠ b) : NmL w' a l := fun i s hi => by
  obtain ⟨h1, g, o, h2, h3, h4⟩ := h i s hi
  refine ⟨h1, g, o, h2, Nat.lt_of_lt_of_le h3 hs.size, fun j v hv => ?_⟩
  have := hs.block g h3 (hn _ h2)
  rw [show w'.cell? ⟨g, o + i * 32 + j, none⟩ = w.cell? ⟨g, o + i * 32 + j, none⟩ from (cell_blkX this).1]
  exact h4 j v hv
theorem rdMr_some {ps : List ByteArray} {t : List UInt8} {p : ByteArray} (h : ps[rdNm t]? = some p) : rdMr ps t = ⟨p, rdXm t⟩ := by rw [rdMr, h]
theorem rdMr_none {ps : List ByteArray} {t : List UInt8} (h : ps.length ≤ rdNm t) : rdMr ps t = zMr := by rw [rdMr, List.getElem?_eq_none h]
theorem quiet_bd4 {P : Program} {o : Oper} {a : Act} {C : World → Prop} {K : Act → Prop} (t : TypeId) (x0 x1 x2 x3 : Operand) (ho : o.op = .build t #[(0, x0), (1, x1), (2, x2), (3, x3)]) (v0 v1 v2 v3 r : Value) (h0 : a.eval x0 = v0) (h1 : a.eval x1 = v1) (h2 : a.eval x2 = v2) (h3 : a.eval x3 = v3)
    (hr : ∀ w, (Instr.build t #[(0, v0), (1, v1), (2, v2), (3, v3)]).run P w = .ok r w) (hn : K (a.put o.dst r)) : o.quiet P a C K :=
  quiet_val10 r (fun w _ => by
    unfold execOp
    simp only [ho, Sem.run_bind, Sem.run_pure, Result.andThen_ok, List.map_toArray, List.map_cons, List.map_nil, h0, h1, h2, h3, hr]) hn
theorem quiet_bd2 {P : Program} {o : Oper} {a : Act} {C : World → Prop} {K : Act → Prop} (t : TypeId) (x0 x1 : Operand) (ho : o.op = .build t #[(0, x0), (1, x1)]) (v0 v1 r : Value) (h0 : a.eval x0 = v0) (h1 : a.eval x1 = v1)
    (hr : ∀ w, (Instr.build t #[(0, v0), (1, v1)]).run P w = .ok r w) (hn : K (a.put o.dst r)) : o.quiet P a C K :=
  quiet_val10 r (fun w _ => by
    unfold execOp
    simp only [ho, Sem.run_bind, Sem.run_pure, Result.andThen_ok, List.map_toArray, List.map_cons, List.map_nil, h0, h1, hr]) hn
set_option maxHeartbeats 4000000 in
set_option maxRecDepth 100000 in
theorem takeRow_any (ps : List ByteArray) (ap : Option Addr) (np cp : Nat) (t : ByteArray) (b : Nat) (w : World) (hc : w.cell? ⟨b, 0, none⟩ = some (.string t)) (hf : w.frozen? ⟨b, 0, none⟩ = false) (hb : b < w.heap.size) (ht : 45 ≤ t.size) (hs : t.size ≤ maxLen) (hP : NmL w ap ps) (hPn : ps.length = np) (hnp : np ≤ 4096) (hne : ∀ p : Addr, ap = some p → p.block ≠ b) :
    Calls Tryz.prog 78 #[.pointer (some ⟨b, 0, none⟩), .slice ap np cp] w fun e w' => e = .returned (.agg (mrC (rdMr ps (bl t)))) ∧ Step b w w' (t.extract 45 t.size) := by
  obtain ⟨x, hx⟩ : ∃ x, (⟨((bl t).take 32).toArray⟩ : ByteArray) = x := ⟨_, rfl⟩
  obtain ⟨t1, ht1⟩ : ∃ t1, t.extract 32 t.size = t1 := ⟨_, rfl⟩
  obtain ⟨t2, ht2⟩ : ∃ t2, t1.extract 4 t1.size = t2 := ⟨_, rfl⟩
  obtain ⟨t3, ht3⟩ : ∃ t3, t2.extract 1 t2.size = t3 := ⟨_, rfl⟩
  obtain ⟨t4, ht4⟩ : ∃ t4, t3.extract 4 t3.size = t4 := ⟨_, rfl⟩
  obtain ⟨t5, ht5⟩ : ∃ t5, t4.extract 4 t4.size = t5 := ⟨_, rfl⟩
  have b1 : bl t1 = (bl t).drop 32 := by rw [← ht1]; exact bl_ex t 32
  have b2 : bl t2 = (bl t).drop 36 := by rw [← ht2, bl_ex, b1, List.drop_drop]
  have b3 : bl t3 = (bl t).drop 37 := by rw [← ht3, bl_ex, b2, List.drop_drop]
  have b4 : bl t4 = (bl t).drop 41 := by rw [← ht4, bl_ex, b3, List.drop_drop]
  have b5 : bl t5 = (bl t).drop 45 := by rw [← ht5, bl_ex, b4, List.drop_drop]
  have s1 : t1.size = t.size - 32 := by rw [← ht1]; exact ex_size t 32
  have s2 : t2.size = t.size - 36 := by rw [← ht2, ex_size, s1]; omega
  have s3 : t3.size = t.size - 37 := by rw [← ht3, ex_size, s2]; omega
  have s4 : t4.size = t.size - 41 := by rw [← ht4, ex_size, s3]; omega
  have hxs : x.size = 32 := by
    rw [← hx]
    show ((bl t).take 32).toArray.size = 32
    rw [List.size_toArray, List.length_take, bl_length]; omega
  obtain ⟨nz, hnz⟩ : ∃ k, fixV ((bl t1).take 4) = k := ⟨_, rfl⟩
  obtain ⟨kz, hkz⟩ : ∃ k, fixV ((bl t2).take 1) = k := ⟨_, rfl⟩
  obtain ⟨oz, hoz⟩ : ∃ k, fixV ((bl t3).take 4) = k := ⟨_, rfl⟩
  obtain ⟨zz, hzz⟩ : ∃ k, fixV ((bl t4).take 4) = k := ⟨_, rfl⟩
  have ln : nz < 4294967296 := by rw [← hnz]; have := fix_lt t1 4 (by omega); omega
  have lk : kz < 256 := by rw [← hkz]; have := fix_lt t2 1 (by omega); omega
  have lo : oz < 4294967296 := by rw [← hoz]; have := fix_lt t3 4 (by omega); omega
  have lz : zz < 4294967296 := by rw [← hzz]; have := fix_lt t4 4 (by omega); omega
  have hnm : rdNm (bl t) = nz := by rw [rdNm, ← b1]; exact hnz
  have hid : (rdXm (bl t)).id = x := hx
  have hid32 : (rdXm (bl t)).id.size = 32 := by rw [hid, hxs]
  have hkk : ((rdXm (bl t)).k.toNat : Int) = (kz : Int) := by
    have q : (bl t2).take 1 = [((bl t).drop 36).headD 0] := by
      rw [b2]
      cases hq : (bl t).drop 36 with
      | nil =>
        have := congrArg List.length hq
        rw [List.length_drop, bl_length] at this
        simp at this
        omega
      | cons a r => rfl
    rw [← hkz, q]
    show _ = ((fixV [((bl t).drop 36).headD 0] : Nat) : Int)
    simp [fixV, rdXm]
  have hoo : (rdXm (bl t)).off = (oz : Int) := by rw [← hoz, b3]; rfl
  have hss : (rdXm (bl t)).sz = (zz : Int) := by rw [← hzz, b4]; rfl
  obtain ⟨Y, hY⟩ : ∃ Y, xeC (rdXm (bl t)) = Y := ⟨_, rfl⟩
  obtain ⟨X, hX⟩ : ∃ X, idc x = X := ⟨_, rfl⟩
  have HB1 : Hid (∀ u, (Instr.build 50 #[(0, .agg X), (1, .int .u8 (kz : Int)), (2, .int .i64 (oz : Int)), (3, .int .i64 (zz : Int))]).run Tryz.prog u = .ok (.agg Y) u) := fun u => by
    have := build_xe (rdXm (bl t)) hid32 u
    rw [hid, hkk, hoo, hss, hX, hY] at this
    exact this
  have HIX : Hid ((Tryz.prog.info? 48).map (·.size) = some X.size ∧ X.all (·.oneCell') = true ∧ X.size = 32) := by rw [← hX]; exact ⟨info_32 (by rw [idc_size, hxs]), idc_allX _, by rw [idc_size, hxs]⟩
  obtain ⟨R, hR⟩ : ∃ R, mrC (rdMr ps (bl t)) = R := ⟨_, rfl⟩
  have HRI : Hid ((Tryz.prog.info? 52).map (·.size) = some R.size ∧ R.all (·.oneCell') = true ∧ R.size = 67) := by
    have hq : R.size = 67 := by
      rw [← hR]
      cases hp : ps[rdNm (bl t)]? with
      | none => rw [rdMr, hp]; rw [← z67_is]; exact z67_size
      | some p => rw [rdMr_some hp]; exact mrC_size _ (hP _ _ hp).1 hid32
    exact ⟨info_mr hq, by rw [← hR]; exact mrC_all _, hq⟩
  have HNo : Hid (np ≤ nz → R = z67) := fun q => by rw [← hR, rdMr_none (by rw [hPn, hnm]; exact q), ← z67_is]
  have HYe : Hid (nz < np → ∃ p, ps[nz]? = some p ∧ p.size = 32 ∧ ∀ u, (Instr.build 52 #[(0, .agg (idc p)), (1, .agg Y)]).run Tryz.prog u = .ok (.agg R) u) := fun q => by
    obtain ⟨p, hp⟩ : ∃ p, ps[nz]? = some p := ⟨_, List.getElem?_eq_getElem (by omega)⟩
    refine ⟨p, hp, (hP _ _ hp).1, fun u => ?_⟩
    have := build_mr ⟨p, rdXm (bl t)⟩ (hP _ _ hp).1 hid32 u
    rw [← rdMr_some (by rw [hnm]; exact hp), hR, rdMr_some (by rw [hnm]; exact hp)] at this
    rw [← hY]
    exact this
  have h45 : t.extract 45 t.size = t5 := by apply bl_inj; rw [bl_ex, b5]
  rw [hR, h45]
  have HS : Hid (t1.size = t.size - 32 ∧ t2.size = t.size - 36 ∧ t3.size = t.size - 37 ∧ t4.size = t.size - 41 ∧ 45 ≤ t.size ∧ t.size ≤ maxLen) := ⟨s1, s2, s3, s4, ht, hs⟩
  have HT : Hid (t.extract 32 t.size = t1 ∧ t1.extract 4 t1.size = t2 ∧ t2.extract 1 t2.size = t3 ∧ t3.extract 4 t3.size = t4 ∧ t4.extract 4 t4.size = t5) := ⟨ht1, ht2, ht3, ht4, ht5⟩
  have HF : Hid (fixV ((bl t1).take 4) = nz ∧ fixV ((bl t2).take 1) = kz ∧ fixV ((bl t3).take 4) = oz ∧ fixV ((bl t4).take 4) = zz) := ⟨hnz, hkz, hoz, hzz⟩
  have HX : Hid ((⟨((bl t).take 32).toArray⟩ : ByteArray) = x ∧ idc x = X) := ⟨hx, hX⟩
  have HPP : Hid (NmL w ap ps ∧ ∀ p : Addr, ap = some p → p.block ≠ b) := ⟨hP, hne⟩
  have HW0 : Hid (Bk (w.alloc (.cells z67 52)) w.heap.size z67 52 ∧ Step b w (w.alloc (.cells z67 52)) t) := ⟨bk_new _ _ _, Step.of_below ((Below.refl _ _).alloc (Nat.le_refl _) _) hb hc hf⟩
  have hz0 : (w.alloc (.cells z67 52)).heap.size = w.heap.size + 1 := al_size _ _
  clear hc hf b1 b2 b3 b4 b5 s1 s2 s3 s4 ht1 ht2 ht3 ht4 ht5 hnz hkz hoz hzz hid hid32 hkk hoo hss hY hX hR h45 hx hxs hnm hP hne ht hs
  have hbz := build_mz
  go_enter Tryz.func78, Tryz.ntmps78
  go_wp2_with fail
  refine (takeId_any t b _ HW0.out.2.cell HW0.out.2.frozen (by show b < (w.alloc (.cells z67 52)).heap.size; omega) (by have := HS.out.2.2.2.2; omega) HS.out.2.2.2.2.2).mono ?_
  rintro e w1 ⟨rfl, hst1⟩
  rw [HX.out.1, HX.out.2]
  rw [HT.out.1] at hst1
  have T1 : Hid (TM w b t1 w1.heap.size z32c (w1.alloc (.cells z32c 48))) := by
    have h1 : (w.alloc (.cells z67 52)).heap.size ≤ w1.heap.size := hst1.size
    have hlt : b < w1.heap.size := by omega
    refine ⟨(HW0.out.2.then hst1).then (Step.of_below ((Below.refl _ _).alloc (Nat.le_refl _) _) hlt hst1.cell hst1.frozen), ?_, bk_new _ _ _, hb, by omega⟩
    have : Bk w1 w.heap.size z67 52 := by unfold Bk; rw [hst1.block _ HW0.out.1.lt (by omega)]; exact HW0.out.1
    exact this.alloc _
  obtain ⟨j, hj⟩ : ∃ j, w1.heap.size = j := ⟨_, rfl⟩
  have HJ : Hid (w1.heap.size = j) := hj
  clear hst1 HW0 hz0 hj
  go_wp2_with (first
    | (refine wpList_stoX rfl 48 (.tmp 5) (.tmp 15) rfl w1.heap.size X z32c 48 rfl rfl T1.out.nb HIX.out.1 (by rw [HIX.out.2.2]; exact z32c_size.symm) HIX.out.2.1 ?_; intro w2 HB2 HG2; have T2 : Hid (TM w b t1 j X w2) := by rw [← HJ.out]; exact T1.out.turn HG2.out HB2.out)
    | fail)
  refine (fixed_ok t1 b w2 (by have := HS.out; omega) T2.out.rd.cell T2.out.rd.frozen (Nat.lt_of_lt_of_le hb T2.out.rd.size) 4 (by omega) (by omega) (by have := HS.out; omega)).mono ?_
  rintro e w3 ⟨rfl, hst3⟩
  rw [HF.out.1]
  rw [HT.out.2.1] at hst3
  have T3 : Hid (TM w b t2 j X w3) := T2.out.step hst3
  clear hst3 T2 T1 HB2 HG2
  go_wp2_with fail
  refine (fixed_ok t2 b w3 (by have := HS.out; omega) T3.out.rd.cell T3.out.rd.frozen (Nat.lt_of_lt_of_le hb T3.out.rd.size) 1 (by omega) (by omega) (by have := HS.out; omega)).mono ?_
  rintro e w4 ⟨rfl, hst4⟩
  rw [HF.out.2.1]
  rw [HT.out.2.2.1] at hst4
  have T4 : Hid (TM w b t3 j X w4) := T3.out.step hst4
  clear hst4 T3
  go_wp2_with fail
  refine (fixed_ok t3 b w4 (by have := HS.out; omega) T4.out.rd.cell T4.out.rd.frozen (Nat.lt_of_lt_of_le hb T4.out.rd.size) 4 (by omega) (by omega) (by have := HS.out; omega)).mono ?_
  rintro e w5 ⟨rfl, hst5⟩
  rw [HF.out.2.2.1]
  rw [HT.out.2.2.2.1] at hst5
  have T5 : Hid (TM w b t4 j X w5) := T4.out.step hst5
  clear hst5 T4
  go_wp2_with fail
  refine (fixed_ok t4 b w5 (by have := HS.out; omega) T5.out.rd.cell T5.out.rd.frozen (Nat.lt_of_lt_of_le hb T5.out.rd.size) 4 (by omega) (by omega) (by have := HS.out; omega)).mono ?_
  rintro e w6 ⟨rfl, hst6⟩
  rw [HF.out.2.2.2]
  rw [HT.out.2.2.2.2] at hst6
  have T6 : Hid (TM w b t5 j X w6) := T5.out.step hst6
  clear hst6 T5
  have q1 : IntKind.u8.wrap (kz : Int) = (kz : Int) := by simp [IntKind.wrap, IntKind.bits, IntKind.signed]; omega
  have q2 : IntKind.i64.wrap (oz : Int) = (oz : Int) := by rw [IntKind.wrap_i64]; omega
  have q3 : IntKind.i64.wrap (zz : Int) = (zz : Int) := by rw [IntKind.wrap_i64]; omega
  have q4 : IntKind.u64.wrap (np : Int) = (np : Int) := by simp [IntKind.wrap, IntKind.bits, IntKind.signed]; omega
  have HEND : Hid (∀ W, Step b w6 W t5 → Step b w W t5) := fun W hW => T6.out.rd.then hW
  by_cases hlt : nz < np
  · have hltz : (nz : Int) < (np : Int) := by omega
    have hge : ¬ (np : Int) ≤ (nz : Int) := by omega
    obtain ⟨p, hp, hp32, hbp⟩ := HYe.out hlt
    have HB2 : Hid (∀ u, (Instr.build 52 #[(0, .agg (idc p)), (1, .agg Y)]).run Tryz.prog u = .ok (.agg R) u) := hbp
    obtain ⟨P, hPe⟩ : ∃ P, idc p = P := ⟨_, rfl⟩
    have HPI : Hid ((Tryz.prog.info? 48).map (·.size) = some P.size) := by rw [← hPe]; exact info_32 (by rw [idc_size, hp32])
    have HPC : Hid (∃ g o, ap = some ⟨g, o, none⟩ ∧ ∀ j v, P[j]? = some v → w6.cell? ⟨g, o + nz * 32 + j, none⟩ = some v) := by
      obtain ⟨_, g, o, k1, k2, k3⟩ := (HPP.out.1.step T6.out.rd HPP.out.2) nz p hp
      exact ⟨g, o, k1, by rw [← hPe]; exact k3⟩
    obtain ⟨g, o, rfl, HPcell⟩ := HPC.out
    have HC : Hid (∀ W, Below w6.heap.size w6 W → ∀ j v, P[j]? = some v → W.cell? ⟨g, o + nz * 32 + j, none⟩ = some v) := fun W hW => by
      obtain ⟨_, g', o', k1, k2, k3⟩ := (HPP.out.1.step T6.out.rd HPP.out.2) nz p hp
      simp only [Option.some.injEq, Addr.mk.injEq] at k1
      obtain ⟨rfl, rfl, _⟩ := k1
      intro j v hv
      rw [hW.cell (p := ⟨g, o + nz * 32 + j, none⟩) k2]
      exact k3 j v (by rw [hPe]; exact hv)
    have HN : Hid (∀ W, Below w6.heap.size w6 W → Bk W w1.heap.size X 48) := fun W hW => by rw [HJ.out]; exact T6.out.nb.below hW T6.out.nb.lt
    rw [hPe] at HB2
    clear HPcell HPC hbp hPe hp hp32 HYe HNo hbz
    go_wp2_with fail
    refine wp_region_tail (fun W => Below w6.heap.size w6 W) 13 (by kernel_rfl) (by kernel_rfl) (Below.refl _ _).drew ?_
    simp only [List.take_succ_cons, List.take_zero, List.drop_succ_cons, List.drop_zero]
    repeat (first
      | go_big_quiet_skip
      | (go_big_quiet_want
         first
           | (refine quiet_rowc 48 _ rfl g (o + nz * 32) P _ rfl (fun W hW => HC.out W hW) Tryz.underlying48 rfl HPI.out ?_; go_big_quiet_on; simp only [Act.put, List.setIfInBounds_toArray, List.set_cons_zero, List.set_cons_succ])
           | (refine quiet_row 48 _ rfl w1.heap.size 0 X X 48 _ rfl (fun W hW => HN.out W hW) (fun j v hv => by rw [Nat.zero_add]; exact hv) Tryz.underlying48 rfl HIX.out.1 ?_; go_big_quiet_on; simp only [Act.put, List.setIfInBounds_toArray, List.set_cons_zero, List.set_cons_succ])
           | (refine quiet_val10 (.int .u8 (kz : Int)) ?_ ?_; (focus (intro W hW; go_simp; done)); go_big_quiet_on; simp only [Act.put, List.setIfInBounds_toArray, List.set_cons_zero, List.set_cons_succ])
           | (refine quiet_val10 (.int .i64 (oz : Int)) ?_ ?_; (focus (intro W hW; go_simp; done)); go_big_quiet_on; simp only [Act.put, List.setIfInBounds_toArray, List.set_cons_zero, List.set_cons_succ])
           | (refine quiet_val10 (.int .i64 (zz : Int)) ?_ ?_; (focus (intro W hW; go_simp; done)); go_big_quiet_on; simp only [Act.put, List.setIfInBounds_toArray, List.set_cons_zero, List.set_cons_succ])
           | (refine quiet_bd4 50 _ _ _ _ rfl (.agg X) (.int .u8 (kz : Int)) (.int .i64 (oz : Int)) (.int .i64 (zz : Int)) (.agg Y) rfl rfl rfl rfl HB1.out ?_; go_big_quiet_on; simp only [Act.put, List.setIfInBounds_toArray, List.set_cons_zero, List.set_cons_succ])
           | (refine quiet_bd2 52 _ _ rfl (.agg P) (.agg Y) (.agg R) rfl rfl HB2.out ?_; go_big_quiet_on; simp only [Act.put, List.setIfInBounds_toArray, List.set_cons_zero, List.set_cons_succ])
           | (refine quiet_val10 (.pointer (some ⟨g, o + nz * 32, none⟩)) ?_ ?_; (focus (intro W hW; go_simp; done)); go_big_quiet_on; simp only [Act.put, List.setIfInBounds_toArray, List.set_cons_zero, List.set_cons_succ])
           | (go_big_quiet_op; go_big_quiet_on)))
    refine wpQuiet_nil ?_
    intro w8 hw8
    have T8 : Hid (Bk w8 w.heap.size z67 52 ∧ Step b w6 w8 t5) := ⟨T6.out.rb.below hw8 T6.out.rb.lt, Step.of_below hw8 (Nat.lt_of_lt_of_le hb T6.out.rd.size) T6.out.rd.cell T6.out.rd.frozen⟩
    clear hw8 HC HN HB1 HB2
    refine wpList_stoX rfl 52 (.tmp 4) (.tmp 54) rfl w.heap.size R z67 52 rfl rfl T8.out.1 HRI.out.1 (by rw [HRI.out.2.2]; exact z67_size.symm) HRI.out.2.1 ?_
    intro w7 HB7 HG7
    go_wp2_with fail
    refine bodyPost_ret (results_cell_row rfl _ _ w.heap.size 52 R (0, 0) _ rfl HB7.out Tryz.underlying52 rfl HRI.out.1) rfl ⟨rfl, ?_⟩
    have hg := HG7.out
    have h6 := T6.out.rd.then T8.out.2
    have hne : ∀ k, k < w.heap.size → some k ≠ some w.heap.size := fun k hk e => by injection e with e; omega
    have q := cell_blkX (j := 0) (hg.block b (Nat.lt_of_lt_of_le hb h6.size) (hne b hb))
    exact ⟨hg.os.trans h6.os, hg.tape.trans h6.tape, hg.output.trans h6.output, Nat.le_trans h6.size hg.size, by rw [q.1]; exact h6.cell, by rw [q.2]; exact h6.frozen, fun k hk hk2 => (hg.block k (Nat.lt_of_lt_of_le hk h6.size) (hne k hk)).trans (h6.block k hk hk2)⟩
  · have hge : (np : Int) ≤ (nz : Int) := by omega
    have hRz := HNo.out (by omega)
    subst hRz
    go_wp2_with (first
      | (refine wpList_stoX rfl 52 (.tmp 4) (.tmp 41) rfl w.heap.size z67 z67 52 rfl rfl T6.out.rb HRI.out.1 rfl HRI.out.2.1 ?_; intro w7 HB7 HG7)
      | fail)
    refine bodyPost_ret (results_cell_row rfl _ _ w.heap.size 52 z67 (0, 0) _ rfl HB7.out Tryz.underlying52 rfl HRI.out.1) rfl ⟨rfl, ?_⟩
    have hg := HG7.out
    have h6 := T6.out.rd
    have hne : ∀ k, k < w.heap.size → some k ≠ some w.heap.size := fun k hk e => by injection e with e; omega
    have q := cell_blkX (j := 0) (hg.block b (Nat.lt_of_lt_of_le hb h6.size) (hne b hb))
    exact ⟨hg.os.trans h6.os, hg.tape.trans h6.tape, hg.output.trans h6.output, Nat.le_trans h6.size hg.size, by rw [q.1]; exact h6.cell, by rw [q.2]; exact h6.frozen, fun k hk hk2 => (hg.block k (Nat.lt_of_lt_of_le hk h6.size) (hne k hk)).trans (h6.block k hk hk2)⟩
end Go.Proofs.YtbfoiocbmhhdbaaGreat
/- midx.take. -/
namespace Go.Proofs.YtbfoiocbmhhdbaaGreat
open Go.RowKit
set_option linter.unusedSimpArgs false
set_option linter.unusedVariables false
/-- What a reader does, whether or not there are so many bytes. -/
def rstT (t : ByteArray) (n : Nat) : ByteArray := if n ≤ t.size then t.extract n t.size else t
theorem bl_rstT (t : ByteArray) (n : Nat) : bl (rstT t n) = rstB (bl t) n := by
  unfold rstT rstB
  rw [bl_length]
  split
  · exact bl_ex t n
  · rfl
theorem rstT_le (t : ByteArray) (n : Nat) : (rstT t n).size ≤ t.size := by
  unfold rstT
  split
  · rw [ex_size]; omega
  · exact Nat.le_refl _
theorem take_if (s : ByteArray) (b : Nat) (w : World) (hs : s.size ≤ maxLen) (hc : w.cell? ⟨b, 0, none⟩ = some (.string s)) (hf : w.frozen? ⟨b, 0, none⟩ = false) (hb : b < w.heap.size) (n : Nat) (hn : n ≤ 4096) :
    Calls Tryz.prog 74 #[.pointer (some ⟨b, 0, none⟩), .int .i64 n] w fun e w' => ∃ v, e = .returned v ∧ Step b w w' (rstT s n) := by
  unfold rstT
  by_cases h : n ≤ s.size
  · rw [if_pos h]
    exact (take_ok s b w hs hc hf hb n h).mono fun e w' q => ⟨_, q.1, q.2⟩
  · rw [if_neg h]
    exact (take_no s b w hs hc hf hb n (by omega) (by omega)).mono fun e w' q => ⟨_, q.1, q.2⟩
theorem fixed_if (s : ByteArray) (b : Nat) (w : World) (hs : s.size ≤ maxLen) (hc : w.cell? ⟨b, 0, none⟩ = some (.string s)) (hf : w.frozen? ⟨b, 0, none⟩ = false) (hb : b < w.heap.size) :
    Calls Tryz.prog 75 #[.pointer (some ⟨b, 0, none⟩), .int .i64 4] w fun e w' => ∃ E, e = .returned (.tuple #[.int .u64 (tkV (bl s)), .int .i64 E]) ∧ Step b w w' (rstT s 4) := by
  unfold rstT tkV
  rw [bl_length]
  by_cases h : 4 ≤ s.size
  · rw [if_pos h, if_pos h]
    exact (fixed_ok s b w hs hc hf hb 4 (by omega) (by omega) h).mono fun e w' q => ⟨_, q.1, q.2⟩
  · rw [if_neg h, if_neg h]
    exact (fixed_no s b w hs hc hf hb 4 (by omega) (by omega) (by omega)).mono fun e w' q => ⟨_, q.1, q.2⟩
theorem tkV_lt (s : ByteArray) : tkV (bl s) < 4294967296 := by
  unfold tkV
  rw [bl_length]
  split
  · have := fix_lt s 4 (by omega); omega
  · omega
/-- Names that are being taken. -/
structure TkP (w : World) (b g m : Nat) (t : ByteArray) (l : List ByteArray) (wr : World) : Prop where
  rc : wr.cell? ⟨b, 0, none⟩ = some (.string t)
  rf : wr.frozen? ⟨b, 0, none⟩ = false
  rl : b < wr.heap.size
  row : ∃ C, Bk wr g C 48 ∧ C.size = m * 32 ∧ ∀ i s, l[i]? = some s → ∀ j, j < 32 → C[i * 32 + j]? = (idc s)[j]?
  bel : Below w.heap.size w wr
  hb : w.heap.size ≤ b
  hg : b < g
theorem TkP.step {w wr w' : World} {t t' : ByteArray} {b g m : Nat} {l : List ByteArray} (h : TkP w b g m t l wr) (hs : Step b wr w' t') : TkP w b g m t' l w' := by
  have h1 := h.hb
  have h2 := h.hg
  obtain ⟨C, c1, c2⟩ := h.row
  refine ⟨hs.cell, hs.frozen, Nat.lt_of_lt_of_le h.rl hs.size, ⟨C, ?_, c2⟩, h.bel.trans (hs.below h1 h.bel.size), h.hb, h.hg⟩
  unfold Bk; rw [hs.block _ c1.lt (by omega)]; exact c1
theorem TkP.put {w wr w' : World} {t : ByteArray} {b g m : Nat} {l : List ByteArray} {C' : Array Value} {e : ByteArray} (h : TkP w b g m t l wr) (hg : wr.grownBy w' (some g)) (hC : Bk w' g C' 48) (hz : C'.size = m * 32) (hn : ∀ i e', (l ++ [e])[i]? = some e' → ∀ j, j < 32 → C'[i * 32 + j]? = (idc e')[j]?) : TkP w b g m t (l ++ [e]) w' := by
  have h1 := h.hb
  have h2 := h.hg
  have q := cell_blkX (j := 0) (hg.block b h.rl (fun e => by injection e with e; omega))
  exact ⟨by rw [q.1]; exact h.rc, by rw [q.2]; exact h.rf, Nat.lt_of_lt_of_le h.rl hg.size, ⟨C', hC, hz, hn⟩, below_own h.bel h.bel.size hg (by omega), h.hb, h.hg⟩
theorem TkP.nml {w wr : World} {t : ByteArray} {b g m : Nat} {l : List ByteArray} (h : TkP w b g m t l wr) (hs : ∀ s ∈ l, s.size = 32) : NmL wr (some ⟨g, 0, none⟩) l := fun i s hi => by
  obtain ⟨C, c1, c2, c3⟩ := h.row
  have h32 := hs s (List.mem_of_getElem? hi)
  refine ⟨h32, g, 0, rfl, c1.lt, fun j v hv => ?_⟩
  have hj : j < 32 := by
    have := (Array.getElem?_eq_some_iff.1 hv).1
    rw [idc_size, h32] at this; exact this
  rw [c1.cell, Nat.zero_add, c3 i s hi j hj, hv]
theorem take_snocN {l : List ByteArray} {k : Nat} {e : ByteArray} (h : l[k]? = some e) : l.take (k + 1) = l.take k ++ [e] := by
  rw [List.take_add_one, h]; rfl
theorem take_snocM {l : List Mr} {k : Nat} {e : Mr} (h : l[k]? = some e) : l.take (k + 1) = l.take k ++ [e] := by
  rw [List.take_add_one, h]; rfl
theorem inf_id3 : (Tryz.prog.info? 48).map (fun i => (i.zero, i.size, i.bytes)) = some (some (.agg z32c), 32, 32) := by kernel_rfl
theorem make_idk (n : Nat) (hn : n ≤ 4096) (u : World) : (Instr.makeSlice 42 (.int .u64 (n : Int)) (.int .u64 (n : Int))).run Tryz.prog u = .ok (.slice (some ⟨u.heap.size, 0, none⟩) n n) (u.alloc (.cells (madeCells (Value.agg z32c).cells (n * 32)) 48)) := by
  obtain ⟨i0, hi, hz0, hz1, hz2⟩ := info_parts inf_id3
  have h := run_makeSlice u 42 48 i0 (.agg z32c) Tryz.underlying42 hi hz0 .u64 .u64 (n : Int) (n : Int) (by omega) (Int.le_refl _) (by rw [hz1]; omega) (by rw [hz2]; omega) (by omega)
  rw [hz1, Int.toNat_natCast] at h
  exact h
theorem make_mrk (n : Nat) (hn : n ≤ 1048576) (u : World) : (Instr.makeSlice 58 (.int .i64 (n : Int)) (.int .i64 (n : Int))).run Tryz.prog u = .ok (.slice (some ⟨u.heap.size, 0, none⟩) n n) (u.alloc (.cells (madeCells (Value.agg z67).cells (n * 67)) 52)) := by
  obtain ⟨i0, hi, hz0, hz1, hz2⟩ := info_parts inf_mr
  have h := run_make u 58 52 i0 (.agg z67) Tryz.underlying58 hi hz0 .i64 .i64 (n : Int) (n : Int) (by omega) (Int.le_refl _) (by rw [hz2]; omega) (by omega)
  rw [hz1, Int.toNat_natCast] at h
  exact h
/-- Rows that are being taken, of packs that stand where they were put. -/
structure TkM (w : World) (b gp g m : Nat) (ps : List ByteArray) (t : ByteArray) (l : List Mr) (wr : World) : Prop where
  rc : wr.cell? ⟨b, 0, none⟩ = some (.string t)
  rf : wr.frozen? ⟨b, 0, none⟩ = false
  rl : b < wr.heap.size
  row : ∃ C, Bk wr g C 52 ∧ C.size = m * 67 ∧ ∀ i s, l[i]? = some s → ∀ j, j < 67 → C[i * 67 + j]? = (mrC s)[j]?
  bel : Below w.heap.size w wr
  hb : w.heap.size ≤ b
  hp : b < gp
  hg : gp < g
  nm : NmL wr (some ⟨gp, 0, none⟩) ps
theorem NmL.grown {w w' : World} {g k : Nat} {l : List ByteArray} (h : NmL w (some ⟨g, 0, none⟩) l) (hg : w.grownBy w' (some k)) (hk : g ≠ k) : NmL w' (some ⟨g, 0, none⟩) l := fun i s hi => by
  obtain ⟨h1, g', o, h2, h3, h4⟩ := h i s hi
  simp only [Option.some.injEq, Addr.mk.injEq] at h2
  obtain ⟨rfl, rfl, _⟩ := h2
  refine ⟨h1, g, 0, rfl, Nat.lt_of_lt_of_le h3 hg.size, fun j v hv => ?_⟩
  have := hg.block g h3 (fun e => by injection e with e; omega)
  rw [show w'.cell? ⟨g, 0 + i * 32 + j, none⟩ = w.cell? ⟨g, 0 + i * 32 + j, none⟩ from (cell_blkX this).1]
  exact h4 j v hv
theorem TkM.step {w wr w' : World} {t t' : ByteArray} {b gp g m : Nat} {ps : List ByteArray} {l : List Mr} (h : TkM w b gp g m ps t l wr) (hs : Step b wr w' t') : TkM w b gp g m ps t' l w' := by
  have h1 := h.hb
  have h2 := h.hg
  have h3 := h.hp
  obtain ⟨C, c1, c2⟩ := h.row
  refine ⟨hs.cell, hs.frozen, Nat.lt_of_lt_of_le h.rl hs.size, ⟨C, ?_, c2⟩, h.bel.trans (hs.below h1 h.bel.size), h.hb, h.hp, h.hg, h.nm.step hs (fun p hp => by injection hp with hp; rw [← hp]; show gp ≠ b; omega)⟩
  unfold Bk; rw [hs.block _ c1.lt (by omega)]; exact c1
theorem TkM.put {w wr w' : World} {t : ByteArray} {b gp g m : Nat} {ps : List ByteArray} {l : List Mr} {C' : Array Value} {e : Mr} (h : TkM w b gp g m ps t l wr) (hg : wr.grownBy w' (some g)) (hC : Bk w' g C' 52) (hz : C'.size = m * 67) (hn : ∀ i e', (l ++ [e])[i]? = some e' → ∀ j, j < 67 → C'[i * 67 + j]? = (mrC e')[j]?) : TkM w b gp g m ps t (l ++ [e]) w' := by
  have h1 := h.hb
  have h2 := h.hg
  have h3 := h.hp
  have q := cell_blkX (j := 0) (hg.block b h.rl (fun e => by injection e with e; omega))
  exact ⟨by rw [q.1]; exact h.rc, by rw [q.2]; exact h.rf, Nat.lt_of_lt_of_le h.rl hg.size, ⟨C', hC, hz, hn⟩, below_own h.bel h.bel.size hg (by omega), h.hb, h.hp, h.hg, h.nm.grown hg (by omega)⟩
theorem TkM.mrl {w wr : World} {t : ByteArray} {b gp g m : Nat} {ps : List ByteArray} {l : List Mr} (h : TkM w b gp g m ps t l wr) (hs : ∀ s ∈ l, s.p.size = 32 ∧ s.e.id.size = 32) : MrL wr (some ⟨g, 0, none⟩) l := fun i s hi => by
  obtain ⟨C, c1, c2, c3⟩ := h.row
  have h32 := hs s (List.mem_of_getElem? hi)
  refine ⟨h32, g, 0, rfl, c1.lt, fun j v hv => ?_⟩
  have hj : j < 67 := by
    have := (Array.getElem?_eq_some_iff.1 hv).1
    rw [mrC_size s h32.1 h32.2] at this; exact this
  rw [c1.cell, Nat.zero_add, c3 i s hi j hj, hv]
end Go.Proofs.YtbfoiocbmhhdbaaGreat
