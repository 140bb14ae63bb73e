import Derived.Test.YtpfknjnigcefgaaGreatDoorY8
import Derived.Test.YtpfknjnigcefgaaGreatDoorY9
import Derived.Test.YtpfknjnigcefgaaGreatDoorY3
import Derived.Test.YtpfknjnigcefgaaGreatDoorY5
import Derived.RegionTactic
import Derived.ChangeAlike
/- Operations that build something or append, by their run's equation; no program named. -/
namespace Go.Proofs.YtpfknjnigcefgaaGreatDoor
open Go.RowKit
set_option linter.unusedSimpArgs false
set_option linter.unusedVariables false
theorem wpList_bdX2 {P : Program} {ops : Array Oper} {rest : List Oper} {o : Oper} {a : Act} {w : World} {Q : Exit → Act → World → Prop} (hgd : o.guard = none) (t : TypeId) (i j : Nat) (x0 x1 : Operand)
    (ho : o.op = .build t #[(i, x0), (j, x1)]) (v0 v1 r : Value) (h0 : a.eval x0 = v0) (h1 : a.eval x1 = v1) (hr : (Instr.build t #[(i, v0), (j, v1)]).run P w = .ok r w)
    (h : wpList P ops Q rest (a.put o.dst r) w) : wpList P ops Q (o :: rest) a w := by
  refine wpList_plain hgd fun K hK => ?_
  unfold Oper.wp execOp
  simp only [ho, Sem.run_bind, Sem.run_pure, Result.andThen_ok, List.map_toArray, List.map_cons, List.map_nil, h0, h1, hr]
  exact hK _ _ h
theorem wpList_bdX1 {P : Program} {ops : Array Oper} {rest : List Oper} {o : Oper} {a : Act} {w : World} {Q : Exit → Act → World → Prop} (hgd : o.guard = none) (t : TypeId) (i : Nat) (x0 : Operand)
    (ho : o.op = .build t #[(i, x0)]) (v0 r : Value) (h0 : a.eval x0 = v0) (hr : (Instr.build t #[(i, v0)]).run P w = .ok r w)
    (h : wpList P ops Q rest (a.put o.dst r) w) : wpList P ops Q (o :: rest) a w := by
  refine wpList_plain hgd fun K hK => ?_
  unfold Oper.wp execOp
  simp only [ho, Sem.run_bind, Sem.run_pure, Result.andThen_ok, List.map_toArray, List.map_cons, List.map_nil, h0, hr]
  exact hK _ _ h
theorem wpList_bdX0 {P : Program} {ops : Array Oper} {rest : List Oper} {o : Oper} {a : Act} {w : World} {Q : Exit → Act → World → Prop} (hgd : o.guard = none) (t : TypeId)
    (ho : o.op = .build t #[]) (r : Value) (hr : (Instr.build t #[]).run P w = .ok r w)
    (h : wpList P ops Q rest (a.put o.dst r) w) : wpList P ops Q (o :: rest) a w := by
  refine wpList_plain hgd fun K hK => ?_
  unfold Oper.wp execOp
  simp only [ho, Sem.run_bind, Sem.run_pure, Result.andThen_ok, List.map_toArray, List.map_nil, hr]
  exact hK _ _ h
theorem wpList_bdX4 {P : Program} {ops : Array Oper} {rest : List Oper} {o : Oper} {a : Act} {w : World} {Q : Exit → Act → World → Prop} (hgd : o.guard = none) (t : TypeId) (x0 x1 x2 x3 : Operand)
    (ho : o.op = .build t #[(0, x0), (1, x1), (2, x2), (3, x3)]) (v0 v1 v2 v3 r : Value) (h0 : a.eval x0 = v0) (h1 : a.eval x1 = v1) (h2 : a.eval x2 = v2) (h3 : a.eval x3 = v3) (hr : (Instr.build t #[(0, v0), (1, v1), (2, v2), (3, v3)]).run P w = .ok r w)
    (h : wpList P ops Q rest (a.put o.dst r) w) : wpList P ops Q (o :: rest) a w := by
  refine wpList_plain hgd fun K hK => ?_
  unfold Oper.wp execOp
  simp only [ho, Sem.run_bind, Sem.run_pure, Result.andThen_ok, List.map_toArray, List.map_cons, List.map_nil, h0, h1, h2, h3, hr]
  exact hK _ _ h
theorem wpList_bsX {P : Program} {ops : Array Oper} {rest : List Oper} {o : Oper} {a : Act} {w : World} {Q : Exit → Act → World → Prop} (hgd : o.guard = none) (t : TypeId) (x : Operand)
    (ho : o.op = .buildSlice t 1 #[(0, x)]) (v r : Value) (w' : World) (hx : a.eval x = v) (hr : (Instr.buildSlice t 1 #[(0, v)]).run P w = .ok r w')
    (h : wpList P ops Q rest (a.put o.dst r) w') : wpList P ops Q (o :: rest) a w := by
  refine wpList_plain hgd fun K hK => ?_
  unfold Oper.wp execOp
  simp only [ho, Sem.run_bind, Sem.run_pure, Result.andThen_ok, List.map_toArray, List.map_cons, List.map_nil, hx, hr]
  exact hK _ _ h
theorem wpList_appX {P : Program} {ops : Array Oper} {rest : List Oper} {o : Oper} {a : Act} {w : World} {Q : Exit → Act → World → Prop} (hgd : o.guard = none) (sl x : Operand) (t u : TypeId)
    (ho : o.op = .call { callee := .builtin .append, args := #[sl, x], argTypes := #[t, u] }) (v y v' : Value) (w' : World) (hs : a.eval sl = v) (hx : a.eval x = y) (hr : (Builtin.append_ #[t, u] o.type #[v, y]).run P w = .ok v' w')
    (h : wpList P ops Q rest (a.put o.dst v') w') : wpList P ops Q (o :: rest) a w := by
  refine wpList_plain hgd fun K hK => ?_
  unfold Oper.wp execOp
  simp only [ho, resolve, invoke, builtin, Sem.run_bind, Sem.run_pure, Result.andThen_ok, List.map_toArray, List.map_cons, List.map_nil, hs, hx, hr]
  exact hK _ _ h
theorem wpList_copyX {P : Program} {ops : Array Oper} {rest : List Oper} {o : Oper} {a : Act} {w : World} {Q : Exit → Act → World → Prop} (hgd : o.guard = none) (sl x : Operand) (t u : TypeId)
    (ho : o.op = .call { callee := .builtin .copy, args := #[sl, x], argTypes := #[t, u] }) (v y v' : Value) (w' : World) (hs : a.eval sl = v) (hx : a.eval x = y) (hr : (Builtin.copy_ #[t, u] o.type #[v, y]).run P w = .ok v' w')
    (h : wpList P ops Q rest (a.put o.dst v') w') : wpList P ops Q (o :: rest) a w := by
  refine wpList_plain hgd fun K hK => ?_
  unfold Oper.wp execOp
  simp only [ho, resolve, invoke, builtin, Sem.run_bind, Sem.run_pure, Result.andThen_ok, List.map_toArray, List.map_cons, List.map_nil, hs, hx, hr]
  exact hK _ _ h
/-- A whole row stored. -/
theorem wpList_stoX {P : Program} {ops : Array Oper} {rest : List Oper} {o : Oper} {a : Act} {w : World} {Q : Exit → Act → World → Prop} (hgd : o.guard = none) (ty : TypeId) (x y : Operand) (ho : o.op = .store ty x y)
    (g : Nat) (cells old : Array Value) (t : TypeId) (hx : a.eval x = .pointer (some ⟨g, 0, none⟩)) (hy : a.eval y = .agg cells) (hg : Bk w g old t) (hi : (P.info? ty).map (·.size) = some cells.size)
    (hold : old.size = cells.size) (h1 : cells.all (·.oneCell') = true) (h : ∀ w', Hid (Bk w' g cells t) → Hid (w.grownBy w' (some g)) → wpList P ops Q rest (a.put o.dst undef) w') : wpList P ops Q (o :: rest) a w := by
  refine wpList_store_row hgd ty x y ho g cells hx hy t old hg hi hold h1 (h _ (setRow_heap _ _ _ _ _ _ hg) ?_)
  refine ⟨rfl, rfl, rfl, by simp [World.setRow], fun k hk hne => ?_⟩
  have : g ≠ k := fun e => hne (by rw [e])
  simp [World.setRow, Array.getElem?_modify, this]
end Go.Proofs.YtpfknjnigcefgaaGreatDoor
/- idx.indexOf. -/
namespace Go.Proofs.YtpfknjnigcefgaaGreatDoor
open Go.RowKit
set_option linter.unusedSimpArgs false
set_option linter.unusedVariables false
set_option maxRecDepth 100000 in
theorem builtIx (a0 a1 a2 a3 a4 a5 a6 a7 a8 a9 a10 a11 a12 a13 a14 a15 a16 a17 a18 a19 a20 a21 a22 a23 a24 a25 a26 a27 a28 a29 a30 a31 : Value) (o : Option Addr) (n c : Nat) : Tryz.prog.built 104 [(0, .agg #[a0, a1, a2, a3, a4, a5, a6, a7, a8, a9, a10, a11, a12, a13, a14, a15, a16, a17, a18, a19, a20, a21, a22, a23, a24, a25, a26, a27, a28, a29, a30, a31]), (2, .slice o n c)] = some ((([a0, a1, a2, a3, a4, a5, a6, a7, a8, a9, a10, a11, a12, a13, a14, a15, a16, a17, a18, a19, a20, a21, a22, a23, a24, a25, a26, a27, a28, a29, a30, a31] : List Value) ++ (fnC (fun _ => 0) ++ [Value.slice o n c])).toArray) := by kernel_rfl
set_option maxRecDepth 100000 in
theorem build_ix (s : ByteArray) (h : s.size = 32) (o : Option Addr) (n c : Nat) (w : World) : (Instr.build 104 #[(0, .agg (idc s)), (2, .slice o n c)]).run Tryz.prog w = .ok (.agg (ixC s (fun _ => 0) (.slice o n c))) w := by
  refine run_build w _ _ _ ?_
  obtain ⟨a0, a1, a2, a3, a4, a5, a6, a7, a8, a9, a10, a11, a12, a13, a14, a15, a16, a17, a18, a19, a20, a21, a22, a23, a24, a25, a26, a27, a28, a29, a30, a31, hl⟩ := list32X (idc s).toList (by rw [Array.length_toList, idc_size, h])
  have e1 : idc s = #[a0, a1, a2, a3, a4, a5, a6, a7, a8, a9, a10, a11, a12, a13, a14, a15, a16, a17, a18, a19, a20, a21, a22, a23, a24, a25, a26, a27, a28, a29, a30, a31] := by rw [← Array.toArray_toList (xs := idc s), hl]
  rw [ixC, hl, e1]
  exact builtIx _ _ _ _ _ _ _ _ _ _ _ _ _ _ _ _ _ _ _ _ _ _ _ _ _ _ _ _ _ _ _ _ _ _ _
theorem take_snocX {l : List Xe} {k : Nat} {e : Xe} (h : l[k]? = some e) : l.take (k + 1) = l.take k ++ [e] := by
  rw [List.take_add_one, h, Option.toList_some]
theorem fst8_cell (e : Xe) (h : e.id.size = 32) : (xeC e)[0]? = some (.int .u8 (fst8 e : Int)) := by
  have := xeC_id e h 0 _ (idc_get e.id 0 (by omega))
  rw [Nat.zero_add] at this
  rw [this]
  have q : fst8 e = (e.id[0]'(by omega)).toNat := by
    unfold fst8
    congr 1
    have hl : 0 < (bl e.id).length := by rw [bl_length]; omega
    rw [List.headD_eq_head?_getD, List.head?_eq_getElem?, List.getElem?_eq_getElem hl]
    rfl
  rw [q]
theorem XeL.get {w : World} {a : Option Addr} {l : List Xe} (h : XeL w a l) {i : Nat} {e : Xe} (he : l[i]? = some e) : ∃ g o, a = some ⟨g, o, none⟩ ∧ g < w.heap.size ∧ e.id.size = 32 ∧ ∀ j v, (xeC e)[j]? = some v → w.cell? ⟨g, o + i * 35 + j, none⟩ = some v := by
  obtain ⟨h1, g, o, h2, h3, h4⟩ := h i e he
  exact ⟨g, o, h2, h3, h1, h4⟩
/-- How the counting stands. -/
structure IxW (w : World) (g : Nat) (s : ByteArray) (f : Nat → Nat) (v : Value) (wr : World) : Prop where
  bel : Below w.heap.size w wr
  blk : Bk wr g (ixC s f v) 104
theorem IxW.below {w wr W : World} {g : Nat} {s : ByteArray} {f : Nat → Nat} {v : Value} (h : IxW w g s f v wr) (hb : Below wr.heap.size wr W) : IxW w g s f v W :=
  ⟨h.bel.trans (hb.mono h.bel.size), h.blk.below hb h.blk.lt⟩
theorem IxW.put {w wr : World} {g : Nat} {s : ByteArray} {f : Nat → Nat} {v : Value} (h : IxW w g s f v wr) (hs : s.size = 32) (hg : w.heap.size ≤ g) (j m : Nat) (hj : j < 256) (f' : Nat → Nat) (hf : ∀ b, b < 256 → f' b = if b = j then m else f b) : IxW w g s f' v (wr.setCell ⟨g, 32 + j, none⟩ (.int .i64 (m : Int))) := by
  have hgr : wr.grownBy (wr.setCell ⟨g, 32 + j, none⟩ (.int .i64 (m : Int))) (some g) := Lib.grownBy_setB (World.grownBy.refl _ _) (32 + j) _
  refine ⟨below_own h.bel h.bel.size hgr hg, ?_⟩
  have := h.blk.set (32 + j) (.int .i64 (m : Int))
  rw [ixC_set s f v hs j m hj] at this
  have e : fnC f' = fnC (fun b => if b = j then m else f b) := by
    unfold fnC
    apply List.map_congr_left
    intro b hb
    rw [hf b (List.mem_range.1 hb)]
  unfold ixC at this ⊢
  rw [e]
  exact this
set_option maxHeartbeats 8000000 in
set_option maxRecDepth 100000 in
theorem indexOf_any (s : ByteArray) (l : List Xe) (a : Option Addr) (n c : Nat) (w : World) (hs : s.size = 32) (hX : XeL w a l) (hl : l.length = n) (hc : n ≤ c) (hA : AdS a) (hn : n ≤ 1152921504606846976) :
    Calls Tryz.prog 28 #[.agg (idc s), .slice a n c] w fun e w' => ∃ g, e = .returned (.pointer (some ⟨g, 0, none⟩)) ∧ w.heap.size ≤ g ∧ IxS w' g s l ∧ Below w.heap.size w w' := by
  have HX : Hid (XeL w a l) := hX
  have HL : Hid (l.length = n) := hl
  have HS : Hid (s.size = 32) := hs
  have HCC : Hid (n ≤ c ∧ AdS a) := ⟨hc, hA⟩
  have HBD : Hid (∀ w, (Instr.build 104 #[(0, .agg (idc s)), (2, .slice a n c)]).run Tryz.prog w = .ok (.agg (ixC s (fun _ => 0) (.slice a n c))) w) := build_ix s hs a n c
  obtain ⟨D, hD⟩ : ∃ D, idc s = D := ⟨_, rfl⟩
  obtain ⟨Z, hZ⟩ : ∃ Z, ixC s (fun _ => 0) (.slice a n c) = Z := ⟨_, rfl⟩
  have HI : Hid ((Tryz.prog.info? 23).map (·.size) = some D.size) := info_32 (by rw [← hD, idc_size, hs])
  have HZ : Hid (ixC s (fun _ => 0) (.slice a n c) = Z) := hZ
  rw [hD, hZ] at HBD
  rw [hD]
  have HB0 : Hid (Bk (w.alloc (.cells D 23)) w.heap.size D 23) := bk_new _ _ _
  clear hX hl hs hD hZ hc hA
  go_enter Tryz.func28, Tryz.ntmps28
  go_wp2_with (first
    | (refine wpList_get rfl 23 (.tmp 2) rfl w.heap.size 0 D D 23 _ rfl HB0.out (fun j v hv => by rw [Nat.zero_add]; exact hv) Tryz.underlying23 rfl HI.out ?_)
    | (refine wpList_bdX2 rfl 104 0 2 (.tmp 9) (.tmp 10) rfl (.agg D) (.slice a n c) (.agg Z) rfl rfl (HBD.out _) ?_))
  have I0 : Hid (IxW w (w.heap.size + 1) s (cnt8 (l.take 0)) (.slice a n c) ((w.alloc (.cells D 23)).alloc (.cells Z 104))) := by
    refine ⟨((Below.refl _ _).alloc (Nat.le_refl _) _).alloc (by rw [al_size]; omega) _, ?_⟩
    have h := bk_new (w.alloc (.cells D 23)) Z 104
    rw [al_size] at h
    have e : ixC s (cnt8 (l.take 0)) (.slice a n c) = Z := HZ.out
    rw [e]
    exact h
  obtain ⟨W0, hW0⟩ : ∃ W, (w.alloc (.cells D 23)).alloc (.cells Z 104) = W := ⟨_, rfl⟩
  obtain ⟨G, hG⟩ : ∃ G, w.heap.size + 1 = G := ⟨_, rfl⟩
  have hGG : w.heap.size ≤ G := by omega
  rw [hW0] at I0 ⊢
  rw [hG] at I0 ⊢
  clear hW0 hG HBD HI HB0 HZ
  go_loopw [15] (fun v wr => ∃ k : Nat, v = .int .i64 k ∧ k ≤ n ∧ Hid (IxW w G s (cnt8 (l.take k)) (.slice a n c) wr)) (fun v _ => n - (intOf v).toNat)
  case atStart => exact ⟨0, rfl, Nat.zero_le _, I0.out⟩
  case round =>
    obtain ⟨k, rfl, hk, HR⟩ := hrel
    clear I0
    by_cases hlt : k < n
    · have hkz : (k : Int) < (n : Nat) := by omega
      obtain ⟨e, he⟩ : ∃ e, l[k]? = some e := ⟨l[k]'(by rw [HL.out]; exact hlt), List.getElem?_eq_getElem _⟩
      obtain ⟨ga, oa, rfl, hga, h32, hcells⟩ := (HX.out.below HR.out.bel).get he
      have HT : Hid (l.take (k + 1) = l.take k ++ [e]) := take_snocX he
      obtain ⟨X, hX⟩ : ∃ X, xeC e = X := ⟨_, rfl⟩
      obtain ⟨F, hF⟩ : ∃ F, fst8 e = F := ⟨_, rfl⟩
      have hF256 : F < 256 := by rw [← hF]; exact fst8_lt e
      have hc0 := fst8_cell e h32
      rw [hX, hF] at hc0
      rw [hX] at hcells
      have HF : Hid (fst8 e = F) := hF
      have HCE : Hid (∀ j v, X[j]? = some v → wr.cell? ⟨ga, oa + k * 35 + j, none⟩ = some v) := hcells
      have HIX : Hid ((Tryz.prog.info? 34).map (·.size) = some X.toList.length ∧ X.all (·.oneCell') = true ∧ X.size = 35) := by rw [← hX]; exact ⟨by rw [inf_xe35, Array.length_toList, xeC_size e h32], xeC_all e, xeC_size e h32⟩
      clear hcells hX he h32 hF
      have B1 : Hid (Bk (wr.alloc (.cells X 34)) wr.heap.size X 34) := bk_new _ _ _
      have R1 : Hid (IxW w G s (cnt8 (l.take k)) (.slice (some ⟨ga, oa, none⟩) n c) (wr.alloc (.cells X 34))) := HR.out.below ((Below.refl _ _).alloc (Nat.le_refl _) _)
      obtain ⟨cn, hcn⟩ : ∃ cn, cnt8 (l.take k) F = cn := ⟨_, rfl⟩
      have hq1 : (wr.alloc (.cells X 34)).cell? ⟨wr.heap.size, 0, none⟩ = some (.int .u8 (F : Int)) := by rw [B1.out.cell]; exact hc0
      have hq2 : (wr.alloc (.cells X 34)).cell? ⟨G, 32 + F, none⟩ = some (.int .i64 (cn : Int)) := by rw [R1.out.blk.cell, ixC_fan s _ _ HS.out F hF256, hcn]
      have hq3 : (wr.alloc (.cells X 34)).frozen? ⟨G, 32 + F, none⟩ = false := R1.out.blk.frozen _
      have hcl : cn ≤ n := by
        rw [← hcn]
        refine Nat.le_trans List.countP_le_length ?_
        rw [List.length_take]; omega
      have HCN : Hid (cnt8 (l.take k) F = cn) := hcn
      clear hcn hc0
      go_wp2_with (first
        | (refine wpList_load_mid rfl 34 (.tmp 17) rfl ga (oa + k * 35) rfl X.toList _ (fun j v hv => HCE.out j v (by rwa [Array.getElem?_toList] at hv)) Tryz.underlying34 rfl HIX.out.1 ?_)
        | (refine wpList_store_new rfl 34 (.tmp 7) (.tmp 18) rfl X _ 34 wr.heap.size rfl rfl rfl (info_xe HIX.out.2.2) (by rw [HIX.out.2.2]; rfl) HIX.out.2.1 ?_))
      have HNX : Hid (∀ W, IxW w G s (cnt8 (l.take k)) (.slice (some ⟨ga, oa, none⟩) n c) W → IxW w G s (cnt8 (l.take (k + 1))) (.slice (some ⟨ga, oa, none⟩) n c) (W.setCell ⟨G, 32 + F, none⟩ (.int .i64 ((cn + 1 : Nat) : Int)))) := fun W hW => hW.put HS.out hGG F (cn + 1) hF256 _ (fun b hb => by
        rw [HT.out, cnt8_snoc, HF.out]
        by_cases q : b = F
        · rw [if_pos q, if_pos q, q, HCN.out]
        · rw [if_neg q, if_neg q])
      obtain ⟨W2, hW2⟩ : ∃ W, wr.alloc (.cells X 34) = W := ⟨_, rfl⟩
      obtain ⟨gb, hgb⟩ : ∃ g, wr.heap.size = g := ⟨_, rfl⟩
      rw [hW2] at hq1 hq2 hq3 R1 ⊢
      rw [hgb] at hq1 ⊢
      clear hW2 hgb B1 HCE HIX HT HF HCN HR
      have hf1 : (0 : Int) ≤ F := by omega
      have hf2 : (F : Int) < 256 := by omega
      have hcw : IntKind.i64.wrap ((cn : Int) + 1) = (cn : Int) + 1 := by rw [IntKind.wrap_i64]; omega
      have hzk : IntKind.i64.wrap ((k : Int) + 1) = (k : Int) + 1 := by rw [IntKind.wrap_i64]; omega
      go_region
      go_wp2
      go_roundw
      case rel => exact ⟨k + 1, by go_num, by omega, (by have h := HNX.out _ R1.out; push_cast at h; exact h.below (Below.refl _ _).drew)⟩
      case measure => simp [intOf]; omega
    · have hkz : ¬ (k : Int) < (n : Nat) := by omega
      obtain rfl : k = n := by omega
      have hxs : l.take k = l := List.take_of_length_le (by rw [HL.out]; omega)
      rw [hxs] at HR
      clear hxs
      go_wp2
      go_loopw [8] (fun v wr => ∃ b : Nat, v = .int .i64 b ∧ 1 ≤ b ∧ b ≤ 256 ∧ Hid (IxW w G s (fun j => if j < b then fanL l j else cnt8 l j) (.slice a k c) wr)) (fun v _ => 256 - (intOf v).toNat)
      case atStart => exact ⟨1, rfl, by omega, by omega, HR.out.bel, by
        have h := HR.out.blk
        have e : fnC (fun j => if j < 1 then fanL l j else cnt8 l j) = fnC (cnt8 l) := by
          unfold fnC
          apply List.map_congr_left
          intro j _
          by_cases q : j < 1
          · have : j = 0 := by omega
            subst this
            simp [fanL_zero]
          · simp [q]
        unfold ixC at h ⊢
        rw [e]; exact h⟩
      case round =>
        obtain ⟨b, rfl, hb1, hb2, HQ⟩ := hrel
        clear HR
        by_cases hlt : b < 256
        · have hbz : (b : Int) < 256 := by omega
          obtain ⟨c1, hc1⟩ : ∃ c1, cnt8 l b = c1 := ⟨_, rfl⟩
          obtain ⟨c2, hc2⟩ : ∃ c2, fanL l (b - 1) = c2 := ⟨_, rfl⟩
          obtain ⟨d, hd⟩ : ∃ d, b - 1 = d := ⟨_, rfl⟩
          have hq1 : wr.cell? ⟨G, 32 + b, none⟩ = some (.int .i64 (c1 : Int)) := by rw [HQ.out.blk.cell, ixC_fan s _ _ HS.out b hlt, if_neg (by omega), hc1]
          have hq2 : wr.cell? ⟨G, 32 + d, none⟩ = some (.int .i64 (c2 : Int)) := by rw [HQ.out.blk.cell, ixC_fan s _ _ HS.out d (by omega), if_pos (by omega), ← hd, hc2]
          have hq3 : wr.frozen? ⟨G, 32 + b, none⟩ = false := HQ.out.blk.frozen _
          have hl1 : c1 ≤ k := by rw [← hc1, ← HL.out]; exact List.countP_le_length
          have hl2 : c2 ≤ k := by rw [← hc2, ← HL.out]; exact List.countP_le_length
          have HNX : Hid (∀ W, IxW w G s (fun j => if j < b then fanL l j else cnt8 l j) (.slice a k c) W → IxW w G s (fun j => if j < b + 1 then fanL l j else cnt8 l j) (.slice a k c) (W.setCell ⟨G, 32 + b, none⟩ (.int .i64 ((c1 + c2 : Nat) : Int)))) := fun W hW => hW.put HS.out hGG b (c1 + c2) hlt _ (fun j hj => by
            by_cases q : j = b
            · subst q
              rw [if_pos rfl, if_pos (by omega)]
              obtain ⟨t, rfl⟩ : ∃ t, j = t + 1 := ⟨j - 1, by omega⟩
              rw [fanL_step, hc1, ← hc2]; rfl
            · rw [if_neg q]
              by_cases q2 : j < b
              · rw [if_pos q2, if_pos (by omega)]
              · rw [if_neg q2, if_neg (by omega)])
          have hb0 : (0 : Int) ≤ b := by omega
          have hdz : (b : Int) - 1 = d := by omega
          have hd0 : (0 : Int) ≤ d := by omega
          have hd2 : (d : Int) < 256 := by omega
          have hcw : IntKind.i64.wrap ((c1 : Int) + c2) = (c1 : Int) + c2 := by rw [IntKind.wrap_i64]; omega
          have hdw : IntKind.i64.wrap (d : Int) = (d : Int) := by rw [IntKind.wrap_i64]; omega
          have HD : Hid (b - 1 = d) := hd
          clear hc1 hc2 hd
          go_wp2
          go_region
          go_wp2
          go_roundw
          case rel => exact ⟨b + 1, by go_num, by omega, by omega, (by have h := HNX.out _ HQ.out; push_cast at h; exact h.below (Below.refl _ _).drew)⟩
          case measure => simp [intOf]; omega
        · have hbz : ¬ (b : Int) < 256 := by omega
          obtain rfl : b = 256 := by omega
          have IX : Hid (IxS wr G s l) := by
            have h := HQ.out.blk
            have e : fnC (fun j => if j < 256 then fanL l j else cnt8 l j) = fnC (fanL l) := by
              unfold fnC
              apply List.map_congr_left
              intro j hj
              have q := List.mem_range.1 hj
              simp [q]
            refine ⟨⟨a, k, c, ?_, HX.out.below HQ.out.bel, HL.out, HCC.out.1, HCC.out.2⟩, HS.out⟩
            unfold ixC at h ⊢
            rw [e] at h; exact h
          go_wp2
          go_ret
          exact ⟨G, rfl, hGG, IX.out, HQ.out.bel⟩
end Go.Proofs.YtpfknjnigcefgaaGreatDoor
/- The walks of wire.New and of the closure through which all is taken. -/
namespace Go.Proofs.YtpfknjnigcefgaaGreatDoor
open Go.RowKit
set_option linter.unusedSimpArgs false
set_option linter.unusedVariables false
set_option maxHeartbeats 400000 in
theorem new_any (s : ByteArray) (w : World) :
    Calls Tryz.prog 80 #[.string s] w fun e w' => e = .returned (.pointer (some ⟨w.heap.size, 0, none⟩)) ∧ w' = w.alloc (.cells #[.string s] 167) := by
  go_enter Tryz.func80, Tryz.ntmps80
  go_wp2
  go_ret
  exact ⟨rfl, rfl⟩
set_option maxHeartbeats 400000 in
theorem taker_any (o : Option Addr) (w : World) :
    Calls Tryz.prog 142 #[.pointer o] w fun e w' => e = .returned (.func (Fn.func 151) #[] #[.pointer (some ⟨w.heap.size, 0, none⟩)]) ∧ w' = w.alloc (.cells #[.pointer o] 139) := by
  go_enter Tryz.func142, Tryz.ntmps142
  go_wp2
  go_ret
  exact ⟨rfl, rfl⟩
set_option maxHeartbeats 400000 in
theorem take1_no (s : ByteArray) (b c : Nat) (h n : Nat) (w : World) (hs : s.size ≤ maxLen) (hp : w.cell? ⟨c, 0, none⟩ = some (.pointer (some ⟨b, 0, none⟩))) (hc : w.cell? ⟨b, 0, none⟩ = some (.string s))
    (hh : h ≤ s.size) (hn : s.size - h < n) :
    Calls Tryz.prog 151 #[.int .i64 h, .int .u64 n, .pointer (some ⟨c, 0, none⟩)] w fun e w' => e = .returned (.tuple #[.string ⟨#[]⟩, .int .i64 4]) ∧ w' = w := by
  unfold maxLen at hs
  go_enter Tryz.func151, Tryz.ntmps151
  go_wp2
  go_ret2
  exact ⟨rfl, rfl⟩
set_option maxHeartbeats 400000 in
theorem take1_ok (s : ByteArray) (b c : Nat) (h n : Nat) (w : World) (hs : s.size ≤ maxLen) (hp : w.cell? ⟨c, 0, none⟩ = some (.pointer (some ⟨b, 0, none⟩))) (hc : w.cell? ⟨b, 0, none⟩ = some (.string s)) (hf : w.frozen? ⟨b, 0, none⟩ = false)
    (hh : h + n ≤ s.size) :
    Calls Tryz.prog 151 #[.int .i64 h, .int .u64 n, .pointer (some ⟨c, 0, none⟩)] w fun e w' => e = .returned (.tuple #[.string (s.extract h (h + n)), .int .i64 0]) ∧ w' = (w.setCell ⟨b, 0, none⟩ (.string (s.extract (h + n) s.size))).drew := by
  unfold maxLen at hs
  go_enter Tryz.func151, Tryz.ntmps151
  go_wp2
  go_region
  go_wp2
  go_ret2
  exact ⟨rfl, rfl⟩
/-- A call that turns the reader in block b alone: it holds s' now; whatever else was there is as it was. -/
structure Step (b : Nat) (w w' : World) (s' : ByteArray) : Prop where
  os : w'.os = w.os
  tape : w'.tape = w.tape
  output : w'.output = w.output
  size : w.heap.size ≤ w'.heap.size
  cell : w'.cell? ⟨b, 0, none⟩ = some (.string s')
  frozen : w'.frozen? ⟨b, 0, none⟩ = false
  block : ∀ k, k < w.heap.size → k ≠ b → w'.heap[k]? = w.heap[k]?
theorem Step.of_below {b : Nat} {w w' : World} {s : ByteArray} (h : Below w.heap.size w w') (hb : b < w.heap.size) (hc : w.cell? ⟨b, 0, none⟩ = some (.string s)) (hf : w.frozen? ⟨b, 0, none⟩ = false) : Step b w w' s :=
  ⟨h.os, h.tape, h.output, h.size, by rw [h.cell (p := ⟨b, 0, none⟩) hb]; exact hc, by rw [h.frozen (p := ⟨b, 0, none⟩) hb]; exact hf, fun k hk _ => h.block k hk⟩
theorem Step.of_set {b : Nat} {w w' : World} {s s' : ByteArray} (h : Below w.heap.size (w.setCell ⟨b, 0, none⟩ (.string s')) w') (hb : b < w.heap.size) (hc : w.cell? ⟨b, 0, none⟩ = some (.string s)) (hf : w.frozen? ⟨b, 0, none⟩ = false) : Step b w w' s' := by
  refine ⟨h.os, h.tape, h.output, by have := h.size; simpa [World.setCell] using this, ?_, ?_, fun k hk hne => ?_⟩
  · rw [h.cell (p := ⟨b, 0, none⟩) hb]; exact World.cell?_setCell_same' w _ _ (by rw [hc]; rfl)
  · rw [h.frozen (p := ⟨b, 0, none⟩) hb]; rw [← hf]; exact World.frozen?_setCell _ _ _ _
  · rw [h.block k hk]; exact Below.heap_setCell _ _ _ _ hne
/-- Behind a call that has turned the reader in block b alone, which the callers own blocks end below. -/
theorem Step.below {b B : Nat} {w w' : World} {s : ByteArray} (h : Step b w w' s) (hB : B ≤ b) (hB2 : B ≤ w.heap.size) : Below B w w' :=
  ⟨h.os, h.tape, h.output, h.size, fun k hk => h.block k (by omega) (by omega)⟩
end Go.Proofs.YtpfknjnigcefgaaGreatDoor
/- What a reader's calls do to the world: small laws. -/
namespace Go.Proofs.YtpfknjnigcefgaaGreatDoor
open Go.RowKit
set_option linter.unusedSimpArgs false
set_option linter.unusedVariables false
theorem al_ptr (w : World) (v : Value) (T : TypeId) : (w.alloc (.cells #[v] T)).cell? ⟨w.heap.size, 0, none⟩ = some v := by rw [World.cell?_alloc_new]; rfl
theorem al_cell {w : World} {b : Nat} {v : Value} (o : Obj) (hb : b < w.heap.size) (hc : w.cell? ⟨b, 0, none⟩ = some v) : (w.alloc o).cell? ⟨b, 0, none⟩ = some v := by rw [World.cell?_alloc_past _ _ _ hb]; exact hc
theorem al_frozen {w : World} {b : Nat} {v : Bool} (o : Obj) (hb : b < w.heap.size) (hc : w.frozen? ⟨b, 0, none⟩ = v) : (w.alloc o).frozen? ⟨b, 0, none⟩ = v := by
  rw [((Below.refl w.heap.size w).alloc (Nat.le_refl _) o).frozen (p := ⟨b, 0, none⟩) hb]; exact hc
/-- Behind the taker's box and its store. -/
theorem taken {w : World} {b : Nat} {s s' : ByteArray} (o : Obj) (hb : b < w.heap.size) (hc : w.cell? ⟨b, 0, none⟩ = some (.string s)) (hf : w.frozen? ⟨b, 0, none⟩ = false) :
    Step b w ((w.setCell ⟨b, 0, none⟩ (.string s')).alloc o).drew s' :=
  Step.of_set (((Below.refl _ _).alloc (by simp [World.setCell]) o).drew) hb hc hf
theorem untaken {w : World} {b : Nat} {s : ByteArray} (o : Obj) (hb : b < w.heap.size) (hc : w.cell? ⟨b, 0, none⟩ = some (.string s)) (hf : w.frozen? ⟨b, 0, none⟩ = false) :
    Step b w (w.alloc o) s := Step.of_below ((Below.refl _ _).alloc (Nat.le_refl _) _) hb hc hf
theorem still {w : World} {b : Nat} {s : ByteArray} (hb : b < w.heap.size) (hc : w.cell? ⟨b, 0, none⟩ = some (.string s)) (hf : w.frozen? ⟨b, 0, none⟩ = false) :
    Step b w w s := Step.of_below (Below.refl _ _) hb hc hf
end Go.Proofs.YtpfknjnigcefgaaGreatDoor
/- The walks of a reader's Take. -/
namespace Go.Proofs.YtpfknjnigcefgaaGreatDoor
open Go.RowKit
set_option linter.unusedSimpArgs false
set_option linter.unusedVariables false
set_option maxHeartbeats 400000 in
theorem take_arg (s : ByteArray) (b : Nat) (w : World) (hs : s.size ≤ maxLen) (hc : w.cell? ⟨b, 0, none⟩ = some (.string s)) (hf : w.frozen? ⟨b, 0, none⟩ = false) (hb : b < w.heap.size) (n : Int) (hn : n < 0) :
    Calls Tryz.prog 116 #[.pointer (some ⟨b, 0, none⟩), .int .i64 n] w fun e w' => e = .returned (.tuple #[.string ⟨#[]⟩, .int .i64 1]) ∧ Step b w w' s := by
  have HS := still hb hc hf
  go_enter Tryz.func116, Tryz.ntmps116
  go_wp2
  go_ret2
  exact ⟨rfl, HS⟩
set_option maxHeartbeats 400000 in
theorem take_no (s : ByteArray) (b : Nat) (w : World) (hs : s.size ≤ maxLen) (hc : w.cell? ⟨b, 0, none⟩ = some (.string s)) (hf : w.frozen? ⟨b, 0, none⟩ = false) (hb : b < w.heap.size) (n : Nat) (hn : s.size < n) (hn2 : n ≤ 9223372036854775807) :
    Calls Tryz.prog 116 #[.pointer (some ⟨b, 0, none⟩), .int .i64 n] w fun e w' => e = .returned (.tuple #[.string ⟨#[]⟩, .int .i64 4]) ∧ Step b w w' s := by
  have hs' := hs
  unfold maxLen at hs'
  go_enter Tryz.func116, Tryz.ntmps116
  go_wp2_with fail
  refine (taker_any _ _).mono ?_
  rintro e w1 ⟨rfl, rfl⟩
  go_wp2_with fail
  refine (take1_no s b w.heap.size 0 n _ hs (al_ptr _ _ _) (al_cell _ hb hc) (by omega) (by omega)).mono ?_
  rintro e w1 ⟨rfl, rfl⟩
  go_wp2
  go_ret2
  exact ⟨rfl, untaken _ hb hc hf⟩
set_option maxHeartbeats 400000 in
theorem take_ok (s : ByteArray) (b : Nat) (w : World) (hs : s.size ≤ maxLen) (hc : w.cell? ⟨b, 0, none⟩ = some (.string s)) (hf : w.frozen? ⟨b, 0, none⟩ = false) (hb : b < w.heap.size) (n : Nat) (hn : n ≤ s.size) :
    Calls Tryz.prog 116 #[.pointer (some ⟨b, 0, none⟩), .int .i64 n] w fun e w' => e = .returned (.tuple #[.string (s.extract 0 n), .int .i64 0]) ∧ Step b w w' (s.extract n s.size) := by
  have hs' := hs
  unfold maxLen at hs'
  go_enter Tryz.func116, Tryz.ntmps116
  go_wp2_with fail
  refine (taker_any _ _).mono ?_
  rintro e w1 ⟨rfl, rfl⟩
  go_wp2_with fail
  refine (take1_ok s b w.heap.size 0 n _ hs (al_ptr _ _ _) (al_cell _ hb hc) (al_frozen _ hb hf) (by omega)).mono ?_
  rintro e w1 ⟨rfl, rfl⟩
  rw [Nat.zero_add]
  go_wp2
  go_ret2
  exact ⟨rfl, taken _ hb hc hf⟩
set_option maxHeartbeats 400000 in
theorem take_nil (w : World) (n : Int) :
    Calls Tryz.prog 116 #[.pointer none, .int .i64 n] w fun e w' => e = .returned (.tuple #[.string ⟨#[]⟩, .int .i64 2]) ∧ w' = w := by
  go_enter Tryz.func116, Tryz.ntmps116
  go_wp2
  go_ret2
  exact ⟨rfl, rfl⟩
end Go.Proofs.YtpfknjnigcefgaaGreatDoor
