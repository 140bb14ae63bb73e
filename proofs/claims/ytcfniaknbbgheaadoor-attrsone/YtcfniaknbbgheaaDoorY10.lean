import Derived.Test.YtcfniaknbbgheaaDoorY8
import Derived.Test.YtcfniaknbbgheaaDoorY9
import Derived.Great.BuildSlice
/- attrs.Modes of a folder with the mode 01777. -/
namespace Go.Proofs.YtcfniaknbbgheaaDoor
open Go.RowKit
set_option linter.unusedSimpArgs false
set_option linter.unusedVariables false
theorem mkF_bs3 {P : Program} {K : Option Value → World → Prop} {o : Oper} {a : Act} (t : TypeId) (x y z : Operand) (ho : o.op = .buildSlice t 3 #[(0, x), (1, y), (2, z)]) (u v s : Value) (hx : a.eval x = u) (hy : a.eval y = v) (hz : a.eval z = s)
    (h : ∀ w, K none w → ∃ r w', (Instr.buildSlice t 3 #[(0, u), (1, v), (2, s)]).run P w = .ok r w' ∧ K (some r) w') : mkF P K o a := by
  intro w hw
  obtain ⟨r, w', h1, h2⟩ := h w hw
  refine ⟨r, w', ?_, h2⟩
  unfold execOp
  simp only [ho, Sem.run_bind, Sem.run_pure, Result.andThen_ok, List.map_toArray, List.map_cons, List.map_nil, hx, hy, hz, h1]
/-- Worlds that have grown, with or without a slice of three that was made. -/
def K3 (w0 : World) (z : Array Value) (T : TypeId) : Option Value → World → Prop
  | none, W => Below w0.heap.size w0 W
  | some v, W => ∃ g, v = .slice (some ⟨g, 0, none⟩) 3 3 ∧ Bk W g z T ∧ Below w0.heap.size w0 W
theorem K3.bel {w0 W : World} {z : Array Value} {T : TypeId} {ov : Option Value} (h : K3 w0 z T ov W) : Below w0.heap.size w0 W := by
  cases ov with
  | none => exact h
  | some v => obtain ⟨g, _, _, h⟩ := h; exact h
theorem K3.made {w0 W : World} {z : Array Value} {T : TypeId} (h : K3 w0 z T none W) : K3 w0 z T (some (.slice (some ⟨W.heap.size, 0, none⟩) 3 3)) (W.alloc (.cells z T)) :=
  ⟨W.heap.size, rfl, bk_new _ _ _, Below.alloc h (Below.size h) _⟩
theorem slice3 (a b c : Int) (w : World) : (Instr.buildSlice 58 3 #[(0, .int .u8 a), (1, .int .u8 b), (2, .int .u8 c)]).run Tryd.prog w = .ok (.slice (some ⟨w.heap.size, 0, none⟩) 3 3) (w.alloc (.cells #[.int .u8 a, .int .u8 b, .int .u8 c] 5)) := by
  obtain ⟨i0, hi, hz0, hz1, hz2⟩ := info_parts inf_u8_10
  refine run_buildSlice w _ 5 3 _ _ i0 (.int .u8 0) Tryd.underlying58 hi hz0 (by rw [hz1]; decide) (by rw [hz1]; decide) ?_
  rw [hz1]
  kernel_rfl
theorem mapp2 (w W : World) (g cp n gs : Nat) (l : List UInt8) (c1 c2 c3 : UInt8) (z1 z2 z3 : Int) (y1 : (c1.toNat : Int) = z1) (y2 : (c2.toNat : Int) = z2) (y3 : (c3.toNat : Int) = z3) (hb : Below w.heap.size w W) (hc : W.cell? ⟨w.heap.size, 0, none⟩ = some (.int .u32 1023)) (ho : W.ownsRow (w.heap.size + 1) 5 1 (.slice (some ⟨g, 0, none⟩) n cp) n (u8c l)) (hz : w.heap.size + 1 ≤ W.heap.size) (hn : n ≤ 100) (hg : Bk W gs #[.int .u8 z1, .int .u8 z2, .int .u8 z3] 5) :
    ∃ g' cp' w7, (Builtin.append_ #[58, 58] 58 #[.slice (some ⟨g, 0, none⟩) n cp, .slice (some ⟨gs, 0, none⟩) 3 3]).run Tryd.prog W = .ok (.slice (some ⟨g', 0, none⟩) (n + 3) cp') w7 ∧
      w7.ownsRow (w.heap.size + 1) 5 1 (.slice (some ⟨g', 0, none⟩) (n + 3) cp') (n + 3) (u8c (l ++ [c1, c2, c3])) ∧ w7.cell? ⟨w.heap.size, 0, none⟩ = some (.int .u32 1023) ∧ Below w.heap.size w w7 ∧ w.heap.size + 1 ≤ w7.heap.size := by
  subst y1 y2 y3
  obtain ⟨i0, hi, hz0, hz1, hz2⟩ := info_parts inf_u8_10
  obtain ⟨v', w7, hrun, hown, hgrow, _, hat⟩ := run_append_own_at (P := Tryd.prog) (w := W) (w.heap.size + 1) 58 58 5 i0 (.int .u8 0) 1 1 Tryd.underlying58 hi hz0 hz1 hz2 rfl (by decide) (.slice (some ⟨g, 0, none⟩) n cp) n (u8c l) ho ⟨gs, 0, none⟩ 3 3 [.int .u8 (c1.toNat : Int), .int .u8 (c2.toNat : Int), .int .u8 (c3.toNat : Int)] rfl (fun j u hu => by
    rw [WideShapes.add_plain, Nat.zero_add, hg.cell]
    rw [← Array.getElem?_toList]
    exact hu) (by
    intro u hu
    simp at hu
    rcases hu with rfl | rfl | rfl <;> rfl) (by unfold maxLen; omega) (by omega) (by omega)
  obtain ⟨g', cp', hv⟩ : ∃ g7 c7, v' = .slice (some ⟨g7, 0, none⟩) (n + 3) c7 := by
    rcases hown.2 with ⟨_, h0⟩ | ⟨g7, c7, cur, h1, _⟩
    · omega
    · exact ⟨g7, c7, h1⟩
  subst hv
  have hblk : ∀ b, (Value.slice (some ⟨g, 0, none⟩) n cp).ownBlock = some b → w.heap.size + 1 ≤ b := fun b hb => (rows_blk ho hb).1
  refine ⟨g', cp', w7, hrun, ?_, ?_, rows_bel hb (by omega) ho (by omega) hgrow, by have := hgrow.size; omega⟩
  · have e : u8c (l ++ [c1, c2, c3]) = u8c l ++ [.int .u8 (c1.toNat : Int), .int .u8 (c2.toNat : Int), .int .u8 (c3.toNat : Int)] := by simp [u8c]
    rw [e]; exact hown
  · have q := cell_blk (j := 0) (hgrow.block w.heap.size (by omega) (fun e => by have := hblk _ e.symm; omega))
    rw [q.1]
    exact hc
theorem rows_keepB10 {B n k : Nat} {w w' : World} {v : Value} {xs : List Value} {T : TypeId} (ho : w.ownsRow B T k v n xs) (h : Below w.heap.size w w') : w'.ownsRow B T k v n xs := by
  refine ⟨ho.1, ?_⟩
  rcases ho.2 with h1 | ⟨g, cap, cur, h1, h2, hc, h3⟩
  · exact .inl h1
  · exact .inr ⟨g, cap, cur, h1, h2, (h.block g (Array.getElem?_eq_some_iff.1 hc).1).trans hc, h3⟩
/-- How Modes' loop stands. -/
structure MI (w : World) (i n g cp : Nat) (wr : World) : Prop where
  bel : Below w.heap.size w wr
  md : wr.cell? ⟨w.heap.size, 0, none⟩ = some (.int .u32 1023)
  ow : wr.ownsRow (w.heap.size + 1) 5 1 (.slice (some ⟨g, 0, none⟩) n cp) n (u8c (mls i))
  sz : w.heap.size + 1 ≤ wr.heap.size
theorem MI.below {w wr W : World} {i n g cp : Nat} (h : MI w i n g cp wr) (hb : Below wr.heap.size wr W) : MI w i n g cp W :=
  ⟨h.bel.trans (hb.mono h.bel.size), by rw [hb.cell (p := ⟨w.heap.size, 0, none⟩) (by show w.heap.size < _; have := h.sz; omega)]; exact h.md, rows_keepB10 h.ow hb, Nat.le_trans h.sz hb.size⟩
theorem inf_th : (Tryd.prog.info? 90).map (·.size) = some thc.length := by kernel_rfl
theorem isagg_str10 (w : World) : (isAgg 9).run Tryd.prog w = .ok false w := by kernel_rfl
theorem isagg_i64 (w : World) : (isAgg 3).run Tryd.prog w = .ok false w := by kernel_rfl
theorem wpList_appR10 {P : Program} {ops : Array Oper} {rest : List Oper} {o : Oper} {a : Act} {w : World} {Q : Exit → Act → World → Prop} (hgd : o.guard = none) (sl x : Operand) (t u : TypeId)
    (ho : o.op = .call { callee := .builtin .append, args := #[sl, x], argTypes := #[t, u] }) (v y v' : Value) (w' : World) (hs : a.eval sl = v) (hx : a.eval x = y) (hr : (Builtin.append_ #[t, u] o.type #[v, y]).run P w = .ok v' w')
    (h : wpList P ops Q rest (a.put o.dst v') w') : wpList P ops Q (o :: rest) a w := by
  refine wpList_plain hgd fun K hK => ?_
  unfold Oper.wp execOp
  simp only [ho, resolve, invoke, builtin, Sem.run_bind, Sem.run_pure, Result.andThen_ok, List.map_toArray, List.map_cons, List.map_nil, hs, hx, hr]
  exact hK _ _ h
set_option maxHeartbeats 8000000 in
set_option maxRecDepth 100000 in
theorem modes_yes (w : World) (hT : Th w) : Calls Tryd.prog 10 #[.int .u8 2, .int .u32 1023] w fun e w' => e = .returned (.tuple #[.string ⟨#[100, 114, 119, 120, 114, 119, 120, 114, 119, 116]⟩, .int .i64 0]) ∧ Below w.heap.size w w' := by
  have h := isNode_any 2
  rw [show ndB 2 = true from rfl] at h
  have h' := isMode_any 1023
  rw [show mdB 1023 = true from rfl] at h'
  have HTH : Hid (Th w) := hT
  clear hT
  go_enter Tryd.func10, Tryd.ntmps10
  go_wp2_with fail
  refine (h _).mono ?_
  rintro e w1 ⟨rfl, rfl⟩
  go_wp2_with fail
  refine (h' _).mono ?_
  rintro e w1 ⟨rfl, rfl⟩
  clear h h'
  go_wp2_with (refine wpList_load_mid rfl 90 (.global 0) rfl 0 0 rfl thc _ (fun j u hj => by
    rw [Nat.zero_add]
    exact (HTH.out.below (((Below.refl _ _).alloc (Nat.le_refl _) _).alloc (by rw [al_size]; omega) _)).2 j u hj) Tryd.underlying90 rfl inf_th ?_)
  simp only [thc]
  go_loopw [7, 24] (fun x v wr => ∃ (i n g cp : Nat), x = .slice (some ⟨g, 0, none⟩) n cp ∧ v = .int .i64 i ∧ i ≤ 3 ∧ Hid (n = 1 + 3 * i) ∧ Hid (MI w i n g cp wr)) (fun x v _ => 3 - (intOf v).toNat)
  case atStart => exact ⟨0, 1, _, _, rfl, rfl, by omega, rfl, ((Below.refl _ _).alloc (Nat.le_refl _) _).alloc (by rw [al_size]; omega) _, by
    rw [World.cell?_alloc_past _ _ _ (by show w.heap.size < _; rw [al_size]; omega), (bk_new _ _ _).cell]; rfl, ⟨rfl, .inr ⟨_, _, #[.int .u8 100], rfl, Nat.le_refl _, (by have q := bk_new (w.alloc (.cells #[.int .u32 1023] 22)) #[.int .u8 100] 5; rw [al_size] at q; exact q), by decide, by decide, rfl, rfl⟩⟩, by rw [al_size, al_size]; omega⟩
  case round =>
    obtain ⟨i, n, g, cp, rfl, rfl, hi, HN, HR⟩ := hrel
    have hi4 : i = 0 ∨ i = 1 ∨ i = 2 ∨ i = 3 := by omega
    rcases hi4 with rfl | rfl | rfl | rfl
    · have tx := tix0
      go_wp2_with fail
      obtain ⟨w2, hw2⟩ : ∃ w2, w2 = wr.alloc (.cells #[.int .i64 8, .int .i64 7, .int .i64 6, .int .i64 11, .string ⟨#[45, 120, 83, 115]⟩] 89) := ⟨_, rfl⟩
      obtain ⟨go, hgo⟩ : ∃ go, go = wr.heap.size := ⟨_, rfl⟩
      have HBK : Hid (Bk w2 go #[.int .i64 8, .int .i64 7, .int .i64 6, .int .i64 11, .string ⟨#[45, 120, 83, 115]⟩] 89) := by rw [hw2, hgo]; exact bk_new _ _ _
      have HM2 : Hid (MI w 0 n g cp w2) := by rw [hw2]; exact HR.out.below ((Below.refl _ _).alloc (Nat.le_refl _) _)
      rw [← hw2, ← hgo]
      clear hw2 hgo tx
      have HC0 : Hid (∀ (ov : Option Value) W, K3 w2 #[.int .u8 114, .int .u8 119, .int .u8 120] 5 ov W → W.cell? ⟨go, 0, none⟩ = some (.int .i64 8)) := fun ov W hW => by rw [(HBK.out.below hW.bel HBK.out.lt).cell]; rfl
      have HC1 : Hid (∀ (ov : Option Value) W, K3 w2 #[.int .u8 114, .int .u8 119, .int .u8 120] 5 ov W → W.cell? ⟨go, 1, none⟩ = some (.int .i64 7)) := fun ov W hW => by rw [(HBK.out.below hW.bel HBK.out.lt).cell]; rfl
      have HC2 : Hid (∀ (ov : Option Value) W, K3 w2 #[.int .u8 114, .int .u8 119, .int .u8 120] 5 ov W → W.cell? ⟨go, 2, none⟩ = some (.int .i64 6)) := fun ov W hW => by rw [(HBK.out.below hW.bel HBK.out.lt).cell]; rfl
      have HC3 : Hid (∀ (ov : Option Value) W, K3 w2 #[.int .u8 114, .int .u8 119, .int .u8 120] 5 ov W → W.cell? ⟨go, 3, none⟩ = some (.int .i64 11)) := fun ov W hW => by rw [(HBK.out.below hW.bel HBK.out.lt).cell]; rfl
      have HC4 : Hid (∀ (ov : Option Value) W, K3 w2 #[.int .u8 114, .int .u8 119, .int .u8 120] 5 ov W → W.cell? ⟨go, 4, none⟩ = some (.string ⟨#[45, 120, 83, 115]⟩)) := fun ov W hW => by rw [(HBK.out.below hW.bel HBK.out.lt).cell]; rfl
      have HB0 : Hid (∀ ov W, K3 w2 #[.int .u8 114, .int .u8 119, .int .u8 120] 5 ov W → Calls Tryd.prog 35 #[.int .i64 8, .pointer (some ⟨w.heap.size, 0, none⟩)] W (fun e w'' => e = .returned (.int .u32 1) ∧ K3 w2 #[.int .u8 114, .int .u8 119, .int .u8 120] 5 ov w'')) := fun ov W hW => (bit_lo 8 w.heap.size W (by decide) (by decide) (HM2.out.below hW.bel).md).mono fun e w' h => ⟨h.1, by rw [h.2]; exact hW⟩
      have HB1 : Hid (∀ ov W, K3 w2 #[.int .u8 114, .int .u8 119, .int .u8 120] 5 ov W → Calls Tryd.prog 35 #[.int .i64 7, .pointer (some ⟨w.heap.size, 0, none⟩)] W (fun e w'' => e = .returned (.int .u32 1) ∧ K3 w2 #[.int .u8 114, .int .u8 119, .int .u8 120] 5 ov w'')) := fun ov W hW => (bit_lo 7 w.heap.size W (by decide) (by decide) (HM2.out.below hW.bel).md).mono fun e w' h => ⟨h.1, by rw [h.2]; exact hW⟩
      have HB2 : Hid (∀ ov W, K3 w2 #[.int .u8 114, .int .u8 119, .int .u8 120] 5 ov W → Calls Tryd.prog 35 #[.int .i64 6, .pointer (some ⟨w.heap.size, 0, none⟩)] W (fun e w'' => e = .returned (.int .u32 1) ∧ K3 w2 #[.int .u8 114, .int .u8 119, .int .u8 120] 5 ov w'')) := fun ov W hW => (bit_lo 6 w.heap.size W (by decide) (by decide) (HM2.out.below hW.bel).md).mono fun e w' h => ⟨h.1, by rw [h.2]; exact hW⟩
      have HB3 : Hid (∀ ov W, K3 w2 #[.int .u8 114, .int .u8 119, .int .u8 120] 5 ov W → Calls Tryd.prog 35 #[.int .i64 11, .pointer (some ⟨w.heap.size, 0, none⟩)] W (fun e w'' => e = .returned (.int .u32 0) ∧ K3 w2 #[.int .u8 114, .int .u8 119, .int .u8 120] 5 ov w'')) := fun ov W hW => (bit_hi 11 w.heap.size W (by decide) (by decide) (HM2.out.below hW.bel).md).mono fun e w' h => ⟨h.1, by rw [h.2]; exact hW⟩
      have HDR : Hid (K3 w2 #[.int .u8 114, .int .u8 119, .int .u8 120] 5 none w2.drew) := (Below.refl _ _).drew
      refine wp_region_mk (K3 w2 #[.int .u8 114, .int .u8 119, .int .u8 120] 5) 25 24 _ (by kernel_rfl) (by kernel_rfl) rfl rfl HDR.out ?_
      simp only [List.take_succ_cons, List.take_zero, List.drop_succ_cons, List.drop_zero, skipL, Nat.reduceAdd, Nat.reduceBEq, Bool.false_eq_true, if_false, if_true]
      (refine wpQF_val rfl (.slice (some ⟨g, 0, none⟩) n cp) (fun ov W hW => by first | (go_simp; done) | (go_simp; rfl) | kernel_rfl) ?_; simp only [Act.put, List.setIfInBounds_toArray, List.set_cons_zero, List.set_cons_succ])
      (refine wpQF_val rfl (.func (.func 35) #[] #[.pointer (some ⟨w.heap.size, 0, none⟩)]) (fun ov W hW => by first | (go_simp; done) | (go_simp; rfl) | kernel_rfl) ?_; simp only [Act.put, List.setIfInBounds_toArray, List.set_cons_zero, List.set_cons_succ])
      (refine wpQF_val rfl (.pointer (some ⟨go, 0, none⟩)) (fun ov W hW => by first | (go_simp; done) | (go_simp; rfl) | kernel_rfl) ?_; simp only [Act.put, List.setIfInBounds_toArray, List.set_cons_zero, List.set_cons_succ])
      (refine wpQF_one rfl 3 (.tmp 29) rfl go 0 (.int .i64 8) rfl isagg_i64 HC0.out ?_; simp only [Act.put, List.setIfInBounds_toArray, List.set_cons_zero, List.set_cons_succ])
      (refine wpQF_call rfl (.int .u32 1) 35 #[.int .i64 8, .pointer (some ⟨w.heap.size, 0, none⟩)] (fun ov W hW => by go_simp) HB0.out ?_; simp only [Act.put, List.setIfInBounds_toArray, List.set_cons_zero, List.set_cons_succ])
      (refine wpQF_val rfl (.int .u8 114) (fun ov W hW => by first | (go_simp; done) | (go_simp; rfl) | kernel_rfl) ?_; simp only [Act.put, List.setIfInBounds_toArray, List.set_cons_zero, List.set_cons_succ])
      (refine wpQF_val rfl (.func (.func 35) #[] #[.pointer (some ⟨w.heap.size, 0, none⟩)]) (fun ov W hW => by first | (go_simp; done) | (go_simp; rfl) | kernel_rfl) ?_; simp only [Act.put, List.setIfInBounds_toArray, List.set_cons_zero, List.set_cons_succ])
      (refine wpQF_val rfl (.pointer (some ⟨go, 1, none⟩)) (fun ov W hW => by first | (go_simp; done) | (go_simp; rfl) | kernel_rfl) ?_; simp only [Act.put, List.setIfInBounds_toArray, List.set_cons_zero, List.set_cons_succ])
      (refine wpQF_one rfl 3 (.tmp 34) rfl go 1 (.int .i64 7) rfl isagg_i64 HC1.out ?_; simp only [Act.put, List.setIfInBounds_toArray, List.set_cons_zero, List.set_cons_succ])
      (refine wpQF_call rfl (.int .u32 1) 35 #[.int .i64 7, .pointer (some ⟨w.heap.size, 0, none⟩)] (fun ov W hW => by go_simp) HB1.out ?_; simp only [Act.put, List.setIfInBounds_toArray, List.set_cons_zero, List.set_cons_succ])
      (refine wpQF_val rfl (.int .u8 119) (fun ov W hW => by first | (go_simp; done) | (go_simp; rfl) | kernel_rfl) ?_; simp only [Act.put, List.setIfInBounds_toArray, List.set_cons_zero, List.set_cons_succ])
      (refine wpQF_val rfl (.pointer (some ⟨go, 4, none⟩)) (fun ov W hW => by first | (go_simp; done) | (go_simp; rfl) | kernel_rfl) ?_; simp only [Act.put, List.setIfInBounds_toArray, List.set_cons_zero, List.set_cons_succ])
      (refine wpQF_one rfl 9 (.tmp 38) rfl go 4 (.string ⟨#[45, 120, 83, 115]⟩) rfl isagg_str10 HC4.out ?_; simp only [Act.put, List.setIfInBounds_toArray, List.set_cons_zero, List.set_cons_succ])
      (refine wpQF_val rfl (.func (.func 35) #[] #[.pointer (some ⟨w.heap.size, 0, none⟩)]) (fun ov W hW => by first | (go_simp; done) | (go_simp; rfl) | kernel_rfl) ?_; simp only [Act.put, List.setIfInBounds_toArray, List.set_cons_zero, List.set_cons_succ])
      (refine wpQF_val rfl (.pointer (some ⟨go, 3, none⟩)) (fun ov W hW => by first | (go_simp; done) | (go_simp; rfl) | kernel_rfl) ?_; simp only [Act.put, List.setIfInBounds_toArray, List.set_cons_zero, List.set_cons_succ])
      (refine wpQF_one rfl 3 (.tmp 41) rfl go 3 (.int .i64 11) rfl isagg_i64 HC3.out ?_; simp only [Act.put, List.setIfInBounds_toArray, List.set_cons_zero, List.set_cons_succ])
      (refine wpQF_call rfl (.int .u32 0) 35 #[.int .i64 11, .pointer (some ⟨w.heap.size, 0, none⟩)] (fun ov W hW => by go_simp) HB3.out ?_; simp only [Act.put, List.setIfInBounds_toArray, List.set_cons_zero, List.set_cons_succ])
      (refine wpQF_val rfl (.int .u32 0) (fun ov W hW => by first | (go_simp; done) | (go_simp; rfl) | kernel_rfl) ?_; simp only [Act.put, List.setIfInBounds_toArray, List.set_cons_zero, List.set_cons_succ])
      (refine wpQF_val rfl (.func (.func 35) #[] #[.pointer (some ⟨w.heap.size, 0, none⟩)]) (fun ov W hW => by first | (go_simp; done) | (go_simp; rfl) | kernel_rfl) ?_; simp only [Act.put, List.setIfInBounds_toArray, List.set_cons_zero, List.set_cons_succ])
      (refine wpQF_val rfl (.pointer (some ⟨go, 2, none⟩)) (fun ov W hW => by first | (go_simp; done) | (go_simp; rfl) | kernel_rfl) ?_; simp only [Act.put, List.setIfInBounds_toArray, List.set_cons_zero, List.set_cons_succ])
      (refine wpQF_one rfl 3 (.tmp 46) rfl go 2 (.int .i64 6) rfl isagg_i64 HC2.out ?_; simp only [Act.put, List.setIfInBounds_toArray, List.set_cons_zero, List.set_cons_succ])
      (refine wpQF_call rfl (.int .u32 1) 35 #[.int .i64 6, .pointer (some ⟨w.heap.size, 0, none⟩)] (fun ov W hW => by go_simp) HB2.out ?_; simp only [Act.put, List.setIfInBounds_toArray, List.set_cons_zero, List.set_cons_succ])
      (refine wpQF_val rfl (.int .u32 1) (fun ov W hW => by first | (go_simp; done) | (go_simp; rfl) | kernel_rfl) ?_; simp only [Act.put, List.setIfInBounds_toArray, List.set_cons_zero, List.set_cons_succ])
      (refine wpQF_val rfl (.int .u8 120) (fun ov W hW => by first | (go_simp; done) | (go_simp; rfl) | kernel_rfl) ?_; simp only [Act.put, List.setIfInBounds_toArray, List.set_cons_zero, List.set_cons_succ])
      refine wpQF_nil ⟨mkF_bs3 58 (.tmp 32) (.tmp 37) (.tmp 50) rfl (.int .u8 114) (.int .u8 119) (.int .u8 120) rfl rfl rfl (fun W hW => ⟨_, _, slice3 _ _ _ W, K3.made hW⟩), ?_⟩
      intro v w8 h8
      obtain ⟨g8, rfl, hbk8, hb8⟩ := h8
      have HM8 := HM2.out.below hb8
      obtain ⟨g7, cp7, w7, hrun, ho7, hc7, hb7, hz7⟩ := mapp2 w w8 g cp n g8 (mls 0) 114 119 120 114 119 120 rfl rfl rfl HM8.bel HM8.md HM8.ow HM8.sz (by have := HN.out; omega) hbk8
      have HM7 : Hid (MI w 1 (n + 3) g7 cp7 w7) := ⟨hb7, hc7, ho7, hz7⟩
      clear ho7 hc7 hb7 hz7 HM8 hb8 hbk8 HC0 HC1 HC2 HC3 HC4 HB0 HB1 HB2 HB3 HM2 HBK HDR HR
      simp only [Act.put, List.setIfInBounds_toArray, List.set_cons_zero, List.set_cons_succ]
      refine wpList_appR10 rfl (.tmp 27) (.tmp 51) 58 58 rfl (.slice (some ⟨g, 0, none⟩) n cp) (.slice (some ⟨g8, 0, none⟩) 3 3) (.slice (some ⟨g7, 0, none⟩) (n + 3) cp7) w7 rfl rfl hrun ?_
      simp only [Act.put, List.setIfInBounds_toArray, List.set_cons_zero, List.set_cons_succ]
      clear hrun
      go_wp2
      go_roundw
      case rel => exact ⟨1, n + 3, g7, cp7, rfl, rfl, by omega, by have := HN.out; show n + 3 = _; omega, HM7.out⟩
      case measure => simp [intOf]
    · have tx := tix1
      go_wp2_with fail
      obtain ⟨w2, hw2⟩ : ∃ w2, w2 = wr.alloc (.cells #[.int .i64 5, .int .i64 4, .int .i64 3, .int .i64 10, .string ⟨#[45, 120, 83, 115]⟩] 89) := ⟨_, rfl⟩
      obtain ⟨go, hgo⟩ : ∃ go, go = wr.heap.size := ⟨_, rfl⟩
      have HBK : Hid (Bk w2 go #[.int .i64 5, .int .i64 4, .int .i64 3, .int .i64 10, .string ⟨#[45, 120, 83, 115]⟩] 89) := by rw [hw2, hgo]; exact bk_new _ _ _
      have HM2 : Hid (MI w 1 n g cp w2) := by rw [hw2]; exact HR.out.below ((Below.refl _ _).alloc (Nat.le_refl _) _)
      rw [← hw2, ← hgo]
      clear hw2 hgo tx
      have HC0 : Hid (∀ (ov : Option Value) W, K3 w2 #[.int .u8 114, .int .u8 119, .int .u8 120] 5 ov W → W.cell? ⟨go, 0, none⟩ = some (.int .i64 5)) := fun ov W hW => by rw [(HBK.out.below hW.bel HBK.out.lt).cell]; rfl
      have HC1 : Hid (∀ (ov : Option Value) W, K3 w2 #[.int .u8 114, .int .u8 119, .int .u8 120] 5 ov W → W.cell? ⟨go, 1, none⟩ = some (.int .i64 4)) := fun ov W hW => by rw [(HBK.out.below hW.bel HBK.out.lt).cell]; rfl
      have HC2 : Hid (∀ (ov : Option Value) W, K3 w2 #[.int .u8 114, .int .u8 119, .int .u8 120] 5 ov W → W.cell? ⟨go, 2, none⟩ = some (.int .i64 3)) := fun ov W hW => by rw [(HBK.out.below hW.bel HBK.out.lt).cell]; rfl
      have HC3 : Hid (∀ (ov : Option Value) W, K3 w2 #[.int .u8 114, .int .u8 119, .int .u8 120] 5 ov W → W.cell? ⟨go, 3, none⟩ = some (.int .i64 10)) := fun ov W hW => by rw [(HBK.out.below hW.bel HBK.out.lt).cell]; rfl
      have HC4 : Hid (∀ (ov : Option Value) W, K3 w2 #[.int .u8 114, .int .u8 119, .int .u8 120] 5 ov W → W.cell? ⟨go, 4, none⟩ = some (.string ⟨#[45, 120, 83, 115]⟩)) := fun ov W hW => by rw [(HBK.out.below hW.bel HBK.out.lt).cell]; rfl
      have HB0 : Hid (∀ ov W, K3 w2 #[.int .u8 114, .int .u8 119, .int .u8 120] 5 ov W → Calls Tryd.prog 35 #[.int .i64 5, .pointer (some ⟨w.heap.size, 0, none⟩)] W (fun e w'' => e = .returned (.int .u32 1) ∧ K3 w2 #[.int .u8 114, .int .u8 119, .int .u8 120] 5 ov w'')) := fun ov W hW => (bit_lo 5 w.heap.size W (by decide) (by decide) (HM2.out.below hW.bel).md).mono fun e w' h => ⟨h.1, by rw [h.2]; exact hW⟩
      have HB1 : Hid (∀ ov W, K3 w2 #[.int .u8 114, .int .u8 119, .int .u8 120] 5 ov W → Calls Tryd.prog 35 #[.int .i64 4, .pointer (some ⟨w.heap.size, 0, none⟩)] W (fun e w'' => e = .returned (.int .u32 1) ∧ K3 w2 #[.int .u8 114, .int .u8 119, .int .u8 120] 5 ov w'')) := fun ov W hW => (bit_lo 4 w.heap.size W (by decide) (by decide) (HM2.out.below hW.bel).md).mono fun e w' h => ⟨h.1, by rw [h.2]; exact hW⟩
      have HB2 : Hid (∀ ov W, K3 w2 #[.int .u8 114, .int .u8 119, .int .u8 120] 5 ov W → Calls Tryd.prog 35 #[.int .i64 3, .pointer (some ⟨w.heap.size, 0, none⟩)] W (fun e w'' => e = .returned (.int .u32 1) ∧ K3 w2 #[.int .u8 114, .int .u8 119, .int .u8 120] 5 ov w'')) := fun ov W hW => (bit_lo 3 w.heap.size W (by decide) (by decide) (HM2.out.below hW.bel).md).mono fun e w' h => ⟨h.1, by rw [h.2]; exact hW⟩
      have HB3 : Hid (∀ ov W, K3 w2 #[.int .u8 114, .int .u8 119, .int .u8 120] 5 ov W → Calls Tryd.prog 35 #[.int .i64 10, .pointer (some ⟨w.heap.size, 0, none⟩)] W (fun e w'' => e = .returned (.int .u32 0) ∧ K3 w2 #[.int .u8 114, .int .u8 119, .int .u8 120] 5 ov w'')) := fun ov W hW => (bit_hi 10 w.heap.size W (by decide) (by decide) (HM2.out.below hW.bel).md).mono fun e w' h => ⟨h.1, by rw [h.2]; exact hW⟩
      have HDR : Hid (K3 w2 #[.int .u8 114, .int .u8 119, .int .u8 120] 5 none w2.drew) := (Below.refl _ _).drew
      refine wp_region_mk (K3 w2 #[.int .u8 114, .int .u8 119, .int .u8 120] 5) 25 24 _ (by kernel_rfl) (by kernel_rfl) rfl rfl HDR.out ?_
      simp only [List.take_succ_cons, List.take_zero, List.drop_succ_cons, List.drop_zero, skipL, Nat.reduceAdd, Nat.reduceBEq, Bool.false_eq_true, if_false, if_true]
      (refine wpQF_val rfl (.slice (some ⟨g, 0, none⟩) n cp) (fun ov W hW => by first | (go_simp; done) | (go_simp; rfl) | kernel_rfl) ?_; simp only [Act.put, List.setIfInBounds_toArray, List.set_cons_zero, List.set_cons_succ])
      (refine wpQF_val rfl (.func (.func 35) #[] #[.pointer (some ⟨w.heap.size, 0, none⟩)]) (fun ov W hW => by first | (go_simp; done) | (go_simp; rfl) | kernel_rfl) ?_; simp only [Act.put, List.setIfInBounds_toArray, List.set_cons_zero, List.set_cons_succ])
      (refine wpQF_val rfl (.pointer (some ⟨go, 0, none⟩)) (fun ov W hW => by first | (go_simp; done) | (go_simp; rfl) | kernel_rfl) ?_; simp only [Act.put, List.setIfInBounds_toArray, List.set_cons_zero, List.set_cons_succ])
      (refine wpQF_one rfl 3 (.tmp 29) rfl go 0 (.int .i64 5) rfl isagg_i64 HC0.out ?_; simp only [Act.put, List.setIfInBounds_toArray, List.set_cons_zero, List.set_cons_succ])
      (refine wpQF_call rfl (.int .u32 1) 35 #[.int .i64 5, .pointer (some ⟨w.heap.size, 0, none⟩)] (fun ov W hW => by go_simp) HB0.out ?_; simp only [Act.put, List.setIfInBounds_toArray, List.set_cons_zero, List.set_cons_succ])
      (refine wpQF_val rfl (.int .u8 114) (fun ov W hW => by first | (go_simp; done) | (go_simp; rfl) | kernel_rfl) ?_; simp only [Act.put, List.setIfInBounds_toArray, List.set_cons_zero, List.set_cons_succ])
      (refine wpQF_val rfl (.func (.func 35) #[] #[.pointer (some ⟨w.heap.size, 0, none⟩)]) (fun ov W hW => by first | (go_simp; done) | (go_simp; rfl) | kernel_rfl) ?_; simp only [Act.put, List.setIfInBounds_toArray, List.set_cons_zero, List.set_cons_succ])
      (refine wpQF_val rfl (.pointer (some ⟨go, 1, none⟩)) (fun ov W hW => by first | (go_simp; done) | (go_simp; rfl) | kernel_rfl) ?_; simp only [Act.put, List.setIfInBounds_toArray, List.set_cons_zero, List.set_cons_succ])
      (refine wpQF_one rfl 3 (.tmp 34) rfl go 1 (.int .i64 4) rfl isagg_i64 HC1.out ?_; simp only [Act.put, List.setIfInBounds_toArray, List.set_cons_zero, List.set_cons_succ])
      (refine wpQF_call rfl (.int .u32 1) 35 #[.int .i64 4, .pointer (some ⟨w.heap.size, 0, none⟩)] (fun ov W hW => by go_simp) HB1.out ?_; simp only [Act.put, List.setIfInBounds_toArray, List.set_cons_zero, List.set_cons_succ])
      (refine wpQF_val rfl (.int .u8 119) (fun ov W hW => by first | (go_simp; done) | (go_simp; rfl) | kernel_rfl) ?_; simp only [Act.put, List.setIfInBounds_toArray, List.set_cons_zero, List.set_cons_succ])
      (refine wpQF_val rfl (.pointer (some ⟨go, 4, none⟩)) (fun ov W hW => by first | (go_simp; done) | (go_simp; rfl) | kernel_rfl) ?_; simp only [Act.put, List.setIfInBounds_toArray, List.set_cons_zero, List.set_cons_succ])
      (refine wpQF_one rfl 9 (.tmp 38) rfl go 4 (.string ⟨#[45, 120, 83, 115]⟩) rfl isagg_str10 HC4.out ?_; simp only [Act.put, List.setIfInBounds_toArray, List.set_cons_zero, List.set_cons_succ])
      (refine wpQF_val rfl (.func (.func 35) #[] #[.pointer (some ⟨w.heap.size, 0, none⟩)]) (fun ov W hW => by first | (go_simp; done) | (go_simp; rfl) | kernel_rfl) ?_; simp only [Act.put, List.setIfInBounds_toArray, List.set_cons_zero, List.set_cons_succ])
      (refine wpQF_val rfl (.pointer (some ⟨go, 3, none⟩)) (fun ov W hW => by first | (go_simp; done) | (go_simp; rfl) | kernel_rfl) ?_; simp only [Act.put, List.setIfInBounds_toArray, List.set_cons_zero, List.set_cons_succ])
      (refine wpQF_one rfl 3 (.tmp 41) rfl go 3 (.int .i64 10) rfl isagg_i64 HC3.out ?_; simp only [Act.put, List.setIfInBounds_toArray, List.set_cons_zero, List.set_cons_succ])
      (refine wpQF_call rfl (.int .u32 0) 35 #[.int .i64 10, .pointer (some ⟨w.heap.size, 0, none⟩)] (fun ov W hW => by go_simp) HB3.out ?_; simp only [Act.put, List.setIfInBounds_toArray, List.set_cons_zero, List.set_cons_succ])
      (refine wpQF_val rfl (.int .u32 0) (fun ov W hW => by first | (go_simp; done) | (go_simp; rfl) | kernel_rfl) ?_; simp only [Act.put, List.setIfInBounds_toArray, List.set_cons_zero, List.set_cons_succ])
      (refine wpQF_val rfl (.func (.func 35) #[] #[.pointer (some ⟨w.heap.size, 0, none⟩)]) (fun ov W hW => by first | (go_simp; done) | (go_simp; rfl) | kernel_rfl) ?_; simp only [Act.put, List.setIfInBounds_toArray, List.set_cons_zero, List.set_cons_succ])
      (refine wpQF_val rfl (.pointer (some ⟨go, 2, none⟩)) (fun ov W hW => by first | (go_simp; done) | (go_simp; rfl) | kernel_rfl) ?_; simp only [Act.put, List.setIfInBounds_toArray, List.set_cons_zero, List.set_cons_succ])
      (refine wpQF_one rfl 3 (.tmp 46) rfl go 2 (.int .i64 3) rfl isagg_i64 HC2.out ?_; simp only [Act.put, List.setIfInBounds_toArray, List.set_cons_zero, List.set_cons_succ])
      (refine wpQF_call rfl (.int .u32 1) 35 #[.int .i64 3, .pointer (some ⟨w.heap.size, 0, none⟩)] (fun ov W hW => by go_simp) HB2.out ?_; simp only [Act.put, List.setIfInBounds_toArray, List.set_cons_zero, List.set_cons_succ])
      (refine wpQF_val rfl (.int .u32 1) (fun ov W hW => by first | (go_simp; done) | (go_simp; rfl) | kernel_rfl) ?_; simp only [Act.put, List.setIfInBounds_toArray, List.set_cons_zero, List.set_cons_succ])
      (refine wpQF_val rfl (.int .u8 120) (fun ov W hW => by first | (go_simp; done) | (go_simp; rfl) | kernel_rfl) ?_; simp only [Act.put, List.setIfInBounds_toArray, List.set_cons_zero, List.set_cons_succ])
      refine wpQF_nil ⟨mkF_bs3 58 (.tmp 32) (.tmp 37) (.tmp 50) rfl (.int .u8 114) (.int .u8 119) (.int .u8 120) rfl rfl rfl (fun W hW => ⟨_, _, slice3 _ _ _ W, K3.made hW⟩), ?_⟩
      intro v w8 h8
      obtain ⟨g8, rfl, hbk8, hb8⟩ := h8
      have HM8 := HM2.out.below hb8
      obtain ⟨g7, cp7, w7, hrun, ho7, hc7, hb7, hz7⟩ := mapp2 w w8 g cp n g8 (mls 1) 114 119 120 114 119 120 rfl rfl rfl HM8.bel HM8.md HM8.ow HM8.sz (by have := HN.out; omega) hbk8
      have HM7 : Hid (MI w 2 (n + 3) g7 cp7 w7) := ⟨hb7, hc7, ho7, hz7⟩
      clear ho7 hc7 hb7 hz7 HM8 hb8 hbk8 HC0 HC1 HC2 HC3 HC4 HB0 HB1 HB2 HB3 HM2 HBK HDR HR
      simp only [Act.put, List.setIfInBounds_toArray, List.set_cons_zero, List.set_cons_succ]
      refine wpList_appR10 rfl (.tmp 27) (.tmp 51) 58 58 rfl (.slice (some ⟨g, 0, none⟩) n cp) (.slice (some ⟨g8, 0, none⟩) 3 3) (.slice (some ⟨g7, 0, none⟩) (n + 3) cp7) w7 rfl rfl hrun ?_
      simp only [Act.put, List.setIfInBounds_toArray, List.set_cons_zero, List.set_cons_succ]
      clear hrun
      go_wp2
      go_roundw
      case rel => exact ⟨2, n + 3, g7, cp7, rfl, rfl, by omega, by have := HN.out; show n + 3 = _; omega, HM7.out⟩
      case measure => simp [intOf]
    · have tx := tix2
      go_wp2_with fail
      obtain ⟨w2, hw2⟩ : ∃ w2, w2 = wr.alloc (.cells #[.int .i64 2, .int .i64 1, .int .i64 0, .int .i64 9, .string ⟨#[45, 120, 84, 116]⟩] 89) := ⟨_, rfl⟩
      obtain ⟨go, hgo⟩ : ∃ go, go = wr.heap.size := ⟨_, rfl⟩
      have HBK : Hid (Bk w2 go #[.int .i64 2, .int .i64 1, .int .i64 0, .int .i64 9, .string ⟨#[45, 120, 84, 116]⟩] 89) := by rw [hw2, hgo]; exact bk_new _ _ _
      have HM2 : Hid (MI w 2 n g cp w2) := by rw [hw2]; exact HR.out.below ((Below.refl _ _).alloc (Nat.le_refl _) _)
      rw [← hw2, ← hgo]
      clear hw2 hgo tx
      have HC0 : Hid (∀ (ov : Option Value) W, K3 w2 #[.int .u8 114, .int .u8 119, .int .u8 116] 5 ov W → W.cell? ⟨go, 0, none⟩ = some (.int .i64 2)) := fun ov W hW => by rw [(HBK.out.below hW.bel HBK.out.lt).cell]; rfl
      have HC1 : Hid (∀ (ov : Option Value) W, K3 w2 #[.int .u8 114, .int .u8 119, .int .u8 116] 5 ov W → W.cell? ⟨go, 1, none⟩ = some (.int .i64 1)) := fun ov W hW => by rw [(HBK.out.below hW.bel HBK.out.lt).cell]; rfl
      have HC2 : Hid (∀ (ov : Option Value) W, K3 w2 #[.int .u8 114, .int .u8 119, .int .u8 116] 5 ov W → W.cell? ⟨go, 2, none⟩ = some (.int .i64 0)) := fun ov W hW => by rw [(HBK.out.below hW.bel HBK.out.lt).cell]; rfl
      have HC3 : Hid (∀ (ov : Option Value) W, K3 w2 #[.int .u8 114, .int .u8 119, .int .u8 116] 5 ov W → W.cell? ⟨go, 3, none⟩ = some (.int .i64 9)) := fun ov W hW => by rw [(HBK.out.below hW.bel HBK.out.lt).cell]; rfl
      have HC4 : Hid (∀ (ov : Option Value) W, K3 w2 #[.int .u8 114, .int .u8 119, .int .u8 116] 5 ov W → W.cell? ⟨go, 4, none⟩ = some (.string ⟨#[45, 120, 84, 116]⟩)) := fun ov W hW => by rw [(HBK.out.below hW.bel HBK.out.lt).cell]; rfl
      have HB0 : Hid (∀ ov W, K3 w2 #[.int .u8 114, .int .u8 119, .int .u8 116] 5 ov W → Calls Tryd.prog 35 #[.int .i64 2, .pointer (some ⟨w.heap.size, 0, none⟩)] W (fun e w'' => e = .returned (.int .u32 1) ∧ K3 w2 #[.int .u8 114, .int .u8 119, .int .u8 116] 5 ov w'')) := fun ov W hW => (bit_lo 2 w.heap.size W (by decide) (by decide) (HM2.out.below hW.bel).md).mono fun e w' h => ⟨h.1, by rw [h.2]; exact hW⟩
      have HB1 : Hid (∀ ov W, K3 w2 #[.int .u8 114, .int .u8 119, .int .u8 116] 5 ov W → Calls Tryd.prog 35 #[.int .i64 1, .pointer (some ⟨w.heap.size, 0, none⟩)] W (fun e w'' => e = .returned (.int .u32 1) ∧ K3 w2 #[.int .u8 114, .int .u8 119, .int .u8 116] 5 ov w'')) := fun ov W hW => (bit_lo 1 w.heap.size W (by decide) (by decide) (HM2.out.below hW.bel).md).mono fun e w' h => ⟨h.1, by rw [h.2]; exact hW⟩
      have HB2 : Hid (∀ ov W, K3 w2 #[.int .u8 114, .int .u8 119, .int .u8 116] 5 ov W → Calls Tryd.prog 35 #[.int .i64 0, .pointer (some ⟨w.heap.size, 0, none⟩)] W (fun e w'' => e = .returned (.int .u32 1) ∧ K3 w2 #[.int .u8 114, .int .u8 119, .int .u8 116] 5 ov w'')) := fun ov W hW => (bit_lo 0 w.heap.size W (by decide) (by decide) (HM2.out.below hW.bel).md).mono fun e w' h => ⟨h.1, by rw [h.2]; exact hW⟩
      have HB3 : Hid (∀ ov W, K3 w2 #[.int .u8 114, .int .u8 119, .int .u8 116] 5 ov W → Calls Tryd.prog 35 #[.int .i64 9, .pointer (some ⟨w.heap.size, 0, none⟩)] W (fun e w'' => e = .returned (.int .u32 1) ∧ K3 w2 #[.int .u8 114, .int .u8 119, .int .u8 116] 5 ov w'')) := fun ov W hW => (bit_lo 9 w.heap.size W (by decide) (by decide) (HM2.out.below hW.bel).md).mono fun e w' h => ⟨h.1, by rw [h.2]; exact hW⟩
      have HDR : Hid (K3 w2 #[.int .u8 114, .int .u8 119, .int .u8 116] 5 none w2.drew) := (Below.refl _ _).drew
      refine wp_region_mk (K3 w2 #[.int .u8 114, .int .u8 119, .int .u8 116] 5) 25 24 _ (by kernel_rfl) (by kernel_rfl) rfl rfl HDR.out ?_
      simp only [List.take_succ_cons, List.take_zero, List.drop_succ_cons, List.drop_zero, skipL, Nat.reduceAdd, Nat.reduceBEq, Bool.false_eq_true, if_false, if_true]
      (refine wpQF_val rfl (.slice (some ⟨g, 0, none⟩) n cp) (fun ov W hW => by first | (go_simp; done) | (go_simp; rfl) | kernel_rfl) ?_; simp only [Act.put, List.setIfInBounds_toArray, List.set_cons_zero, List.set_cons_succ])
      (refine wpQF_val rfl (.func (.func 35) #[] #[.pointer (some ⟨w.heap.size, 0, none⟩)]) (fun ov W hW => by first | (go_simp; done) | (go_simp; rfl) | kernel_rfl) ?_; simp only [Act.put, List.setIfInBounds_toArray, List.set_cons_zero, List.set_cons_succ])
      (refine wpQF_val rfl (.pointer (some ⟨go, 0, none⟩)) (fun ov W hW => by first | (go_simp; done) | (go_simp; rfl) | kernel_rfl) ?_; simp only [Act.put, List.setIfInBounds_toArray, List.set_cons_zero, List.set_cons_succ])
      (refine wpQF_one rfl 3 (.tmp 29) rfl go 0 (.int .i64 2) rfl isagg_i64 HC0.out ?_; simp only [Act.put, List.setIfInBounds_toArray, List.set_cons_zero, List.set_cons_succ])
      (refine wpQF_call rfl (.int .u32 1) 35 #[.int .i64 2, .pointer (some ⟨w.heap.size, 0, none⟩)] (fun ov W hW => by go_simp) HB0.out ?_; simp only [Act.put, List.setIfInBounds_toArray, List.set_cons_zero, List.set_cons_succ])
      (refine wpQF_val rfl (.int .u8 114) (fun ov W hW => by first | (go_simp; done) | (go_simp; rfl) | kernel_rfl) ?_; simp only [Act.put, List.setIfInBounds_toArray, List.set_cons_zero, List.set_cons_succ])
      (refine wpQF_val rfl (.func (.func 35) #[] #[.pointer (some ⟨w.heap.size, 0, none⟩)]) (fun ov W hW => by first | (go_simp; done) | (go_simp; rfl) | kernel_rfl) ?_; simp only [Act.put, List.setIfInBounds_toArray, List.set_cons_zero, List.set_cons_succ])
      (refine wpQF_val rfl (.pointer (some ⟨go, 1, none⟩)) (fun ov W hW => by first | (go_simp; done) | (go_simp; rfl) | kernel_rfl) ?_; simp only [Act.put, List.setIfInBounds_toArray, List.set_cons_zero, List.set_cons_succ])
      (refine wpQF_one rfl 3 (.tmp 34) rfl go 1 (.int .i64 1) rfl isagg_i64 HC1.out ?_; simp only [Act.put, List.setIfInBounds_toArray, List.set_cons_zero, List.set_cons_succ])
      (refine wpQF_call rfl (.int .u32 1) 35 #[.int .i64 1, .pointer (some ⟨w.heap.size, 0, none⟩)] (fun ov W hW => by go_simp) HB1.out ?_; simp only [Act.put, List.setIfInBounds_toArray, List.set_cons_zero, List.set_cons_succ])
      (refine wpQF_val rfl (.int .u8 119) (fun ov W hW => by first | (go_simp; done) | (go_simp; rfl) | kernel_rfl) ?_; simp only [Act.put, List.setIfInBounds_toArray, List.set_cons_zero, List.set_cons_succ])
      (refine wpQF_val rfl (.pointer (some ⟨go, 4, none⟩)) (fun ov W hW => by first | (go_simp; done) | (go_simp; rfl) | kernel_rfl) ?_; simp only [Act.put, List.setIfInBounds_toArray, List.set_cons_zero, List.set_cons_succ])
      (refine wpQF_one rfl 9 (.tmp 38) rfl go 4 (.string ⟨#[45, 120, 84, 116]⟩) rfl isagg_str10 HC4.out ?_; simp only [Act.put, List.setIfInBounds_toArray, List.set_cons_zero, List.set_cons_succ])
      (refine wpQF_val rfl (.func (.func 35) #[] #[.pointer (some ⟨w.heap.size, 0, none⟩)]) (fun ov W hW => by first | (go_simp; done) | (go_simp; rfl) | kernel_rfl) ?_; simp only [Act.put, List.setIfInBounds_toArray, List.set_cons_zero, List.set_cons_succ])
      (refine wpQF_val rfl (.pointer (some ⟨go, 3, none⟩)) (fun ov W hW => by first | (go_simp; done) | (go_simp; rfl) | kernel_rfl) ?_; simp only [Act.put, List.setIfInBounds_toArray, List.set_cons_zero, List.set_cons_succ])
      (refine wpQF_one rfl 3 (.tmp 41) rfl go 3 (.int .i64 9) rfl isagg_i64 HC3.out ?_; simp only [Act.put, List.setIfInBounds_toArray, List.set_cons_zero, List.set_cons_succ])
      (refine wpQF_call rfl (.int .u32 1) 35 #[.int .i64 9, .pointer (some ⟨w.heap.size, 0, none⟩)] (fun ov W hW => by go_simp) HB3.out ?_; simp only [Act.put, List.setIfInBounds_toArray, List.set_cons_zero, List.set_cons_succ])
      (refine wpQF_val rfl (.int .u32 2) (fun ov W hW => by first | (go_simp; done) | (go_simp; rfl) | kernel_rfl) ?_; simp only [Act.put, List.setIfInBounds_toArray, List.set_cons_zero, List.set_cons_succ])
      (refine wpQF_val rfl (.func (.func 35) #[] #[.pointer (some ⟨w.heap.size, 0, none⟩)]) (fun ov W hW => by first | (go_simp; done) | (go_simp; rfl) | kernel_rfl) ?_; simp only [Act.put, List.setIfInBounds_toArray, List.set_cons_zero, List.set_cons_succ])
      (refine wpQF_val rfl (.pointer (some ⟨go, 2, none⟩)) (fun ov W hW => by first | (go_simp; done) | (go_simp; rfl) | kernel_rfl) ?_; simp only [Act.put, List.setIfInBounds_toArray, List.set_cons_zero, List.set_cons_succ])
      (refine wpQF_one rfl 3 (.tmp 46) rfl go 2 (.int .i64 0) rfl isagg_i64 HC2.out ?_; simp only [Act.put, List.setIfInBounds_toArray, List.set_cons_zero, List.set_cons_succ])
      (refine wpQF_call rfl (.int .u32 1) 35 #[.int .i64 0, .pointer (some ⟨w.heap.size, 0, none⟩)] (fun ov W hW => by go_simp) HB2.out ?_; simp only [Act.put, List.setIfInBounds_toArray, List.set_cons_zero, List.set_cons_succ])
      (refine wpQF_val rfl (.int .u32 3) (fun ov W hW => by first | (go_simp; done) | (go_simp; rfl) | kernel_rfl) ?_; simp only [Act.put, List.setIfInBounds_toArray, List.set_cons_zero, List.set_cons_succ])
      (refine wpQF_val rfl (.int .u8 116) (fun ov W hW => by first | (go_simp; done) | (go_simp; rfl) | kernel_rfl) ?_; simp only [Act.put, List.setIfInBounds_toArray, List.set_cons_zero, List.set_cons_succ])
      refine wpQF_nil ⟨mkF_bs3 58 (.tmp 32) (.tmp 37) (.tmp 50) rfl (.int .u8 114) (.int .u8 119) (.int .u8 116) rfl rfl rfl (fun W hW => ⟨_, _, slice3 _ _ _ W, K3.made hW⟩), ?_⟩
      intro v w8 h8
      obtain ⟨g8, rfl, hbk8, hb8⟩ := h8
      have HM8 := HM2.out.below hb8
      obtain ⟨g7, cp7, w7, hrun, ho7, hc7, hb7, hz7⟩ := mapp2 w w8 g cp n g8 (mls 2) 114 119 116 114 119 116 rfl rfl rfl HM8.bel HM8.md HM8.ow HM8.sz (by have := HN.out; omega) hbk8
      have HM7 : Hid (MI w 3 (n + 3) g7 cp7 w7) := ⟨hb7, hc7, ho7, hz7⟩
      clear ho7 hc7 hb7 hz7 HM8 hb8 hbk8 HC0 HC1 HC2 HC3 HC4 HB0 HB1 HB2 HB3 HM2 HBK HDR HR
      simp only [Act.put, List.setIfInBounds_toArray, List.set_cons_zero, List.set_cons_succ]
      refine wpList_appR10 rfl (.tmp 27) (.tmp 51) 58 58 rfl (.slice (some ⟨g, 0, none⟩) n cp) (.slice (some ⟨g8, 0, none⟩) 3 3) (.slice (some ⟨g7, 0, none⟩) (n + 3) cp7) w7 rfl rfl hrun ?_
      simp only [Act.put, List.setIfInBounds_toArray, List.set_cons_zero, List.set_cons_succ]
      clear hrun
      go_wp2
      go_roundw
      case rel => exact ⟨3, n + 3, g7, cp7, rfl, rfl, by omega, by have := HN.out; show n + 3 = _; omega, HM7.out⟩
      case measure => simp [intOf]
    · have hcv := conv10 HR.out.ow
      go_wp2
      go_ret2
      exact ⟨rfl, HR.out.bel⟩
end Go.Proofs.YtcfniaknbbgheaaDoor
