import Derived.Test.YtpfknjnigcefgaaGreatDoorY37
import Derived.Test.YtpfknjnigcefgaaGreatDoorY30
/- The document's own Salvage (munimentref11). -/
namespace Go.Proofs.YtpfknjnigcefgaaGreatDoor
open Go.RowKit
set_option linter.unusedSimpArgs false
set_option linter.unusedVariables false
set_option maxRecDepth 100000 in
theorem built32R (a0 a1 a2 a3 a4 a5 a6 a7 a8 a9 a10 a11 a12 a13 a14 a15 a16 a17 a18 a19 a20 a21 a22 a23 a24 a25 a26 a27 a28 a29 a30 a31 : Value) (k a n : Int) : Tryz.prog.built 56 [(0, .agg #[a0, a1, a2, a3, a4, a5, a6, a7, a8, a9, a10, a11, a12, a13, a14, a15, a16, a17, a18, a19, a20, a21, a22, a23, a24, a25, a26, a27, a28, a29, a30, a31]), (1, .int .u8 k), (2, .int .i64 a), (3, .int .i64 n)] = some #[a0, a1, a2, a3, a4, a5, a6, a7, a8, a9, a10, a11, a12, a13, a14, a15, a16, a17, a18, a19, a20, a21, a22, a23, a24, a25, a26, a27, a28, a29, a30, a31, .int .u8 k, .int .i64 a, .int .i64 n] := by kernel_rfl
theorem build_enR (e : Ent) (h : e.id.size = 32) (w : World) : (Instr.build 56 #[(0, .agg (idc e.id)), (1, .int .u8 (e.k.toNat : Int)), (2, .int .i64 (e.off : Int)), (3, .int .i64 (e.sz : Int))]).run Tryz.prog w = .ok (.agg (enC e)) w := by
  refine run_build w _ _ _ ?_
  obtain ⟨a0, a1, a2, a3, a4, a5, a6, a7, a8, a9, a10, a11, a12, a13, a14, a15, a16, a17, a18, a19, a20, a21, a22, a23, a24, a25, a26, a27, a28, a29, a30, a31, hl⟩ := list32 (idc e.id).toList (by rw [Array.length_toList, idc_size, h])
  have e1 : idc e.id = #[a0, a1, a2, a3, a4, a5, a6, a7, a8, a9, a10, a11, a12, a13, a14, a15, a16, a17, a18, a19, a20, a21, a22, a23, a24, a25, a26, a27, a28, a29, a30, a31] := by rw [← Array.toArray_toList (xs := idc e.id), hl]
  have e2 : enC e = #[a0, a1, a2, a3, a4, a5, a6, a7, a8, a9, a10, a11, a12, a13, a14, a15, a16, a17, a18, a19, a20, a21, a22, a23, a24, a25, a26, a27, a28, a29, a30, a31, .int .u8 (e.k.toNat : Int), .int .i64 (e.off : Int), .int .i64 (e.sz : Int)] := by rw [enC, hl]; rfl
  rw [e1, e2]
  exact built32R _ _ _ _ _ _ _ _ _ _ _ _ _ _ _ _ _ _ _ _ _ _ _ _ _ _ _ _ _ _ _ _ _ _ _
theorem inf_enR : (Tryz.prog.info? 56).map (fun i => (i.zero, i.size, i.bytes)) = some (some (.agg z35), 35, 56) := by kernel_rfl
theorem inf_en35R : (Tryz.prog.info? 56).map (·.size) = some 35 := by kernel_rfl
theorem info_enR {C : Array Value} (h : C.size = 35) : (Tryz.prog.info? 56).map (·.size) = some C.size := by rw [h]; exact inf_en35R
theorem slice_enR (e : Ent) (h : e.id.size = 32) (w : World) : (Instr.buildSlice 24 1 #[(0, .agg (enC e))]).run Tryz.prog w = .ok (.slice (some ⟨w.heap.size, 0, none⟩) 1 1) (w.alloc (.cells (enC e) 56)) := by
  obtain ⟨i0, hi, hz0, hz1, hz2⟩ := info_parts inf_enR
  refine run_buildSlice w _ 56 1 _ _ i0 (.agg z35) Tryz.underlying24 hi hz0 (by rw [hz1]; decide) (by rw [hz1]; decide) ?_
  obtain ⟨a0, a1, a2, a3, a4, a5, a6, a7, a8, a9, a10, a11, a12, a13, a14, a15, a16, a17, a18, a19, a20, a21, a22, a23, a24, a25, a26, a27, a28, a29, a30, a31, hl⟩ := list32 (idc e.id).toList (by rw [Array.length_toList, idc_size, h])
  have e2 : enC e = #[a0, a1, a2, a3, a4, a5, a6, a7, a8, a9, a10, a11, a12, a13, a14, a15, a16, a17, a18, a19, a20, a21, a22, a23, a24, a25, a26, a27, a28, a29, a30, a31, .int .u8 (e.k.toNat : Int), .int .i64 (e.off : Int), .int .i64 (e.sz : Int)] := by rw [enC, hl]; rfl
  rw [e2, hz1]
  exact fill35 _ _ _ _ _ _ _ _ _ _ _ _ _ _ _ _ _ _ _ _ _ _ _ _ _ _ _ _ _ _ _ _ _ _ _
theorem quiet_bd {P : Program} {o : Oper} {a : Act} {C : World → Prop} {K : Act → Prop} (t : TypeId) (x0 x1 x2 x3 : Operand) (ho : o.op = .build t #[(0, x0), (1, x1), (2, x2), (3, x3)]) (v0 v1 v2 v3 r : Value)
    (h0 : a.eval x0 = v0) (h1 : a.eval x1 = v1) (h2 : a.eval x2 = v2) (h3 : a.eval x3 = v3) (hr : ∀ w, (Instr.build t #[(0, v0), (1, v1), (2, v2), (3, v3)]).run P w = .ok r w) (hn : K (a.put o.dst r)) : o.quiet P a C K :=
  quiet_val10 r (fun w hw => by
    unfold execOp
    simp only [ho, Sem.run_bind, Sem.run_pure, Result.andThen_ok, List.map_toArray, List.map_cons, List.map_nil, h0, h1, h2, h3, hr]) hn
/-- The document's entries so far, in a slice of the call's own. -/
structure RvS (w0 : World) (l : List Ent) (v : Value) (w : World) : Prop where
  ow : w.ownsRow w0.heap.size 56 35 v l.length (env l)
  bel : Below w0.heap.size w0 w
theorem rows_keepB {B n k : Nat} {w w' : World} {v : Value} {xs : List Value} {T : TypeId} (ho : w.ownsRow B T k v n xs) (h : Below w.heap.size w w') : w'.ownsRow B T k v n xs := by
  refine ⟨ho.1, ?_⟩
  rcases ho.2 with h1 | ⟨g, cap, cur, h1, h2, hc, h3⟩
  · exact .inl h1
  · exact .inr ⟨g, cap, cur, h1, h2, (h.block g (Array.getElem?_eq_some_iff.1 hc).1).trans hc, h3⟩
theorem RvS.keep {w0 w w' : World} {l : List Ent} {v : Value} (h : RvS w0 l v w) (hb : Below w.heap.size w w') : RvS w0 l v w' := ⟨rows_keepB h.ow hb, h.bel.trans (hb.mono h.bel.size)⟩
theorem RvS.app {w0 w : World} {l : List Ent} {v : Value} (h : RvS w0 l v w) (e : Ent) (he : e.id.size = 32) (hn : l.length < 1048576) {g : Nat} (hg : Bk w g (enC e) 56) :
    ∃ a c w7, (Builtin.append_ #[24, 24] 24 #[v, .slice (some ⟨g, 0, none⟩) 1 1]).run Tryz.prog w = .ok (.slice a (l.length + 1) c) w7 ∧ RvS w0 (l ++ [e]) (.slice a (l.length + 1) c) w7 := by
  obtain ⟨i0, hi, hz0, hz1, hz2⟩ := info_parts inf_enR
  have hz := h.bel.size
  obtain ⟨v', w7, hrun, hown, hgrow, _, hat⟩ := run_append_own_at (P := Tryz.prog) (w := w) w0.heap.size 24 24 56 i0 (.agg z35) 35 56 Tryz.underlying24 hi hz0 hz1 hz2 rfl (by decide) v l.length (env l) h.ow ⟨g, 0, none⟩ 1 1 (enC e).toList
    (by rw [Array.length_toList, enC_size e he]) (fun j u hu => by
      rw [WideShapes.add_plain, Nat.zero_add, hg.cell]
      rwa [Array.getElem?_toList] at hu) (enC_one e) (by unfold maxLen; omega) (by omega) hz
  have ho : w7.ownsRow w0.heap.size 56 35 v' (l.length + 1) (env (l ++ [e])) := by rw [env_snoc]; exact hown
  obtain ⟨a', c', hv'⟩ := row_slice ho
  subst hv'
  refine ⟨a', c', w7, hrun, ⟨by rw [List.length_append]; exact ho, ?_⟩⟩
  exact rows_bel h.bel hz h.ow (Nat.le_refl _) hgrow
/-- Worlds that have grown, with or without a slice of one that was made. -/
def KB (w0 : World) (z : Array Value) (T : TypeId) : Option Value → World → Prop
  | none, W => Below w0.heap.size w0 W
  | some v, W => ∃ g, v = .slice (some ⟨g, 0, none⟩) 1 1 ∧ Bk W g z T ∧ Below w0.heap.size w0 W
theorem KB.bel {w0 W : World} {z : Array Value} {T : TypeId} {ov : Option Value} (h : KB w0 z T ov W) : Below w0.heap.size w0 W := by
  cases ov with
  | none => exact h
  | some v => obtain ⟨g, _, _, h⟩ := h; exact h
theorem KB.up {w0 W W' : World} {z : Array Value} {T : TypeId} {ov : Option Value} (h : KB w0 z T ov W) (hb : Below W.heap.size W W') : KB w0 z T ov W' := by
  cases ov with
  | none => exact Below.trans h (hb.mono h.size)
  | some v => obtain ⟨g, h1, h3, h4⟩ := h; exact ⟨g, h1, h3.below hb h3.lt, h4.trans (hb.mono h4.size)⟩
theorem KB.made {w0 W : World} {z : Array Value} {T : TypeId} (h : KB w0 z T none W) : KB w0 z T (some (.slice (some ⟨W.heap.size, 0, none⟩) 1 1)) (W.alloc (.cells z T)) :=
  ⟨W.heap.size, rfl, bk_new _ _ _, Below.alloc h (Below.size h) _⟩
theorem pm_doc (s : ByteArray) : pmB s = true ↔ 4 ≤ s.size ∧ s.extract 0 4 = mkB := by
  simp only [pmB, Bool.and_eq_true, decide_eq_true_eq, beq_iff_eq]
  constructor
  · rintro ⟨h1, h2⟩
    refine ⟨h1, bl_inj ?_⟩
    rw [bl_extract, List.drop_zero, h2]; rfl
  · rintro ⟨h1, h2⟩
    refine ⟨h1, ?_⟩
    have := congrArg bl h2
    rw [bl_extract, List.drop_zero] at this
    exact this
set_option maxHeartbeats 4000000 in
set_option maxRecDepth 100000 in
theorem rsalv_yes (s : ByteArray) (w : World) (hs : s.size ≤ 140737488351232) (hp : pmB s = true) :
    Calls Tryz.prog 75 #[.string s] w fun e w' => ∃ l v, e = .returned v ∧ SvA s l ∧ w'.ownsRow w.heap.size 56 35 v l.length (env l) ∧ Below w.heap.size w w' := by
  have hmk : (⟨#[109, 112, 107, 49]⟩ : ByteArray) = mkB := rfl
  obtain ⟨h4, hx4⟩ := (pm_doc s).1 hp
  have HPM : Hid (pmB s = true) := hp
  have h4z : ¬ (s.size : Int) < 4 := by omega
  have h4y : (4 : Int) ≤ (s.size : Int) := by omega
  have hee : (mkB.toList != mkB.toList) = false := by simp
  clear hp
  go_enter Tryz.func75, Tryz.ntmps75
  go_wp2
  go_loopw [3, 4] (fun x v wr => ∃ (a N : Nat) (au : Option Addr) (cu : Nat), x = .slice au N cu ∧ v = .int .i64 a ∧ a ≤ s.size ∧ N ≤ 65536 ∧ Hid (∃ l : List Ent, l.length = N ∧ Rn tkA s a l ∧ RvS w l (.slice au N cu) wr)) (fun x v _ => s.size + 1 - (intOf v).toNat)
  case atStart => exact ⟨4, 0, none, 0, rfl, rfl, h4, by omega, [], rfl, .z, rows_none, Below.refl _ _⟩
  case round =>
    obtain ⟨a, N, au, cu, rfl, rfl, ha, hN, HR⟩ := hrel
    by_cases hlt : N < 65536
    · have hltz : (N : Int) < 65536 := by omega
      obtain ⟨l, hl, hrn, hrv⟩ := HR.out
      have HL : Hid (l.length = N ∧ Rn tkA s a l ∧ RvS w l (.slice au N cu) wr) := ⟨hl, hrn, hrv⟩
      have haz : (a : Int) ≤ (s.size : Int) := by omega
      obtain ⟨X, hX⟩ : ∃ X, s.extract a s.size = X := ⟨_, rfl⟩
      have HX : Hid (X = frmO s a) := hX.symm
      have hXz : X.size ≤ 140737488355328 := by rw [HX.out, frmO_size]; omega
      have hfa := ft_at X
      have hn0 := atN_zero (s := X)
      have hpz := ftO_size X
      clear hl hrn hrv HR
      go_wp2_with fail
      refine (rat_any X _ (by unfold maxLen; omega)).mono ?_
      rintro e w1 ⟨rfl, hb⟩
      have HV1 : Hid (RvS w l (.slice au N cu) w1) := HL.out.2.2.keep hb
      obtain ⟨kk, hk⟩ : ∃ k, k = (ftO X).k := ⟨_, rfl⟩
      obtain ⟨p, hp⟩ : ∃ p, p = (ftO X).p := ⟨_, rfl⟩
      obtain ⟨n, hn⟩ : ∃ n : Nat, n = atN X := ⟨_, rfl⟩
      rw [← hk, ← hp, ← hn]
      rw [← hp] at hpz
      rw [← hn] at hn0
      have HN : Hid (n = atN X) := hn
      have HO : Hid (ftO X = ⟨kk, p⟩) := by show _ = _; rw [hk, hp]
      clear hb hk hp hn
      rcases hfa with ⟨q1, q2, q3⟩ | ⟨q1, q2, q3⟩
      · have hz : ((n : Int) == 0) = false := by rw [hn0, q1]; rfl
        have hat : atB (frmO s a) = true := by rw [← HX.out]; exact q1
        have hao : atO (frmO s a) = ⟨kk, p⟩ := by rw [← HX.out, ← q2]; exact HO.out
        have hnn : n = 9 + p.size := by rw [HN.out, atN, if_pos q1, ← q2, HO.out]
        obtain ⟨x, hx⟩ : ∃ x, x = nmO ⟨kk, p⟩ := ⟨_, rfl⟩
        have hxz : x.size = 32 := by rw [hx]; exact nmO_size _
        have hen : enA s a = ⟨x, kk, a, p.size⟩ := by simp only [enA, hao, hx]
        have HRN : Hid (Rn tkA s (a + n) (l ++ [⟨x, kk, a, p.size⟩])) := by
          have h := Rn.st HL.out.2.1 hat (by rw [tkA, HL.out.1]; simp; omega)
          rw [hen] at h
          rw [hnn, ← Nat.add_assoc]
          exact h
        have hle : a + n ≤ s.size := (HRN.out.le h4).2.1
        obtain ⟨E, hE⟩ : ∃ E, E = enC ⟨x, kk, a, p.size⟩ := ⟨_, rfl⟩
        have HBD : Hid (∀ W, (Instr.build 56 #[(0, .agg (idc x)), (1, .int .u8 (kk.toNat : Int)), (2, .int .i64 (a : Int)), (3, .int .i64 (p.size : Int))]).run Tryz.prog W = .ok (.agg E) W) := fun W => by rw [hE]; exact build_enR ⟨x, kk, a, p.size⟩ hxz W
        have HCO : Hid (∀ ov W, KB (w1.alloc (.cells #[.int .u8 (kk.toNat : Int), .string p] 163)) E 56 ov W → Calls Tryz.prog 113 #[.int .u8 (kk.toNat : Int), .string p] W (fun e w'' => e = .returned (.agg (idc x)) ∧ KB (w1.alloc (.cells #[.int .u8 (kk.toNat : Int), .string p] 163)) E 56 ov w'')) := fun ov W hW =>
          (rof_nm ⟨kk, p⟩ W (by simp only; omega)).mono fun e w' h => ⟨by rw [hx]; exact h.1, hW.up h.2⟩
        have HV2 : Hid (RvS w l (.slice au N cu) (w1.alloc (.cells #[.int .u8 (kk.toNat : Int), .string p] 163))) := HV1.out.keep ((Below.refl _ _).alloc (Nat.le_refl _) _)
        have hbk : Bk (w1.alloc (.cells #[.int .u8 (kk.toNat : Int), .string p] 163)) w1.heap.size #[.int .u8 (kk.toNat : Int), .string p] 163 := bk_new _ _ _
        have HBK : Hid (Bk (w1.alloc (.cells #[.int .u8 (kk.toNat : Int), .string p] 163)) w1.heap.size #[.int .u8 (kk.toNat : Int), .string p] 163) := hbk
        have HSE : Hid (∀ W, (Instr.buildSlice 24 1 #[(0, .agg E)]).run Tryz.prog W = .ok (.slice (some ⟨W.heap.size, 0, none⟩) 1 1) (W.alloc (.cells E 56))) := fun W => by rw [hE]; exact slice_enR ⟨x, kk, a, p.size⟩ hxz W
        have HAP : Hid (∀ W g, RvS w l (.slice au N cu) W → Bk W g E 56 → ∃ b c w7, (Builtin.append_ #[24, 24] 24 #[.slice au N cu, .slice (some ⟨g, 0, none⟩) 1 1]).run Tryz.prog W = .ok (.slice b (N + 1) c) w7 ∧ RvS w (l ++ [⟨x, kk, a, p.size⟩]) (.slice b (N + 1) c) w7) := fun W g hW hg => by
          have := hW.app ⟨x, kk, a, p.size⟩ hxz (by rw [HL.out.1]; omega) (g := g) (by rw [← hE]; exact hg)
          rw [HL.out.1] at this
          exact this
        have hnz : n ≤ 2097161 := by omega
        clear hn0 q1 q2 q3 hat hao hx hen hE hnn hbk
        go_wp2_with fail
        obtain ⟨w2, hw2⟩ : ∃ w2, w2 = w1.alloc (.cells #[.int .u8 (kk.toNat : Int), .string p] 163) := ⟨_, rfl⟩
        obtain ⟨go, hgo⟩ : ∃ go, go = w1.heap.size := ⟨_, rfl⟩
        rw [← hw2] at HCO HV2 HBK ⊢
        rw [← hgo] at HBK ⊢
        have HC0 : Hid (∀ (ov : Option Value) W, KB w2 E 56 ov W → W.cell? ⟨go, 0, none⟩ = some (.int .u8 (kk.toNat : Int))) := fun ov W hW => by rw [(HBK.out.below hW.bel HBK.out.lt).cell]; rfl
        have HC1 : Hid (∀ (ov : Option Value) W, KB w2 E 56 ov W → W.cell? ⟨go, 1, none⟩ = some (.string p)) := fun ov W hW => by rw [(HBK.out.below hW.bel HBK.out.lt).cell]; rfl
        clear hw2 hgo HV1 HBK
        have HDR : Hid (KB w2 E 56 none w2.drew) := (Below.refl _ _).drew
        refine wp_region_mk (KB w2 E 56) 14 13 _ (by kernel_rfl) (by kernel_rfl) rfl rfl HDR.out ?_
        simp only [List.take_succ_cons, List.take_zero, List.drop_succ_cons, List.drop_zero, skipL, Nat.reduceAdd, Nat.reduceBEq, Bool.false_eq_true, if_false, if_true]
        (refine wpQF_val rfl (.slice au N cu) (fun ov W hW => by go_simp) ?_; simp only [Act.put, List.setIfInBounds_toArray, List.set_cons_zero, List.set_cons_succ])
        (refine wpQF_val rfl (.pointer (some ⟨go, 0, none⟩)) (fun ov W hW => by go_simp) ?_; simp only [Act.put, List.setIfInBounds_toArray, List.set_cons_zero, List.set_cons_succ])
        (refine wpQF_one rfl 5 (.tmp 29) rfl go 0 (.int .u8 (kk.toNat : Int)) rfl isagg_u8 HC0.out ?_; simp only [Act.put, List.setIfInBounds_toArray, List.set_cons_zero, List.set_cons_succ])
        (refine wpQF_val rfl (.pointer (some ⟨go, 1, none⟩)) (fun ov W hW => by go_simp) ?_; simp only [Act.put, List.setIfInBounds_toArray, List.set_cons_zero, List.set_cons_succ])
        (refine wpQF_one rfl 9 (.tmp 31) rfl go 1 (.string p) rfl isagg_str HC1.out ?_; simp only [Act.put, List.setIfInBounds_toArray, List.set_cons_zero, List.set_cons_succ])
        (refine wpQF_call rfl (.agg (idc x)) 113 #[.int .u8 (kk.toNat : Int), .string p] (fun ov W hW => by go_simp) HCO.out ?_; simp only [Act.put, List.setIfInBounds_toArray, List.set_cons_zero, List.set_cons_succ])
        (refine wpQF_val rfl (.pointer (some ⟨go, 0, none⟩)) (fun ov W hW => by go_simp) ?_; simp only [Act.put, List.setIfInBounds_toArray, List.set_cons_zero, List.set_cons_succ])
        (refine wpQF_one rfl 5 (.tmp 34) rfl go 0 (.int .u8 (kk.toNat : Int)) rfl isagg_u8 HC0.out ?_; simp only [Act.put, List.setIfInBounds_toArray, List.set_cons_zero, List.set_cons_succ])
        (refine wpQF_val rfl (.int .i64 (a : Int)) (fun ov W hW => by go_simp) ?_; simp only [Act.put, List.setIfInBounds_toArray, List.set_cons_zero, List.set_cons_succ])
        (refine wpQF_val rfl (.pointer (some ⟨go, 1, none⟩)) (fun ov W hW => by go_simp) ?_; simp only [Act.put, List.setIfInBounds_toArray, List.set_cons_zero, List.set_cons_succ])
        (refine wpQF_one rfl 9 (.tmp 37) rfl go 1 (.string p) rfl isagg_str HC1.out ?_; simp only [Act.put, List.setIfInBounds_toArray, List.set_cons_zero, List.set_cons_succ])
        (refine wpQF_val rfl (.int .i64 (p.size : Int)) (fun ov W hW => by go_simp) ?_; simp only [Act.put, List.setIfInBounds_toArray, List.set_cons_zero, List.set_cons_succ])
        (refine wpQF_bd rfl 56 (.tmp 33) (.tmp 35) (.tmp 36) (.tmp 39) rfl (.agg (idc x)) (.int .u8 (kk.toNat : Int)) (.int .i64 (a : Int)) (.int .i64 (p.size : Int)) (.agg E) rfl rfl rfl rfl HBD.out ?_; simp only [Act.put, List.setIfInBounds_toArray, List.set_cons_zero, List.set_cons_succ])
        refine wpQF_nil ⟨mkF_bs 24 (.tmp 40) rfl (.agg E) rfl (fun W hW => ⟨_, _, HSE.out W, KB.made hW⟩), ?_⟩
        intro v w8 h8
        obtain ⟨g8, rfl, hbk8, hb8⟩ := h8
        have HV6 : Hid (RvS w l (.slice au N cu) w8) := HV2.out.keep hb8
        obtain ⟨b7, c7, w7, hrun, hv7⟩ := HAP.out w8 g8 HV6.out hbk8
        have HV7 : Hid (RvS w (l ++ [⟨x, kk, a, p.size⟩]) (.slice b7 (N + 1) c7) w7) := hv7
        clear hv7 hb8 hbk8 HV6 HAP HSE HC0 HC1 HCO HBD HV2
        simp only [Act.put, List.setIfInBounds_toArray, List.set_cons_zero, List.set_cons_succ]
        refine wpList_appR rfl (.tmp 28) (.tmp 41) 24 24 rfl (.slice au N cu) (.slice (some ⟨g8, 0, none⟩) 1 1) (.slice b7 (N + 1) c7) w7 rfl rfl hrun ?_
        simp only [Act.put, List.setIfInBounds_toArray, List.set_cons_zero, List.set_cons_succ]
        clear hrun
        go_wp2
        go_roundw
        case rel => exact ⟨a + n, N + 1, b7, c7, rfl, by go_num, hle, by omega, l ++ [⟨x, kk, a, p.size⟩], by rw [List.length_append, HL.out.1]; rfl, HRN.out, HV7.out⟩
        case measure =>
          have : n ≠ 0 := by intro h; rw [h] at hz; cases hz
          simp [intOf]; omega
      · have hz : ((n : Int) == 0) = true := by rw [hn0, q1]; rfl
        have HST : Hid (Stk tkA s a l) := ⟨HL.out.2.1, by rw [← HX.out, q1]; simp⟩
        have HV2 : Hid (RvS w l (.slice au N cu) (w1.alloc (.cells #[.int .u8 (kk.toNat : Int), .string p] 163))) := HV1.out.keep ((Below.refl _ _).alloc (Nat.le_refl _) _)
        clear hn0 q1 q2 q3
        go_wp2
        go_ret
        refine ⟨l, _, rfl, .inr ⟨HPM.out, a, HST.out⟩, ?_, HV2.out.bel⟩
        have := HV2.out.ow
        exact this
    · have hltz : ¬ (N : Int) < 65536 := by omega
      obtain ⟨l, hl, hrn, hrv⟩ := HR.out
      have HST : Hid (Stk tkA s a l) := ⟨hrn, by rintro ⟨_, h⟩; rw [tkA, hl] at h; simp at h; omega⟩
      have HV : Hid (RvS w l (.slice au N cu) wr) := hrv
      clear hl hrn hrv HR
      go_wp2
      go_ret
      exact ⟨l, _, rfl, .inr ⟨HPM.out, a, HST.out⟩, HV.out.ow, HV.out.bel⟩
theorem rsalv_any (s : ByteArray) (w : World) (hs : s.size ≤ 140737488351232) :
    Calls Tryz.prog 75 #[.string s] w fun e w' => ∃ l v, e = .returned v ∧ SvA s l ∧ w'.ownsRow w.heap.size 56 35 v l.length (env l) ∧ Below w.heap.size w w' := by
  cases hp : pmB s with
  | true => exact rsalv_yes s w hs hp
  | false =>
    have hmk : (⟨#[109, 112, 107, 49]⟩ : ByteArray) = mkB := rfl
    have HPM : Hid (pmB s = false) := hp
    have hn : ¬ (4 ≤ s.size ∧ s.extract 0 4 = mkB) := fun h => by rw [(pm_doc s).2 h] at hp; cases hp
    clear hp
    by_cases h4 : 4 ≤ s.size
    · have h4z : ¬ (s.size : Int) < 4 := by omega
      have h4y : (4 : Int) ≤ (s.size : Int) := by omega
      obtain ⟨X, hX⟩ : ∃ X, s.extract 0 4 = X := ⟨_, rfl⟩
      have hq := str_neP (x := X) (y := mkB) (fun e => hn ⟨h4, hX.trans e⟩)
      have hq2 : (X.toList != mkB.toList) = true := by simp [bne, hq]
      clear hn
      go_enter Tryz.func75, Tryz.ntmps75
      go_wp2
      go_ret
      exact ⟨[], _, rfl, .inl ⟨HPM.out, rfl⟩, rows_none, Below.refl _ _⟩
    · have h4z : (s.size : Int) < 4 := by omega
      clear hn
      go_enter Tryz.func75, Tryz.ntmps75
      go_wp2
      go_ret
      exact ⟨[], _, rfl, .inl ⟨HPM.out, rfl⟩, rows_none, Below.refl _ _⟩
end Go.Proofs.YtpfknjnigcefgaaGreatDoor
