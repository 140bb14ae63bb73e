import Derived.Test.YtahpaekiehdejabDoorY14
import Derived.Test.YtahpaekiehdejabDoorY5
import Derived.Test.YtahpaekiehdejabDoorY12
import Derived.Test.YtahpaekiehdejabDoorY11
import Derived.Laws.StructEq
/- The document's own Quick (munimentref02). -/
namespace Go.Proofs.YtahpaekiehdejabDoor
open Go.RowKit
set_option linter.unusedSimpArgs false
set_option linter.unusedVariables false
theorem info_8l : (Tryd.prog.info? 134).map (·.size) = some 8 := by kernel_rfl
/-- What Quick's last line reads, wherever it stands. -/
abbrev SQ (w : World) (W : World) : Prop := Blk W w.heap.size z32c 29 ∧ Blk W (w.heap.size + 1) (v8c H0) 134 ∧ Below w.heap.size w W
theorem SQ.below {w W W' : World} (h : SQ w W) (hb : Below W.heap.size W W') : SQ w W' :=
  ⟨h.1.grown (grown_of_below hb none) (by simp), h.2.1.grown (grown_of_below hb none) (by simp), h.2.2.trans (hb.mono h.2.2.size)⟩
theorem quiet_v8 {o : Oper} {a : Act} {C : World → Prop} {K : Act → Prop} (v : V8) (x : Operand) (ho : o.op = .load 134 x) (g : Nat) (hx : a.eval x = .pointer (some ⟨g, 0, none⟩))
    (hr : ∀ w, C w → Blk w g (v8c v) 134) (hn : K (a.put o.dst (.agg (v8c v)))) : o.quiet Tryd.prog a C K :=
  quiet_val (.agg (v8c v)) (fun w hw => by
    have h := run_loadAt_mid (P := Tryd.prog) w g 0 134 (v8c v).toList _ (fun j u hj => by rw [(hr w hw).cell, Nat.zero_add, ← hj, Array.getElem?_toList]) Tryd.underlying134 rfl (by rw [Array.length_toList]; exact info_8)
    unfold execOp
    simp only [ho, hx, h, Sem.run_bind, Result.andThen_ok]
    rfl) hn
theorem h0_lit : (#[Value.int .u32 1779033703, Value.int .u32 3144134277, Value.int .u32 1013904242, Value.int .u32 2773480762, Value.int .u32 1359893119, Value.int .u32 2600822924, Value.int .u32 528734635, Value.int .u32 1541459225] : Array Value) = v8c H0 := by kernel_rfl
theorem info_shc (m : List Nat) : (Tryd.prog.info? 29).map (·.size) = some (shc m).size := by rw [info_id, shc_size]
set_option maxHeartbeats 1000000 in
set_option maxRecDepth 100000 in
theorem quick_any (s : ByteArray) (w : World) (hs : s.size ≤ 140737488351232) :
    Calls Tryd.prog 29 #[.string s] w fun e w' => e = .returned (.agg (shc (byl s))) ∧ Below w.heap.size w w' := by
  go_enter Tryd.func29, Tryd.ntmps29
  go_wp2
  rw [h0_lit]
  show Code.wp _ _ _ _ ((w.alloc (.cells z32c 29)).alloc (.cells (v8c H0) 134))
  obtain ⟨w1, hw1⟩ : ∃ w1, w1 = (w.alloc (.cells z32c 29)).alloc (.cells (v8c H0) 134) := ⟨_, rfl⟩
  rw [← hw1]
  have hS : SQ w w1 := by
    have g2 := World.grownBy_alloc (w.alloc (.cells z32c 29)) (.cells (v8c H0) 134) none
    have e := blk_new (w.alloc (.cells z32c 29)) (.cells (v8c H0) 134)
    rw [alloc_size] at e
    rw [hw1]
    exact ⟨Blk.grown (blk_new w (.cells z32c 29)) g2 (by simp), e, ((Below.refl _ _).alloc (Nat.le_refl _) _).alloc (by rw [alloc_size]; omega) _⟩
  clear hw1
  refine wp_region_tail (SQ w) 4 (by kernel_rfl) (by kernel_rfl) ⟨hS.1, hS.2.1, hS.2.2.drew⟩ ?_
  simp only [List.take_succ_cons, List.take_zero, List.drop_succ_cons, List.drop_zero]
  go_big_quiet_want
  go_big_quiet_op
  go_big_quiet_on
  go_big_quiet_want
  refine quiet_v8 H0 _ rfl (w.heap.size + 1) rfl (fun _ h => h.2.1) ?_
  go_big_quiet_on; simp only [Act.put, List.setIfInBounds_toArray, List.set_cons_zero, List.set_cons_succ]
  go_big_quiet_want
  refine quiet_call (.agg kcs) 64 #[] ?_ ?_ ?_
  · intro W hW; go_simp; done
  · intro W hW; exact (constants_any W).mono (fun _ _ h => ⟨h.1, SQ.below hW h.2⟩)
  go_big_quiet_on; simp only [Act.put, List.setIfInBounds_toArray, List.set_cons_zero, List.set_cons_succ]
  go_big_quiet_want
  refine quiet_call (.agg (shc (byl s))) 63 #[.string s, .agg (v8c H0), .agg kcs] ?_ ?_ ?_
  · intro W hW; go_simp; done
  · intro W hW; exact (rsum_any s W hs).mono (fun _ _ h => ⟨h.1, SQ.below hW h.2⟩)
  go_big_quiet_on; simp only [Act.put, List.setIfInBounds_toArray, List.set_cons_zero, List.set_cons_succ]
  refine wpQuiet_nil ?_
  intro w9 hw9
  have HR9 : Hid (Blk w9 w.heap.size z32c 29) := hw9.1
  have HB9 : Hid (Below w.heap.size w w9) := hw9.2.2
  clear hw9 hS
  go_wp2_with (refine wpList_store_row rfl 29 (.tmp 2) (.tmp 8) rfl w.heap.size (shc (byl s)) rfl rfl 29 z32c HR9.out (info_shc _) (by rw [z32c_size, shc_size]) (shc_one _) ?_)
  refine bodyPost_ret (results_cell_row rfl _ _ w.heap.size 29 (shc (byl s)) (0, 0) _ rfl (setRow_heap _ _ _ _ _ _ HR9.out) Tryd.underlying29 rfl (info_shc _)) rfl ⟨rfl, ?_⟩
  exact below_setRow HB9.out (Nat.le_refl _) _
end Go.Proofs.YtahpaekiehdejabDoor
/- The document's own Whole and Of, of payloads of whatever length. -/
namespace Go.Proofs.YtahpaekiehdejabDoor
open Go.RowKit
set_option linter.unusedSimpArgs false
set_option linter.unusedVariables false
set_option maxHeartbeats 400000 in
set_option maxRecDepth 100000 in
theorem whole_big (k : Nat) (p : ByteArray) (w : World) (hk : k < 256) (hp : p.size ≤ 140737488351232) :
    Calls Tryd.prog 85 #[.int .u8 (k : Int), .string p] w fun e w' => e = .returned (.string (sb (whl k p))) ∧ Below w.heap.size w w' := by
  have c1 := fun w => conv1 w (k : Int)
  have c2 := fun (W : World) (h : W.cell? ⟨w.heap.size, 0, none⟩ = some (.int .u8 (k : Int))) => conv_any W w.heap.size (k : Int) h
  have c3 := conv_any (w.alloc (.cells #[.int .u8 (k : Int)] 5)).drew w.heap.size (k : Int) (by show (w.alloc (.cells #[.int .u8 (k : Int)] 5)).cell? _ = _; rw [World.cell?_alloc_new]; rfl)
  have hz := one_size (k : Int)
  have hwr : IntKind.u64.wrap (p.size : Int) = (p.size : Int) := wrap64s _ (by omega)
  have hl8 := lenstr p.size
  go_enter Tryd.func85, Tryd.ntmps85
  go_wp2
  go_region_with (go_at_call 93; refine (rfixed_any p.size _ (by omega)).mono ?_; rintro e w1 ⟨rfl, hb1⟩; obtain ⟨hc, hf⟩ := bcellD hb1)
  all_goals go_wp2
  all_goals go_ret
  all_goals refine ⟨ret_str (whole_eq k p hk), ?_⟩
  all_goals first
    | exact (((Below.refl _ _).alloc (Nat.le_refl _) _).drew).trans (hb1.mono (by show w.heap.size ≤ (w.alloc _).heap.size; rw [alloc_size]; omega))
    | exact (((Below.refl _ _).drew).trans hb1).alloc hb1.size _
theorem whl_bytes11 (k : Nat) (p : ByteArray) (hk : k < 256) : byl (sb (whl k p)) = whl k p := byl_sb _ (by
  intro x hx
  simp only [whl, List.mem_cons, List.mem_append] at hx
  rcases hx with rfl | h | h
  · exact hk
  · exact fixN_lt _ _ _ h
  · exact byl_lt _ _ h)
set_option maxHeartbeats 1000000 in
set_option maxRecDepth 100000 in
theorem rOf_big (k : Nat) (p : ByteArray) (w : World) (hk : k < 256) (hp : p.size ≤ 140737488351000) :
    Calls Tryd.prog 51 #[.int .u8 (k : Int), .string p] w fun e w' => e = .returned (.agg (shc (whl k p))) ∧ Below w.heap.size w w' := by
  go_enter Tryd.func51, Tryd.ntmps51
  go_wp2_with fail
  refine Calls.mono (whole_big k p (w.alloc (.cells z32c 29)) hk (by omega)) ?_
  rintro e w1 ⟨rfl, hb⟩
  rw [alloc_size] at hb
  have HZ : Hid (Blk w1 w.heap.size z32c 29) := Blk.grown (blk_new w (.cells z32c 29)) (grown_of_below (by rw [alloc_size]; exact hb) none) (by simp)
  have HB : Hid (Below w.heap.size w w1) := ((Below.refl _ _).alloc (Nat.le_refl _) _).trans (hb.mono (by omega))
  have hz : (sb (whl k p)).size ≤ 140737488351232 := by rw [sb_size]; simp [whl, fixN_length, byl_length]; omega
  clear hb
  go_wp2_with fail
  refine Calls.mono (quick_any (sb (whl k p)) _ hz) ?_
  rintro e w4 ⟨rfl, hb4⟩
  rw [whl_bytes11 k p hk]
  have HZ4 : Hid (Blk w4 w.heap.size z32c 29) := HZ.out.grown (grown_of_below hb4 none) (by simp)
  have HB4 : Hid (Below w.heap.size w w4) := HB.out.trans (hb4.mono HB.out.size)
  clear hb4 HZ HB
  go_wp2_with (refine wpList_store_row rfl 29 (.tmp 4) (.tmp 8) rfl w.heap.size (shc (whl k p)) rfl rfl 29 z32c HZ4.out (info_shc _) (by rw [z32c_size, shc_size]) (shc_one _) ?_)
  refine bodyPost_ret (results_cell_row rfl _ _ w.heap.size 29 (shc (whl k p)) (0, 0) _ rfl (setRow_heap _ _ _ _ _ _ HZ4.out) Tryd.underlying29 rfl (info_shc _)) rfl ⟨rfl, ?_⟩
  exact below_setRow HB4.out (Nat.le_refl _) _
end Go.Proofs.YtahpaekiehdejabDoor
/- The document's own Check, record, trailer. -/
namespace Go.Proofs.YtahpaekiehdejabDoor
open Go.RowKit
set_option linter.unusedSimpArgs false
set_option linter.unusedVariables false
set_option maxHeartbeats 400000 in
theorem rcheck11 (o : Ob) (w : World) (hm : o.p.size ≤ maxLen) :
    Calls Tryd.prog 14 #[.agg #[.int .u8 (o.k.toNat : Int), .string o.p]] w fun e w' => e = .returned (.int .i64 (ckE o)) ∧ Below w.heap.size w w' := by
  unfold maxLen at hm
  have hr : Below w.heap.size w (w.alloc (.cells #[.int .u8 (o.k.toNat : Int), .string o.p] 52)) := (Below.refl _ _).alloc (Nat.le_refl _) _
  have HR : Hid (Below w.heap.size w (w.alloc (.cells #[.int .u8 (o.k.toNat : Int), .string o.p] 52))) := hr
  obtain ⟨k, p⟩ := o
  simp only at hm hr HR ⊢
  clear hr
  have HC : Hid (∀ b : Int, ((1 ≤ k.toNat ∧ k.toNat ≤ 5 ∧ p.size ≤ 2097152) → b = 0) → (¬ (1 ≤ k.toNat ∧ k.toNat ≤ 5 ∧ p.size ≤ 2097152) → b = 1) → ckE ⟨k, p⟩ = b) := by
    intro b h1 h2
    unfold ckE
    split
    · rename_i h; exact (h1 ((okO_iff _).1 h)).symm
    · rename_i h; exact (h2 (fun h3 => h ((okO_iff _).2 h3))).symm
  have hk := k.toNat_lt
  generalize k.toNat = n at HR HC hk ⊢
  by_cases h1 : n < 1
  · have hz : n = 0 := by omega
    subst hz
    go_enter Tryd.func14, Tryd.ntmps14
    go_wp2
    go_ret
    exact ⟨ret_i11 (HC.out _ (by omega) (by omega)), HR.out⟩
  have g1 : ¬ (n : Int) < 1 := by omega
  by_cases h2 : 5 < n
  · have g2 : (5 : Int) < n := by omega
    go_enter Tryd.func14, Tryd.ntmps14
    go_wp2
    go_ret
    exact ⟨ret_i11 (HC.out _ (by omega) (by omega)), HR.out⟩
  have g2 : ¬ (5 : Int) < n := by omega
  by_cases h3 : 2097152 < p.size
  · have g3 : (2097152 : Int) < p.size := by omega
    go_enter Tryd.func14, Tryd.ntmps14
    go_wp2
    go_ret
    exact ⟨ret_i11 (HC.out _ (by omega) (by omega)), HR.out⟩
  have g3 : ¬ (2097152 : Int) < p.size := by omega
  go_enter Tryd.func14, Tryd.ntmps14
  go_wp2
  go_ret
  exact ⟨ret_i11 (HC.out _ (by omega) (by omega)), HR.out⟩
set_option maxHeartbeats 400000 in
set_option maxRecDepth 100000 in
theorem rrecord (o : Ob) (w : World) (ho : o.p.size ≤ 2097152) :
    Calls Tryd.prog 49 #[.agg #[.int .u8 (o.k.toNat : Int), .string o.p]] w fun e w' => e = .returned (.string (recO o)) ∧ Below w.heap.size w w' := by
  have hb : Bk (w.alloc (.cells #[.int .u8 (o.k.toNat : Int), .string o.p] 52)) w.heap.size #[.int .u8 (o.k.toNat : Int), .string o.p] 52 := bk_new _ _ _
  have hb2 := hb.alloc (.cells #[.int .u8 (o.k.toNat : Int)] 5)
  have y2 : ((w.alloc (.cells #[.int .u8 (o.k.toNat : Int), .string o.p] 52)).alloc (.cells #[.int .u8 (o.k.toNat : Int)] 5)).cell? ⟨w.heap.size, 1, none⟩ = some (.string o.p) := by rw [hb2.cell]; rfl
  have hcv := conv1 (w.alloc (.cells #[.int .u8 (o.k.toNat : Int), .string o.p] 52)) (o.k.toNat : Int)
  rw [al_size] at hcv
  have hob : strOfNums [(o.k.toNat : Int)] ++ o.p = obB o := by
    rw [obB, one_is o.k.toNat o.k.toNat rfl]
    congr 1
    rw [sb]; simp
  have hoz : (obB o).size ≤ 67108864 := by rw [obB_size]; omega
  have HFR : Hid (∀ W, Calls Tryd.prog 83 #[.string (strOfNums [(o.k.toNat : Int)] ++ o.p)] W fun e w' => e = .returned (.string (recO o)) ∧ Below W.heap.size W w') := fun W => by
    rw [hob]; exact laid_any _ W hoz
  have hsz1 : (strOfNums [(o.k.toNat : Int)]).size = 1 := one_size _
  have HB : Hid (Below w.heap.size w ((w.alloc (.cells #[.int .u8 (o.k.toNat : Int), .string o.p] 52)).alloc (.cells #[.int .u8 (o.k.toNat : Int)] 5))) := ((Below.refl _ _).alloc (Nat.le_refl _) _).alloc (by rw [al_size]; omega) _
  clear hob hoz hb hb2
  obtain ⟨kk, p⟩ := o
  simp only at y2 hcv HFR hsz1 HB ho ⊢
  go_enter Tryd.func49, Tryd.ntmps49
  go_wp2_with fail
  refine (HFR.out _).mono ?_
  rintro e w1 ⟨rfl, hb1⟩
  have HB1 : Hid (Below w.heap.size w w1) := HB.out.trans (hb1.mono HB.out.size)
  clear hb1
  go_wp2
  go_ret
  exact ⟨rfl, HB1.out⟩
set_option maxHeartbeats 400000 in
theorem rtrailer (n : Nat) (w : World) (hn : n < 9223372036854775808) :
    Calls Tryd.prog 50 #[.int .i64 (n : Int)] w fun e w' => e = .returned (.string (trl n)) ∧ Below w.heap.size w w' := by
  have hw : IntKind.u64.wrap (n : Int) = (n : Int) := by
    simp [IntKind.wrap, IntKind.bits, IntKind.signed]; omega
  go_enter Tryd.func50, Tryd.ntmps50
  go_wp2_with fail
  refine (rput_any ⟨#[0]⟩ (n : Int) _ (by omega) (by omega) (by decide)).mono ?_
  rintro e w1 ⟨rfl, hb⟩
  rw [Int.toNat_natCast]
  have HB : Hid (Below w.heap.size w w1) := hb
  clear hb
  obtain ⟨q, hq⟩ : ∃ q, q = trB n := ⟨_, rfl⟩
  have e1 : (⟨#[0]⟩ : ByteArray) ++ sb (encS n) = q := by rw [hq]; rfl
  rw [e1]
  clear e1
  have hz : q.size ≤ 67108864 := by rw [hq, trB_size]; have := encS_le n (by omega); omega
  have HQ : Hid (q = trB n) := hq
  clear hq
  go_wp2_with fail
  refine (laid_any q _ hz).mono ?_
  rintro e w2 ⟨rfl, hb2⟩
  go_wp2
  go_ret
  refine ⟨?_, HB.out.trans (hb2.mono HB.out.size)⟩
  rw [HQ.out]; rfl
theorem rof_nm (o : Ob) (w : World) (hp : o.p.size ≤ 140737488351000) :
    Calls Tryd.prog 51 #[.int .u8 (o.k.toNat : Int), .string o.p] w fun e w' => e = .returned (.agg (idc (nmO o))) ∧ Below w.heap.size w w' := by
  have := rOf_big o.k.toNat o.p w o.k.toNat_lt hp
  rw [shc_idc] at this
  exact this
end Go.Proofs.YtahpaekiehdejabDoor
/- The document's own Build. -/
namespace Go.Proofs.YtahpaekiehdejabDoor
open Go.RowKit
set_option linter.unusedSimpArgs false
set_option linter.unusedVariables false
def isI (v : Value) : Prop := ∃ n : Int, v = .int .i64 n
/-- The document's pack under way. -/
structure RbS (w0 : World) (m : Nat) (d : List Ob) (w : World) : Prop where
  st : St isI w m (d.map nmO)
  mlb : w0.heap.size ≤ m
  bel : Below w0.heap.size w0 w
theorem RbS.keep {w0 w w' : World} {m : Nat} {d : List Ob} (h : RbS w0 m d w) (hb : Below w.heap.size w w') : RbS w0 m d w' :=
  ⟨h.st.below hb, h.mlb, h.bel.trans (hb.mono h.bel.size)⟩
theorem zero_int11 (w : World) : (zeroValue 3).run Tryd.prog w = .ok (.int .i64 0) w := by kernel_rfl
theorem RbS.look {w0 w : World} {m : Nat} {d : List Ob} (h : RbS w0 m d w) (x : ByteArray) (hx : x.size = 32) : ∃ n : Int, (Instr.lookup 122 (.map (some m)) (.agg (idc x)) true).run Tryd.prog w = .ok (.tuple #[.int .i64 n, .bool (hasN d x)]) w := by
  obtain ⟨v, h1, n, rfl⟩ := h.st.look Tryd.underlying122 (zero_int11 _) ⟨0, rfl⟩ x hx
  rw [onL_nm] at h1
  exact ⟨n, h1⟩
theorem RbS.put {w0 w : World} {m : Nat} {d : List Ob} (h : RbS w0 m d w) (hn : d.length < 1048576) (o : Ob) (n : Int) :
    ∃ w', (Instr.mapUpdate 122 (.map (some m)) (.agg (idc (nmO o))) (.int .i64 n)).run Tryd.prog w = .ok () w' ∧ RbS w0 m (d ++ [o]) w' := by
  obtain ⟨w', h1, h2, h3⟩ := h.st.put Tryd.underlying122 (by rw [List.length_map]; exact hn) (nmO o) (nmO_size o) (.int .i64 n) ⟨n, rfl⟩
  exact ⟨w', h1, by rw [List.map_append]; exact h2, h.mlb, below_own h.bel h.bel.size h3 h.mlb⟩
theorem grownBy_setRow11 (w : World) (g : Nat) (cs : Array Value) : w.grownBy (w.setRow g cs) (some g) := by
  refine ⟨rfl, rfl, rfl, by simp [World.setRow], fun k hk hne => ?_⟩
  have : g ≠ k := fun e => hne (by rw [e])
  simp [World.setRow, Array.getElem?_modify, this]
theorem step_store_row {P : Program} {ops : Array Oper} {o : Oper} {a : Act} {w : World} {K : Act → World → Prop} {Q : Exit → Act → World → Prop} {E : Prop} (hgd : o.guard = none) (ty : TypeId) (x y : Operand) (ho : o.op = .store ty x y)
    (g : Nat) (cells : Array Value) (hx : a.eval x = .pointer (some ⟨g, 0, none⟩)) (hy : a.eval y = .agg cells) (t : TypeId) (old : Array Value) (hg : Bk w g old t) (hi : (P.info? ty).map (·.size) = some cells.size)
    (hold : old.size = cells.size) (h1 : cells.all (·.oneCell') = true) (h : ∀ w', Hid (Bk w' g cells t) → Hid (w.grownBy w' (some g)) → K (a.put o.dst undef) w') :
    if Region.wanted o (yielded ops a.tmps) = true then Oper.wp P o a w K Q else E := by
  have hw : Region.wanted o (yielded ops a.tmps) = true := by simp [Region.wanted, hgd]
  rw [if_pos hw]
  refine wp_store_row ty x y ho g cells hx hy t old hg hi hold h1 (h _ (setRow_heap _ _ _ _ _ _ hg) ?_)
  exact grownBy_setRow11 _ _ _
/-- The string so far. -/
def rbT (d : List Ob) : ByteArray := ⟨(mk4 ++ recL d).toArray⟩
theorem rbT_size (d : List Ob) : (rbT d).size = 4 + lenL d := by rw [← bl_length, show bl (rbT d) = mk4 ++ recL d from rfl, List.length_append, recL_length]; rfl
theorem rbT_snoc (d : List Ob) (o : Ob) : rbT d ++ recO o = rbT (d ++ [o]) := by
  apply bl_inj
  rw [bl_append, show bl (rbT d) = mk4 ++ recL d from rfl, show bl (rbT (d ++ [o])) = mk4 ++ recL (d ++ [o]) from rfl, recL_snoc, List.append_assoc]
end Go.Proofs.YtahpaekiehdejabDoor
/- Loads in a class of worlds: one cell, many cells. -/
namespace Go.Proofs.YtahpaekiehdejabDoor
open Go.RowKit
set_option linter.unusedSimpArgs false
set_option linter.unusedVariables false
theorem quiet_one {P : Program} {o : Oper} {a : Act} {C : World → Prop} {K : Act → Prop} (t : TypeId) (x : Operand) (ho : o.op = .load t x) (g f : Nat) (v : Value) (hx : a.eval x = .pointer (some ⟨g, f, none⟩)) (ha : ∀ w, (isAgg t).run P w = .ok false w)
    (hc : ∀ w, C w → w.cell? ⟨g, f, none⟩ = some v) (hn : K (a.put o.dst v)) : o.quiet P a C K :=
  quiet_val10 v (fun w hw => by
    have h := hc w hw
    have h2 := ha w
    unfold execOp
    simp [ho, hx, Instr.loadAt, Instr.sureAddr, loadVar, h2, h]) hn
theorem quiet_row {P : Program} {o : Oper} {a : Act} {C : World → Prop} {K : Act → Prop} (t : TypeId) (x : Operand) (ho : o.op = .load t x) (g f : Nat) (D cells : Array Value) (T : TypeId) (d : TypeDesc) (hx : a.eval x = .pointer (some ⟨g, f, none⟩))
    (hc : ∀ w, C w → Bk w g D T) (hD : ∀ j v, cells[j]? = some v → D[f + j]? = some v) (hu : P.underlying t = some d) (hd : d.isRow = true) (hi : (P.info? t).map (·.size) = some cells.size) (hn : K (a.put o.dst (.agg cells))) : o.quiet P a C K :=
  quiet_val10 (.agg cells) (fun w hw => by
    have h := hc w hw
    have hr := run_loadVar_mid (P := P) w g f t cells.toList d (fun j v hv => by rw [h.cell]; exact hD j v (by rwa [Array.getElem?_toList] at hv)) hu hd (by rw [Array.length_toList]; exact hi)
    unfold execOp
    simp [ho, hx, Instr.loadAt, Instr.sureAddr, hr]) hn
/-- The load of many cells, of an operation that is wanted. -/
theorem wpList_getG {P : Program} {ops : Array Oper} {rest : List Oper} {op : Oper} {a : Act} {w : World} {Q : Exit → Act → World → Prop} (hw : Region.wanted op (yielded ops a.tmps) = true) (ty : TypeId) (x : Operand) (ho : op.op = .load ty x)
    (b o : Nat) (C cells : Array Value) (T : TypeId) (d : TypeDesc) (hx : a.eval x = .pointer (some ⟨b, o, none⟩))
    (hB : Bk w b C T) (hc : ∀ j v, cells[j]? = some v → C[o + j]? = some v) (hu : P.underlying ty = some d) (hd : d.isRow = true) (hi : (P.info? ty).map (·.size) = some cells.size)
    (h : wpList P ops Q rest (a.put op.dst (.agg cells)) w) : wpList P ops Q (op :: rest) a w :=
  wpList_step fun K hK => by
    rw [if_pos hw]
    have e : cells.toList.toArray = cells := Array.toArray_toList
    refine wp_load_mid ty x ho b o hx cells.toList d (fun j v hv => by rw [hB.cell]; exact hc j v (by rwa [Array.getElem?_toList] at hv)) hu hd (by rw [hi]; simp) ?_
    rw [e]
    exact hK _ _ h
/-- A comparison whose run is known. -/
theorem wpList_eqR {P : Program} {ops : Array Oper} {rest : List Oper} {op : Oper} {a : Act} {w : World} {Q : Exit → Act → World → Prop} (hw : Region.wanted op (yielded ops a.tmps) = true) (t : TypeId) (x y : Operand) (ho : op.op = .binOp .eql t x y t)
    (v1 v2 : Array Value) (r : Value) (hm : P.eqGuardType P.depth t = false) (hx : a.eval x = .agg v1) (hy : a.eval y = .agg v2) (hr : (binOp .eql t (.agg v1) (.agg v2)).run P w = .ok r w)
    (h : wpList P ops Q rest (a.put op.dst r) w) : wpList P ops Q (op :: rest) a w :=
  wpList_step fun K hK => by
    rw [if_pos hw]
    unfold Oper.wp execOp
    simp only [ho, hx, hy, Sem.run_bind, run_eqGuard_agg w .eql t x y v1 v2 hm, hr, Result.andThen_ok, Sem.run_pure]
    exact hK _ _ h
theorem list_of_quiet {P : Program} {ops : Array Oper} {Q : Exit → Act → World → Prop} {C : World → Prop} : ∀ (l : List Oper) (a : Act) (w : World), wpQuiet P ops C (fun a' => ∀ w', C w' → Q .normal a' w') l a → C w → wpList P ops Q l a w
  | [], a, w, h, hC => h w hC
  | o :: rest, a, w, h, hC => by
    unfold wpQuiet at h
    refine wpList_step fun K hK => ?_
    split at h
    · rename_i hw
      rw [if_pos hw]
      exact Oper.wp_of_quiet hC (fun a w' hw' ha => hK a w' (list_of_quiet rest a w' ha hw')) h
    · rename_i hw
      rw [if_neg hw]
      exact hK _ _ (list_of_quiet rest _ w h hC)
/-- A region that does not draw, over a class of worlds. -/
theorem region_plain11 {P : Program} {id : Nat} {Q : Exit → Act → World → Prop} {a : Act} {w : World} {l : List Oper} (C : World → Prop) (hC : C w)
    (h : wpQuiet P l.toArray C (fun a' => ∀ w', C w' → Q .normal a' w') l a) : (Code.region id l.toArray false).wp P Q a w :=
  wp_region_lit (list_of_quiet l a w h hC)
end Go.Proofs.YtahpaekiehdejabDoor
