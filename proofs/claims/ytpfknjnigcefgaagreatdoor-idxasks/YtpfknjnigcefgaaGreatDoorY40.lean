import Derived.Test.YtpfknjnigcefgaaGreatDoorY39
import Derived.Test.YtpfknjnigcefgaaGreatDoorY7
import Derived.Test.YtpfknjnigcefgaaGreatDoorY30
import Derived.Test.YtpfknjnigcefgaaGreatDoorY36
import Derived.Test.YtpfknjnigcefgaaGreatDoorY37
import Derived.Test.YtpfknjnigcefgaaGreatDoorY19
/- The document's own constants (munimentref02). -/
namespace Go.Proofs.YtpfknjnigcefgaaGreatDoor
open Go.RowKit
set_option linter.unusedSimpArgs false
set_option linter.unusedVariables false
theorem kcs_size : kcs.size = 64 := rfl
theorem kcs_one : kcs.all (·.oneCell') = true := by decide +kernel
theorem info_k : (Tryz.prog.info? 100).map (·.size) = some kcs.size := info_64 kcs kcs_size
set_option maxHeartbeats 1000000 in
set_option maxRecDepth 100000 in
theorem constants_any (w : World) : Calls Tryz.prog 48 #[] w fun e w' => e = .returned (.agg kcs) ∧ Below w.heap.size w w' := by
  go_enter Tryz.func48, Tryz.ntmps48
  go_wp2_with (refine wpList_store_abs rfl 100 (.tmp 0) (.tmp 1) rfl kcs _ 100 w.heap.size rfl rfl rfl info_k rfl kcs_one ?_; intro w1 HB HG hz)
  refine bodyPost_ret (results_cell_row rfl _ _ w.heap.size 100 kcs (0, 0) _ rfl HB.out Tryz.underlying100 rfl info_k) rfl ⟨rfl, below_of_grown HG.out⟩
end Go.Proofs.YtpfknjnigcefgaaGreatDoor
/- The document's own Quick (munimentref02). -/
namespace Go.Proofs.YtpfknjnigcefgaaGreatDoor
open Go.RowKit
set_option linter.unusedSimpArgs false
set_option linter.unusedVariables false
theorem info_8l : (Tryz.prog.info? 98).map (·.size) = some 8 := by kernel_rfl
/-- What Quick's last line reads, wherever it stands. -/
abbrev SQ (w : World) (W : World) : Prop := Blk W w.heap.size z32c 23 ∧ Blk W (w.heap.size + 1) (v8c H0) 98 ∧ Below w.heap.size w W
theorem SQ.below {w W W' : World} (h : SQ w W) (hb : Below W.heap.size W W') : SQ w W' :=
  ⟨h.1.grown (grown_of_below hb none) (by simp), h.2.1.grown (grown_of_below hb none) (by simp), h.2.2.trans (hb.mono h.2.2.size)⟩
theorem quiet_v8 {o : Oper} {a : Act} {C : World → Prop} {K : Act → Prop} (v : V8) (x : Operand) (ho : o.op = .load 98 x) (g : Nat) (hx : a.eval x = .pointer (some ⟨g, 0, none⟩))
    (hr : ∀ w, C w → Blk w g (v8c v) 98) (hn : K (a.put o.dst (.agg (v8c v)))) : o.quiet Tryz.prog a C K :=
  quiet_valE (.agg (v8c v)) (fun w hw => by
    have h := run_loadAt_mid (P := Tryz.prog) w g 0 98 (v8c v).toList _ (fun j u hj => by rw [(hr w hw).cell, Nat.zero_add, ← hj, Array.getElem?_toList]) Tryz.underlying98 rfl (by rw [Array.length_toList]; exact info_8)
    unfold execOp
    simp only [ho, hx, h, Sem.run_bind, Result.andThen_ok]
    rfl) hn
theorem h0_lit : (#[Value.int .u32 1779033703, Value.int .u32 3144134277, Value.int .u32 1013904242, Value.int .u32 2773480762, Value.int .u32 1359893119, Value.int .u32 2600822924, Value.int .u32 528734635, Value.int .u32 1541459225] : Array Value) = v8c H0 := by kernel_rfl
theorem info_shc (m : List Nat) : (Tryz.prog.info? 23).map (·.size) = some (shc m).size := by rw [info_id, shc_size]
set_option maxHeartbeats 1000000 in
set_option maxRecDepth 100000 in
theorem quick_any (s : ByteArray) (w : World) (hs : s.size ≤ 140737488351232) :
    Calls Tryz.prog 19 #[.string s] w fun e w' => e = .returned (.agg (shc (byl s))) ∧ Below w.heap.size w w' := by
  go_enter Tryz.func19, Tryz.ntmps19
  go_wp2
  rw [h0_lit]
  show Code.wp _ _ _ _ ((w.alloc (.cells z32c 23)).alloc (.cells (v8c H0) 98))
  obtain ⟨w1, hw1⟩ : ∃ w1, w1 = (w.alloc (.cells z32c 23)).alloc (.cells (v8c H0) 98) := ⟨_, rfl⟩
  rw [← hw1]
  have hS : SQ w w1 := by
    have g2 := World.grownBy_alloc (w.alloc (.cells z32c 23)) (.cells (v8c H0) 98) none
    have e := blk_new (w.alloc (.cells z32c 23)) (.cells (v8c H0) 98)
    rw [alloc_size] at e
    rw [hw1]
    exact ⟨Blk.grown (blk_new w (.cells z32c 23)) g2 (by simp), e, ((Below.refl _ _).alloc (Nat.le_refl _) _).alloc (by rw [alloc_size]; omega) _⟩
  clear hw1
  refine wp_region_tail (SQ w) 4 (by kernel_rfl) (by kernel_rfl) ⟨hS.1, hS.2.1, hS.2.2.drew⟩ ?_
  simp only [List.take_succ_cons, List.take_zero, List.drop_succ_cons, List.drop_zero]
  go_big_quiet_want
  go_big_quiet_op
  go_big_quiet_on
  go_big_quiet_want
  refine quiet_v8 H0 _ rfl (w.heap.size + 1) rfl (fun _ h => h.2.1) ?_
  go_big_quiet_on; simp only [Act.put, List.setIfInBounds_toArray, List.set_cons_zero, List.set_cons_succ]
  go_big_quiet_want
  refine quiet_callE (.agg kcs) 48 #[] ?_ ?_ ?_
  · intro W hW; go_simp; done
  · intro W hW; exact (constants_any W).mono (fun _ _ h => ⟨h.1, SQ.below hW h.2⟩)
  go_big_quiet_on; simp only [Act.put, List.setIfInBounds_toArray, List.set_cons_zero, List.set_cons_succ]
  go_big_quiet_want
  refine quiet_callE (.agg (shc (byl s))) 47 #[.string s, .agg (v8c H0), .agg kcs] ?_ ?_ ?_
  · intro W hW; go_simp; done
  · intro W hW; exact (rsum_any s W hs).mono (fun _ _ h => ⟨h.1, SQ.below hW h.2⟩)
  go_big_quiet_on; simp only [Act.put, List.setIfInBounds_toArray, List.set_cons_zero, List.set_cons_succ]
  refine wpQuiet_nil ?_
  intro w9 hw9
  have HR9 : Hid (Blk w9 w.heap.size z32c 23) := hw9.1
  have HB9 : Hid (Below w.heap.size w w9) := hw9.2.2
  clear hw9 hS
  go_wp2_with (refine wpList_store_row rfl 23 (.tmp 2) (.tmp 8) rfl w.heap.size (shc (byl s)) rfl rfl 23 z32c HR9.out (info_shc _) (by rw [z32c_size, shc_size]) (shc_one _) ?_)
  refine bodyPost_ret (results_cell_row rfl _ _ w.heap.size 23 (shc (byl s)) (0, 0) _ rfl (setRow_heap _ _ _ _ _ _ HR9.out) Tryz.underlying23 rfl (info_shc _)) rfl ⟨rfl, ?_⟩
  exact below_setRow HB9.out (Nat.le_refl _) _
end Go.Proofs.YtpfknjnigcefgaaGreatDoor
/- The document's own Whole and Of, of payloads of whatever length. -/
namespace Go.Proofs.YtpfknjnigcefgaaGreatDoor
open Go.RowKit
set_option linter.unusedSimpArgs false
set_option linter.unusedVariables false
set_option maxHeartbeats 400000 in
set_option maxRecDepth 100000 in
theorem whole_big (k : Nat) (p : ByteArray) (w : World) (hk : k < 256) (hp : p.size ≤ 140737488351232) :
    Calls Tryz.prog 140 #[.int .u8 (k : Int), .string p] w fun e w' => e = .returned (.string (sb (whl k p))) ∧ Below w.heap.size w w' := by
  have c1 := fun w => conv1 w (k : Int)
  have c2 := fun (W : World) (h : W.cell? ⟨w.heap.size, 0, none⟩ = some (.int .u8 (k : Int))) => conv_any W w.heap.size (k : Int) h
  have c3 := conv_any (w.alloc (.cells #[.int .u8 (k : Int)] 5)).drew w.heap.size (k : Int) (by show (w.alloc (.cells #[.int .u8 (k : Int)] 5)).cell? _ = _; rw [World.cell?_alloc_new]; rfl)
  have hz := one_size (k : Int)
  have hwr : IntKind.u64.wrap (p.size : Int) = (p.size : Int) := wrap64s _ (by omega)
  have hl8 := lenstr p.size
  go_enter Tryz.func140, Tryz.ntmps140
  go_wp2
  go_region_with (go_at_call 67; refine (rfixed_any p.size _ (by omega)).mono ?_; rintro e w1 ⟨rfl, hb1⟩; obtain ⟨hc, hf⟩ := bcellD hb1)
  all_goals go_wp2
  all_goals go_ret
  all_goals refine ⟨ret_str (whole_eq k p hk), ?_⟩
  all_goals first
    | exact (((Below.refl _ _).alloc (Nat.le_refl _) _).drew).trans (hb1.mono (by show w.heap.size ≤ (w.alloc _).heap.size; rw [alloc_size]; omega))
    | exact (((Below.refl _ _).drew).trans hb1).alloc hb1.size _
theorem whl_bytes11 (k : Nat) (p : ByteArray) (hk : k < 256) : byl (sb (whl k p)) = whl k p := byl_sb _ (by
  intro x hx
  simp only [whl, List.mem_cons, List.mem_append] at hx
  rcases hx with rfl | h | h
  · exact hk
  · exact fixN_lt _ _ _ h
  · exact byl_lt _ _ h)
set_option maxHeartbeats 1000000 in
set_option maxRecDepth 100000 in
theorem rOf_big (k : Nat) (p : ByteArray) (w : World) (hk : k < 256) (hp : p.size ≤ 140737488351000) :
    Calls Tryz.prog 113 #[.int .u8 (k : Int), .string p] w fun e w' => e = .returned (.agg (shc (whl k p))) ∧ Below w.heap.size w w' := by
  go_enter Tryz.func113, Tryz.ntmps113
  go_wp2_with fail
  refine Calls.mono (whole_big k p (w.alloc (.cells z32c 23)) hk (by omega)) ?_
  rintro e w1 ⟨rfl, hb⟩
  rw [alloc_size] at hb
  have HZ : Hid (Blk w1 w.heap.size z32c 23) := Blk.grown (blk_new w (.cells z32c 23)) (grown_of_below (by rw [alloc_size]; exact hb) none) (by simp)
  have HB : Hid (Below w.heap.size w w1) := ((Below.refl _ _).alloc (Nat.le_refl _) _).trans (hb.mono (by omega))
  have hz : (sb (whl k p)).size ≤ 140737488351232 := by rw [sb_size]; simp [whl, fixN_length, byl_length]; omega
  clear hb
  go_wp2_with fail
  refine Calls.mono (quick_any (sb (whl k p)) _ hz) ?_
  rintro e w4 ⟨rfl, hb4⟩
  rw [whl_bytes11 k p hk]
  have HZ4 : Hid (Blk w4 w.heap.size z32c 23) := HZ.out.grown (grown_of_below hb4 none) (by simp)
  have HB4 : Hid (Below w.heap.size w w4) := HB.out.trans (hb4.mono HB.out.size)
  clear hb4 HZ HB
  go_wp2_with (refine wpList_store_row rfl 23 (.tmp 4) (.tmp 8) rfl w.heap.size (shc (whl k p)) rfl rfl 23 z32c HZ4.out (info_shc _) (by rw [z32c_size, shc_size]) (shc_one _) ?_)
  refine bodyPost_ret (results_cell_row rfl _ _ w.heap.size 23 (shc (whl k p)) (0, 0) _ rfl (setRow_heap _ _ _ _ _ _ HZ4.out) Tryz.underlying23 rfl (info_shc _)) rfl ⟨rfl, ?_⟩
  exact below_setRow HB4.out (Nat.le_refl _) _
end Go.Proofs.YtpfknjnigcefgaaGreatDoor
/- The document's own Check, record, trailer. -/
namespace Go.Proofs.YtpfknjnigcefgaaGreatDoor
open Go.RowKit
set_option linter.unusedSimpArgs false
set_option linter.unusedVariables false
set_option maxHeartbeats 400000 in
theorem rcheck11 (o : Ob) (w : World) (hm : o.p.size ≤ maxLen) :
    Calls Tryz.prog 139 #[.agg #[.int .u8 (o.k.toNat : Int), .string o.p]] w fun e w' => e = .returned (.int .i64 (ckO o)) ∧ Below w.heap.size w w' := by
  unfold maxLen at hm
  have hr : Below w.heap.size w (w.alloc (.cells #[.int .u8 (o.k.toNat : Int), .string o.p] 163)) := (Below.refl _ _).alloc (Nat.le_refl _) _
  have HR : Hid (Below w.heap.size w (w.alloc (.cells #[.int .u8 (o.k.toNat : Int), .string o.p] 163))) := hr
  obtain ⟨k, p⟩ := o
  simp only at hm hr HR ⊢
  clear hr
  have HC : Hid (∀ b : Int, ((1 ≤ k.toNat ∧ k.toNat ≤ 5 ∧ p.size ≤ 2097152) → b = 0) → (¬ (1 ≤ k.toNat ∧ k.toNat ≤ 5 ∧ p.size ≤ 2097152) → b = 1) → ckO ⟨k, p⟩ = b) := by
    intro b h1 h2
    unfold ckO
    split
    · rename_i h; exact (h1 ((okO_iff _).1 h)).symm
    · rename_i h; exact (h2 (fun h3 => h ((okO_iff _).2 h3))).symm
  have hk := k.toNat_lt
  generalize k.toNat = n at HR HC hk ⊢
  by_cases h1 : n < 1
  · have hz : n = 0 := by omega
    subst hz
    go_enter Tryz.func139, Tryz.ntmps139
    go_wp2
    go_ret
    exact ⟨ret_i11 (HC.out _ (by omega) (by omega)), HR.out⟩
  have g1 : ¬ (n : Int) < 1 := by omega
  by_cases h2 : 5 < n
  · have g2 : (5 : Int) < n := by omega
    go_enter Tryz.func139, Tryz.ntmps139
    go_wp2
    go_ret
    exact ⟨ret_i11 (HC.out _ (by omega) (by omega)), HR.out⟩
  have g2 : ¬ (5 : Int) < n := by omega
  by_cases h3 : 2097152 < p.size
  · have g3 : (2097152 : Int) < p.size := by omega
    go_enter Tryz.func139, Tryz.ntmps139
    go_wp2
    go_ret
    exact ⟨ret_i11 (HC.out _ (by omega) (by omega)), HR.out⟩
  have g3 : ¬ (2097152 : Int) < p.size := by omega
  go_enter Tryz.func139, Tryz.ntmps139
  go_wp2
  go_ret
  exact ⟨ret_i11 (HC.out _ (by omega) (by omega)), HR.out⟩
set_option maxHeartbeats 400000 in
theorem rtrailer (n : Nat) (w : World) (hn : n < 9223372036854775808) :
    Calls Tryz.prog 77 #[.int .i64 (n : Int)] w fun e w' => e = .returned (.string (trl n)) ∧ Below w.heap.size w w' := by
  have hw : IntKind.u64.wrap (n : Int) = (n : Int) := by
    simp [IntKind.wrap, IntKind.bits, IntKind.signed]; omega
  go_enter Tryz.func77, Tryz.ntmps77
  go_wp2_with fail
  refine (rput_any ⟨#[0]⟩ (n : Int) _ (by omega) (by omega) (by decide)).mono ?_
  rintro e w1 ⟨rfl, hb⟩
  rw [Int.toNat_natCast]
  have HB : Hid (Below w.heap.size w w1) := hb
  clear hb
  obtain ⟨q, hq⟩ : ∃ q, q = trB n := ⟨_, rfl⟩
  have e1 : (⟨#[0]⟩ : ByteArray) ++ sb (encS n) = q := by rw [hq]; rfl
  rw [e1]
  clear e1
  have hz : q.size ≤ 67108864 := by rw [hq, trB_size]; have := encS_le n (by omega); omega
  have HQ : Hid (q = trB n) := hq
  clear hq
  go_wp2_with fail
  refine (laid_any q _ hz).mono ?_
  rintro e w2 ⟨rfl, hb2⟩
  go_wp2
  go_ret
  refine ⟨?_, HB.out.trans (hb2.mono HB.out.size)⟩
  rw [HQ.out]; rfl
theorem rof_nm (o : Ob) (w : World) (hp : o.p.size ≤ 140737488351000) :
    Calls Tryz.prog 113 #[.int .u8 (o.k.toNat : Int), .string o.p] w fun e w' => e = .returned (.agg (idc (nmO o))) ∧ Below w.heap.size w w' := by
  have := rOf_big o.k.toNat o.p w o.k.toNat_lt hp
  rw [shc_idc] at this
  exact this
end Go.Proofs.YtpfknjnigcefgaaGreatDoor
/- The document's own Build. -/
namespace Go.Proofs.YtpfknjnigcefgaaGreatDoor
open Go.RowKit
set_option linter.unusedSimpArgs false
set_option linter.unusedVariables false
def isI (v : Value) : Prop := ∃ n : Int, v = .int .i64 n
/-- The document's pack under way. -/
structure RbS (w0 : World) (m : Nat) (d : List Ob) (w : World) : Prop where
  st : St isI w m (d.map nmO)
  mlb : w0.heap.size ≤ m
  bel : Below w0.heap.size w0 w
theorem RbS.keep {w0 w w' : World} {m : Nat} {d : List Ob} (h : RbS w0 m d w) (hb : Below w.heap.size w w') : RbS w0 m d w' :=
  ⟨h.st.below hb, h.mlb, h.bel.trans (hb.mono h.bel.size)⟩
theorem zero_int11 (w : World) : (zeroValue 3).run Tryz.prog w = .ok (.int .i64 0) w := by kernel_rfl
theorem RbS.look {w0 w : World} {m : Nat} {d : List Ob} (h : RbS w0 m d w) (x : ByteArray) (hx : x.size = 32) : ∃ n : Int, (Instr.lookup 66 (.map (some m)) (.agg (idc x)) true).run Tryz.prog w = .ok (.tuple #[.int .i64 n, .bool (hasN d x)]) w := by
  obtain ⟨v, h1, n, rfl⟩ := h.st.look Tryz.underlying66 (zero_int11 _) ⟨0, rfl⟩ x hx
  rw [onL_nm] at h1
  exact ⟨n, h1⟩
theorem RbS.put {w0 w : World} {m : Nat} {d : List Ob} (h : RbS w0 m d w) (hn : d.length < 1048576) (o : Ob) (n : Int) :
    ∃ w', (Instr.mapUpdate 66 (.map (some m)) (.agg (idc (nmO o))) (.int .i64 n)).run Tryz.prog w = .ok () w' ∧ RbS w0 m (d ++ [o]) w' := by
  obtain ⟨w', h1, h2, h3⟩ := h.st.put Tryz.underlying66 (by rw [List.length_map]; exact hn) (nmO o) (nmO_size o) (.int .i64 n) ⟨n, rfl⟩
  exact ⟨w', h1, by rw [List.map_append]; exact h2, h.mlb, below_own h.bel h.bel.size h3 h.mlb⟩
theorem grownBy_setRow11 (w : World) (g : Nat) (cs : Array Value) : w.grownBy (w.setRow g cs) (some g) := by
  refine ⟨rfl, rfl, rfl, by simp [World.setRow], fun k hk hne => ?_⟩
  have : g ≠ k := fun e => hne (by rw [e])
  simp [World.setRow, Array.getElem?_modify, this]
theorem step_store_row {P : Program} {ops : Array Oper} {o : Oper} {a : Act} {w : World} {K : Act → World → Prop} {Q : Exit → Act → World → Prop} {E : Prop} (hgd : o.guard = none) (ty : TypeId) (x y : Operand) (ho : o.op = .store ty x y)
    (g : Nat) (cells : Array Value) (hx : a.eval x = .pointer (some ⟨g, 0, none⟩)) (hy : a.eval y = .agg cells) (t : TypeId) (old : Array Value) (hg : Bk w g old t) (hi : (P.info? ty).map (·.size) = some cells.size)
    (hold : old.size = cells.size) (h1 : cells.all (·.oneCell') = true) (h : ∀ w', Hid (Bk w' g cells t) → Hid (w.grownBy w' (some g)) → K (a.put o.dst undef) w') :
    if Region.wanted o (yielded ops a.tmps) = true then Oper.wp P o a w K Q else E := by
  have hw : Region.wanted o (yielded ops a.tmps) = true := by simp [Region.wanted, hgd]
  rw [if_pos hw]
  refine wp_store_row ty x y ho g cells hx hy t old hg hi hold h1 (h _ (setRow_heap _ _ _ _ _ _ hg) ?_)
  exact grownBy_setRow11 _ _ _
/-- The string so far. -/
def rbT (d : List Ob) : ByteArray := ⟨(mk4 ++ recL d).toArray⟩
theorem rbT_size (d : List Ob) : (rbT d).size = 4 + lenL d := by rw [← bl_length, show bl (rbT d) = mk4 ++ recL d from rfl, List.length_append, recL_length]; rfl
theorem rbT_snoc (d : List Ob) (o : Ob) : rbT d ++ recO o = rbT (d ++ [o]) := by
  apply bl_inj
  rw [bl_append, show bl (rbT d) = mk4 ++ recL d from rfl, show bl (rbT (d ++ [o])) = mk4 ++ recL (d ++ [o]) from rfl, recL_snoc, List.append_assoc]
end Go.Proofs.YtpfknjnigcefgaaGreatDoor
/- The document's own Build. -/
namespace Go.Proofs.YtpfknjnigcefgaaGreatDoor
open Go.RowKit
set_option linter.unusedSimpArgs false
set_option linter.unusedVariables false
theorem isagg_u8 (w : World) : (isAgg 5).run Tryz.prog w = .ok false w := by kernel_rfl
theorem isagg_str (w : World) : (isAgg 9).run Tryz.prog w = .ok false w := by kernel_rfl
end Go.Proofs.YtpfknjnigcefgaaGreatDoor
/- The walk of the document's own Unframe (munimentref03). -/
namespace Go.Proofs.YtpfknjnigcefgaaGreatDoor
open Go.RowKit
set_option linter.unusedSimpArgs false
set_option linter.unusedVariables false
set_option maxHeartbeats 400000 in
theorem runframe_4 (s : ByteArray) (w : World) (hs : s.size < 4) :
    Calls Tryz.prog 138 #[.string s] w fun e w' => e = .returned (.tuple #[.string (ufP s), .string (ufR s), .int .i64 (ufE s)]) ∧ Below w.heap.size w w' := by
  go_enter Tryz.func138, Tryz.ntmps138
  go_wp2_with fail
  refine (rfixed_no s w.heap.size _ (by unfold maxLen; omega) (al_ptr _ _ _) (by simp) (by simp) 4 (by omega) (by omega) (by omega)).mono ?_
  rintro e w2 ⟨rfl, h2⟩
  have HB2 : Hid (Below w.heap.size w w2) := ((Below.refl _ _).alloc (Nat.le_refl _) _).trans (h2.below (Nat.le_refl _) (by simp))
  have hz2 : w.heap.size < w2.heap.size := by have := h2.size; simp at this; omega
  have H2 : Hid (Step w.heap.size (w.alloc (.cells #[.string s] 85)) w2 s) := h2
  clear h2
  go_wp2_with fail
  refine (rfixed_no s w.heap.size _ (by unfold maxLen; omega) H2.out.cell H2.out.frozen hz2 4 (by omega) (by omega) (by omega)).mono ?_
  rintro e w3 ⟨rfl, h3⟩
  have HB3 : Hid (Below w.heap.size w w3) := HB2.out.trans (h3.below (Nat.le_refl _) (by omega))
  clear h3
  go_wp2
  go_ret3
  exact ⟨ret_uf (uf_no (uf_short (by omega))), HB3.out⟩
set_option maxHeartbeats 1000000 in
theorem runframe_8 (s : ByteArray) (w : World) (hm : s.size ≤ maxLen) (hs : 4 ≤ s.size) :
    Calls Tryz.prog 138 #[.string s] w fun e w' => e = .returned (.tuple #[.string (ufP s), .string (ufR s), .int .i64 (ufE s)]) ∧ Below w.heap.size w w' := by
  have hm' := hm
  unfold maxLen at hm'
  obtain ⟨n, hn⟩ : ∃ n, n = ufn s := ⟨_, rfl⟩
  have HN : Hid (n = ufn s) := hn
  have hnl : n < 4294967296 := by rw [hn]; exact ufn_lt s
  clear hn
  obtain ⟨r1, hr1⟩ : ∃ r, r = s.extract 4 s.size := ⟨_, rfl⟩
  have HR1 : Hid (r1 = s.extract 4 s.size) := hr1
  have HZ1 : Hid (r1.size = s.size - 4) := by rw [hr1]; exact ext_size s 4 hs
  clear hr1
  go_enter Tryz.func138, Tryz.ntmps138
  go_wp2_with fail
  refine (rfixed_ok s w.heap.size _ hm (al_ptr _ _ _) (by simp) (by simp) 4 (by omega) (by omega) (by omega)).mono ?_
  rintro e w2 ⟨rfl, h2⟩
  rw [show fixV ((bl s).take 4) = n from HN.out.symm]
  rw [← HR1.out] at h2
  have H2 : Hid (Step w.heap.size (w.alloc (.cells #[.string s] 85)) w2 r1) := h2
  have HB2 : Hid (Below w.heap.size w w2) := ((Below.refl _ _).alloc (Nat.le_refl _) _).trans (h2.below (Nat.le_refl _) (by simp))
  have hz2 : w.heap.size < w2.heap.size := by have := h2.size; simp at this; omega
  clear h2
  go_wp2_with fail
  by_cases h8 : s.size < 8
  · refine (rfixed_no r1 w.heap.size _ (by rw [HZ1.out]; unfold maxLen; omega) H2.out.cell H2.out.frozen hz2 4 (by omega) (by omega) (by rw [HZ1.out]; omega)).mono ?_
    rintro e w3 ⟨rfl, h3⟩
    have HB3 : Hid (Below w.heap.size w w3) := HB2.out.trans (h3.below (Nat.le_refl _) (by omega))
    clear h3
    go_wp2
    go_ret3
    exact ⟨ret_uf (uf_no (uf_short (by omega))), HB3.out⟩
  have h8' : 8 ≤ s.size := by omega
  clear h8
  obtain ⟨r2, hr2⟩ : ∃ r, r = s.extract 8 s.size := ⟨_, rfl⟩
  have HR2 : Hid (r2 = s.extract 8 s.size) := hr2
  have HZ2 : Hid (r2.size = s.size - 8) := by rw [hr2]; exact ext_size s 8 h8'
  have hz2' : r2.size + 8 ≤ s.size := by rw [HZ2.out]; omega
  clear hr2
  obtain ⟨cv, hcv⟩ : ∃ cv, cv = fixV (((bl s).drop 4).take 4) := ⟨_, rfl⟩
  have HC : Hid (cv = fixV (((bl s).drop 4).take 4)) := hcv
  have hcl : cv < 4294967296 := by rw [hcv]; exact fixV4_lt _
  clear hcv
  refine (rfixed_ok r1 w.heap.size _ (by rw [HZ1.out]; unfold maxLen; omega) H2.out.cell H2.out.frozen hz2 4 (by omega) (by omega) (by rw [HZ1.out]; omega)).mono ?_
  rintro e w3 ⟨rfl, h3⟩
  rw [show fixV ((bl r1).take 4) = cv from by rw [HC.out, HR1.out, bl_drop]]
  rw [show r1.extract 4 r1.size = r2 from by apply bl_inj; rw [bl_drop, HR1.out, HR2.out, bl_drop, bl_drop, List.drop_drop]] at h3
  have HB3 : Hid (Below w.heap.size w w3) := HB2.out.trans (h3.below (Nat.le_refl _) (by omega))
  have hz3 : w.heap.size < w3.heap.size := by have := h3.size; omega
  have hc3 : w3.cell? ⟨w.heap.size, 0, none⟩ = some (.string r2) := h3.cell
  clear h3
  by_cases hbig : 67108864 < n
  · go_wp2
    go_ret3
    exact ⟨ret_uf (uf_no (uf_long (by rw [← HN.out]; exact hbig))), HB3.out⟩
  have hn26 : (n : Int) ≤ 67108864 := by omega
  clear hbig
  by_cases hcut : r2.size < n
  · have hcut' : (r2.size : Int) < n := by omega
    go_wp2
    go_ret3
    exact ⟨ret_uf (uf_no (uf_cut (by rw [← HN.out]; have := HZ2.out; omega))), HB3.out⟩
  have hcut' : n ≤ r2.size := by omega
  clear hcut
  go_wp2_with fail
  obtain ⟨p, hp⟩ : ∃ p, p = r2.extract 0 n := ⟨_, rfl⟩
  have HPb : Hid (bl p = ((bl s).drop 8).take n) := by rw [hp, bl_extract, List.drop_zero, HR2.out, bl_drop]; rfl
  have hps : 8 + n ≤ s.size := by omega
  have HPz : Hid (p.size = n) := by show p.size = n; rw [← bl_length, HPb.out, List.length_take, List.length_drop, bl_length]; omega
  have hpz : p.size ≤ 67108864 := by rw [HPz.out]; omega
  rw [← hp]
  clear hp
  have hpe : (s.extract 0 4 ++ p).size ≤ 67108868 := by rw [append_size]; simp; omega
  refine (rcrc_any (s.extract 0 4 ++ p) _ (by unfold maxLen; omega)).mono ?_
  rintro e w5 ⟨rfl, hw5⟩
  subst hw5
  obtain ⟨q, hq⟩ : ∃ q : BitVec 32, q = crcC (bl (s.extract 0 4 ++ p)) := ⟨_, rfl⟩
  rw [← hq]
  have HQ : Hid (q.toNat = (crcC ((bl s).take 4 ++ ((bl s).drop 8).take (ufn s))).toNat) := by
    show q.toNat = _
    rw [hq, bl_append, HPb.out, HN.out, extract_take s 4 hs]
  have hlt := q.isLt
  clear hq hpe
  by_cases hne : q.toNat = cv
  · have hb : ((q.toNat : Int) != (cv : Int)) = false := by rw [bne_eq_false_iff_eq]; omega
    have HE : Hid (q.toNat = cv) := hne
    clear hne
    go_wp2
    go_region
    go_wp2
    go_ret3
    have hok : ufB s = true := by
      rw [ufB_iff, ← HN.out]
      refine ⟨h8', by omega, hps, ?_⟩
      rw [HN.out, ← HQ.out, ← HC.out]; exact HE.out
    refine ⟨ret_uf ?_, ?_⟩
    · obtain ⟨a, b, c⟩ := uf_yes hok
      refine ⟨?_, ?_, c⟩
      · rw [a]
        apply bl_inj
        rw [HPb.out, bl_extract, List.drop_take, Nat.add_sub_cancel_left, HN.out]
      · rw [b, ← HN.out]
        apply bl_inj
        rw [bl_drop, bl_drop, HR2.out, bl_drop, List.drop_drop]
    · exact HB3.out.drew
  · have hb : ((q.toNat : Int) != (cv : Int)) = true := by rw [bne_iff_ne]; omega
    have HE : Hid (¬ q.toNat = cv) := hne
    clear hne
    go_wp2
    go_ret3
    exact ⟨ret_uf (uf_no (uf_crc (by rw [← HQ.out, ← HC.out]; exact HE.out))), HB3.out⟩
theorem runframe_any (s : ByteArray) (w : World) (hm : s.size ≤ maxLen) :
    Calls Tryz.prog 138 #[.string s] w fun e w' => e = .returned (.tuple #[.string (ufP s), .string (ufR s), .int .i64 (ufE s)]) ∧ Below w.heap.size w w' := by
  by_cases h : s.size < 4
  · exact runframe_4 s w h
  · exact runframe_8 s w hm (by omega)
end Go.Proofs.YtpfknjnigcefgaaGreatDoor
