import Derived.Test.YteccnnpialaalaaDoorY8
import Derived.Test.YteccnnpialaalaaDoorY3
/- parity: the names of side-cars' files, on both sides. -/
namespace Go.Proofs.YteccnnpialaalaaDoor
open Go.RowKit
set_option linter.unusedSimpArgs false
set_option linter.unusedVariables false
/-- A side-car's file's name. -/
def pnN (x y : ByteArray) : ByteArray := (⟨#[112, 97, 114, 45]⟩ : ByteArray) ++ sb (hexL (bl x)) ++ (⟨#[45]⟩ : ByteArray) ++ sb (hexL (bl y)) ++ (⟨#[46, 112, 120]⟩ : ByteArray)
/-- Two names in their boxes. -/
structure BxS (w : World) (x y : ByteArray) (W : World) : Prop where
  b0 : Bk W w.heap.size (idc x) 27
  b1 : Bk W (w.heap.size + 1) (idc y) 27
  bel : Below w.heap.size w W
theorem BxS.next {w W W' : World} {x y : ByteArray} (h : BxS w x y W) (hb : Below W.heap.size W W') : BxS w x y W' := ⟨h.b0.below hb h.b0.lt, h.b1.below hb h.b1.lt, h.bel.trans (hb.mono h.bel.size)⟩
theorem BxS.new (w : World) (x y : ByteArray) : BxS w x y ((w.alloc (.cells (idc x) 27)).alloc (.cells (idc y) 27)) := by
  have q1 := bk_new w (idc x) 27
  have q2 := bk_new (w.alloc (.cells (idc x) 27)) (idc y) 27
  rw [al_size] at q2
  exact ⟨q1.alloc _, q2, ((Below.refl _ _).alloc (Nat.le_refl _) _).alloc (by rw [al_size]; omega) _⟩
theorem quiet_add17 {P : Program} {o : Oper} {a : Act} {C : World → Prop} {K : Act → Prop} (t t' : TypeId) (x y : Operand) (ho : o.op = .binOp .add t x y t') (p q r : ByteArray) (hx : a.eval x = .string p) (hy : a.eval y = .string q) (hr : p ++ q = r) (hz : p.size + q.size ≤ 9223372036854775807) (hn : K (a.put o.dst (.string r))) : o.quiet P a C K :=
  quiet_val10 (.string r) (fun w hw => by
    unfold execOp
    simp only [ho, hx, hy, binOp_string_add]
    rw [← hr]
    simp [eqGuard, run_string_add_sum w p q hz]) hn
set_option maxHeartbeats 4000000 in
set_option maxRecDepth 100000 in
theorem name17 (x y : ByteArray) (w : World) (hx : x.size = 32) (hy : y.size = 32) (hA : Dig w) :
    Calls Tryd.prog 15 #[.agg (idc x), .agg (idc y)] w fun e w' => e = .returned (.string (pnN x y)) ∧ Below w.heap.size w w' := by
  have H0 : Hid (BxS w x y ((w.alloc (.cells (idc x) 27)).alloc (.cells (idc y) 27))) := BxS.new w x y
  have HI : Hid ((Tryd.prog.info? 27).map (·.size) = some (idc x).size ∧ (Tryd.prog.info? 27).map (·.size) = some (idc y).size) := ⟨info_32 (by rw [idc_size, hx]), info_32 (by rw [idc_size, hy])⟩
  have HTX : Hid (∀ W, BxS w x y W → Calls Tryd.prog 35 #[.agg (idc x)] W fun e w' => e = .returned (.string (sb (hexL (bl x)))) ∧ BxS w x y w') := fun W hW => (text17 x W hx (hA.below hW.bel)).mono fun e w' q => ⟨q.1, hW.next q.2⟩
  have HTY : Hid (∀ W, BxS w x y W → Calls Tryd.prog 35 #[.agg (idc y)] W fun e w' => e = .returned (.string (sb (hexL (bl y)))) ∧ BxS w x y w') := fun W hW => (text17 y W hy (hA.below hW.bel)).mono fun e w' q => ⟨q.1, hW.next q.2⟩
  have hzx : (sb (hexL (bl x))).size = 64 := by rw [sb_size, hexL_length, bl_length, hx]
  have hzy : (sb (hexL (bl y))).size = 64 := by rw [sb_size, hexL_length, bl_length, hy]
  have HBX : Hid (∀ W, BxS w x y W → Bk W w.heap.size (idc x) 27 ∧ Bk W (w.heap.size + 1) (idc y) 27) := fun W hW => ⟨hW.b0, hW.b1⟩
  obtain ⟨tx, htx⟩ : ∃ t, sb (hexL (bl x)) = t := ⟨_, rfl⟩
  obtain ⟨ty, hty⟩ : ∃ t, sb (hexL (bl y)) = t := ⟨_, rfl⟩
  obtain ⟨X, hX⟩ : ∃ t, idc x = t := ⟨_, rfl⟩
  obtain ⟨Y, hY⟩ : ∃ t, idc y = t := ⟨_, rfl⟩
  rw [htx] at HTX hzx
  rw [hty] at HTY hzy
  rw [hX] at HTX HI HBX
  rw [hY] at HTY HI HBX
  obtain ⟨s1, hs1⟩ : ∃ s, (⟨#[112, 97, 114, 45]⟩ : ByteArray) ++ tx = s := ⟨_, rfl⟩
  obtain ⟨s2, hs2⟩ : ∃ s, s1 ++ (⟨#[45]⟩ : ByteArray) = s := ⟨_, rfl⟩
  obtain ⟨s3, hs3⟩ : ∃ s, s2 ++ ty = s := ⟨_, rfl⟩
  obtain ⟨s4, hs4⟩ : ∃ s, s3 ++ (⟨#[46, 112, 120]⟩ : ByteArray) = s := ⟨_, rfl⟩
  have z1 : s1.size = 68 := by rw [← hs1, ByteArray.size_append, hzx]; rfl
  have z2 : s2.size = 69 := by rw [← hs2, ByteArray.size_append, z1]; rfl
  have z3 : s3.size = 133 := by rw [← hs3, ByteArray.size_append, z2, hzy]
  have HE : Hid (pnN x y = s4) := by show _ = _; rw [pnN, htx, hty, hs1, hs2, hs3, hs4]
  have HS : Hid ((⟨#[112, 97, 114, 45]⟩ : ByteArray) ++ tx = s1 ∧ s1 ++ (⟨#[45]⟩ : ByteArray) = s2 ∧ s2 ++ ty = s3 ∧ s3 ++ (⟨#[46, 112, 120]⟩ : ByteArray) = s4) := ⟨hs1, hs2, hs3, hs4⟩
  have HXY : Hid (idc x = X ∧ idc y = Y) := ⟨hX, hY⟩
  rw [hX, hY] at H0 ⊢
  clear hx hy htx hty hX hY hs1 hs2 hs3 hs4
  go_enter Tryd.func15, Tryd.ntmps15
  go_wp2_with fail
  refine region_class10 (BxS w x y) (by kernel_rfl) (by kernel_rfl) (H0.out.next ((Below.refl _ _).drew)) ?_
  try simp only [Act.put, List.setIfInBounds_toArray, List.set_cons_zero, List.set_cons_succ]
  repeat (first
    | go_big_quiet_skip
    | (go_big_quiet_want
       first
         | (refine quiet_row 27 _ rfl w.heap.size 0 X X 27 _ rfl (fun W hW => (HBX.out W hW).1) (fun j v hv => by rw [Nat.zero_add]; exact hv) Tryd.underlying27 rfl HI.out.1 ?_; go_big_quiet_on; simp only [Act.put, List.setIfInBounds_toArray, List.set_cons_zero, List.set_cons_succ])
         | (refine quiet_row 27 _ rfl (w.heap.size + 1) 0 Y Y 27 _ rfl (fun W hW => (HBX.out W hW).2) (fun j v hv => by rw [Nat.zero_add]; exact hv) Tryd.underlying27 rfl HI.out.2 ?_; go_big_quiet_on; simp only [Act.put, List.setIfInBounds_toArray, List.set_cons_zero, List.set_cons_succ])
         | (refine quiet_call10 (.string tx) 35 #[.agg X] ?_ ?_ ?_; (focus (intro W hW; go_simp; done)); (focus (intro W hW; exact HTX.out W hW)); go_big_quiet_on; simp only [Act.put, List.setIfInBounds_toArray, List.set_cons_zero, List.set_cons_succ])
         | (refine quiet_call10 (.string ty) 35 #[.agg Y] ?_ ?_ ?_; (focus (intro W hW; go_simp; done)); (focus (intro W hW; exact HTY.out W hW)); go_big_quiet_on; simp only [Act.put, List.setIfInBounds_toArray, List.set_cons_zero, List.set_cons_succ])
         | (refine quiet_add17 _ _ _ _ rfl ⟨#[112, 97, 114, 45]⟩ tx s1 rfl rfl HS.out.1 (by show 4 + tx.size ≤ _; omega) ?_; go_big_quiet_on; simp only [Act.put, List.setIfInBounds_toArray, List.set_cons_zero, List.set_cons_succ])
         | (refine quiet_add17 _ _ _ _ rfl s1 ⟨#[45]⟩ s2 rfl rfl HS.out.2.1 (by show s1.size + 1 ≤ _; omega) ?_; go_big_quiet_on; simp only [Act.put, List.setIfInBounds_toArray, List.set_cons_zero, List.set_cons_succ])
         | (refine quiet_add17 _ _ _ _ rfl s2 ty s3 rfl rfl HS.out.2.2.1 (by omega) ?_; go_big_quiet_on; simp only [Act.put, List.setIfInBounds_toArray, List.set_cons_zero, List.set_cons_succ])
         | (refine quiet_add17 _ _ _ _ rfl s3 ⟨#[46, 112, 120]⟩ s4 rfl rfl HS.out.2.2.2 (by show s3.size + 3 ≤ _; omega) ?_; go_big_quiet_on; simp only [Act.put, List.setIfInBounds_toArray, List.set_cons_zero, List.set_cons_succ])
         | (go_big_quiet_op; go_big_quiet_on)))
  refine wpQuiet_nil ?_
  intro w9 hw9
  have H9 : Hid (Below w.heap.size w w9) := hw9.bel
  clear hw9
  go_wp2
  go_ret
  exact ⟨by rw [HE.out]; rfl, H9.out⟩
set_option maxHeartbeats 4000000 in
set_option maxRecDepth 100000 in
theorem rname17 (x y : ByteArray) (w : World) (hx : x.size = 32) (hy : y.size = 32) :
    Calls Tryd.prog 16 #[.agg (idc x), .agg (idc y)] w fun e w' => e = .returned (.string (pnN x y)) ∧ Below w.heap.size w w' := by
  have H0 : Hid (BxS w x y ((w.alloc (.cells (idc x) 27)).alloc (.cells (idc y) 27))) := BxS.new w x y
  have HI : Hid ((Tryd.prog.info? 27).map (·.size) = some (idc x).size ∧ (Tryd.prog.info? 27).map (·.size) = some (idc y).size) := ⟨info_32 (by rw [idc_size, hx]), info_32 (by rw [idc_size, hy])⟩
  have HTX : Hid (∀ W, BxS w x y W → Calls Tryd.prog 36 #[.agg (idc x)] W fun e w' => e = .returned (.string (sb (hexL (bl x)))) ∧ BxS w x y w') := fun W hW => (rText_any x W hx).mono fun e w' q => ⟨q.1, hW.next q.2⟩
  have HTY : Hid (∀ W, BxS w x y W → Calls Tryd.prog 36 #[.agg (idc y)] W fun e w' => e = .returned (.string (sb (hexL (bl y)))) ∧ BxS w x y w') := fun W hW => (rText_any y W hy).mono fun e w' q => ⟨q.1, hW.next q.2⟩
  have hzx : (sb (hexL (bl x))).size = 64 := by rw [sb_size, hexL_length, bl_length, hx]
  have hzy : (sb (hexL (bl y))).size = 64 := by rw [sb_size, hexL_length, bl_length, hy]
  have HBX : Hid (∀ W, BxS w x y W → Bk W w.heap.size (idc x) 27 ∧ Bk W (w.heap.size + 1) (idc y) 27) := fun W hW => ⟨hW.b0, hW.b1⟩
  obtain ⟨tx, htx⟩ : ∃ t, sb (hexL (bl x)) = t := ⟨_, rfl⟩
  obtain ⟨ty, hty⟩ : ∃ t, sb (hexL (bl y)) = t := ⟨_, rfl⟩
  obtain ⟨X, hX⟩ : ∃ t, idc x = t := ⟨_, rfl⟩
  obtain ⟨Y, hY⟩ : ∃ t, idc y = t := ⟨_, rfl⟩
  rw [htx] at HTX hzx
  rw [hty] at HTY hzy
  rw [hX] at HTX HI HBX
  rw [hY] at HTY HI HBX
  obtain ⟨s1, hs1⟩ : ∃ s, (⟨#[112, 97, 114, 45]⟩ : ByteArray) ++ tx = s := ⟨_, rfl⟩
  obtain ⟨s2, hs2⟩ : ∃ s, s1 ++ (⟨#[45]⟩ : ByteArray) = s := ⟨_, rfl⟩
  obtain ⟨s3, hs3⟩ : ∃ s, s2 ++ ty = s := ⟨_, rfl⟩
  obtain ⟨s4, hs4⟩ : ∃ s, s3 ++ (⟨#[46, 112, 120]⟩ : ByteArray) = s := ⟨_, rfl⟩
  have z1 : s1.size = 68 := by rw [← hs1, ByteArray.size_append, hzx]; rfl
  have z2 : s2.size = 69 := by rw [← hs2, ByteArray.size_append, z1]; rfl
  have z3 : s3.size = 133 := by rw [← hs3, ByteArray.size_append, z2, hzy]
  have HE : Hid (pnN x y = s4) := by show _ = _; rw [pnN, htx, hty, hs1, hs2, hs3, hs4]
  have HS : Hid ((⟨#[112, 97, 114, 45]⟩ : ByteArray) ++ tx = s1 ∧ s1 ++ (⟨#[45]⟩ : ByteArray) = s2 ∧ s2 ++ ty = s3 ∧ s3 ++ (⟨#[46, 112, 120]⟩ : ByteArray) = s4) := ⟨hs1, hs2, hs3, hs4⟩
  have HXY : Hid (idc x = X ∧ idc y = Y) := ⟨hX, hY⟩
  rw [hX, hY] at H0 ⊢
  clear hx hy htx hty hX hY hs1 hs2 hs3 hs4
  go_enter Tryd.func16, Tryd.ntmps16
  go_wp2_with fail
  refine region_class10 (BxS w x y) (by kernel_rfl) (by kernel_rfl) (H0.out.next ((Below.refl _ _).drew)) ?_
  try simp only [Act.put, List.setIfInBounds_toArray, List.set_cons_zero, List.set_cons_succ]
  repeat (first
    | go_big_quiet_skip
    | (go_big_quiet_want
       first
         | (refine quiet_row 27 _ rfl w.heap.size 0 X X 27 _ rfl (fun W hW => (HBX.out W hW).1) (fun j v hv => by rw [Nat.zero_add]; exact hv) Tryd.underlying27 rfl HI.out.1 ?_; go_big_quiet_on; simp only [Act.put, List.setIfInBounds_toArray, List.set_cons_zero, List.set_cons_succ])
         | (refine quiet_row 27 _ rfl (w.heap.size + 1) 0 Y Y 27 _ rfl (fun W hW => (HBX.out W hW).2) (fun j v hv => by rw [Nat.zero_add]; exact hv) Tryd.underlying27 rfl HI.out.2 ?_; go_big_quiet_on; simp only [Act.put, List.setIfInBounds_toArray, List.set_cons_zero, List.set_cons_succ])
         | (refine quiet_call10 (.string tx) 36 #[.agg X] ?_ ?_ ?_; (focus (intro W hW; go_simp; done)); (focus (intro W hW; exact HTX.out W hW)); go_big_quiet_on; simp only [Act.put, List.setIfInBounds_toArray, List.set_cons_zero, List.set_cons_succ])
         | (refine quiet_call10 (.string ty) 36 #[.agg Y] ?_ ?_ ?_; (focus (intro W hW; go_simp; done)); (focus (intro W hW; exact HTY.out W hW)); go_big_quiet_on; simp only [Act.put, List.setIfInBounds_toArray, List.set_cons_zero, List.set_cons_succ])
         | (refine quiet_add17 _ _ _ _ rfl ⟨#[112, 97, 114, 45]⟩ tx s1 rfl rfl HS.out.1 (by show 4 + tx.size ≤ _; omega) ?_; go_big_quiet_on; simp only [Act.put, List.setIfInBounds_toArray, List.set_cons_zero, List.set_cons_succ])
         | (refine quiet_add17 _ _ _ _ rfl s1 ⟨#[45]⟩ s2 rfl rfl HS.out.2.1 (by show s1.size + 1 ≤ _; omega) ?_; go_big_quiet_on; simp only [Act.put, List.setIfInBounds_toArray, List.set_cons_zero, List.set_cons_succ])
         | (refine quiet_add17 _ _ _ _ rfl s2 ty s3 rfl rfl HS.out.2.2.1 (by omega) ?_; go_big_quiet_on; simp only [Act.put, List.setIfInBounds_toArray, List.set_cons_zero, List.set_cons_succ])
         | (refine quiet_add17 _ _ _ _ rfl s3 ⟨#[46, 112, 120]⟩ s4 rfl rfl HS.out.2.2.2 (by show s3.size + 3 ≤ _; omega) ?_; go_big_quiet_on; simp only [Act.put, List.setIfInBounds_toArray, List.set_cons_zero, List.set_cons_succ])
         | (go_big_quiet_op; go_big_quiet_on)))
  refine wpQuiet_nil ?_
  intro w9 hw9
  have H9 : Hid (Below w.heap.size w w9) := hw9.bel
  clear hw9
  go_wp2
  go_ret
  exact ⟨by rw [HE.out]; rfl, H9.out⟩
end Go.Proofs.YteccnnpialaalaaDoor
/- The document's own Parse (munimentref02). -/
namespace Go.Proofs.YteccnnpialaalaaDoor
open Go.RowKit
set_option linter.unusedSimpArgs false
set_option linter.unusedVariables false
theorem runhex_all (s : ByteArray) (w : World) (hs : s.size ≤ 140737488351232) :
    Calls Tryd.prog 48 #[.string s] w fun e w' => e = .returned (.tuple #[.string (uhS s), .int .i64 (uhE s)]) ∧ Below w.heap.size w w' := by
  by_cases h : s.size % 2 = 1
  · exact (runhex_odd s w (by omega) h).mono fun e w' ⟨he, hw'⟩ => ⟨he, by subst hw'; exact Below.refl _ _⟩
  · exact runhex_even s w (s.size / 2) (by omega) (by omega)
theorem runhex_size (s : ByteArray) : (uhS s).size ≤ s.size := by
  cases e : unhexL (bl s) with
  | none => rw [(uh_none e).1]; exact Nat.zero_le _
  | some m =>
    have := (hex_unhex _ _ (Nat.le_refl _) m e).2
    rw [bl_length] at this
    rw [(uh_some e).1, sb_size]
    omega
/-- What Parse's two names are, wherever it stands. -/
def SP (w : World) (A : Array Value) (W : World) : Prop :=
  Blk W w.heap.size z32c 27 ∧ Blk W (w.heap.size + 1) A 27 ∧ Below w.heap.size w W
theorem SP.below {w W W' : World} {A : Array Value} (h : SP w A W) (hb : Below W.heap.size W W') : SP w A W' :=
  ⟨h.1.grown (grown_of_below hb none) (by simp), h.2.1.grown (grown_of_below hb none) (by simp), h.2.2.trans (hb.mono h.2.2.size)⟩
theorem SP.new (w : World) : SP w z32c ((w.alloc (.cells z32c 27)).alloc (.cells z32c 27)) := by
  have g2 := World.grownBy_alloc (w.alloc (.cells z32c 27)) (.cells z32c 27) none
  have e := blk_new (w.alloc (.cells z32c 27)) (.cells z32c 27)
  rw [alloc_size] at e
  exact ⟨Blk.grown (blk_new w (.cells z32c 27)) g2 (by simp), e, ((Below.refl _ _).alloc (Nat.le_refl _) _).alloc (by rw [alloc_size]; omega) _⟩
set_option maxHeartbeats 1000000 in
set_option maxRecDepth 100000 in
theorem rParse_bad (t : ByteArray) (w : World) (ht : t.size ≤ 140737488351232) (hbad : ¬ (uhE t = 0 ∧ (uhS t).size = 32)) :
    Calls Tryd.prog 30 #[.string t] w fun e w' => e = .returned (.tuple #[.agg z32c, .int .i64 4]) ∧ Below w.heap.size w w' := by
  go_enter Tryd.func30, Tryd.ntmps30
  go_wp2_with fail
  refine Calls.mono (runhex_all t ((w.alloc (.cells z32c 27)).alloc (.cells z32c 27)) ht) ?_
  rintro e w1 ⟨rfl, hb⟩
  have HP : Hid (SP w z32c w1) := (SP.new w).below hb
  have hsz : (uhS t).size ≤ t.size := runhex_size t
  rcases uhE_cases t with he | he
  · rw [he]
    have hne : ¬ ((uhS t).size : Int) = 32 := by intro h; exact hbad ⟨he, by omega⟩
    clear hb hbad
    go_wp2_with (first
      | (refine wpList_load_row rfl 27 (.tmp 4) rfl (w.heap.size + 1) rfl 27 z32c (0, 0) _ HP.out.2.1 Tryd.underlying27 rfl (info_32 z32c_size) ?_)
      | (refine wpList_store_row rfl 27 (.tmp 2) (.tmp 20) rfl w.heap.size z32c rfl rfl 27 z32c HP.out.1 (info_32 z32c_size) rfl z32c_one ?_))
    refine bodyPost_ret (results_cell_tmp_row rfl _ _ w.heap.size 27 z32c (0, 0) _ rfl (setRow_heap _ _ _ _ _ _ HP.out.1) Tryd.underlying27 rfl (info_32 z32c_size)) rfl ⟨rfl, ?_⟩
    exact below_setRow HP.out.2.2 (Nat.le_refl _) _
  · rw [he]
    clear hb hbad
    go_wp2_with (first
      | (refine wpList_load_row rfl 27 (.tmp 4) rfl (w.heap.size + 1) rfl 27 z32c (0, 0) _ HP.out.2.1 Tryd.underlying27 rfl (info_32 z32c_size) ?_)
      | (refine wpList_store_row rfl 27 (.tmp 2) (.tmp 20) rfl w.heap.size z32c rfl rfl 27 z32c HP.out.1 (info_32 z32c_size) rfl z32c_one ?_))
    refine bodyPost_ret (results_cell_tmp_row rfl _ _ w.heap.size 27 z32c (0, 0) _ rfl (setRow_heap _ _ _ _ _ _ HP.out.1) Tryd.underlying27 rfl (info_32 z32c_size)) rfl ⟨rfl, ?_⟩
    exact below_setRow HP.out.2.2 (Nat.le_refl _) _
end Go.Proofs.YteccnnpialaalaaDoor
/- The document's own Parse (munimentref02): a name's text. -/
namespace Go.Proofs.YteccnnpialaalaaDoor
open Go.RowKit
set_option linter.unusedSimpArgs false
set_option linter.unusedVariables false
/-- So many bytes of a text laid into a name of noughts. -/
def fp (q : ByteArray) : Nat → Array Value
  | 0 => z32c
  | j + 1 => (fp q j).setIfInBounds j (.int .u8 (((byl q).getD j 0 : Nat) : Int))
theorem fp_size (q : ByteArray) : ∀ j, (fp q j).size = 32
  | 0 => z32c_size
  | j + 1 => by rw [fp, Array.size_setIfInBounds]; exact fp_size q j
theorem fp_get (q : ByteArray) (hq : q.size = 32) : ∀ j, j ≤ 32 → ∀ i, i < j → (fp q j)[i]? = (idc q)[i]?
  | 0, _, i, hi => by omega
  | j + 1, hj, i, hi => by
    rw [fp, Array.getElem?_setIfInBounds]
    by_cases e : j = i
    · subst e
      rw [if_pos rfl, if_pos (by rw [fp_size]; omega)]
      have hl : j < (byl q).length := by rw [byl_length]; omega
      rw [idc, List.getElem?_toArray, bvc, List.getElem?_map, List.getElem?_eq_getElem hl, List.getD, List.getElem?_eq_getElem hl]; rfl
    · rw [if_neg e]; exact fp_get q hq j (by omega) i (by omega)
theorem fp_all (q : ByteArray) (hq : q.size = 32) : fp q 32 = idc q := by
  apply Array.ext_getElem?
  intro i
  by_cases h : i < 32
  · exact fp_get q hq 32 (Nat.le_refl _) i h
  · rw [Array.getElem?_eq_none (by rw [fp_size]; omega), Array.getElem?_eq_none (by rw [idc_size]; omega)]
theorem idc_ones (s : ByteArray) : (idc s).all (·.oneCell') = true := Array.all_eq_true_iff_forall_mem.2 (by intro v hv; exact bvc_one _ v (by simpa [idc] using hv))
set_option maxHeartbeats 1000000 in
set_option maxRecDepth 100000 in
theorem rParse_good (t : ByteArray) (w : World) (ht : t.size ≤ 140737488351232) (he : uhE t = 0) (hz : (uhS t).size = 32) :
    Calls Tryd.prog 30 #[.string t] w fun e w' => e = .returned (.tuple #[.agg (idc (uhS t)), .int .i64 0]) ∧ Below w.heap.size w w' := by
  go_enter Tryd.func30, Tryd.ntmps30
  go_wp2_with fail
  refine Calls.mono (runhex_all t ((w.alloc (.cells z32c 27)).alloc (.cells z32c 27)) ht) ?_
  rintro e w1 ⟨rfl, hb⟩
  have HS : Hid (SP w (fp (uhS t) 0) w1) := (SP.new w).below hb
  rw [he]
  obtain ⟨q, hq⟩ : ∃ q, q = uhS t := ⟨_, rfl⟩
  rw [← hq] at hz HS ⊢
  have hzi : ((q.size : Int) = 32) := by omega
  have HU : Hid (q = uhS t) := hq
  clear hb hq he
  go_wp2
  go_loopw [7] (fun i wr => ∃ j : Nat, j ≤ 32 ∧ i = .int .i64 (j : Int) ∧ Hid (SP w (fp q j) wr)) (fun i _ => 40 - (intOf i).toNat)
  case atStart => exact ⟨0, by omega, rfl, HS.out⟩
  case round =>
    clear HS
    obtain ⟨j, hj, rfl, HR⟩ := hrel
    by_cases hj0 : j < 32
    · have hjq : j < q.size := by omega
      obtain ⟨u, hu⟩ : ∃ u, (fp q j)[j]? = some u := ⟨_, Array.getElem?_eq_getElem (by rw [fp_size]; exact hj0)⟩
      have hc3 : wr.cell? ⟨w.heap.size + 1, j, none⟩ = some u := by rw [HR.out.2.1.cell]; exact hu
      have hf3 : wr.frozen? ⟨w.heap.size + 1, j, none⟩ = false := HR.out.2.1.frozen j
      have HV : Hid ((byl q).getD j 0 = q[j].toNat) := by show (byl q).getD j 0 = q[j].toNat; rw [List.getD, byl_getD q j hjq]; rfl
      clear hu
      go_wp2
      go_roundw
      case rel =>
        refine ⟨j + 1, by omega, by go_num, ?_⟩
        have hS := HR.out
        have e : fp q (j + 1) = (fp q j).setIfInBounds j (.int .u8 (q[j].toNat : Int)) := by rw [← HV.out]; rfl
        have gg : wr.grownBy (wr.setCell ⟨w.heap.size + 1, j, none⟩ (.int .u8 (q[j].toNat : Int))) (some (w.heap.size + 1)) := Lib.grownBy_setB (World.grownBy.refl wr (some (w.heap.size + 1))) j _
        refine ⟨hS.1.grown gg (by simp), ?_, hS.2.2.setCell (by show w.heap.size ≤ w.heap.size + 1; omega) _⟩
        rw [e]
        exact hS.2.1.set _ _
      case measure => simp [intOf]; omega
    · have hj1 : j = 32 := by omega
      subst hj1
      have HP : Hid (SP w (idc q) wr) := by rw [← fp_all q hz]; exact HR.out
      clear HR hj hj0
      rw [show ((32 : Nat) : Int) = (32 : Int) from rfl]
      have hiq : (Tryd.prog.info? 27).map (·.size) = some (idc q).size := info_32 (by rw [idc_size]; exact hz)
      go_wp2_with (first
        | (refine wpList_load_row rfl 27 (.tmp 4) rfl (w.heap.size + 1) rfl 27 (idc q) (0, 0) _ HP.out.2.1 Tryd.underlying27 rfl hiq ?_)
        | (refine wpList_store_row rfl 27 (.tmp 2) (.tmp 30) rfl w.heap.size (idc q) rfl rfl 27 z32c HP.out.1 hiq (by rw [z32c_size, idc_size, hz]) (idc_ones q) ?_))
      refine bodyPost_ret (results_cell_tmp_row rfl _ _ w.heap.size 27 (idc q) (0, 0) _ rfl (setRow_heap _ _ _ _ _ _ HP.out.1) Tryd.underlying27 rfl hiq) rfl ⟨by rw [← HU.out]; rfl, ?_⟩
      exact below_setRow HP.out.2.2 (Nat.le_refl _) _
end Go.Proofs.YteccnnpialaalaaDoor
/- Operations that build something or append, by their run's equation; no program named. -/
namespace Go.Proofs.YteccnnpialaalaaDoor
open Go.RowKit
set_option linter.unusedSimpArgs false
set_option linter.unusedVariables false
theorem wpList_bdX2 {P : Program} {ops : Array Oper} {rest : List Oper} {o : Oper} {a : Act} {w : World} {Q : Exit → Act → World → Prop} (hgd : o.guard = none) (t : TypeId) (i j : Nat) (x0 x1 : Operand)
    (ho : o.op = .build t #[(i, x0), (j, x1)]) (v0 v1 r : Value) (h0 : a.eval x0 = v0) (h1 : a.eval x1 = v1) (hr : (Instr.build t #[(i, v0), (j, v1)]).run P w = .ok r w)
    (h : wpList P ops Q rest (a.put o.dst r) w) : wpList P ops Q (o :: rest) a w := by
  refine wpList_plain hgd fun K hK => ?_
  unfold Oper.wp execOp
  simp only [ho, Sem.run_bind, Sem.run_pure, Result.andThen_ok, List.map_toArray, List.map_cons, List.map_nil, h0, h1, hr]
  exact hK _ _ h
theorem wpList_bdX1 {P : Program} {ops : Array Oper} {rest : List Oper} {o : Oper} {a : Act} {w : World} {Q : Exit → Act → World → Prop} (hgd : o.guard = none) (t : TypeId) (i : Nat) (x0 : Operand)
    (ho : o.op = .build t #[(i, x0)]) (v0 r : Value) (h0 : a.eval x0 = v0) (hr : (Instr.build t #[(i, v0)]).run P w = .ok r w)
    (h : wpList P ops Q rest (a.put o.dst r) w) : wpList P ops Q (o :: rest) a w := by
  refine wpList_plain hgd fun K hK => ?_
  unfold Oper.wp execOp
  simp only [ho, Sem.run_bind, Sem.run_pure, Result.andThen_ok, List.map_toArray, List.map_cons, List.map_nil, h0, hr]
  exact hK _ _ h
theorem wpList_bdX0 {P : Program} {ops : Array Oper} {rest : List Oper} {o : Oper} {a : Act} {w : World} {Q : Exit → Act → World → Prop} (hgd : o.guard = none) (t : TypeId)
    (ho : o.op = .build t #[]) (r : Value) (hr : (Instr.build t #[]).run P w = .ok r w)
    (h : wpList P ops Q rest (a.put o.dst r) w) : wpList P ops Q (o :: rest) a w := by
  refine wpList_plain hgd fun K hK => ?_
  unfold Oper.wp execOp
  simp only [ho, Sem.run_bind, Sem.run_pure, Result.andThen_ok, List.map_toArray, List.map_nil, hr]
  exact hK _ _ h
theorem wpList_bdX4 {P : Program} {ops : Array Oper} {rest : List Oper} {o : Oper} {a : Act} {w : World} {Q : Exit → Act → World → Prop} (hgd : o.guard = none) (t : TypeId) (x0 x1 x2 x3 : Operand)
    (ho : o.op = .build t #[(0, x0), (1, x1), (2, x2), (3, x3)]) (v0 v1 v2 v3 r : Value) (h0 : a.eval x0 = v0) (h1 : a.eval x1 = v1) (h2 : a.eval x2 = v2) (h3 : a.eval x3 = v3) (hr : (Instr.build t #[(0, v0), (1, v1), (2, v2), (3, v3)]).run P w = .ok r w)
    (h : wpList P ops Q rest (a.put o.dst r) w) : wpList P ops Q (o :: rest) a w := by
  refine wpList_plain hgd fun K hK => ?_
  unfold Oper.wp execOp
  simp only [ho, Sem.run_bind, Sem.run_pure, Result.andThen_ok, List.map_toArray, List.map_cons, List.map_nil, h0, h1, h2, h3, hr]
  exact hK _ _ h
theorem wpList_bsX {P : Program} {ops : Array Oper} {rest : List Oper} {o : Oper} {a : Act} {w : World} {Q : Exit → Act → World → Prop} (hgd : o.guard = none) (t : TypeId) (x : Operand)
    (ho : o.op = .buildSlice t 1 #[(0, x)]) (v r : Value) (w' : World) (hx : a.eval x = v) (hr : (Instr.buildSlice t 1 #[(0, v)]).run P w = .ok r w')
    (h : wpList P ops Q rest (a.put o.dst r) w') : wpList P ops Q (o :: rest) a w := by
  refine wpList_plain hgd fun K hK => ?_
  unfold Oper.wp execOp
  simp only [ho, Sem.run_bind, Sem.run_pure, Result.andThen_ok, List.map_toArray, List.map_cons, List.map_nil, hx, hr]
  exact hK _ _ h
theorem wpList_appX {P : Program} {ops : Array Oper} {rest : List Oper} {o : Oper} {a : Act} {w : World} {Q : Exit → Act → World → Prop} (hgd : o.guard = none) (sl x : Operand) (t u : TypeId)
    (ho : o.op = .call { callee := .builtin .append, args := #[sl, x], argTypes := #[t, u] }) (v y v' : Value) (w' : World) (hs : a.eval sl = v) (hx : a.eval x = y) (hr : (Builtin.append_ #[t, u] o.type #[v, y]).run P w = .ok v' w')
    (h : wpList P ops Q rest (a.put o.dst v') w') : wpList P ops Q (o :: rest) a w := by
  refine wpList_plain hgd fun K hK => ?_
  unfold Oper.wp execOp
  simp only [ho, resolve, invoke, builtin, Sem.run_bind, Sem.run_pure, Result.andThen_ok, List.map_toArray, List.map_cons, List.map_nil, hs, hx, hr]
  exact hK _ _ h
theorem wpList_copyX {P : Program} {ops : Array Oper} {rest : List Oper} {o : Oper} {a : Act} {w : World} {Q : Exit → Act → World → Prop} (hgd : o.guard = none) (sl x : Operand) (t u : TypeId)
    (ho : o.op = .call { callee := .builtin .copy, args := #[sl, x], argTypes := #[t, u] }) (v y v' : Value) (w' : World) (hs : a.eval sl = v) (hx : a.eval x = y) (hr : (Builtin.copy_ #[t, u] o.type #[v, y]).run P w = .ok v' w')
    (h : wpList P ops Q rest (a.put o.dst v') w') : wpList P ops Q (o :: rest) a w := by
  refine wpList_plain hgd fun K hK => ?_
  unfold Oper.wp execOp
  simp only [ho, resolve, invoke, builtin, Sem.run_bind, Sem.run_pure, Result.andThen_ok, List.map_toArray, List.map_cons, List.map_nil, hs, hx, hr]
  exact hK _ _ h
/-- A whole row stored. -/
theorem wpList_stoX {P : Program} {ops : Array Oper} {rest : List Oper} {o : Oper} {a : Act} {w : World} {Q : Exit → Act → World → Prop} (hgd : o.guard = none) (ty : TypeId) (x y : Operand) (ho : o.op = .store ty x y)
    (g : Nat) (cells old : Array Value) (t : TypeId) (hx : a.eval x = .pointer (some ⟨g, 0, none⟩)) (hy : a.eval y = .agg cells) (hg : Bk w g old t) (hi : (P.info? ty).map (·.size) = some cells.size)
    (hold : old.size = cells.size) (h1 : cells.all (·.oneCell') = true) (h : ∀ w', Hid (Bk w' g cells t) → Hid (w.grownBy w' (some g)) → wpList P ops Q rest (a.put o.dst undef) w') : wpList P ops Q (o :: rest) a w := by
  refine wpList_store_row hgd ty x y ho g cells hx hy t old hg hi hold h1 (h _ (setRow_heap _ _ _ _ _ _ hg) ?_)
  refine ⟨rfl, rfl, rfl, by simp [World.setRow], fun k hk hne => ?_⟩
  have : g ≠ k := fun e => hne (by rw [e])
  simp [World.setRow, Array.getElem?_modify, this]
end Go.Proofs.YteccnnpialaalaaDoor
