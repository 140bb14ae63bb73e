/- The document's own constants and Quick (munimentref02); a sum on nothing. -/
import Derived.Test.YtbfdggkoildfkaaDoorS9
import Derived.Test.YtbfdggkoildfkaaDoorD10
import Derived.Test.YtbfdggkoildfkaaDoorD14
namespace Go.Proofs.YtbfdggkoildfkaaDoor
open Go.RowKit
set_option linter.unusedSimpArgs false
set_option linter.unusedVariables false
theorem kcs_size : kcs.size = 64 := rfl
theorem kcs_one : kcs.all (·.oneCell') = true := by decide +kernel
theorem info_k : (Tryd.prog.info? 58).map (·.size) = some kcs.size := info_64 kcs kcs_size
set_option maxHeartbeats 1000000 in
set_option maxRecDepth 100000 in
theorem constants_any (w : World) : Calls Tryd.prog 32 #[] w fun e w' => e = .returned (.agg kcs) ∧ Below w.heap.size w w' := by
  go_enter Tryd.func32, Tryd.ntmps32
  go_wp2_with (refine wpList_store_abs rfl 58 (.tmp 0) (.tmp 1) rfl kcs _ 58 w.heap.size rfl rfl rfl info_k rfl kcs_one ?_; intro w1 HB HG hz)
  refine bodyPost_ret (results_cell_row rfl _ _ w.heap.size 58 kcs (0, 0) _ rfl HB.out Tryd.underlying58 rfl info_k) rfl ⟨rfl, below_of_grown HG.out⟩
theorem info_8l : (Tryd.prog.info? 49).map (·.size) = some 8 := by kernel_rfl
/-- What Quick's last line reads, wherever it stands. -/
abbrev SQ (w : World) (W : World) : Prop := Blk W w.heap.size z32c 23 ∧ Blk W (w.heap.size + 1) (v8c H0) 49 ∧ Below w.heap.size w W
theorem SQ.below {w W W' : World} (h : SQ w W) (hb : Below W.heap.size W W') : SQ w W' :=
  ⟨h.1.grown (grown_of_below hb none) (by simp), h.2.1.grown (grown_of_below hb none) (by simp), h.2.2.trans (hb.mono h.2.2.size)⟩
theorem quiet_v8 {o : Oper} {a : Act} {C : World → Prop} {K : Act → Prop} (v : V8) (x : Operand) (ho : o.op = .load 49 x) (g : Nat) (hx : a.eval x = .pointer (some ⟨g, 0, none⟩))
    (hr : ∀ w, C w → Blk w g (v8c v) 49) (hn : K (a.put o.dst (.agg (v8c v)))) : o.quiet Tryd.prog a C K :=
  quiet_val (.agg (v8c v)) (fun w hw => by
    have h := run_loadAt_mid (P := Tryd.prog) w g 0 49 (v8c v).toList _ (fun j u hj => by rw [(hr w hw).cell, Nat.zero_add, ← hj, Array.getElem?_toList]) Tryd.underlying49 rfl (by rw [Array.length_toList]; exact info_8)
    unfold execOp
    simp only [ho, hx, h, Sem.run_bind, Result.andThen_ok]
    rfl) hn
theorem h0_lit : (#[Value.int .u32 1779033703, Value.int .u32 3144134277, Value.int .u32 1013904242, Value.int .u32 2773480762, Value.int .u32 1359893119, Value.int .u32 2600822924, Value.int .u32 528734635, Value.int .u32 1541459225] : Array Value) = v8c H0 := by kernel_rfl
theorem info_shc (m : List Nat) : (Tryd.prog.info? 23).map (·.size) = some (shc m).size := by rw [info_id, shc_size]
set_option maxHeartbeats 1000000 in
set_option maxRecDepth 100000 in
theorem quick_any (s : ByteArray) (w : World) (hs : s.size ≤ 20000) :
    Calls Tryd.prog 11 #[.string s] w fun e w' => e = .returned (.agg (shc (byl s))) ∧ Below w.heap.size w w' := by
  go_enter Tryd.func11, Tryd.ntmps11
  go_wp2
  rw [h0_lit]
  show Code.wp _ _ _ _ ((w.alloc (.cells z32c 23)).alloc (.cells (v8c H0) 49))
  obtain ⟨w1, hw1⟩ : ∃ w1, w1 = (w.alloc (.cells z32c 23)).alloc (.cells (v8c H0) 49) := ⟨_, rfl⟩
  rw [← hw1]
  have hS : SQ w w1 := by
    have g2 := World.grownBy_alloc (w.alloc (.cells z32c 23)) (.cells (v8c H0) 49) none
    have e := blk_new (w.alloc (.cells z32c 23)) (.cells (v8c H0) 49)
    rw [alloc_size] at e
    rw [hw1]
    exact ⟨Blk.grown (blk_new w (.cells z32c 23)) g2 (by simp), e, ((Below.refl _ _).alloc (Nat.le_refl _) _).alloc (by rw [alloc_size]; omega) _⟩
  clear hw1
  refine wp_region_tail (SQ w) 4 (by kernel_rfl) (by kernel_rfl) ⟨hS.1, hS.2.1, hS.2.2.drew⟩ ?_
  simp only [List.take_succ_cons, List.take_zero, List.drop_succ_cons, List.drop_zero]
  go_big_quiet_want
  go_big_quiet_op
  go_big_quiet_on
  go_big_quiet_want
  refine quiet_v8 H0 _ rfl (w.heap.size + 1) rfl (fun _ h => h.2.1) ?_
  go_big_quiet_on; simp only [Act.put, List.setIfInBounds_toArray, List.set_cons_zero, List.set_cons_succ]
  go_big_quiet_want
  refine quiet_call (.agg kcs) 32 #[] ?_ ?_ ?_
  · intro W hW; go_simp; done
  · intro W hW; exact (constants_any W).mono (fun _ _ h => ⟨h.1, SQ.below hW h.2⟩)
  go_big_quiet_on; simp only [Act.put, List.setIfInBounds_toArray, List.set_cons_zero, List.set_cons_succ]
  go_big_quiet_want
  refine quiet_call (.agg (shc (byl s))) 31 #[.string s, .agg (v8c H0), .agg kcs] ?_ ?_ ?_
  · intro W hW; go_simp; done
  · intro W hW; exact (rsum_any s W hs).mono (fun _ _ h => ⟨h.1, SQ.below hW h.2⟩)
  go_big_quiet_on; simp only [Act.put, List.setIfInBounds_toArray, List.set_cons_zero, List.set_cons_succ]
  refine wpQuiet_nil ?_
  intro w9 hw9
  have HR9 : Hid (Blk w9 w.heap.size z32c 23) := hw9.1
  have HB9 : Hid (Below w.heap.size w w9) := hw9.2.2
  clear hw9 hS
  go_wp2_with (refine wpList_store_row rfl 23 (.tmp 2) (.tmp 8) rfl w.heap.size (shc (byl s)) rfl rfl 23 z32c HR9.out (info_shc _) (by rw [z32c_size, shc_size]) (shc_one _) ?_)
  refine bodyPost_ret (results_cell_row rfl _ _ w.heap.size 23 (shc (byl s)) (0, 0) _ rfl (setRow_heap _ _ _ _ _ _ HR9.out) Tryd.underlying23 rfl (info_shc _)) rfl ⟨rfl, ?_⟩
  exact below_setRow HB9.out (Nat.le_refl _) _
/-- A name of noughts. -/
def z32s : ByteArray := sb (List.replicate 32 0)
theorem z32s_size : z32s.size = 32 := by decide +kernel
theorem z32s_idc : idc z32s = z32c := by kernel_rfl
theorem quick_id (s : ByteArray) (w : World) (hs : s.size ≤ 20000) :
    Calls Tryd.prog 11 #[.string s] w fun e w' => e = .returned (.agg (idc (sb (sha (byl s))))) ∧ Below w.heap.size w w' := by
  rw [← shc_idc]; exact quick_any s w hs
set_option maxHeartbeats 400000 in
set_option maxRecDepth 100000 in
theorem stsum_nil (w : World) : Calls Tryd.prog 21 #[.pointer none] w fun e w' => e = .returned (.tuple #[.agg z32c, .int .i64 2]) ∧ Below w.heap.size w w' := by
  have hz := zero_id
  go_enter Tryd.func21, Tryd.ntmps21
  go_wp2_with (refine wpList_store_new rfl 23 (.tmp 2) (.tmp 6) rfl z32c _ 23 w.heap.size rfl rfl rfl (info_32 z32c_size) rfl z32c_one ?_)
  refine bodyPost_ret (results_cell_tmp_row rfl _ _ w.heap.size 23 z32c (0, 0) _ rfl (blk_new _ _) Tryd.underlying23 rfl (info_32 z32c_size)) rfl ⟨rfl, (Below.refl _ _).alloc (Nat.le_refl _) _⟩
end Go.Proofs.YtbfdggkoildfkaaDoor
