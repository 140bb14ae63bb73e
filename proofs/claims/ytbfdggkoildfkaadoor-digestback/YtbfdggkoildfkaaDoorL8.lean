/- The walk of munimentlaw02.DigestBack, a longer payload. -/
import Derived.Test.YtbfdggkoildfkaaDoorL7
namespace Go.Proofs.YtbfdggkoildfkaaDoor
open Go.RowKit
set_option linter.unusedSimpArgs false
set_option linter.unusedVariables false
set_option maxHeartbeats 12000000 in
set_option maxRecDepth 100000 in
theorem back_big (a b p : ByteArray) (w : World) (ha : a.size = 32) (hb : b.size = 32) (hbig : 2000 < p.size) (hp : p.size ≤ 140737488351232) (hA : All w) :
    Calls Tryd.prog 5 #[.agg (idc a), .agg (idc b), .string p] w fun e w' => e = .returned (.bool true) ∧ Below w.heap.size w w' := by
  have HA : Hid (All w) := hA
  clear hA
  have hh := hex_len a ha
  have HBa : Hid (Blk (twoW w a b) w.heap.size (idc a) 23) := Blk.grown (blk_new w _) (World.grownBy_alloc _ _ none) (by simp)
  have HBb : Hid (Blk (twoW w a b) (w.heap.size + 1) (idc b) 23) := by
    have e := blk_new (w.alloc (.cells (idc a) 23)) (.cells (idc b) 23)
    rwa [alloc_size] at e
  obtain ⟨k0, hk0, hk1⟩ : ∃ k0, k0 = (byl a).getD 0 0 ∧ k0 < 256 := ⟨_, rfl, by rw [List.getD, byl_getD a 0 (by omega)]; exact a[0].toNat_lt⟩
  have hL := less_cases a b ha hb
  have q1 := eql_ids a a ha ha
  have q2 := neq_ids a b ha hb
  have q4 := equalIn_ids a b ha hb
  go_enter Tryd.func5, Tryd.ntmps5
  go_wp2_with (first
    | (refine wpList_load_row rfl 23 (.tmp 3) rfl w.heap.size rfl 23 (idc a) (0, 0) _ HBa.out Tryd.underlying23 rfl (info_ids a ha) ?_)
    | (go_at_call 14; refine (text_any a _ ha ((HA.out.alloc _).alloc _)).mono ?_; rintro e w1 ⟨rfl, hb1⟩; have HB1 : Hid (Below (twoW w a b).heap.size (twoW w a b) w1) := hb1; clear hb1)
    | (go_at_call 7; refine (parse_hex a _ ha (((HA.out.alloc _).alloc _).below HB1.out)).mono ?_; rintro e w2 ⟨rfl, hb2⟩; have HB2 : Hid (Below w1.heap.size w1 w2) := hb2; clear hb2)
    | (refine wpList_store_abs rfl 23 (.tmp 7) (.tmp 13) rfl (idc a) _ 23 w2.heap.size rfl rfl rfl (info_ids a ha) (by rw [idc_size, ha]; rfl) (idc_one a) ?_; intro w3 HBk HG3 hsz3))
  have g3 := ((grown_of_below HB1.out none).trans (grown_of_below HB2.out none)).trans HG3.out
  have HS : SX w w2.heap.size a b k0 w3 := ⟨HBk.out.range, (HBa.out.grown g3 (by simp)).range, (HBb.out.grown g3 (by simp)).range, by rw [(HBa.out.grown g3 (by simp)).cell, idc_get a 0 (by omega), hk0, List.getD, byl_getD a 0 (by omega)]; rfl, ((HA.out.alloc _).alloc _).grown g3 (by simp), ((World.grownBy_alloc w _ none).trans (World.grownBy_alloc _ _ none)).trans g3⟩
  have hu := Tryd.underlying23
  have hi1 : (Tryd.prog.info? 23).map (·.size) = some (idc a).toList.length := by rw [Array.length_toList]; exact info_ids a ha
  have hi2 : (Tryd.prog.info? 23).map (·.size) = some (idc b).toList.length := by rw [Array.length_toList]; exact info_ids b hb
  clear g3
  obtain ⟨q, hq⟩ : ∃ q, q = p.extract 0 2000 := ⟨_, rfl⟩
  have hps : q.size ≤ 2000 := by rw [hq, ByteArray.size_extract]; omega
  simp only [← hq]
  clear hq
  have q3 := eql_ids (sb (sha (whl k0 q))) (sb (sha (whl k0 q))) (sha_size _) (sha_size _)
  have hlen64 : (sb (hexL (bl a))).size = 64 := hh
  have q3' := q3
  clear HBk HG3 hsz3 HB1 HB2 HBa HBb HA hk0
  refine wp_region_class (SX w w2.heap.size a b k0) (by kernel_rfl) (by kernel_rfl) HS.drew ?_
  have hwl : byl (sb (whl k0 q)) = whl k0 q := byl_whl k0 q hk1
  have hk8 : ∀ W, SX w w2.heap.size a b k0 W → W.cell? ⟨w.heap.size, 0, none⟩ = some (.int .u8 (k0 : Int)) := fun W h => h.2.2.2.1
  rcases hL with ⟨e1, e2, e3⟩ | ⟨e1, e2, e3⟩ | ⟨e1, e2, e3⟩ <;> rw [e3] at q4 <;> simp only [e3, Bool.not_true, Bool.not_false] at q2 <;> have hx := e1.symm <;> have hy := e2.symm <;> clear e1 e2 e3
  all_goals
    repeat (first
      | go_big_quiet_skip
      | (go_big_quiet_want
         first
           | (refine quiet_id a ha _ rfl w2.heap.size rfl (fun _ h => h.1) ?_; go_big_quiet_on; simp only [Act.put, List.setIfInBounds_toArray, List.set_cons_zero, List.set_cons_succ])
           | (refine quiet_id a ha _ rfl w.heap.size rfl (fun _ h => h.2.1) ?_; go_big_quiet_on; simp only [Act.put, List.setIfInBounds_toArray, List.set_cons_zero, List.set_cons_succ])
           | (refine quiet_id b hb _ rfl (w.heap.size + 1) rfl (fun _ h => h.2.2.1) ?_; go_big_quiet_on; simp only [Act.put, List.setIfInBounds_toArray, List.set_cons_zero, List.set_cons_succ])
           | (refine quiet_val (.bool true) ?_ ?_; (focus (intro W hW; go_simp; done)); go_big_quiet_on; simp only [Act.put, List.setIfInBounds_toArray, List.set_cons_zero, List.set_cons_succ])
           | (refine quiet_val (.bool true) ?_ ?_; (focus (intro W hW; rfl)); go_big_quiet_on; simp only [Act.put, List.setIfInBounds_toArray, List.set_cons_zero, List.set_cons_succ])
           | (refine quiet_val (.bool false) ?_ ?_; (focus (intro W hW; rfl)); go_big_quiet_on; simp only [Act.put, List.setIfInBounds_toArray, List.set_cons_zero, List.set_cons_succ])
           | (refine quiet_val (.bool false) ?_ ?_; (focus (intro W hW; go_simp; done)); go_big_quiet_on; simp only [Act.put, List.setIfInBounds_toArray, List.set_cons_zero, List.set_cons_succ])
           | (refine quiet_val (.int .i64 64) ?_ ?_; (focus (intro W hW; go_simp; done)); go_big_quiet_on; simp only [Act.put, List.setIfInBounds_toArray, List.set_cons_zero, List.set_cons_succ])
           | (refine quiet_u8 _ rfl w.heap.size (k0 : Int) rfl hk8 ?_; go_big_quiet_on; simp only [Act.put, List.setIfInBounds_toArray, List.set_cons_zero, List.set_cons_succ])
           | (refine quiet_val (.pointer (some ⟨w.heap.size, 0, none⟩)) ?_ ?_; (focus (intro W hW; go_simp; done)); go_big_quiet_on; simp only [Act.put, List.setIfInBounds_toArray, List.set_cons_zero, List.set_cons_succ])
           | (refine quiet_call (.string (sb (hexL (bl a)))) 14 #[.agg (idc a)] ?_ ?_ ?_; (focus (intro W hW; go_simp; done)); (focus (intro W hW; exact cls_text ha hW)); go_big_quiet_on; simp only [Act.put, List.setIfInBounds_toArray, List.set_cons_zero, List.set_cons_succ])
           | (refine quiet_call (.bool true) 16 #[.agg (idc a), .agg (idc b)] ?_ ?_ ?_; (focus (intro W hW; go_simp; done)); (focus (intro W hW; exact cls_ab hx ha hb hW)); go_big_quiet_on; simp only [Act.put, List.setIfInBounds_toArray, List.set_cons_zero, List.set_cons_succ])
           | (refine quiet_call (.bool false) 16 #[.agg (idc a), .agg (idc b)] ?_ ?_ ?_; (focus (intro W hW; go_simp; done)); (focus (intro W hW; exact cls_ab hx ha hb hW)); go_big_quiet_on; simp only [Act.put, List.setIfInBounds_toArray, List.set_cons_zero, List.set_cons_succ])
           | (refine quiet_call (.bool true) 16 #[.agg (idc b), .agg (idc a)] ?_ ?_ ?_; (focus (intro W hW; go_simp; done)); (focus (intro W hW; exact cls_ba hy ha hb hW)); go_big_quiet_on; simp only [Act.put, List.setIfInBounds_toArray, List.set_cons_zero, List.set_cons_succ])
           | (refine quiet_call (.bool false) 16 #[.agg (idc b), .agg (idc a)] ?_ ?_ ?_; (focus (intro W hW; go_simp; done)); (focus (intro W hW; exact cls_ba hy ha hb hW)); go_big_quiet_on; simp only [Act.put, List.setIfInBounds_toArray, List.set_cons_zero, List.set_cons_succ])
           | (refine quiet_call (.agg (idc (sb (sha (whl k0 q))))) 12 #[.int .u8 (k0 : Int), .string q] ?_ ?_ ?_; (focus (intro W hW; go_simp; done)); (focus (intro W hW; exact cls_of hk1 hps hW)); go_big_quiet_on; simp only [Act.put, List.setIfInBounds_toArray, List.set_cons_zero, List.set_cons_succ])
           | (refine quiet_call (.string (sb (whl k0 q))) 23 #[.int .u8 (k0 : Int), .string q] ?_ ?_ ?_; (focus (intro W hW; go_simp; done)); (focus (intro W hW; exact cls_whole hk1 hps hW)); go_big_quiet_on; simp only [Act.put, List.setIfInBounds_toArray, List.set_cons_zero, List.set_cons_succ])
           | (refine quiet_call (.agg (idc (sb (sha (whl k0 q))))) 9 #[.string (sb (whl k0 q))] ?_ ?_ ?_; (focus (intro W hW; go_simp; done)); (focus (intro W hW; exact cls_sum hk1 hps hW)); go_big_quiet_on; simp only [Act.put, List.setIfInBounds_toArray, List.set_cons_zero, List.set_cons_succ])
           | (refine quiet_call (.bool true) 18 #[] ?_ ?_ ?_; (focus (intro W hW; go_simp; done)); (focus (intro W hW; exact cls_awake hW)); go_big_quiet_on; simp only [Act.put, List.setIfInBounds_toArray, List.set_cons_zero, List.set_cons_succ])
           | (go_big_quiet_op; go_big_quiet_on)))
    refine wpQuiet_nil ?_
    intro w' hw'
    go_wp2
    go_ret
    exact ⟨rfl, below_of_grown hw'.2.2.2.2.2⟩
end Go.Proofs.YtbfdggkoildfkaaDoor
