import Derived.Test.YtfmfdaoipfpijaaGreatDoorY14
import Derived.Test.YtfmfdaoipfpijaaGreatDoorY8
import Derived.RangeFuncLeaves
/- midx.Index.Find. -/
namespace Go.Proofs.YtfmfdaoipfpijaaGreatDoor
open Go.RowKit
set_option linter.unusedSimpArgs false
set_option linter.unusedVariables false
/-- What Find finds, and answers. -/
def mfnd (l : List Mr) (x : ByteArray) : Option Mr := match l[cntN (l.map Mr.e) x]? with
  | some r => if r.e.id = x then some r else none
  | none => none
def mfdV : Option Mr → Value
  | none => .tuple #[.agg z67, .int .i64 6]
  | some r => .tuple #[.agg (mrC r), .int .i64 0]
theorem mfnd_end {l : List Mr} {x : ByteArray} (h : cntN (l.map Mr.e) x = l.length) : mfnd l x = none := by
  rw [mfnd, h, List.getElem?_eq_none (Nat.le_refl _)]
theorem mfnd_at {l : List Mr} {x : ByteArray} {r : Mr} (h : l[cntN (l.map Mr.e) x]? = some r) : mfnd l x = if r.e.id = x then some r else none := by
  rw [mfnd, h]
/-- While it is sought. -/
structure FmS (w : World) (g : Nat) (x : ByteArray) (ps : List ByteArray) (l : List Mr) (W : World) : Prop where
  b0 : W.cell? ⟨w.heap.size, 0, none⟩ = some (.pointer (some ⟨g, 0, none⟩))
  b1 : Bk W (w.heap.size + 1) (idc x) 24
  b2 : Bk W (w.heap.size + 1 + 1) z67 28
  mx : MxS W g ps l
  bel : Below w.heap.size w W
theorem FmS.next {w W W' : World} {g : Nat} {x : ByteArray} {ps : List ByteArray} {l : List Mr} (h : FmS w g x ps l W) (hb : Below W.heap.size W W') : FmS w g x ps l W' :=
  ⟨by rw [hb.cell (block_lt_of_cell h.b0)]; exact h.b0, h.b1.below hb h.b1.lt, h.b2.below hb h.b2.lt, h.mx.below hb, h.bel.trans (hb.mono h.bel.size)⟩
theorem zc67 : Tryz.zeroCells28 = z67 := by kernel_rfl
set_option maxHeartbeats 8000000 in
set_option maxRecDepth 100000 in
theorem mfind_any (g : Nat) (x : ByteArray) (ps : List ByteArray) (l : List Mr) (w : World) (h : MxS w g ps l) (hri : RiM l) (hx : x.size = 32) :
    Calls Tryz.prog 4 #[.pointer (some ⟨g, 0, none⟩), .agg (idc x)] w fun e w' => e = .returned (mfdV (mfnd l x)) ∧ Below w.heap.size w w' := by
  have hS0 : FmS w g x ps l (((w.alloc (.cells #[.pointer (some ⟨g, 0, none⟩)] 22)).alloc (.cells (idc x) 24)).alloc (.cells Tryz.zeroCells28 28)) := by
    have q1 := bk_new w #[.pointer (some ⟨g, 0, none⟩)] 22
    have q2 := bk_new (w.alloc (.cells #[.pointer (some ⟨g, 0, none⟩)] 22)) (idc x) 24
    have q3 := bk_new ((w.alloc (.cells #[.pointer (some ⟨g, 0, none⟩)] 22)).alloc (.cells (idc x) 24)) Tryz.zeroCells28 28
    rw [al_size] at q2
    rw [al_size, al_size, zc67] at q3
    rw [zc67]
    have hb : Below w.heap.size w (((w.alloc (.cells #[.pointer (some ⟨g, 0, none⟩)] 22)).alloc (.cells (idc x) 24)).alloc (.cells z67 28)) := (((Below.refl _ _).alloc (Nat.le_refl _) _).alloc (by rw [al_size]; omega) _).alloc (by rw [al_size, al_size]; omega) _
    exact ⟨by rw [((q1.alloc _).alloc _).cell]; rfl, q2.alloc _, q3, h.below hb, hb⟩
  have HSN : Hid (∀ W, FmS w g x ps l W → Calls Tryz.prog 14 #[.int .i64 (l.length : Int), .func (.func 12) #[] #[.pointer (some ⟨w.heap.size, 0, none⟩), .pointer (some ⟨w.heap.size + 1, 0, none⟩)]] W fun e w' => e = .returned (.int .i64 (cntN (l.map Mr.e) x : Int)) ∧ FmS w g x ps l w') := fun W hW => (search_name w.heap.size (w.heap.size + 1) g ps l x W hW.b0 hW.b1 hx hW.mx hri).mono fun e w' q => ⟨q.1, hW.next q.2.below⟩
  have hF : cntN (l.map Mr.e) x ≤ l.length := by
    have : cntN (l.map Mr.e) x ≤ (l.map Mr.e).length := List.countP_le_length
    rwa [List.length_map] at this
  have hll := h.ll
  obtain ⟨gp, gr, h1, h2, h3⟩ := h.row
  have hgl := h1.lt
  obtain ⟨n, hn⟩ : ∃ n, l.length = n := ⟨_, rfl⟩
  have HG : Hid (∀ W, FmS w g x ps l W → W.cell? ⟨g, 1, none⟩ = some (.slice (some ⟨gr, 0, none⟩) n n) ∧ MrL W (some ⟨gr, 0, none⟩) l) := fun W hW => ⟨by rw [(h1.below hW.bel h1.lt).cell, ← hn]; rfl, h3.below hW.bel⟩
  obtain ⟨k, hk⟩ : ∃ k, cntN (l.map Mr.e) x = k := ⟨_, rfl⟩
  have HME : Hid (k = n → mfnd l x = none) := fun q => mfnd_end (by rw [hk, hn]; exact q)
  have HMA : Hid (∀ r, l[k]? = some r → mfnd l x = if r.e.id = x then some r else none) := fun r hr => mfnd_at (by rw [hk]; exact hr)
  have HLN : Hid (l.length = n) := hn
  rw [hk] at hF HSN
  rw [hn] at hF hll HSN
  obtain ⟨Y, hY⟩ : ∃ Y, idc x = Y := ⟨_, rfl⟩
  have HY : Hid (idc x = Y ∧ x.size = 32) := ⟨hY, hx⟩
  rw [hY] at hS0 ⊢
  obtain ⟨W3, hW3⟩ : ∃ W3, (((w.alloc (.cells #[.pointer (some ⟨g, 0, none⟩)] 22)).alloc (.cells Y 24)).alloc (.cells Tryz.zeroCells28 28)) = W3 := ⟨_, rfl⟩
  rw [hW3] at hS0
  have H3 : Hid (FmS w g x ps l W3) := hS0
  have HW3 : Hid ((((w.alloc (.cells #[.pointer (some ⟨g, 0, none⟩)] 22)).alloc (.cells Y 24)).alloc (.cells Tryz.zeroCells28 28)) = W3) := hW3
  have hmf : ∀ (fn : Fn) (first cap : Array Value) (w : World), (Instr.makeFunc fn first cap).run Tryz.prog w = .ok (.func fn first cap) w := fun _ _ _ _ => rfl
  have hbz := build_mz
  clear hS0 hW3 h h1 h2 h3 hn hk hY hri hx
  go_enter Tryz.func4, Tryz.ntmps4
  go_upto_region 1 with fail
  rw [HW3.out]
  have c1 := H3.out.b0
  have c2 := (HG.out _ H3.out).1
  go_wp2_with fail
  refine (HSN.out W3 H3.out).mono ?_
  rintro e w4 ⟨rfl, hw4⟩
  have H4 : Hid (FmS w g x ps l w4) := hw4
  clear hw4 c1 c2
  have H4d : Hid (FmS w g x ps l w4.drew) := H4.out.next ((Below.refl _ _).drew)
  by_cases hkn : k = n
  · have HFN : Hid (mfnd l x = none) := HME.out hkn
    subst hkn
    clear HME HMA HSN
    go_wp2_with fail
    refine region_class10 (FmS w g x ps l) (by kernel_rfl) (by kernel_rfl) H4d.out ?_
    try simp only [Act.put, List.setIfInBounds_toArray, List.set_cons_zero, List.set_cons_succ]
    repeat (first
      | go_big_quiet_skip
      | (go_big_quiet_want
         first
           | (refine quiet_one 22 _ rfl w.heap.size 0 (.pointer (some ⟨g, 0, none⟩)) rfl (fun _ => by kernel_rfl) (fun _ h => h.b0) ?_; go_big_quiet_on; simp only [Act.put, List.setIfInBounds_toArray, List.set_cons_zero, List.set_cons_succ])
           | (refine quiet_one 40 _ rfl g 1 (.slice (some ⟨gr, 0, none⟩) k k) rfl (fun _ => by kernel_rfl) (fun W hW => (HG.out W hW).1) ?_; go_big_quiet_on; simp only [Act.put, List.setIfInBounds_toArray, List.set_cons_zero, List.set_cons_succ])
           | (refine quiet_val10 (.pointer (some ⟨g, 0, none⟩)) ?_ ?_; (focus (intro W hW; go_simp; done)); go_big_quiet_on; simp only [Act.put, List.setIfInBounds_toArray, List.set_cons_zero, List.set_cons_succ])
           | (refine quiet_val10 (.pointer (some ⟨g, 1, none⟩)) ?_ ?_; (focus (intro W hW; go_simp; done)); go_big_quiet_on; simp only [Act.put, List.setIfInBounds_toArray, List.set_cons_zero, List.set_cons_succ])
           | (refine quiet_val10 (.int .i64 (k : Int)) ?_ ?_; (focus (intro W hW; go_simp; done)); go_big_quiet_on; simp only [Act.put, List.setIfInBounds_toArray, List.set_cons_zero, List.set_cons_succ])
           | (refine quiet_val10 (.bool false) ?_ ?_; (focus (intro W hW; go_simp; done)); go_big_quiet_on; simp only [Act.put, List.setIfInBounds_toArray, List.set_cons_zero, List.set_cons_succ])
           | (refine quiet_val10 (.bool true) ?_ ?_; (focus (intro W hW; go_simp; done)); go_big_quiet_on; simp only [Act.put, List.setIfInBounds_toArray, List.set_cons_zero, List.set_cons_succ])
           | (go_big_quiet_op; go_big_quiet_on)))
    refine wpQuiet_nil ?_
    intro w6 hw6
    have H6 : Hid (FmS w g x ps l w6) := hw6
    clear hw6 H4 H4d
    go_wp2_with (first
      | (refine wpList_bdX0 rfl 28 rfl (.agg z67) (hbz _) ?_)
      | (refine wpList_stoX rfl 28 (.tmp 4) (.tmp 39) rfl (w.heap.size + 1 + 1) z67 z67 28 rfl rfl H6.out.b2 inf_mr67 rfl (by rw [z67_is]; exact mrC_all _) ?_; intro w7 HB7 HG7)
      | fail)
    refine bodyPost_ret (results_cell_tmp_row rfl _ _ (w.heap.size + 1 + 1) 28 z67 (0, 0) _ rfl HB7.out Tryz.underlying28 rfl inf_mr67) rfl ⟨by rw [HFN.out]; rfl, ?_⟩
    exact below_own H6.out.bel H6.out.bel.size HG7.out (by omega)
  · have hlt : k < n := by omega
    obtain ⟨r, hr⟩ : ∃ r, l[k]? = some r := ⟨_, List.getElem?_eq_getElem (by rw [HLN.out]; exact hlt)⟩
    have hkz : (k : Int) < (n : Int) := by omega
    have hneb : ((k : Int) == (n : Int)) = false := by rw [beq_eq_false_iff_ne]; omega
    obtain ⟨⟨hp32, h32⟩, _⟩ := (HG.out w4 H4.out).2 k r hr
    have HCL : Hid (∀ W, FmS w g x ps l W → ∀ j v, (mrC r)[j]? = some v → W.cell? ⟨gr, k * 67 + j, none⟩ = some v) := fun W hW j v hv => by
      obtain ⟨_, g', o', k1, k2, k3⟩ := (HG.out W hW).2 k r hr
      simp only [Option.some.injEq, Addr.mk.injEq] at k1
      obtain ⟨rfl, rfl, _⟩ := k1
      have := k3 j v hv
      rwa [Nat.zero_add] at this
    have C5 : Hid (∀ W, FmS w g x ps l W → ∀ j v, (idc r.e.id)[j]? = some v → W.cell? ⟨gr, k * 67 + 32 + j, none⟩ = some v) := fun W hW j v hv => by
      have := HCL.out W hW (32 + j) v (mrC_id r hp32 h32 j v hv)
      rwa [← Nat.add_assoc] at this
    have hNE := neq_ids r.e.id x h32 HY.out.2
    have HID : Hid ((Tryz.prog.info? 24).map (·.size) = some (idc r.e.id).size) := info_32 (by rw [idc_size, h32])
    have HIY : Hid ((Tryz.prog.info? 24).map (·.size) = some Y.size) := by rw [← HY.out.1]; exact info_32 (by rw [idc_size, HY.out.2])
    obtain ⟨D, hD⟩ : ∃ D, idc r.e.id = D := ⟨_, rfl⟩
    obtain ⟨X, hXe⟩ : ∃ X, mrC r = X := ⟨_, rfl⟩
    have HXE : Hid (mrC r = X) := hXe
    have HIX : Hid ((Tryz.prog.info? 28).map (·.size) = some X.toList.length ∧ X.all (·.oneCell') = true ∧ X.size = 67) := by rw [← hXe]; exact ⟨by rw [inf_mr67, Array.length_toList, mrC_size r hp32 h32], mrC_all r, mrC_size r hp32 h32⟩
    rw [hD] at C5 HID
    rw [hXe] at HCL
    rw [hD, HY.out.1] at hNE
    have HFE : Hid (mfnd l x = if r.e.id = x then some r else none) := HMA.out r hr
    clear HMA HME HSN hr h32 hp32 hD hXe hkn
    by_cases hex : r.e.id = x
    · have HFN : Hid (mfnd l x = some r) := by
        show _ = _
        rw [HFE.out, if_pos hex]
      have hNE2 : ∀ u, (binOp .neq 24 (.agg D) (.agg Y)).run Tryz.prog u = .ok (.bool false) u := fun u => by rw [hNE u]; simp [hex]
      clear HFE hNE hex
      go_wp2_with fail
      refine region_class10 (FmS w g x ps l) (by kernel_rfl) (by kernel_rfl) H4d.out ?_
      try simp only [Act.put, List.setIfInBounds_toArray, List.set_cons_zero, List.set_cons_succ]
      repeat (first
        | go_big_quiet_skip
        | (go_big_quiet_want
           first
             | (refine quiet_one 22 _ rfl w.heap.size 0 (.pointer (some ⟨g, 0, none⟩)) rfl (fun _ => by kernel_rfl) (fun _ h => h.b0) ?_; go_big_quiet_on; simp only [Act.put, List.setIfInBounds_toArray, List.set_cons_zero, List.set_cons_succ])
             | (refine quiet_one 40 _ rfl g 1 (.slice (some ⟨gr, 0, none⟩) n n) rfl (fun _ => by kernel_rfl) (fun W hW => (HG.out W hW).1) ?_; go_big_quiet_on; simp only [Act.put, List.setIfInBounds_toArray, List.set_cons_zero, List.set_cons_succ])
             | (refine quiet_row 24 _ rfl (w.heap.size + 1) 0 Y Y 24 _ rfl (fun _ h => by rw [← HY.out.1]; exact h.b1) (fun j v hv => by rw [Nat.zero_add]; exact hv) Tryz.underlying24 rfl HIY.out ?_; go_big_quiet_on; simp only [Act.put, List.setIfInBounds_toArray, List.set_cons_zero, List.set_cons_succ])
             | (refine quiet_rowc 24 _ rfl gr (k * 67 + 32) D _ rfl C5.out Tryz.underlying24 rfl HID.out ?_; go_big_quiet_on; simp only [Act.put, List.setIfInBounds_toArray, List.set_cons_zero, List.set_cons_succ])
             | (refine quiet_val10 (.pointer (some ⟨g, 0, none⟩)) ?_ ?_; (focus (intro W hW; go_simp; done)); go_big_quiet_on; simp only [Act.put, List.setIfInBounds_toArray, List.set_cons_zero, List.set_cons_succ])
             | (refine quiet_val10 (.pointer (some ⟨g, 1, none⟩)) ?_ ?_; (focus (intro W hW; go_simp; done)); go_big_quiet_on; simp only [Act.put, List.setIfInBounds_toArray, List.set_cons_zero, List.set_cons_succ])
             | (refine quiet_val10 (.pointer (some ⟨gr, k * 67, none⟩)) ?_ ?_; (focus (intro W hW; go_simp; done)); go_big_quiet_on; simp only [Act.put, List.setIfInBounds_toArray, List.set_cons_zero, List.set_cons_succ])
             | (refine quiet_val10 (.pointer (some ⟨gr, k * 67 + 32, none⟩)) ?_ ?_; (focus (intro W hW; go_simp; done)); go_big_quiet_on; simp only [Act.put, List.setIfInBounds_toArray, List.set_cons_zero, List.set_cons_succ])
             | (refine quiet_val10 (.int .i64 (n : Int)) ?_ ?_; (focus (intro W hW; go_simp; done)); go_big_quiet_on; simp only [Act.put, List.setIfInBounds_toArray, List.set_cons_zero, List.set_cons_succ])
             | (refine quiet_val10 (.bool false) ?_ ?_; (focus (intro W hW; go_simp; done)); go_big_quiet_on; simp only [Act.put, List.setIfInBounds_toArray, List.set_cons_zero, List.set_cons_succ])
             | (refine quiet_val10 (.bool true) ?_ ?_; (focus (intro W hW; go_simp; done)); go_big_quiet_on; simp only [Act.put, List.setIfInBounds_toArray, List.set_cons_zero, List.set_cons_succ])
             | (go_big_quiet_op; go_big_quiet_on)))
      refine wpQuiet_nil ?_
      intro w6 hw6
      have H6 : Hid (FmS w g x ps l w6) := hw6
      have hc4 := (HG.out w6 hw6).1
      have hc0 := hw6.b0
      have HC6 : Hid (∀ j v, X[j]? = some v → w6.cell? ⟨gr, k * 67 + j, none⟩ = some v) := HCL.out w6 hw6
      clear hw6 H4 H4d C5 HCL
      go_wp2_with (first
        | (refine wpList_load_mid rfl 28 (.tmp 45) rfl gr (k * 67) rfl X.toList _ (fun j v hv => HC6.out j v (by rwa [Array.getElem?_toList] at hv)) Tryz.underlying28 rfl HIX.out.1 ?_)
        | (refine wpList_stoX rfl 28 (.tmp 4) (.tmp 46) rfl (w.heap.size + 1 + 1) X z67 28 rfl rfl H6.out.b2 (info_mr HIX.out.2.2) (by rw [HIX.out.2.2]; rfl) HIX.out.2.1 ?_; intro w7 HB7 HG7)
        | fail)
      refine bodyPost_ret (results_cell_tmp_row rfl _ _ (w.heap.size + 1 + 1) 28 X (0, 0) _ rfl HB7.out Tryz.underlying28 rfl (info_mr HIX.out.2.2)) rfl ⟨by rw [HFN.out, ← HXE.out]; rfl, ?_⟩
      exact below_own H6.out.bel H6.out.bel.size HG7.out (by omega)
    · have HFN : Hid (mfnd l x = none) := by
        show _ = _
        rw [HFE.out, if_neg hex]
      have hNE2 : ∀ u, (binOp .neq 24 (.agg D) (.agg Y)).run Tryz.prog u = .ok (.bool true) u := fun u => by rw [hNE u]; simp [hex]
      clear HFE hNE hex
      go_wp2_with fail
      refine region_class10 (FmS w g x ps l) (by kernel_rfl) (by kernel_rfl) H4d.out ?_
      try simp only [Act.put, List.setIfInBounds_toArray, List.set_cons_zero, List.set_cons_succ]
      repeat (first
        | go_big_quiet_skip
        | (go_big_quiet_want
           first
             | (refine quiet_one 22 _ rfl w.heap.size 0 (.pointer (some ⟨g, 0, none⟩)) rfl (fun _ => by kernel_rfl) (fun _ h => h.b0) ?_; go_big_quiet_on; simp only [Act.put, List.setIfInBounds_toArray, List.set_cons_zero, List.set_cons_succ])
             | (refine quiet_one 40 _ rfl g 1 (.slice (some ⟨gr, 0, none⟩) n n) rfl (fun _ => by kernel_rfl) (fun W hW => (HG.out W hW).1) ?_; go_big_quiet_on; simp only [Act.put, List.setIfInBounds_toArray, List.set_cons_zero, List.set_cons_succ])
             | (refine quiet_row 24 _ rfl (w.heap.size + 1) 0 Y Y 24 _ rfl (fun _ h => by rw [← HY.out.1]; exact h.b1) (fun j v hv => by rw [Nat.zero_add]; exact hv) Tryz.underlying24 rfl HIY.out ?_; go_big_quiet_on; simp only [Act.put, List.setIfInBounds_toArray, List.set_cons_zero, List.set_cons_succ])
             | (refine quiet_rowc 24 _ rfl gr (k * 67 + 32) D _ rfl C5.out Tryz.underlying24 rfl HID.out ?_; go_big_quiet_on; simp only [Act.put, List.setIfInBounds_toArray, List.set_cons_zero, List.set_cons_succ])
             | (refine quiet_val10 (.pointer (some ⟨g, 0, none⟩)) ?_ ?_; (focus (intro W hW; go_simp; done)); go_big_quiet_on; simp only [Act.put, List.setIfInBounds_toArray, List.set_cons_zero, List.set_cons_succ])
             | (refine quiet_val10 (.pointer (some ⟨g, 1, none⟩)) ?_ ?_; (focus (intro W hW; go_simp; done)); go_big_quiet_on; simp only [Act.put, List.setIfInBounds_toArray, List.set_cons_zero, List.set_cons_succ])
             | (refine quiet_val10 (.pointer (some ⟨gr, k * 67, none⟩)) ?_ ?_; (focus (intro W hW; go_simp; done)); go_big_quiet_on; simp only [Act.put, List.setIfInBounds_toArray, List.set_cons_zero, List.set_cons_succ])
             | (refine quiet_val10 (.pointer (some ⟨gr, k * 67 + 32, none⟩)) ?_ ?_; (focus (intro W hW; go_simp; done)); go_big_quiet_on; simp only [Act.put, List.setIfInBounds_toArray, List.set_cons_zero, List.set_cons_succ])
             | (refine quiet_val10 (.int .i64 (n : Int)) ?_ ?_; (focus (intro W hW; go_simp; done)); go_big_quiet_on; simp only [Act.put, List.setIfInBounds_toArray, List.set_cons_zero, List.set_cons_succ])
             | (refine quiet_val10 (.bool false) ?_ ?_; (focus (intro W hW; go_simp; done)); go_big_quiet_on; simp only [Act.put, List.setIfInBounds_toArray, List.set_cons_zero, List.set_cons_succ])
             | (refine quiet_val10 (.bool true) ?_ ?_; (focus (intro W hW; go_simp; done)); go_big_quiet_on; simp only [Act.put, List.setIfInBounds_toArray, List.set_cons_zero, List.set_cons_succ])
             | (go_big_quiet_op; go_big_quiet_on)))
      refine wpQuiet_nil ?_
      intro w6 hw6
      have H6 : Hid (FmS w g x ps l w6) := hw6
      clear hw6 H4 H4d
      go_wp2_with (first
        | (refine wpList_bdX0 rfl 28 rfl (.agg z67) (hbz _) ?_)
        | (refine wpList_stoX rfl 28 (.tmp 4) (.tmp 39) rfl (w.heap.size + 1 + 1) z67 z67 28 rfl rfl H6.out.b2 inf_mr67 rfl (by rw [z67_is]; exact mrC_all _) ?_; intro w7 HB7 HG7)
        | fail)
      refine bodyPost_ret (results_cell_tmp_row rfl _ _ (w.heap.size + 1 + 1) 28 z67 (0, 0) _ rfl HB7.out Tryz.underlying28 rfl inf_mr67) rfl ⟨by rw [HFN.out]; rfl, ?_⟩
      exact below_own H6.out.bel H6.out.bel.size HG7.out (by omega)

end Go.Proofs.YtfmfdaoipfpijaaGreatDoor
/- midx: Len, Packs, All (slices.Clone at names and rows). -/
namespace Go.Proofs.YtfmfdaoipfpijaaGreatDoor
open Go.RowKit
set_option linter.unusedSimpArgs false
set_option linter.unusedVariables false
def laysE41I_ren : Go.Shelf.Ren := ⟨fun | 41 => 20 | n => n, fun | 22 => 38 | 23 => 24 | 4 => 4 | n => n, fun | n => n⟩
theorem laysE41I : Go.Proofs.SlLaysE0.n41 Tryz.prog laysE41I_ren := {
  mixed := by kernel_rfl
  f41 := ⟨Tryz.f20.name, by decide, Tryz.func20.trans (congrArg some (by kernel_rfl))⟩
  t4 := Tryz.underlying4
  a4 := Tryz.isAgg4
  z4 := Tryz.sizeOf4
  v4 := Tryz.zeroValue4
  t22 := Tryz.underlying38
  a22 := Tryz.isAgg38
  z22 := Tryz.sizeOf38
  v22 := Tryz.zeroValue38 }
def laysE41R_ren : Go.Shelf.Ren := ⟨fun | 41 => 21 | n => n, fun | 22 => 40 | 23 => 28 | 4 => 4 | n => n, fun | n => n⟩
theorem laysE41R : Go.Proofs.SlLaysE0.n41 Tryz.prog laysE41R_ren := {
  mixed := by kernel_rfl
  f41 := ⟨Tryz.f21.name, by decide, Tryz.func21.trans (congrArg some (by kernel_rfl))⟩
  t4 := Tryz.underlying4
  a4 := Tryz.isAgg4
  z4 := Tryz.sizeOf4
  v4 := Tryz.zeroValue4
  t22 := Tryz.underlying40
  a22 := Tryz.isAgg40
  z22 := Tryz.sizeOf40
  v22 := Tryz.zeroValue40 }
/-- Rows of cells of one length. -/
theorem flatM_len {α : Type} (f : α → List Value) (k : Nat) : ∀ {l : List α}, (∀ x ∈ l, (f x).length = k) → (l.flatMap f).length = l.length * k
  | [], _ => by simp
  | x :: l, h => by
    have ih := flatM_len f k (l := l) (fun y hy => h y (List.mem_cons_of_mem _ hy))
    rw [List.flatMap_cons, List.length_append, ih, h x (List.mem_cons_self ..), List.length_cons, Nat.add_mul, Nat.one_mul, Nat.add_comm]
theorem flatM_get {α : Type} (f : α → List Value) (k : Nat) : ∀ {l : List α}, (∀ x ∈ l, (f x).length = k) → ∀ {i : Nat} {e : α}, l[i]? = some e → ∀ j, j < k → (l.flatMap f)[i * k + j]? = (f e)[j]?
  | [], _, i, e, h, _, _ => by simp at h
  | x :: l, hs, 0, e, h, j, hj => by
    simp only [List.getElem?_cons_zero, Option.some.injEq] at h
    subst h
    rw [List.flatMap_cons, Nat.zero_mul, Nat.zero_add, List.getElem?_append_left (by rw [hs x (List.mem_cons_self ..)]; exact hj)]
  | x :: l, hs, i + 1, e, h, j, hj => by
    rw [List.getElem?_cons_succ] at h
    have hx := hs x (List.mem_cons_self ..)
    rw [List.flatMap_cons, List.getElem?_append_right (by rw [hx, Nat.add_mul]; omega), hx, ← flatM_get f k (l := l) (fun y hy => hs y (List.mem_cons_of_mem _ hy)) h j hj]
    congr 1
    rw [Nat.add_mul]; omega
/-- Names as cells. -/
def nvs (l : List ByteArray) : List Value := l.flatMap (fun s => (idc s).toList)
theorem nvs_one (l : List ByteArray) : ∀ v ∈ nvs l, v.oneCell' = true := by
  intro v hv
  obtain ⟨e, _, h⟩ := List.mem_flatMap.1 hv
  exact idc_oneX e v h
theorem nvs_f {l : List ByteArray} (h : ∀ s ∈ l, s.size = 32) : ∀ s ∈ l, ((fun s => (idc s).toList) s).length = 32 := fun s hs => by
  show (idc s).toList.length = 32
  rw [Array.length_toList, idc_size, h s hs]
theorem mvs_f {l : List Mr} (h : ∀ r ∈ l, r.p.size = 32 ∧ r.e.id.size = 32) : ∀ r ∈ l, ((fun r => (mrC r).toList) r).length = 67 := fun r hr => by
  show (mrC r).toList.length = 67
  rw [Array.length_toList, mrC_size r (h r hr).1 (h r hr).2]
set_option maxRecDepth 100000 in
theorem clone_ids (g n : Nat) (l : List ByteArray) (w : World) (hX : NmL w (some ⟨g, 0, none⟩) l) (hl : l.length = n) (hn : n ≤ 4096) :
    Calls Tryz.prog 20 #[.slice (some ⟨g, 0, none⟩) n n] w fun e w' => ∃ v, e = .returned v ∧ w'.ownsRow w.heap.size 24 32 v n (nvs l) ∧ Below w.heap.size w w' := by
  obtain ⟨i0, hi, hz0, hz1, hz2⟩ := info_parts inf_id3
  have hs : ∀ s ∈ l, s.size = 32 := fun s hs => by obtain ⟨i, hi⟩ := List.getElem?_of_mem hs; exact (hX i s hi).1
  have hlen : (nvs l).length = n * 32 := by rw [nvs, flatM_len _ 32 (nvs_f hs), hl]
  refine (AnyE.slices_Clone laysE41I i0 (.agg z32c) 32 32 hi hz0 hz1 hz2 rfl (by decide) Tryz.sizeOf24 g 0 n n (nvs l) w hlen (by unfold maxLen; omega) (by omega) (fun j u hu => ?_) (nvs_one l)).mono ?_
  · have hj : j < n * 32 := by
      have := (List.getElem?_eq_some_iff.1 hu).1
      rwa [hlen] at this
    have hq : j / 32 < l.length := by omega
    obtain ⟨_, g', o', h, _, hc⟩ := hX (j / 32) (l[j / 32]) (List.getElem?_eq_getElem hq)
    simp only [Option.some.injEq, Addr.mk.injEq] at h
    obtain ⟨rfl, rfl, _⟩ := h
    have := flatM_get _ 32 (nvs_f hs) (List.getElem?_eq_getElem hq) (j % 32) (Nat.mod_lt _ (by decide))
    rw [show j / 32 * 32 + j % 32 = j from by omega] at this
    rw [nvs, this, Array.getElem?_toList] at hu
    have := hc (j % 32) u hu
    rwa [show 0 + j / 32 * 32 + j % 32 = 0 + j from by omega] at this
  · rintro e w' ⟨v, rfl, ho, _, hb⟩
    exact ⟨v, rfl, ho, hb⟩
set_option maxRecDepth 100000 in
theorem clone_mrs (g n : Nat) (l : List Mr) (w : World) (hX : MrL w (some ⟨g, 0, none⟩) l) (hl : l.length = n) (hn : n ≤ 1048576) :
    Calls Tryz.prog 21 #[.slice (some ⟨g, 0, none⟩) n n] w fun e w' => ∃ v, e = .returned v ∧ w'.ownsRow w.heap.size 28 67 v n (mvs l) ∧ Below w.heap.size w w' := by
  obtain ⟨i0, hi, hz0, hz1, hz2⟩ := info_parts inf_mr
  have hs : ∀ r ∈ l, r.p.size = 32 ∧ r.e.id.size = 32 := hX.ids
  have hlen : (mvs l).length = n * 67 := by rw [mvs, flatM_len _ 67 (mvs_f hs), hl]
  refine (AnyE.slices_Clone laysE41R i0 (.agg z67) 67 88 hi hz0 hz1 hz2 rfl (by decide) Tryz.sizeOf28 g 0 n n (mvs l) w hlen (by unfold maxLen; omega) (by omega) (fun j u hu => ?_) (mvs_one l)).mono ?_
  · have hj : j < n * 67 := by
      have := (List.getElem?_eq_some_iff.1 hu).1
      rwa [hlen] at this
    have hq : j / 67 < l.length := by omega
    obtain ⟨_, g', o', h, _, hc⟩ := hX (j / 67) (l[j / 67]) (List.getElem?_eq_getElem hq)
    simp only [Option.some.injEq, Addr.mk.injEq] at h
    obtain ⟨rfl, rfl, _⟩ := h
    have := flatM_get _ 67 (mvs_f hs) (List.getElem?_eq_getElem hq) (j % 67) (Nat.mod_lt _ (by decide))
    rw [show j / 67 * 67 + j % 67 = j from by omega] at this
    rw [mvs, this, Array.getElem?_toList] at hu
    have := hc (j % 67) u hu
    rwa [show 0 + j / 67 * 67 + j % 67 = 0 + j from by omega] at this
  · rintro e w' ⟨v, rfl, ho, _, hb⟩
    exact ⟨v, rfl, ho, hb⟩
set_option maxHeartbeats 400000 in
theorem mlen_any (g : Nat) (ps : List ByteArray) (l : List Mr) (w : World) (h : MxS w g ps l) : Calls Tryz.prog 7 #[.pointer (some ⟨g, 0, none⟩)] w fun e w' => e = .returned (.int .i64 (l.length : Int)) ∧ w' = w := by
  obtain ⟨gp, gr, h1, h2, h3⟩ := h.row
  have hq : w.cell? ⟨g, 1, none⟩ = some (.slice (some ⟨gr, 0, none⟩) l.length l.length) := by rw [h1.cell]; rfl
  clear h h1 h2 h3
  go_enter Tryz.func7, Tryz.ntmps7
  go_wp2
  go_ret
  exact ⟨rfl, rfl⟩
set_option maxHeartbeats 2000000 in
set_option maxRecDepth 100000 in
theorem mpacks_any (g : Nat) (ps : List ByteArray) (l : List Mr) (w : World) (h : MxS w g ps l) : Calls Tryz.prog 8 #[.pointer (some ⟨g, 0, none⟩)] w fun e w' => ∃ v, e = .returned v ∧ w'.ownsRow w.heap.size 24 32 v ps.length (nvs ps) ∧ Below w.heap.size w w' := by
  obtain ⟨gp, gr, h1, h2, h3⟩ := h.row
  have hq : w.cell? ⟨g, 0, none⟩ = some (.slice (some ⟨gp, 0, none⟩) ps.length ps.length) := by rw [h1.cell]; rfl
  have HC : Hid (Calls Tryz.prog 20 #[.slice (some ⟨gp, 0, none⟩) ps.length ps.length] w fun e w' => ∃ v, e = .returned v ∧ w'.ownsRow w.heap.size 24 32 v ps.length (nvs ps) ∧ Below w.heap.size w w') := clone_ids gp ps.length ps w h2 rfl h.pl
  obtain ⟨n, hn⟩ : ∃ n, ps.length = n := ⟨_, rfl⟩
  rw [hn] at hq HC ⊢
  clear h h1 h2 h3 hn
  go_enter Tryz.func8, Tryz.ntmps8
  go_wp2_with fail
  refine HC.out.mono ?_
  rintro e w1 ⟨v, rfl, ho, hb⟩
  have HE : Hid (w1.ownsRow w.heap.size 24 32 v n (nvs ps) ∧ Below w.heap.size w w1) := ⟨ho, hb⟩
  obtain ⟨va, vc, hvv⟩ : ∃ va vc, v = .slice va n vc := by
    rcases ho.2 with ⟨h1, h0⟩ | ⟨g, cap, cur, h1, _⟩
    · exact ⟨none, 0, by rw [h1, h0]⟩
    · exact ⟨_, _, h1⟩
  subst hvv
  clear ho hb
  go_wp2
  go_ret
  exact ⟨_, rfl, HE.out⟩
set_option maxHeartbeats 2000000 in
set_option maxRecDepth 100000 in
theorem mall_any (g : Nat) (ps : List ByteArray) (l : List Mr) (w : World) (h : MxS w g ps l) : Calls Tryz.prog 9 #[.pointer (some ⟨g, 0, none⟩)] w fun e w' => ∃ v, e = .returned v ∧ w'.ownsRow w.heap.size 28 67 v l.length (mvs l) ∧ Below w.heap.size w w' := by
  obtain ⟨gp, gr, h1, h2, h3⟩ := h.row
  have hq : w.cell? ⟨g, 1, none⟩ = some (.slice (some ⟨gr, 0, none⟩) l.length l.length) := by rw [h1.cell]; rfl
  have HC : Hid (Calls Tryz.prog 21 #[.slice (some ⟨gr, 0, none⟩) l.length l.length] w fun e w' => ∃ v, e = .returned v ∧ w'.ownsRow w.heap.size 28 67 v l.length (mvs l) ∧ Below w.heap.size w w') := clone_mrs gr l.length l w h3 rfl h.ll
  obtain ⟨n, hn⟩ : ∃ n, l.length = n := ⟨_, rfl⟩
  rw [hn] at hq HC ⊢
  clear h h1 h2 h3 hn
  go_enter Tryz.func9, Tryz.ntmps9
  go_wp2_with fail
  refine HC.out.mono ?_
  rintro e w1 ⟨v, rfl, ho, hb⟩
  have HE : Hid (w1.ownsRow w.heap.size 28 67 v n (mvs l) ∧ Below w.heap.size w w1) := ⟨ho, hb⟩
  obtain ⟨va, vc, hvv⟩ : ∃ va vc, v = .slice va n vc := by
    rcases ho.2 with ⟨h1, h0⟩ | ⟨g, cap, cur, h1, _⟩
    · exact ⟨none, 0, by rw [h1, h0]⟩
    · exact ⟨_, _, h1⟩
  subst hvv
  clear ho hb
  go_wp2
  go_ret
  exact ⟨_, rfl, HE.out⟩
end Go.Proofs.YtfmfdaoipfpijaaGreatDoor
/- slices.AppendSeq, Collect over an iterator that gives names, or rows. -/
namespace Go.Proofs.YtfmfdaoipfpijaaGreatDoor
open Go.RowKit Go.Maps
set_option linter.unusedSimpArgs false
set_option linter.unusedVariables false
attribute [local go_sem] Oper.semAt_some
/-- What the assignment of a round leaves. -/
def Ax_N (b g : Nat) (lb : Array Value) (x : Nf) (a' : Act) (W : World) : Prop := ∃ Bx, b < Bx ∧ Bk W Bx (eN x) 24 ∧ a' = { tmps := #[.slice none 0 0, .func (.func g) #[] lb, .pointer (some ⟨b, 0, none⟩), undef, .slice none 0 0, .pointer (some ⟨Bx, 0, none⟩), .func (.func g) #[] lb, .agg (eN x), undef, undef, undef, undef, undef], defers := [] }

def csN (l : List Nf) : List Value := l.flatMap (fun x => (eN x).toList)
theorem csN_len (l : List Nf) : (csN l).length = l.length * 32 := flatM_len _ 32 (fun x _ => by rw [Array.length_toList, (eN_ok x).1])
theorem inf_N15 : (Tryz.prog.info? 24).map (fun i => (i.zero, i.size, i.bytes)) = some (some (.agg z32c), 32, 32) := by kernel_rfl
set_option maxRecDepth 100000 in
set_option maxHeartbeats 4000000 in
/-- slices.AppendSeq(nil, seq): what the iterator gave, in a row of the call's own. -/
theorem app_N (n : Nat) (hn : 3 ≤ n) (g : Nat) (lb : Array Value) (eg : ∀ args w, (callFunc g args).run Tryz.prog w = .ok (.enter g args) w) (S : List Nf → Prop) (N : Nat) (hN : N ≤ 1048577) (w : World)
    (hseq : SeqStopsK Fence.wide (n - 1) Tryz.prog g lb (fun x : Nf => #[.agg (eN x)]) KeepsWalks S (fun _ => True) N w) :
    CallsIn Fence.wide n Tryz.prog 88 #[.slice none 0 0, .func (.func g) #[] lb] w fun r w' => ∃ v ss, r = .returned v ∧ S ss ∧ w'.ownsRow w.heap.size 24 32 v ss.length (csN ss) ∧ Below w.heap.size w w' := by
  have h1 : 1 ≤ n := by omega
  have hz := zero_id
  obtain ⟨i0, hi, hz0, hz1, hz2⟩ := info_parts inf_N15
  refine callsIn_of_wp_marks Tryz.func88 rfl trivial ?_ rfl
  simp only [Tryz.ntmps88, List.size_toArray, List.length_cons, List.length_nil, Nat.reduceAdd, Nat.reduceSub, Array.replicate_succ, Array.replicate_zero, List.push_toArray, List.append_toArray, List.nil_append, List.cons_append]
  gi_wp2
  have bS := Boxed.new w 38 (.slice none 0 0)
  have hB0 : Below w.heap.size w (w.alloc (.cells #[.slice none 0 0] 38)) := (Below.refl _ w).alloc (Nat.le_refl _) _
  have hsz : (w.alloc (.cells #[.slice none 0 0] 38)).heap.size = w.heap.size + 1 := by simp
  obtain ⟨W0, hW0⟩ : ∃ W0, w.alloc (.cells #[.slice none 0 0] 38) = W0 := ⟨_, rfl⟩
  rw [hW0] at bS hB0 hsz ⊢
  clear hW0
  refine wpIn_rangeFunc_ownH rfl h1 (gf := g) (lb := lb) rfl trivial eg hseq walksK_t (fun W l o o' h1 h2 h3 h4 => walksK_b (w := W0) W l o o' h1 h2 h3 h4) hB0 (fun _ => rfl)
    (fun pre W => (∃ v, Boxed W w.heap.size 38 v ∧ W.ownsRow w.heap.size 24 32 v pre.length (csN pre) ∧ True) ∧ Below w.heap.size w W)
    (fun _ _ _ => False)
    (OwnFrom.and ((holdsRow_own w.heap.size w.heap.size 38 24 32 List.length csN (fun _ _ => True)).from _) (ownFrom_below (Nat.le_refl _) (by omega)))
    (fun _ _ _ _ _ hs _ _ => hs)
    ⟨⟨_, bS, ⟨rfl, .inl ⟨rfl, rfl⟩⟩, trivial⟩, hB0⟩
    (fun x a' W => ∃ Bx, w.heap.size < Bx ∧ Bk W Bx (eN x) 24 ∧ a' = { tmps := #[.slice none 0 0, .func (.func g) #[] lb, .pointer (some ⟨w.heap.size, 0, none⟩), undef, .slice none 0 0, .pointer (some ⟨Bx, 0, none⟩), .func (.func g) #[] lb, .agg (eN x), undef, undef, undef, undef, undef], defers := [] })
    (fun x a' _ X Y row hs hg hr => by obtain ⟨Bx, k1, k2, k3⟩ := hs; exact ⟨Bx, k1, (grownBy_keeps_cells hg (fun r e => (hr r e).2) k2 rfl).trans k2, k3⟩)
    ?assign ?body ?done ?stop
  case assign =>
    rintro l pre x W K ⟨⟨v, bS1, hrow, _⟩, hB1⟩ hK
    obtain ⟨hX1, hX2⟩ := eN_ok x
    obtain ⟨X, hX⟩ : ∃ X, eN x = X := ⟨_, rfl⟩
    have HK : Hid (∀ a', Ax_N w.heap.size g lb x a' (W.alloc (.cells X 24)) → K a' (W.alloc (.cells X 24))) := fun a' hAx => hK a' _ ((KeepsOthers.alloc _ _).from _) (KeepsWalks.alloc _ _) ⟨⟨v, bS1.alloc _, hrow.alloc _, trivial⟩, hB1.alloc hB1.size _⟩ hAx
    rw [hX] at hX1 hX2
    have hIX : (Tryz.prog.info? 24).map (·.size) = some X.size := by rw [hX1]; kernel_rfl
    have hlt := bS1.lt
    dsimp only
    rw [hX]
    gi_wp2_with (first
      | (refine wpListIn_rowNew rfl 24 (.tmp 5) (.tmp 7) rfl X _ 24 W.heap.size rfl rfl rfl hIX (by rw [hX1]; rfl) hX2 ?_)
      | gi_in)
    refine HK.out _ ⟨W.heap.size, hlt, ?_, ?_⟩
    · rw [hX]; exact bk_new _ _ _
    · rw [hX]; rfl
  case body =>
    rintro l pre x a' W hl ⟨r, hr⟩ ⟨⟨v, bS1, hrow, _⟩, hB1⟩ ⟨Bx, hBx, bX, rfl⟩ hlt
    obtain ⟨hX1, hX2⟩ := eN_ok x
    have HSN : csN (pre ++ [x]) = csN pre ++ (eN x).toList := by simp [csN]
    obtain ⟨X, hX⟩ : ∃ X, eN x = X := ⟨_, rfl⟩
    rw [hX] at hX1 hX2 bX HSN ⊢
    have hIX : (Tryz.prog.info? 24).map (·.size) = some X.size := by rw [hX1]; kernel_rfl
    have hse := slice1_any Tryz.underlying38 inf_N15 (by decide) (by decide) X hX1 W
    have cS := bS1.cell
    have bSA := bS1.alloc (.cells X 24)
    have hsz1 := hB1.size
    clear hX
    gi_wp2_with (first
      | (refine wpListIn_rowGet rfl 24 (.tmp 5) rfl Bx 0 X X 24 _ rfl bX (fun j v hv => by rw [Nat.zero_add]; exact hv) Tryz.underlying24 rfl hIX ?_)
      | (refine wpListIn_bs1 rfl 38 (.tmp 9) rfl (.agg X) (.slice (some ⟨W.heap.size, 0, none⟩) 1 1) (W.alloc (.cells X 24)) rfl hse ?_)
      | (gi_at_builtin; refine wpListIn_append_own _ rfl _ _ 38 rfl w.heap.size 24 i0 (.agg z32c) 32 32 Tryz.underlying38 hi hz0 hz1 hz2 rfl (by decide) _ _ _ rfl (hrow.alloc _) ⟨W.heap.size, 0, none⟩ 1 1 X.toList rfl (by rw [Array.length_toList, hX1]) (fun j u hu => by rw [WideShapes.add_plain, (bk_new W X 24).cell, Nat.zero_add]; rwa [← Array.getElem?_toList]) (fun u hu => (Array.all_eq_true_iff_forall_mem.1 hX2) u (by simpa using hu)) (by unfold maxLen; omega) (by omega) (by simp; omega) ?_
         intro v' w3 hown' hg3 hnil3
         obtain ⟨g', cap', rfl⟩ := ownsRow_succ hown'
         have hg3' : (W.alloc (.cells X 24)).grownBy w3 v.ownBlock := hg3
         have bS3 := bSA.kept hg3 (bSA.not_row (by decide) (hrow.alloc _))
         have cS3 := bS3.cell
         have fS3 := bS3.frozen
         go_frame)
      | gi_in)
    have hk3 : KeepsOthers (W.alloc (.cells X 24)) w3 := KeepsOthers.of_grownBy hg3' (fun j o hj ho => by
      rcases (hrow.alloc (.cells X 24)).2 with ⟨rfl, _⟩ | ⟨g2, cap2, cur2, rfl, _, hgb, _⟩
      · cases hj
      · simp only [Value.ownBlock, Option.some.injEq] at hj
        subst hj
        rw [hgb] at ho
        injection ho with ho
        rw [← ho]; rfl)
    have hk4 : KeepsOthers W (w3.setCell ⟨w.heap.size, 0, none⟩ (.slice (some ⟨g', 0, none⟩) (pre.length + 1) cap')) := ((KeepsOthers.alloc _ _).trans hk3).trans (KeepsOthers.setCell _ _ _)
    have hb3 : Below w.heap.size w w3 := (hB1.alloc hB1.size _).grown hg3' (by simp; omega) (fun k e => ((hrow.alloc (.cells X 24)).lt k e).1)
    refine ⟨hk4.from _, hk4.walks, ⟨⟨_, bS3.set _, ?_⟩, hb3.setCell (p := ⟨w.heap.size, 0, none⟩) (Nat.le_refl _) _⟩⟩
    rw [HSN, List.length_append, List.length_singleton]
    exact hown'.kept (grownBy_setCell' _ _ _) (.inr fun e => bS3.not_row (by decide) hown' e.symm)
  case done =>
    rintro D zs W hD hS ⟨⟨v, bS1, hrow, _⟩, hB1⟩ hK
    have cS := bS1.cell
    gi_wp2
    refine ⟨by simp, .inl ⟨_, _, rfl, run_takeDeferred hK, ?_⟩⟩
    exact ⟨_, results_tmp rfl _ _ _, v, zs, rfl, hS, ownsRow_putObj hrow _ hK rfl, hB1.trans (belowK_b (w := w) (Nat.le_refl _) W D _ _ (by omega) hK rfl rfl)⟩
  case stop =>
    rintro D c pre W _ _ h _
    exact h.elim
set_option maxHeartbeats 1000000 in
theorem collect_N (g : Nat) (lb : Array Value) (eg : ∀ args w, (callFunc g args).run Tryz.prog w = .ok (.enter g args) w) (S : List Nf → Prop) (N : Nat) (hN : N ≤ 1048577) (w : World)
    (hseq : SeqStopsK Fence.wide 4 Tryz.prog g lb (fun x : Nf => #[.agg (eN x)]) KeepsWalks S (fun _ => True) N w) :
    Calls Tryz.prog 68 #[.func (.func g) #[] lb] w fun r w' => ∃ v ss, r = .returned v ∧ S ss ∧ w'.ownsRow w.heap.size 24 32 v ss.length (csN ss) ∧ Below w.heap.size w w' := by
  have HC : Hid (Calls Tryz.prog 88 #[.slice none 0 0, .func (.func g) #[] lb] w fun r w' => ∃ v ss, r = .returned v ∧ S ss ∧ w'.ownsRow w.heap.size 24 32 v ss.length (csN ss) ∧ Below w.heap.size w w') := callsIn_wide.1 (app_N 5 (by decide) g lb eg S N hN w hseq)
  clear hseq
  go_enter Tryz.func68, Tryz.ntmps68
  go_wp2_with fail
  refine HC.out.mono ?_
  rintro r w1 ⟨v, ss, rfl, hS, ho, hb⟩
  have H1 : Hid (S ss ∧ w1.ownsRow w.heap.size 24 32 v ss.length (csN ss) ∧ Below w.heap.size w w1) := ⟨hS, ho, hb⟩
  clear hS ho hb
  go_wp2
  go_ret
  exact ⟨v, ss, rfl, H1.out⟩
/-- What the assignment of a round leaves. -/
def Ax_R (b g : Nat) (lb : Array Value) (x : Rf) (a' : Act) (W : World) : Prop := ∃ Bx, b < Bx ∧ Bk W Bx (eR x) 28 ∧ a' = { tmps := #[.slice none 0 0, .func (.func g) #[] lb, .pointer (some ⟨b, 0, none⟩), undef, .slice none 0 0, .pointer (some ⟨Bx, 0, none⟩), .func (.func g) #[] lb, .agg (eR x), undef, undef, undef, undef, undef], defers := [] }

def csR (l : List Rf) : List Value := l.flatMap (fun x => (eR x).toList)
theorem csR_len (l : List Rf) : (csR l).length = l.length * 67 := flatM_len _ 67 (fun x _ => by rw [Array.length_toList, (eR_ok x).1])
theorem inf_R15 : (Tryz.prog.info? 28).map (fun i => (i.zero, i.size, i.bytes)) = some (some (.agg z67), 67, 88) := by kernel_rfl
set_option maxRecDepth 100000 in
set_option maxHeartbeats 4000000 in
/-- slices.AppendSeq(nil, seq): what the iterator gave, in a row of the call's own. -/
theorem app_R (n : Nat) (hn : 3 ≤ n) (g : Nat) (lb : Array Value) (eg : ∀ args w, (callFunc g args).run Tryz.prog w = .ok (.enter g args) w) (S : List Rf → Prop) (N : Nat) (hN : N ≤ 1048577) (w : World)
    (hseq : SeqStopsK Fence.wide (n - 1) Tryz.prog g lb (fun x : Rf => #[.agg (eR x)]) KeepsWalks S (fun _ => True) N w) :
    CallsIn Fence.wide n Tryz.prog 91 #[.slice none 0 0, .func (.func g) #[] lb] w fun r w' => ∃ v ss, r = .returned v ∧ S ss ∧ w'.ownsRow w.heap.size 28 67 v ss.length (csR ss) ∧ Below w.heap.size w w' := by
  have h1 : 1 ≤ n := by omega
  have hz := zero_mr15
  obtain ⟨i0, hi, hz0, hz1, hz2⟩ := info_parts inf_R15
  refine callsIn_of_wp_marks Tryz.func91 rfl trivial ?_ rfl
  simp only [Tryz.ntmps91, List.size_toArray, List.length_cons, List.length_nil, Nat.reduceAdd, Nat.reduceSub, Array.replicate_succ, Array.replicate_zero, List.push_toArray, List.append_toArray, List.nil_append, List.cons_append]
  gi_wp2
  have bS := Boxed.new w 40 (.slice none 0 0)
  have hB0 : Below w.heap.size w (w.alloc (.cells #[.slice none 0 0] 40)) := (Below.refl _ w).alloc (Nat.le_refl _) _
  have hsz : (w.alloc (.cells #[.slice none 0 0] 40)).heap.size = w.heap.size + 1 := by simp
  obtain ⟨W0, hW0⟩ : ∃ W0, w.alloc (.cells #[.slice none 0 0] 40) = W0 := ⟨_, rfl⟩
  rw [hW0] at bS hB0 hsz ⊢
  clear hW0
  refine wpIn_rangeFunc_ownH rfl h1 (gf := g) (lb := lb) rfl trivial eg hseq walksK_t (fun W l o o' h1 h2 h3 h4 => walksK_b (w := W0) W l o o' h1 h2 h3 h4) hB0 (fun _ => rfl)
    (fun pre W => (∃ v, Boxed W w.heap.size 40 v ∧ W.ownsRow w.heap.size 28 67 v pre.length (csR pre) ∧ True) ∧ Below w.heap.size w W)
    (fun _ _ _ => False)
    (OwnFrom.and ((holdsRow_own w.heap.size w.heap.size 40 28 67 List.length csR (fun _ _ => True)).from _) (ownFrom_below (Nat.le_refl _) (by omega)))
    (fun _ _ _ _ _ hs _ _ => hs)
    ⟨⟨_, bS, ⟨rfl, .inl ⟨rfl, rfl⟩⟩, trivial⟩, hB0⟩
    (fun x a' W => ∃ Bx, w.heap.size < Bx ∧ Bk W Bx (eR x) 28 ∧ a' = { tmps := #[.slice none 0 0, .func (.func g) #[] lb, .pointer (some ⟨w.heap.size, 0, none⟩), undef, .slice none 0 0, .pointer (some ⟨Bx, 0, none⟩), .func (.func g) #[] lb, .agg (eR x), undef, undef, undef, undef, undef], defers := [] })
    (fun x a' _ X Y row hs hg hr => by obtain ⟨Bx, k1, k2, k3⟩ := hs; exact ⟨Bx, k1, (grownBy_keeps_cells hg (fun r e => (hr r e).2) k2 rfl).trans k2, k3⟩)
    ?assign ?body ?done ?stop
  case assign =>
    rintro l pre x W K ⟨⟨v, bS1, hrow, _⟩, hB1⟩ hK
    obtain ⟨hX1, hX2⟩ := eR_ok x
    obtain ⟨X, hX⟩ : ∃ X, eR x = X := ⟨_, rfl⟩
    have HK : Hid (∀ a', Ax_R w.heap.size g lb x a' (W.alloc (.cells X 28)) → K a' (W.alloc (.cells X 28))) := fun a' hAx => hK a' _ ((KeepsOthers.alloc _ _).from _) (KeepsWalks.alloc _ _) ⟨⟨v, bS1.alloc _, hrow.alloc _, trivial⟩, hB1.alloc hB1.size _⟩ hAx
    rw [hX] at hX1 hX2
    have hIX : (Tryz.prog.info? 28).map (·.size) = some X.size := by rw [hX1]; kernel_rfl
    have hlt := bS1.lt
    dsimp only
    rw [hX]
    gi_wp2_with (first
      | (refine wpListIn_rowNew rfl 28 (.tmp 5) (.tmp 7) rfl X _ 28 W.heap.size rfl rfl rfl hIX (by rw [hX1]; rfl) hX2 ?_)
      | gi_in)
    refine HK.out _ ⟨W.heap.size, hlt, ?_, ?_⟩
    · rw [hX]; exact bk_new _ _ _
    · rw [hX]; rfl
  case body =>
    rintro l pre x a' W hl ⟨r, hr⟩ ⟨⟨v, bS1, hrow, _⟩, hB1⟩ ⟨Bx, hBx, bX, rfl⟩ hlt
    obtain ⟨hX1, hX2⟩ := eR_ok x
    have HSN : csR (pre ++ [x]) = csR pre ++ (eR x).toList := by simp [csR]
    obtain ⟨X, hX⟩ : ∃ X, eR x = X := ⟨_, rfl⟩
    rw [hX] at hX1 hX2 bX HSN ⊢
    have hIX : (Tryz.prog.info? 28).map (·.size) = some X.size := by rw [hX1]; kernel_rfl
    have hse := slice1_any Tryz.underlying40 inf_R15 (by decide) (by decide) X hX1 W
    have cS := bS1.cell
    have bSA := bS1.alloc (.cells X 28)
    have hsz1 := hB1.size
    clear hX
    gi_wp2_with (first
      | (refine wpListIn_rowGet rfl 28 (.tmp 5) rfl Bx 0 X X 28 _ rfl bX (fun j v hv => by rw [Nat.zero_add]; exact hv) Tryz.underlying28 rfl hIX ?_)
      | (refine wpListIn_bs1 rfl 40 (.tmp 9) rfl (.agg X) (.slice (some ⟨W.heap.size, 0, none⟩) 1 1) (W.alloc (.cells X 28)) rfl hse ?_)
      | (gi_at_builtin; refine wpListIn_append_own _ rfl _ _ 40 rfl w.heap.size 28 i0 (.agg z67) 67 88 Tryz.underlying40 hi hz0 hz1 hz2 rfl (by decide) _ _ _ rfl (hrow.alloc _) ⟨W.heap.size, 0, none⟩ 1 1 X.toList rfl (by rw [Array.length_toList, hX1]) (fun j u hu => by rw [WideShapes.add_plain, (bk_new W X 28).cell, Nat.zero_add]; rwa [← Array.getElem?_toList]) (fun u hu => (Array.all_eq_true_iff_forall_mem.1 hX2) u (by simpa using hu)) (by unfold maxLen; omega) (by omega) (by simp; omega) ?_
         intro v' w3 hown' hg3 hnil3
         obtain ⟨g', cap', rfl⟩ := ownsRow_succ hown'
         have hg3' : (W.alloc (.cells X 28)).grownBy w3 v.ownBlock := hg3
         have bS3 := bSA.kept hg3 (bSA.not_row (by decide) (hrow.alloc _))
         have cS3 := bS3.cell
         have fS3 := bS3.frozen
         go_frame)
      | gi_in)
    have hk3 : KeepsOthers (W.alloc (.cells X 28)) w3 := KeepsOthers.of_grownBy hg3' (fun j o hj ho => by
      rcases (hrow.alloc (.cells X 28)).2 with ⟨rfl, _⟩ | ⟨g2, cap2, cur2, rfl, _, hgb, _⟩
      · cases hj
      · simp only [Value.ownBlock, Option.some.injEq] at hj
        subst hj
        rw [hgb] at ho
        injection ho with ho
        rw [← ho]; rfl)
    have hk4 : KeepsOthers W (w3.setCell ⟨w.heap.size, 0, none⟩ (.slice (some ⟨g', 0, none⟩) (pre.length + 1) cap')) := ((KeepsOthers.alloc _ _).trans hk3).trans (KeepsOthers.setCell _ _ _)
    have hb3 : Below w.heap.size w w3 := (hB1.alloc hB1.size _).grown hg3' (by simp; omega) (fun k e => ((hrow.alloc (.cells X 28)).lt k e).1)
    refine ⟨hk4.from _, hk4.walks, ⟨⟨_, bS3.set _, ?_⟩, hb3.setCell (p := ⟨w.heap.size, 0, none⟩) (Nat.le_refl _) _⟩⟩
    rw [HSN, List.length_append, List.length_singleton]
    exact hown'.kept (grownBy_setCell' _ _ _) (.inr fun e => bS3.not_row (by decide) hown' e.symm)
  case done =>
    rintro D zs W hD hS ⟨⟨v, bS1, hrow, _⟩, hB1⟩ hK
    have cS := bS1.cell
    gi_wp2
    refine ⟨by simp, .inl ⟨_, _, rfl, run_takeDeferred hK, ?_⟩⟩
    exact ⟨_, results_tmp rfl _ _ _, v, zs, rfl, hS, ownsRow_putObj hrow _ hK rfl, hB1.trans (belowK_b (w := w) (Nat.le_refl _) W D _ _ (by omega) hK rfl rfl)⟩
  case stop =>
    rintro D c pre W _ _ h _
    exact h.elim
set_option maxHeartbeats 1000000 in
theorem collect_R (g : Nat) (lb : Array Value) (eg : ∀ args w, (callFunc g args).run Tryz.prog w = .ok (.enter g args) w) (S : List Rf → Prop) (N : Nat) (hN : N ≤ 1048577) (w : World)
    (hseq : SeqStopsK Fence.wide 4 Tryz.prog g lb (fun x : Rf => #[.agg (eR x)]) KeepsWalks S (fun _ => True) N w) :
    Calls Tryz.prog 71 #[.func (.func g) #[] lb] w fun r w' => ∃ v ss, r = .returned v ∧ S ss ∧ w'.ownsRow w.heap.size 28 67 v ss.length (csR ss) ∧ Below w.heap.size w w' := by
  have HC : Hid (Calls Tryz.prog 91 #[.slice none 0 0, .func (.func g) #[] lb] w fun r w' => ∃ v ss, r = .returned v ∧ S ss ∧ w'.ownsRow w.heap.size 28 67 v ss.length (csR ss) ∧ Below w.heap.size w w') := callsIn_wide.1 (app_R 5 (by decide) g lb eg S N hN w hseq)
  clear hseq
  go_enter Tryz.func71, Tryz.ntmps71
  go_wp2_with fail
  refine HC.out.mono ?_
  rintro r w1 ⟨v, ss, rfl, hS, ho, hb⟩
  have H1 : Hid (S ss ∧ w1.ownsRow w.heap.size 28 67 v ss.length (csR ss) ∧ Below w.heap.size w w1) := ⟨hS, ho, hb⟩
  clear hS ho hb
  go_wp2
  go_ret
  exact ⟨v, ss, rfl, H1.out⟩
end Go.Proofs.YtfmfdaoipfpijaaGreatDoor
