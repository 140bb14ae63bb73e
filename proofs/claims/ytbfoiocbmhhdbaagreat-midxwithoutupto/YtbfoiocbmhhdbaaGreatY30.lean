import Derived.Test.YtbfoiocbmhhdbaaGreatY11
import Derived.Test.YtbfoiocbmhhdbaaGreatY6
/- idx.Index.Find. -/
namespace Go.Proofs.YtbfoiocbmhhdbaaGreat
open Go.RowKit
set_option linter.unusedSimpArgs false
set_option linter.unusedVariables false
/-- What Find answers. -/
def fdV : Option Xe → Value
  | none => .tuple #[.agg z35X, .int .i64 6]
  | some e => .tuple #[.agg (xeC e), .int .i64 0]
theorem z35_all : z35X.all (·.oneCell') = true := by
  rw [Array.all_eq_true_iff_forall_mem]
  intro v hv
  simp [z35X] at hv
  rcases hv with rfl | rfl <;> rfl
theorem blw_drewNx {B : Nat} {w w' : World} (h : Below B w w') : ∀ n, Below B w (w'.drewN n)
  | 0 => h
  | n + 1 => (blw_drewNx h n).drew
structure FdS (w : World) (g : Nat) (x : ByteArray) (f bf : Nat) (W : World) : Prop where
  b0 : W.cell? ⟨w.heap.size, 0, none⟩ = some (.pointer (some ⟨g, 0, none⟩))
  b1 : Bk W (w.heap.size + 1) (idc x) 48
  b2 : Bk W (w.heap.size + 1 + 1) z35X 50
  b3 : W.cell? ⟨bf, 0, none⟩ = some (.int .i64 (f : Int))
  bel : Below w.heap.size w W
theorem FdS.next {w W W' : World} {g f bf : Nat} {x : ByteArray} (h : FdS w g x f bf W) (hb : Below W.heap.size W W') : FdS w g x f bf W' :=
  ⟨by rw [hb.cell (block_lt_of_cell h.b0)]; exact h.b0, h.b1.below hb h.b1.lt, h.b2.below hb h.b2.lt, by rw [hb.cell (block_lt_of_cell h.b3)]; exact h.b3, h.bel.trans (hb.mono h.bel.size)⟩
theorem cell_alloc_x {W : World} {p : Addr} {v : Value} (o : Obj) (h : W.cell? p = some v) : (W.alloc o).cell? p = some v := by
  have hb : Below W.heap.size W (W.alloc o) := (Below.refl _ _).alloc (Nat.le_refl _) _
  rw [hb.cell (block_lt_of_cell h)]; exact h
theorem cell_new_x (W : World) (v : Value) (t : TypeId) : (W.alloc (.cells #[v] t)).cell? ⟨W.heap.size, 0, none⟩ = some v := by
  rw [(bk_new W #[v] t).cell]; rfl
theorem idc_first (x : ByteArray) (h : x.size = 32) : (idc x)[0]? = some (.int .u8 (f8 x : Int)) := by
  have := fst8_cell ⟨x, 0, 0, 0⟩ h
  rw [fst8_f8] at this
  refine Eq.trans ?_ this
  have h2 := xeC_id ⟨x, 0, 0, 0⟩ h 0
  cases hq : (idc x)[0]? with
  | none => rw [Array.getElem?_eq_none_iff, idc_size, h] at hq; omega
  | some v => rw [h2 v hq]
set_option maxHeartbeats 8000000 in
set_option maxRecDepth 100000 in
theorem find_any (g : Nat) (s x : ByteArray) (l : List Xe) (w : World) (h : IxS w g s l) (hr : Rise l) (hx : x.size = 32) (hn : l.length ≤ 65536) :
    Calls Tryz.prog 40 #[.pointer (some ⟨g, 0, none⟩), .agg (idc x)] w fun r w' => r = .returned (fdV (fnd l x)) ∧ Below w.heap.size w w' := by
  obtain ⟨a, n, c, hB, hX, hl, hc, hA⟩ := h.row
  have hgl := hB.lt
  have HIS : Hid (IxS w g s l) := h
  have HRI : Hid (Rise l) := hr
  obtain ⟨f, hf⟩ : ∃ f, fanB l (f8 x) = f := ⟨_, rfl⟩
  obtain ⟨t, ht⟩ : ∃ t, fanL l (f8 x) = t := ⟨_, rfl⟩
  obtain ⟨k, hk⟩ : ∃ k, cntN l x = k := ⟨_, rfl⟩
  have hfk : f ≤ k := by rw [← hf, ← hk]; exact cntN_ge l x
  have hkt : k ≤ t := by rw [← ht, ← hk]; exact cntN_le l x
  have htn : t ≤ n := by rw [← ht, ← hl]; exact fanL_le l _
  have hn6 : n ≤ 65536 := by rw [← hl]; exact hn
  obtain ⟨N, hN⟩ : ∃ N, t - f = N := ⟨_, rfl⟩
  have HRG : Hid (∀ W, IxS W g s l → Calls Tryz.prog 88 #[.pointer (some ⟨g, 0, none⟩), .int .u8 (f8 x : Int)] W fun e w' => e = .returned (.tuple #[.int .i64 (f : Int), .int .i64 (t : Int)]) ∧ Below W.heap.size W w') := fun W hW => by
    have := irange_any g s l (f8 x) (f8_lt x) W hW
    rw [hf, ht] at this
    exact this.mono fun e w' ⟨q1, q, q2⟩ => ⟨q1, by rw [q2]; exact blw_drewNx (Below.refl _ _) q⟩
  have HSR : Hid (∀ bf W, FdS w g x f bf W → Calls Tryz.prog 44 #[.int .i64 (N : Int), .func (.func 89) #[] #[.pointer (some ⟨w.heap.size, 0, none⟩), .pointer (some ⟨bf, 0, none⟩), .pointer (some ⟨w.heap.size + 1, 0, none⟩)]] W fun e w' => e = .returned (.int .i64 ((k - f : Nat) : Int)) ∧ FdS w g x f bf w') := fun bf W hW => by
    have hget : ∀ i, i < N → ∃ e, l[f + i]? = some e := fun i hi => ⟨_, List.getElem?_eq_getElem (by omega)⟩
    let p : Nat → Bool := fun i => match l[f + i]? with | some e => !ltN e.id x | none => true
    have hp : ∀ i e, l[f + i]? = some e → p i = !ltN e.id x := fun i e he => by simp only [p, he]
    have q := Any.sort_Search (P := Tryz.prog) laysO16 89 #[.pointer (some ⟨w.heap.size, 0, none⟩), .pointer (some ⟨bf, 0, none⟩), .pointer (some ⟨w.heap.size + 1, 0, none⟩)] N p W (fun _ _ => by kernel_rfl) (by omega) (fun m os i hi => ?_) (fun a b hab hb ha => ?_)
    · refine q.mono fun e w' ⟨q1, q2⟩ => ⟨?_, hW.next (Grw.below q2)⟩
      rw [q1]
      have := half_cnt hr x (fun i => !p i) (fun i e he => by
        rw [hf] at he
        show (!p i) = _
        rw [hp i e he, Bool.not_not])
      rw [hf, ht, hk, hN] at this
      have e2 : (List.range N).countP (fun i => !p i) = k - f := by omega
      rw [e2]
    · obtain ⟨e, he⟩ := hget i hi
      have hG : Grw W (Sort.grow (W.drewN m) os) := ⟨m, os, rfl⟩
      have hW2 := hW.next hG.below
      rw [hp i e he]
      exact (find1_any w.heap.size bf (w.heap.size + 1) g f i s x l e _ hW2.b0 hW2.b3 hW2.b1 hx (HIS.out.below hW2.bel) hn he)
    · obtain ⟨d, hd⟩ := hget a (by omega)
      obtain ⟨e, he⟩ := hget b (by omega)
      rw [hp a d hd] at ha
      rw [hp b e he]
      have h1 : ¬ f + a < cntN l x := fun q => by rw [(hr.cnt hd x).2 q] at ha; cases ha
      have h2 : ltN e.id x = false := by
        rw [Bool.eq_false_iff]
        intro q
        have := (hr.cnt he x).1 q
        omega
      rw [h2]; rfl
  have HI : Hid ((Tryz.prog.info? 48).map (·.size) = some (idc x).size ∧ (idc x).all (·.oneCell') = true ∧ (idc x).size = 32) := ⟨info_32 (by rw [idc_size, hx]), idc_allX x, by rw [idc_size, hx]⟩
  have hz : ∀ w, (zeroValue 50).run Tryz.prog w = .ok (.agg z35X) w := Tryz.zeroValue50
  have hmf : ∀ (fn : Fn) (first cap : Array Value) (w : World), (Instr.makeFunc fn first cap).run Tryz.prog w = .ok (.func fn first cap) w := fun _ _ _ _ => rfl
  have HF0 : Hid (fnd l x = if k = t then none else match l[k]? with | some e => if e.id = x then some e else none | none => none) := by
    show fnd l x = _
    by_cases q : k = t
    · rw [if_pos q]; exact fnd_end hr x (by rw [hk, ht, q])
    · rw [if_neg q]
      obtain ⟨e, he⟩ : ∃ e, l[k]? = some e := ⟨_, List.getElem?_eq_getElem (by omega)⟩
      simp only [he]
      by_cases q2 : e.id = x
      · rw [if_pos q2]; exact fnd_at hr x (by rw [hk]; exact he) q2
      · rw [if_neg q2]; exact fnd_ne hr x (by rw [hk]; exact he) q2
  -- the worlds
  have hcA : (((w.alloc (.cells #[.pointer (some ⟨g, 0, none⟩)] 63)).alloc (.cells (idc x) 48)).alloc (.cells z35X 50)).cell? ⟨w.heap.size, 0, none⟩ = some (.pointer (some ⟨g, 0, none⟩)) := cell_alloc_x _ (cell_alloc_x _ (cell_new_x _ _ _))
  have hbA : Bk (((w.alloc (.cells #[.pointer (some ⟨g, 0, none⟩)] 63)).alloc (.cells (idc x) 48)).alloc (.cells z35X 50)) (w.heap.size + 1) (idc x) 48 := by
    have := (bk_new (w.alloc (.cells #[.pointer (some ⟨g, 0, none⟩)] 63)) (idc x) 48).alloc (.cells z35X 50)
    rw [al_size] at this
    exact this
  have hbB : Bk (((w.alloc (.cells #[.pointer (some ⟨g, 0, none⟩)] 63)).alloc (.cells (idc x) 48)).alloc (.cells z35X 50)) (w.heap.size + 1 + 1) z35X 50 := by
    have := bk_new ((w.alloc (.cells #[.pointer (some ⟨g, 0, none⟩)] 63)).alloc (.cells (idc x) 48)) z35X 50
    rw [al_size, al_size] at this
    exact this
  have hcB : (((w.alloc (.cells #[.pointer (some ⟨g, 0, none⟩)] 63)).alloc (.cells (idc x) 48)).alloc (.cells z35X 50)).cell? ⟨w.heap.size + 1, 0, none⟩ = some (.int .u8 (f8 x : Int)) := by
    rw [hbA.cell]; exact idc_first x hx
  have hbl : Below w.heap.size w (((w.alloc (.cells #[.pointer (some ⟨g, 0, none⟩)] 63)).alloc (.cells (idc x) 48)).alloc (.cells z35X 50)) := (((Below.refl _ _).alloc (Nat.le_refl _) _).alloc (by rw [al_size]; omega) _).alloc (by rw [al_size, al_size]; omega) _
  have HA : Hid (Bk (((w.alloc (.cells #[.pointer (some ⟨g, 0, none⟩)] 63)).alloc (.cells (idc x) 48)).alloc (.cells z35X 50)) (w.heap.size + 1) (idc x) 48 ∧ Bk (((w.alloc (.cells #[.pointer (some ⟨g, 0, none⟩)] 63)).alloc (.cells (idc x) 48)).alloc (.cells z35X 50)) (w.heap.size + 1 + 1) z35X 50 ∧ Below w.heap.size w (((w.alloc (.cells #[.pointer (some ⟨g, 0, none⟩)] 63)).alloc (.cells (idc x) 48)).alloc (.cells z35X 50))) := ⟨hbA, hbB, hbl⟩
  have HX32 : Hid (x.size = 32 ∧ l.length = n) := ⟨hx, hl⟩
  clear h hr hB hX hl hc hA hbA hbB hbl hf ht hk hx
  go_enter Tryz.func40, Tryz.ntmps40
  go_wp2_with fail
  refine (HRG.out _ (HIS.out.below HA.out.2.2)).mono ?_
  rintro e w2 ⟨rfl, hb2⟩
  have P2 : Hid (w2.cell? ⟨w.heap.size, 0, none⟩ = some (.pointer (some ⟨g, 0, none⟩)) ∧ Bk w2 (w.heap.size + 1) (idc x) 48 ∧ Bk w2 (w.heap.size + 1 + 1) z35X 50 ∧ Below w.heap.size w w2) := ⟨by rw [hb2.cell (block_lt_of_cell hcA)]; exact hcA, HA.out.1.below hb2 HA.out.1.lt, HA.out.2.1.below hb2 HA.out.2.1.lt, HA.out.2.2.trans (hb2.mono HA.out.2.2.size)⟩
  clear hcA hcB HA HRG hb2
  have F5 : Hid (FdS w g x f w2.heap.size (w2.alloc (.cells #[.int .i64 (f : Int)] 3)).drew) := by
    have q2 : Below w2.heap.size w2 (w2.alloc (.cells #[.int .i64 (f : Int)] 3)) := (Below.refl _ _).alloc (Nat.le_refl _) _
    have q3 := q2.drew
    exact ⟨by rw [q3.cell (block_lt_of_cell P2.out.1)]; exact P2.out.1, P2.out.2.1.below q3 P2.out.2.1.lt, P2.out.2.2.1.below q3 P2.out.2.2.1.lt, cell_new_x w2 _ _, P2.out.2.2.2.trans (q3.mono P2.out.2.2.2.size)⟩
  have HS5 : Hid _ := HSR.out w2.heap.size
  obtain ⟨M, hM⟩ : ∃ M, k - f = M := ⟨_, rfl⟩
  rw [hM] at HS5
  have hNz : (t : Int) - (f : Int) = (N : Int) := by omega
  have hMz : (f : Int) + (M : Int) = (k : Int) := by omega
  have hw1 : IntKind.i64.wrap (N : Int) = (N : Int) := by rw [IntKind.wrap_i64]; omega
  have hw2 : IntKind.i64.wrap (k : Int) = (k : Int) := by rw [IntKind.wrap_i64]; omega
  clear hN hM HSR P2
  go_wp2_with fail
  refine region_class10 (FdS w g x f w2.heap.size) (by kernel_rfl) (by kernel_rfl) F5.out ?_
  try simp only [Act.put, List.setIfInBounds_toArray, List.set_cons_zero, List.set_cons_succ]
  repeat (first
    | go_big_quiet_skip
    | (go_big_quiet_want
       first
         | (refine quiet_one 3 _ rfl w2.heap.size 0 (.int .i64 (f : Int)) rfl (fun _ => by kernel_rfl) (fun _ h => h.b3) ?_; go_big_quiet_on; simp only [Act.put, List.setIfInBounds_toArray, List.set_cons_zero, List.set_cons_succ])
         | (refine quiet_val10 (.int .i64 (N : Int)) ?_ ?_; (focus (intro W hW; go_simp; done)); go_big_quiet_on; simp only [Act.put, List.setIfInBounds_toArray, List.set_cons_zero, List.set_cons_succ])
         | (refine quiet_call10 (.int .i64 (M : Int)) 44 #[.int .i64 (N : Int), .func (.func 89) #[] #[.pointer (some ⟨w.heap.size, 0, none⟩), .pointer (some ⟨w2.heap.size, 0, none⟩), .pointer (some ⟨w.heap.size + 1, 0, none⟩)]] ?_ ?_ ?_; (focus (intro W hW; go_simp; done)); (focus (intro W hW; exact HS5.out W hW)); go_big_quiet_on; simp only [Act.put, List.setIfInBounds_toArray, List.set_cons_zero, List.set_cons_succ])
         | (refine quiet_val10 (.int .i64 (k : Int)) ?_ ?_; (focus (intro W hW; go_simp; done)); go_big_quiet_on; simp only [Act.put, List.setIfInBounds_toArray, List.set_cons_zero, List.set_cons_succ])
         | (go_big_quiet_op; go_big_quiet_on)))
  refine wpQuiet_nil ?_
  intro w5 hw5
  have H5 : Hid (FdS w g x f w2.heap.size w5) := hw5
  have H5d : Hid (FdS w g x f w2.heap.size w5.drew) := hw5.next ((Below.refl _ _).drew)
  clear hw5 F5 HS5 hNz hMz
  by_cases hkt2 : k = t
  · have HFN : Hid (fnd l x = none) := by
      show _ = _
      rw [HF0.out, if_pos hkt2]
    subst hkt2
    have hzz := Tryz.zeroValue50
    have hbz : ∀ w, (Instr.build 50 #[]).run Tryz.prog w = .ok (.agg z35X) w := fun w => by kernel_rfl
    clear HF0
    go_wp2_with fail
    refine region_class10 (FdS w g x f w2.heap.size) (by kernel_rfl) (by kernel_rfl) H5d.out ?_
    try simp only [Act.put, List.setIfInBounds_toArray, List.set_cons_zero, List.set_cons_succ]
    repeat (first
      | go_big_quiet_skip
      | (go_big_quiet_want
         first
           | (refine quiet_val10 (.bool true) ?_ ?_; (focus (intro W hW; go_simp; done)); go_big_quiet_on; simp only [Act.put, List.setIfInBounds_toArray, List.set_cons_zero, List.set_cons_succ])
           | (go_big_quiet_op; go_big_quiet_on)))
    refine wpQuiet_nil ?_
    intro w6 hw6
    have H6 : Hid (FdS w g x f w2.heap.size w6) := hw6
    clear hw6 H5 H5d
    go_wp2_with (first
      | (refine wpList_bdX0 rfl 50 rfl (.agg z35X) (hbz _) ?_)
      | (refine wpList_stoX rfl 50 (.tmp 4) (.tmp 43) rfl (w.heap.size + 1 + 1) z35X z35X 50 rfl rfl H6.out.b2 inf_xe35 rfl z35_all ?_; intro w7 HB7 HG7)
      | fail)
    refine bodyPost_ret (results_cell_tmp_row rfl _ _ (w.heap.size + 1 + 1) 50 z35X (0, 0) _ rfl HB7.out Tryz.underlying50 rfl inf_xe35) rfl ⟨by rw [HFN.out]; rfl, ?_⟩
    exact below_own H6.out.bel H6.out.bel.size HG7.out (by omega)
  · obtain ⟨e, he⟩ : ∃ e, l[k]? = some e := ⟨_, List.getElem?_eq_getElem (by rw [HX32.out.2]; omega)⟩
    obtain ⟨a', n', c', hB', hX', hl', hc', hA'⟩ := HIS.out.row
    obtain rfl : n' = n := by rw [← hl', HX32.out.2]
    obtain ⟨ga, oa, rfl, hga, h32, hcells⟩ := hX'.get he
    have hkn : k < n' := by omega
    have hkz : (k : Int) < (n' : Nat) := by omega
    have hk0 : (0 : Int) ≤ k := by omega
    have hneb : ((k : Int) == (t : Int)) = false := by rw [beq_eq_false_iff_ne]; omega
    have C4 : Hid (∀ W, FdS w g x f w2.heap.size W → W.cell? ⟨g, 288, none⟩ = some (.slice (some ⟨ga, oa, none⟩) n' c')) := fun W hW => by
      rw [(hB'.below hW.bel hB'.lt).cell]; exact ixC_row s _ _ HIS.out.id
    have C5 : Hid (∀ W, FdS w g x f w2.heap.size W → ∀ j v, (idc e.id)[j]? = some v → W.cell? ⟨ga, oa + k * 35 + j, none⟩ = some v) := fun W hW j v hv => by
      rw [hW.bel.cell hga]; exact hcells j v (by have := xeC_id e h32 j v hv; rwa [Nat.zero_add] at this)
    have C6 : Hid (∀ W, FdS w g x f w2.heap.size W → ∀ j v, (xeC e)[j]? = some v → W.cell? ⟨ga, oa + k * 35 + j, none⟩ = some v) := fun W hW j v hv => by
      rw [hW.bel.cell hga]; exact hcells j v hv
    have hNE := neq_ids e.id x h32 HX32.out.1
    have HI1 : Hid ((Tryz.prog.info? 48).map (·.size) = some (idc e.id).size) := info_32 (by rw [idc_size, h32])
    obtain ⟨D, hD⟩ : ∃ D, idc e.id = D := ⟨_, rfl⟩
    obtain ⟨Y, hY⟩ : ∃ Y, idc x = Y := ⟨_, rfl⟩
    have HYY : Hid (idc x = Y) := hY
    obtain ⟨X, hXe⟩ : ∃ X, xeC e = X := ⟨_, rfl⟩
    have HXE : Hid (xeC e = X) := hXe
    have HIX : Hid ((Tryz.prog.info? 50).map (·.size) = some X.toList.length ∧ X.all (·.oneCell') = true ∧ X.size = 35) := by rw [← hXe]; exact ⟨by rw [inf_xe35, Array.length_toList, xeC_size e h32], xeC_all e, xeC_size e h32⟩
    rw [hD] at C5 HI1
    rw [hXe] at C6
    rw [hY] at HI
    rw [hD, hY] at hNE
    have HFE : Hid (fnd l x = if e.id = x then some e else none) := by
      show _ = _
      rw [HF0.out, if_neg hkt2]
      simp only [he]
    clear HF0 hB' hX' hl' hc' hA' hcells he h32 hD hY hXe
    by_cases hex : e.id = x
    · have HFN : Hid (fnd l x = some e) := by
        show _ = _
        rw [HFE.out, if_pos hex]
      have hNE2 : ∀ u, (binOp .neq 48 (.agg D) (.agg Y)).run Tryz.prog u = .ok (.bool false) u := fun u => by rw [hNE u]; simp [hex]
      clear HFE hNE hex
      go_wp2_with fail
      refine region_class10 (FdS w g x f w2.heap.size) (by kernel_rfl) (by kernel_rfl) H5d.out ?_
      try simp only [Act.put, List.setIfInBounds_toArray, List.set_cons_zero, List.set_cons_succ]
      repeat (first
        | go_big_quiet_skip
        | (go_big_quiet_want
           first
             | (refine quiet_one 63 _ rfl w.heap.size 0 (.pointer (some ⟨g, 0, none⟩)) rfl (fun _ => by kernel_rfl) (fun _ h => h.b0) ?_; go_big_quiet_on; simp only [Act.put, List.setIfInBounds_toArray, List.set_cons_zero, List.set_cons_succ])
             | (refine quiet_one 66 _ rfl g 288 (.slice (some ⟨ga, oa, none⟩) n' c') rfl (fun _ => by kernel_rfl) C4.out ?_; go_big_quiet_on; simp only [Act.put, List.setIfInBounds_toArray, List.set_cons_zero, List.set_cons_succ])
             | (refine quiet_row 48 _ rfl (w.heap.size + 1) 0 Y Y 48 _ rfl (fun _ h => by rw [← HYY.out]; exact h.b1) (fun j v hv => by rw [Nat.zero_add]; exact hv) Tryz.underlying48 rfl HI.out.1 ?_; go_big_quiet_on; simp only [Act.put, List.setIfInBounds_toArray, List.set_cons_zero, List.set_cons_succ])
             | (refine quiet_rowc 48 _ rfl ga (oa + k * 35) D _ rfl C5.out Tryz.underlying48 rfl HI1.out ?_; go_big_quiet_on; simp only [Act.put, List.setIfInBounds_toArray, List.set_cons_zero, List.set_cons_succ])
             | (refine quiet_val10 (.pointer (some ⟨g, 0, none⟩)) ?_ ?_; (focus (intro W hW; go_simp; done)); go_big_quiet_on; simp only [Act.put, List.setIfInBounds_toArray, List.set_cons_zero, List.set_cons_succ])
             | (refine quiet_val10 (.pointer (some ⟨g, 288, none⟩)) ?_ ?_; (focus (intro W hW; go_simp; done)); go_big_quiet_on; simp only [Act.put, List.setIfInBounds_toArray, List.set_cons_zero, List.set_cons_succ])
             | (refine quiet_val10 (.pointer (some ⟨ga, oa + k * 35, none⟩)) ?_ ?_; (focus (intro W hW; go_simp; done)); go_big_quiet_on; simp only [Act.put, List.setIfInBounds_toArray, List.set_cons_zero, List.set_cons_succ])
             | (refine quiet_val10 (.bool false) ?_ ?_; (focus (intro W hW; go_simp; done)); go_big_quiet_on; simp only [Act.put, List.setIfInBounds_toArray, List.set_cons_zero, List.set_cons_succ])
             | (refine quiet_val10 (.bool true) ?_ ?_; (focus (intro W hW; go_simp; done)); go_big_quiet_on; simp only [Act.put, List.setIfInBounds_toArray, List.set_cons_zero, List.set_cons_succ])
             | (go_big_quiet_op; go_big_quiet_on)))
      refine wpQuiet_nil ?_
      intro w6 hw6
      have H6 : Hid (FdS w g x f w2.heap.size w6) := hw6
      have hc4 := C4.out w6 hw6
      have hc0 := hw6.b0
      have HC6 : Hid (∀ j v, X[j]? = some v → w6.cell? ⟨ga, oa + k * 35 + j, none⟩ = some v) := C6.out w6 hw6
      clear hw6 H5 H5d C4 C5 C6
      go_wp2_with (first
        | (refine wpList_load_mid rfl 50 (.tmp 49) rfl ga (oa + k * 35) rfl X.toList _ (fun j v hv => HC6.out j v (by rwa [Array.getElem?_toList] at hv)) Tryz.underlying50 rfl HIX.out.1 ?_)
        | (refine wpList_stoX rfl 50 (.tmp 4) (.tmp 50) rfl (w.heap.size + 1 + 1) X z35X 50 rfl rfl H6.out.b2 (info_xe HIX.out.2.2) (by rw [HIX.out.2.2]; rfl) HIX.out.2.1 ?_; intro w7 HB7 HG7)
        | fail)
      refine bodyPost_ret (results_cell_tmp_row rfl _ _ (w.heap.size + 1 + 1) 50 X (0, 0) _ rfl HB7.out Tryz.underlying50 rfl (info_xe HIX.out.2.2)) rfl ⟨by rw [HFN.out, ← HXE.out]; rfl, ?_⟩
      exact below_own H6.out.bel H6.out.bel.size HG7.out (by omega)
    · have HFN : Hid (fnd l x = none) := by
        show _ = _
        rw [HFE.out, if_neg hex]
      have hNE2 : ∀ u, (binOp .neq 48 (.agg D) (.agg Y)).run Tryz.prog u = .ok (.bool true) u := fun u => by rw [hNE u]; simp [hex]
      have hbz : ∀ w, (Instr.build 50 #[]).run Tryz.prog w = .ok (.agg z35X) w := fun w => by kernel_rfl
      clear HFE hNE hex
      go_wp2_with fail
      refine region_class10 (FdS w g x f w2.heap.size) (by kernel_rfl) (by kernel_rfl) H5d.out ?_
      try simp only [Act.put, List.setIfInBounds_toArray, List.set_cons_zero, List.set_cons_succ]
      repeat (first
        | go_big_quiet_skip
        | (go_big_quiet_want
           first
             | (refine quiet_one 63 _ rfl w.heap.size 0 (.pointer (some ⟨g, 0, none⟩)) rfl (fun _ => by kernel_rfl) (fun _ h => h.b0) ?_; go_big_quiet_on; simp only [Act.put, List.setIfInBounds_toArray, List.set_cons_zero, List.set_cons_succ])
             | (refine quiet_one 66 _ rfl g 288 (.slice (some ⟨ga, oa, none⟩) n' c') rfl (fun _ => by kernel_rfl) C4.out ?_; go_big_quiet_on; simp only [Act.put, List.setIfInBounds_toArray, List.set_cons_zero, List.set_cons_succ])
             | (refine quiet_row 48 _ rfl (w.heap.size + 1) 0 Y Y 48 _ rfl (fun _ h => by rw [← HYY.out]; exact h.b1) (fun j v hv => by rw [Nat.zero_add]; exact hv) Tryz.underlying48 rfl HI.out.1 ?_; go_big_quiet_on; simp only [Act.put, List.setIfInBounds_toArray, List.set_cons_zero, List.set_cons_succ])
             | (refine quiet_rowc 48 _ rfl ga (oa + k * 35) D _ rfl C5.out Tryz.underlying48 rfl HI1.out ?_; go_big_quiet_on; simp only [Act.put, List.setIfInBounds_toArray, List.set_cons_zero, List.set_cons_succ])
             | (refine quiet_val10 (.pointer (some ⟨g, 0, none⟩)) ?_ ?_; (focus (intro W hW; go_simp; done)); go_big_quiet_on; simp only [Act.put, List.setIfInBounds_toArray, List.set_cons_zero, List.set_cons_succ])
             | (refine quiet_val10 (.pointer (some ⟨g, 288, none⟩)) ?_ ?_; (focus (intro W hW; go_simp; done)); go_big_quiet_on; simp only [Act.put, List.setIfInBounds_toArray, List.set_cons_zero, List.set_cons_succ])
             | (refine quiet_val10 (.pointer (some ⟨ga, oa + k * 35, none⟩)) ?_ ?_; (focus (intro W hW; go_simp; done)); go_big_quiet_on; simp only [Act.put, List.setIfInBounds_toArray, List.set_cons_zero, List.set_cons_succ])
             | (refine quiet_val10 (.bool false) ?_ ?_; (focus (intro W hW; go_simp; done)); go_big_quiet_on; simp only [Act.put, List.setIfInBounds_toArray, List.set_cons_zero, List.set_cons_succ])
             | (refine quiet_val10 (.bool true) ?_ ?_; (focus (intro W hW; go_simp; done)); go_big_quiet_on; simp only [Act.put, List.setIfInBounds_toArray, List.set_cons_zero, List.set_cons_succ])
             | (go_big_quiet_op; go_big_quiet_on)))
      refine wpQuiet_nil ?_
      intro w6 hw6
      have H6 : Hid (FdS w g x f w2.heap.size w6) := hw6
      clear hw6 H5 H5d C4 C5 C6
      go_wp2_with (first
        | (refine wpList_bdX0 rfl 50 rfl (.agg z35X) (hbz _) ?_)
        | (refine wpList_stoX rfl 50 (.tmp 4) (.tmp 43) rfl (w.heap.size + 1 + 1) z35X z35X 50 rfl rfl H6.out.b2 inf_xe35 rfl z35_all ?_; intro w7 HB7 HG7)
        | fail)
      refine bodyPost_ret (results_cell_tmp_row rfl _ _ (w.heap.size + 1 + 1) 50 z35X (0, 0) _ rfl HB7.out Tryz.underlying50 rfl inf_xe35) rfl ⟨by rw [HFN.out]; rfl, ?_⟩
      exact below_own H6.out.bel H6.out.bel.size HG7.out (by omega)
end Go.Proofs.YtbfoiocbmhhdbaaGreat
