import Derived.Test.YtbdkacfpeokggaaGreatDoorY16
import Derived.Test.YtbdkacfpeokggaaGreatDoorY13
import Derived.Test.YtbdkacfpeokggaaGreatDoorY11
import Derived.WalkKit
import Derived.WalkSpells
import Derived.WalkLawsBesides
import Derived.Handy
import Derived.RegionTactic
import Derived.Test.YtbdkacfpeokggaaGreatDoorY12
import Derived.Test.YtbdkacfpeokggaaGreatDoorY15
import Derived.Test.YtbdkacfpeokggaaGreatDoorY7
/- idx.Index.Find: its closure. -/
namespace Go.Proofs.YtbdkacfpeokggaaGreatDoor
open Go.RowKit
set_option linter.unusedSimpArgs false
set_option linter.unusedVariables false
/-- Worlds that have grown out of this one. -/
def Grw (W0 W : World) : Prop := ∃ q os, W = Sort.grow (W0.drewN q) os
theorem Grw.drew (W0 : World) : Grw W0 W0.drew := ⟨1, #[], by rw [Sort.grow_empty]; rfl⟩
theorem Grw.next {W0 W W' : World} (h : Grw W0 W) (h' : Grw W W') : Grw W0 W' := by
  obtain ⟨q, os, rfl⟩ := h
  obtain ⟨q', os', rfl⟩ := h'
  refine ⟨q + q', os ++ os', ?_⟩
  show Sort.grow (Sort.grow ((W0.drewN q).drewN q') os) os' = _
  rw [Sort.grow_grow, World.drewN_drewN]
theorem Grw.below {W0 W : World} (h : Grw W0 W) : Below W0.heap.size W0 W := by
  obtain ⟨q, os, rfl⟩ := h
  exact grow_below _ _ _
theorem ret_bX {a b : Bool} (h : b = a) : Ending.returned (.bool a) = .returned (.bool b) := by rw [h]
set_option maxHeartbeats 4000000 in
set_option maxRecDepth 100000 in
theorem find1_any (bx bf bi g f i : Nat) (s x : ByteArray) (l : List Xe) (e : Xe) (w : World) (hx : w.cell? ⟨bx, 0, none⟩ = some (.pointer (some ⟨g, 0, none⟩))) (hf : w.cell? ⟨bf, 0, none⟩ = some (.int .i64 (f : Int)))
    (hi : Bk w bi (idc x) 23) (hx32 : x.size = 32) (h : IxS w g s l) (hn : l.length ≤ 65536) (he : l[f + i]? = some e) :
    Calls Tryz.prog 70 (#[.int .i64 (i : Int)] ++ #[.pointer (some ⟨bx, 0, none⟩), .pointer (some ⟨bf, 0, none⟩), .pointer (some ⟨bi, 0, none⟩)]) w fun r w' => r = .returned (.bool (!ltN e.id x)) ∧ Grw w w' := by
  obtain ⟨a, n, c, hB, hX, hl, hc, hA⟩ := h.row
  obtain ⟨m, hm⟩ : ∃ m, f + i = m := ⟨_, rfl⟩
  rw [hm] at he
  have hmn : m < n := by rw [← hl]; exact (List.getElem?_eq_some_iff.1 he).1
  have hmz : (m : Int) < (n : Nat) := by omega
  have hm0 : (0 : Int) ≤ m := by omega
  have hadd : (f : Int) + (i : Int) = (m : Int) := by omega
  have hwr : IntKind.i64.wrap (m : Int) = (m : Int) := by rw [IntKind.wrap_i64]; omega
  obtain ⟨ga, oa, rfl, hga, h32, hcells⟩ := hX.get he
  have lx := block_lt_of_cell hx
  have lf := block_lt_of_cell hf
  have C1 : Hid (∀ W, Grw w W → W.cell? ⟨bx, 0, none⟩ = some (.pointer (some ⟨g, 0, none⟩))) := fun W hW => by rw [hW.below.cell lx]; exact hx
  have C2 : Hid (∀ W, Grw w W → W.cell? ⟨bf, 0, none⟩ = some (.int .i64 (f : Int))) := fun W hW => by rw [hW.below.cell lf]; exact hf
  have C3 : Hid (∀ W, Grw w W → Bk W bi (idc x) 23) := fun W hW => hi.below hW.below hi.lt
  have C4 : Hid (∀ W, Grw w W → W.cell? ⟨g, 288, none⟩ = some (.slice (some ⟨ga, oa, none⟩) n c)) := fun W hW => by
    rw [(hB.below hW.below hB.lt).cell]; exact ixC_row s _ _ h.id
  have C5 : Hid (∀ W, Grw w W → ∀ j v, (idc e.id)[j]? = some v → W.cell? ⟨ga, oa + m * 35 + j, none⟩ = some v) := fun W hW j v hv => by
    rw [hW.below.cell hga]; exact hcells j v (by have := xeC_id e h32 j v hv; rwa [Nat.zero_add] at this)
  have C6 : Hid (∀ W, Grw w W → Calls Tryz.prog 71 #[.agg (idc e.id), .agg (idc x)] W fun r w' => r = .returned (.bool (ltN e.id x)) ∧ Grw w w') := fun W hW => (less_grow e.id x W h32 hx32).mono fun r w' ⟨q1, q2⟩ => ⟨q1, hW.next q2⟩
  have HI1 : Hid ((Tryz.prog.info? 23).map (·.size) = some (idc e.id).size ∧ (Tryz.prog.info? 23).map (·.size) = some (idc x).size) := ⟨info_32 (by rw [idc_size, h32]), info_32 (by rw [idc_size, hx32])⟩
  obtain ⟨L, hL⟩ : ∃ L, ltN e.id x = L := ⟨_, rfl⟩
  obtain ⟨D, hD⟩ : ∃ D, idc e.id = D := ⟨_, rfl⟩
  obtain ⟨Y, hY⟩ : ∃ Y, idc x = Y := ⟨_, rfl⟩
  rw [hL, hD, hY] at C6
  rw [hD] at C5
  rw [hY] at C3
  rw [hD, hY] at HI1
  rw [hL]
  clear hx hf hi hx32 h hB hX hl hc hA hcells he h32 hL hD hY
  show Calls Tryz.prog 70 #[.int .i64 (i : Int), .pointer (some ⟨bx, 0, none⟩), .pointer (some ⟨bf, 0, none⟩), .pointer (some ⟨bi, 0, none⟩)] w _
  go_enter Tryz.func70, Tryz.ntmps70
  go_wp2_with fail
  refine region_class10 (Grw w) (by kernel_rfl) (by kernel_rfl) (Grw.drew w) ?_
  try simp only [Act.put, List.setIfInBounds_toArray, List.set_cons_zero, List.set_cons_succ]
  repeat (first
    | go_big_quiet_skip
    | (go_big_quiet_want
       first
         | (refine quiet_one 41 _ rfl bx 0 (.pointer (some ⟨g, 0, none⟩)) rfl (fun _ => by kernel_rfl) C1.out ?_; go_big_quiet_on; simp only [Act.put, List.setIfInBounds_toArray, List.set_cons_zero, List.set_cons_succ])
         | (refine quiet_one 3 _ rfl bf 0 (.int .i64 (f : Int)) rfl (fun _ => by kernel_rfl) C2.out ?_; go_big_quiet_on; simp only [Act.put, List.setIfInBounds_toArray, List.set_cons_zero, List.set_cons_succ])
         | (refine quiet_one 25 _ rfl g 288 (.slice (some ⟨ga, oa, none⟩) n c) rfl (fun _ => by kernel_rfl) C4.out ?_; go_big_quiet_on; simp only [Act.put, List.setIfInBounds_toArray, List.set_cons_zero, List.set_cons_succ])
         | (refine quiet_row 23 _ rfl bi 0 Y Y 23 _ rfl C3.out (fun j v hv => by rw [Nat.zero_add]; exact hv) Tryz.underlying23 rfl HI1.out.2 ?_; go_big_quiet_on; simp only [Act.put, List.setIfInBounds_toArray, List.set_cons_zero, List.set_cons_succ])
         | (refine quiet_rowc 23 _ rfl ga (oa + m * 35) D _ rfl C5.out Tryz.underlying23 rfl HI1.out.1 ?_; go_big_quiet_on; simp only [Act.put, List.setIfInBounds_toArray, List.set_cons_zero, List.set_cons_succ])
         | (refine quiet_call10 (.bool L) 71 #[.agg D, .agg Y] ?_ ?_ ?_; (focus (intro W hW; go_simp; done)); (focus (intro W hW; exact C6.out W hW)); go_big_quiet_on; simp only [Act.put, List.setIfInBounds_toArray, List.set_cons_zero, List.set_cons_succ])
         | (refine quiet_val10 (.pointer (some ⟨g, 0, none⟩)) ?_ ?_; (focus (intro W hW; go_simp; done)); go_big_quiet_on; simp only [Act.put, List.setIfInBounds_toArray, List.set_cons_zero, List.set_cons_succ])
         | (refine quiet_val10 (.pointer (some ⟨g, 288, none⟩)) ?_ ?_; (focus (intro W hW; go_simp; done)); go_big_quiet_on; simp only [Act.put, List.setIfInBounds_toArray, List.set_cons_zero, List.set_cons_succ])
         | (refine quiet_val10 (.int .i64 (m : Int)) ?_ ?_; (focus (intro W hW; go_simp; done)); go_big_quiet_on; simp only [Act.put, List.setIfInBounds_toArray, List.set_cons_zero, List.set_cons_succ])
         | (refine quiet_val10 (.pointer (some ⟨ga, oa + m * 35, none⟩)) ?_ ?_; (focus (intro W hW; go_simp; done)); go_big_quiet_on; simp only [Act.put, List.setIfInBounds_toArray, List.set_cons_zero, List.set_cons_succ])
         | (refine quiet_val10 (.bool !L) ?_ ?_; (focus (intro W hW; go_simp; done)); go_big_quiet_on; simp only [Act.put, List.setIfInBounds_toArray, List.set_cons_zero, List.set_cons_succ])
         | (go_big_quiet_op; go_big_quiet_on)))
  refine wpQuiet_nil ?_
  intro w9 hw9
  have H9 : Hid (Grw w w9) := hw9
  clear hw9
  go_wp2
  go_ret
  exact ⟨rfl, H9.out⟩
end Go.Proofs.YtbdkacfpeokggaaGreatDoor
/- idx.Index.Find. -/
namespace Go.Proofs.YtbdkacfpeokggaaGreatDoor
open Go.RowKit
set_option linter.unusedSimpArgs false
set_option linter.unusedVariables false
/-- What Find answers. -/
def fdV : Option Xe → Value
  | none => .tuple #[.agg z35X, .int .i64 6]
  | some e => .tuple #[.agg (xeC e), .int .i64 0]
theorem z35_all : z35X.all (·.oneCell') = true := by
  rw [Array.all_eq_true_iff_forall_mem]
  intro v hv
  simp [z35X] at hv
  rcases hv with rfl | rfl <;> rfl
theorem blw_drewNx {B : Nat} {w w' : World} (h : Below B w w') : ∀ n, Below B w (w'.drewN n)
  | 0 => h
  | n + 1 => (blw_drewNx h n).drew
structure FdS (w : World) (g : Nat) (x : ByteArray) (f bf : Nat) (W : World) : Prop where
  b0 : W.cell? ⟨w.heap.size, 0, none⟩ = some (.pointer (some ⟨g, 0, none⟩))
  b1 : Bk W (w.heap.size + 1) (idc x) 23
  b2 : Bk W (w.heap.size + 1 + 1) z35X 34
  b3 : W.cell? ⟨bf, 0, none⟩ = some (.int .i64 (f : Int))
  bel : Below w.heap.size w W
theorem FdS.next {w W W' : World} {g f bf : Nat} {x : ByteArray} (h : FdS w g x f bf W) (hb : Below W.heap.size W W') : FdS w g x f bf W' :=
  ⟨by rw [hb.cell (block_lt_of_cell h.b0)]; exact h.b0, h.b1.below hb h.b1.lt, h.b2.below hb h.b2.lt, by rw [hb.cell (block_lt_of_cell h.b3)]; exact h.b3, h.bel.trans (hb.mono h.bel.size)⟩
theorem cell_alloc_x {W : World} {p : Addr} {v : Value} (o : Obj) (h : W.cell? p = some v) : (W.alloc o).cell? p = some v := by
  have hb : Below W.heap.size W (W.alloc o) := (Below.refl _ _).alloc (Nat.le_refl _) _
  rw [hb.cell (block_lt_of_cell h)]; exact h
theorem cell_new_x (W : World) (v : Value) (t : TypeId) : (W.alloc (.cells #[v] t)).cell? ⟨W.heap.size, 0, none⟩ = some v := by
  rw [(bk_new W #[v] t).cell]; rfl
theorem idc_first (x : ByteArray) (h : x.size = 32) : (idc x)[0]? = some (.int .u8 (f8 x : Int)) := by
  have := fst8_cell ⟨x, 0, 0, 0⟩ h
  rw [fst8_f8] at this
  refine Eq.trans ?_ this
  have h2 := xeC_id ⟨x, 0, 0, 0⟩ h 0
  cases hq : (idc x)[0]? with
  | none => rw [Array.getElem?_eq_none_iff, idc_size, h] at hq; omega
  | some v => rw [h2 v hq]
set_option maxHeartbeats 8000000 in
set_option maxRecDepth 100000 in
theorem find_any (g : Nat) (s x : ByteArray) (l : List Xe) (w : World) (h : IxS w g s l) (hr : Rise l) (hx : x.size = 32) (hn : l.length ≤ 65536) :
    Calls Tryz.prog 27 #[.pointer (some ⟨g, 0, none⟩), .agg (idc x)] w fun r w' => r = .returned (fdV (fnd l x)) ∧ Below w.heap.size w w' := by
  obtain ⟨a, n, c, hB, hX, hl, hc, hA⟩ := h.row
  have hgl := hB.lt
  have HIS : Hid (IxS w g s l) := h
  have HRI : Hid (Rise l) := hr
  obtain ⟨f, hf⟩ : ∃ f, fanB l (f8 x) = f := ⟨_, rfl⟩
  obtain ⟨t, ht⟩ : ∃ t, fanL l (f8 x) = t := ⟨_, rfl⟩
  obtain ⟨k, hk⟩ : ∃ k, cntN l x = k := ⟨_, rfl⟩
  have hfk : f ≤ k := by rw [← hf, ← hk]; exact cntN_ge l x
  have hkt : k ≤ t := by rw [← ht, ← hk]; exact cntN_le l x
  have htn : t ≤ n := by rw [← ht, ← hl]; exact fanL_le l _
  have hn6 : n ≤ 65536 := by rw [← hl]; exact hn
  obtain ⟨N, hN⟩ : ∃ N, t - f = N := ⟨_, rfl⟩
  have HRG : Hid (∀ W, IxS W g s l → Calls Tryz.prog 59 #[.pointer (some ⟨g, 0, none⟩), .int .u8 (f8 x : Int)] W fun e w' => e = .returned (.tuple #[.int .i64 (f : Int), .int .i64 (t : Int)]) ∧ Below W.heap.size W w') := fun W hW => by
    have := irange_any g s l (f8 x) (f8_lt x) W hW
    rw [hf, ht] at this
    exact this.mono fun e w' ⟨q1, q, q2⟩ => ⟨q1, by rw [q2]; exact blw_drewNx (Below.refl _ _) q⟩
  have HSR : Hid (∀ bf W, FdS w g x f bf W → Calls Tryz.prog 72 #[.int .i64 (N : Int), .func (.func 70) #[] #[.pointer (some ⟨w.heap.size, 0, none⟩), .pointer (some ⟨bf, 0, none⟩), .pointer (some ⟨w.heap.size + 1, 0, none⟩)]] W fun e w' => e = .returned (.int .i64 ((k - f : Nat) : Int)) ∧ FdS w g x f bf w') := fun bf W hW => by
    have hget : ∀ i, i < N → ∃ e, l[f + i]? = some e := fun i hi => ⟨_, List.getElem?_eq_getElem (by omega)⟩
    let p : Nat → Bool := fun i => match l[f + i]? with | some e => !ltN e.id x | none => true
    have hp : ∀ i e, l[f + i]? = some e → p i = !ltN e.id x := fun i e he => by simp only [p, he]
    have q := Any.sort_Search (P := Tryz.prog) laysO16 70 #[.pointer (some ⟨w.heap.size, 0, none⟩), .pointer (some ⟨bf, 0, none⟩), .pointer (some ⟨w.heap.size + 1, 0, none⟩)] N p W (fun _ _ => by kernel_rfl) (by omega) (fun m os i hi => ?_) (fun a b hab hb ha => ?_)
    · refine q.mono fun e w' ⟨q1, q2⟩ => ⟨?_, hW.next (Grw.below q2)⟩
      rw [q1]
      have := half_cnt hr x (fun i => !p i) (fun i e he => by
        rw [hf] at he
        show (!p i) = _
        rw [hp i e he, Bool.not_not])
      rw [hf, ht, hk, hN] at this
      have e2 : (List.range N).countP (fun i => !p i) = k - f := by omega
      rw [e2]
    · obtain ⟨e, he⟩ := hget i hi
      have hG : Grw W (Sort.grow (W.drewN m) os) := ⟨m, os, rfl⟩
      have hW2 := hW.next hG.below
      rw [hp i e he]
      exact (find1_any w.heap.size bf (w.heap.size + 1) g f i s x l e _ hW2.b0 hW2.b3 hW2.b1 hx (HIS.out.below hW2.bel) hn he)
    · obtain ⟨d, hd⟩ := hget a (by omega)
      obtain ⟨e, he⟩ := hget b (by omega)
      rw [hp a d hd] at ha
      rw [hp b e he]
      have h1 : ¬ f + a < cntN l x := fun q => by rw [(hr.cnt hd x).2 q] at ha; cases ha
      have h2 : ltN e.id x = false := by
        rw [Bool.eq_false_iff]
        intro q
        have := (hr.cnt he x).1 q
        omega
      rw [h2]; rfl
  have HI : Hid ((Tryz.prog.info? 23).map (·.size) = some (idc x).size ∧ (idc x).all (·.oneCell') = true ∧ (idc x).size = 32) := ⟨info_32 (by rw [idc_size, hx]), idc_allX x, by rw [idc_size, hx]⟩
  have hz : ∀ w, (zeroValue 34).run Tryz.prog w = .ok (.agg z35X) w := Tryz.zeroValue34
  have hmf : ∀ (fn : Fn) (first cap : Array Value) (w : World), (Instr.makeFunc fn first cap).run Tryz.prog w = .ok (.func fn first cap) w := fun _ _ _ _ => rfl
  have HF0 : Hid (fnd l x = if k = t then none else match l[k]? with | some e => if e.id = x then some e else none | none => none) := by
    show fnd l x = _
    by_cases q : k = t
    · rw [if_pos q]; exact fnd_end hr x (by rw [hk, ht, q])
    · rw [if_neg q]
      obtain ⟨e, he⟩ : ∃ e, l[k]? = some e := ⟨_, List.getElem?_eq_getElem (by omega)⟩
      simp only [he]
      by_cases q2 : e.id = x
      · rw [if_pos q2]; exact fnd_at hr x (by rw [hk]; exact he) q2
      · rw [if_neg q2]; exact fnd_ne hr x (by rw [hk]; exact he) q2
  -- the worlds
  have hcA : (((w.alloc (.cells #[.pointer (some ⟨g, 0, none⟩)] 41)).alloc (.cells (idc x) 23)).alloc (.cells z35X 34)).cell? ⟨w.heap.size, 0, none⟩ = some (.pointer (some ⟨g, 0, none⟩)) := cell_alloc_x _ (cell_alloc_x _ (cell_new_x _ _ _))
  have hbA : Bk (((w.alloc (.cells #[.pointer (some ⟨g, 0, none⟩)] 41)).alloc (.cells (idc x) 23)).alloc (.cells z35X 34)) (w.heap.size + 1) (idc x) 23 := by
    have := (bk_new (w.alloc (.cells #[.pointer (some ⟨g, 0, none⟩)] 41)) (idc x) 23).alloc (.cells z35X 34)
    rw [al_size] at this
    exact this
  have hbB : Bk (((w.alloc (.cells #[.pointer (some ⟨g, 0, none⟩)] 41)).alloc (.cells (idc x) 23)).alloc (.cells z35X 34)) (w.heap.size + 1 + 1) z35X 34 := by
    have := bk_new ((w.alloc (.cells #[.pointer (some ⟨g, 0, none⟩)] 41)).alloc (.cells (idc x) 23)) z35X 34
    rw [al_size, al_size] at this
    exact this
  have hcB : (((w.alloc (.cells #[.pointer (some ⟨g, 0, none⟩)] 41)).alloc (.cells (idc x) 23)).alloc (.cells z35X 34)).cell? ⟨w.heap.size + 1, 0, none⟩ = some (.int .u8 (f8 x : Int)) := by
    rw [hbA.cell]; exact idc_first x hx
  have hbl : Below w.heap.size w (((w.alloc (.cells #[.pointer (some ⟨g, 0, none⟩)] 41)).alloc (.cells (idc x) 23)).alloc (.cells z35X 34)) := (((Below.refl _ _).alloc (Nat.le_refl _) _).alloc (by rw [al_size]; omega) _).alloc (by rw [al_size, al_size]; omega) _
  have HA : Hid (Bk (((w.alloc (.cells #[.pointer (some ⟨g, 0, none⟩)] 41)).alloc (.cells (idc x) 23)).alloc (.cells z35X 34)) (w.heap.size + 1) (idc x) 23 ∧ Bk (((w.alloc (.cells #[.pointer (some ⟨g, 0, none⟩)] 41)).alloc (.cells (idc x) 23)).alloc (.cells z35X 34)) (w.heap.size + 1 + 1) z35X 34 ∧ Below w.heap.size w (((w.alloc (.cells #[.pointer (some ⟨g, 0, none⟩)] 41)).alloc (.cells (idc x) 23)).alloc (.cells z35X 34))) := ⟨hbA, hbB, hbl⟩
  have HX32 : Hid (x.size = 32 ∧ l.length = n) := ⟨hx, hl⟩
  clear h hr hB hX hl hc hA hbA hbB hbl hf ht hk hx
  go_enter Tryz.func27, Tryz.ntmps27
  go_wp2_with fail
  refine (HRG.out _ (HIS.out.below HA.out.2.2)).mono ?_
  rintro e w2 ⟨rfl, hb2⟩
  have P2 : Hid (w2.cell? ⟨w.heap.size, 0, none⟩ = some (.pointer (some ⟨g, 0, none⟩)) ∧ Bk w2 (w.heap.size + 1) (idc x) 23 ∧ Bk w2 (w.heap.size + 1 + 1) z35X 34 ∧ Below w.heap.size w w2) := ⟨by rw [hb2.cell (block_lt_of_cell hcA)]; exact hcA, HA.out.1.below hb2 HA.out.1.lt, HA.out.2.1.below hb2 HA.out.2.1.lt, HA.out.2.2.trans (hb2.mono HA.out.2.2.size)⟩
  clear hcA hcB HA HRG hb2
  have F5 : Hid (FdS w g x f w2.heap.size (w2.alloc (.cells #[.int .i64 (f : Int)] 3)).drew) := by
    have q2 : Below w2.heap.size w2 (w2.alloc (.cells #[.int .i64 (f : Int)] 3)) := (Below.refl _ _).alloc (Nat.le_refl _) _
    have q3 := q2.drew
    exact ⟨by rw [q3.cell (block_lt_of_cell P2.out.1)]; exact P2.out.1, P2.out.2.1.below q3 P2.out.2.1.lt, P2.out.2.2.1.below q3 P2.out.2.2.1.lt, cell_new_x w2 _ _, P2.out.2.2.2.trans (q3.mono P2.out.2.2.2.size)⟩
  have HS5 : Hid _ := HSR.out w2.heap.size
  obtain ⟨M, hM⟩ : ∃ M, k - f = M := ⟨_, rfl⟩
  rw [hM] at HS5
  have hNz : (t : Int) - (f : Int) = (N : Int) := by omega
  have hMz : (f : Int) + (M : Int) = (k : Int) := by omega
  have hw1 : IntKind.i64.wrap (N : Int) = (N : Int) := by rw [IntKind.wrap_i64]; omega
  have hw2 : IntKind.i64.wrap (k : Int) = (k : Int) := by rw [IntKind.wrap_i64]; omega
  clear hN hM HSR P2
  go_wp2_with fail
  refine region_class10 (FdS w g x f w2.heap.size) (by kernel_rfl) (by kernel_rfl) F5.out ?_
  try simp only [Act.put, List.setIfInBounds_toArray, List.set_cons_zero, List.set_cons_succ]
  repeat (first
    | go_big_quiet_skip
    | (go_big_quiet_want
       first
         | (refine quiet_one 3 _ rfl w2.heap.size 0 (.int .i64 (f : Int)) rfl (fun _ => by kernel_rfl) (fun _ h => h.b3) ?_; go_big_quiet_on; simp only [Act.put, List.setIfInBounds_toArray, List.set_cons_zero, List.set_cons_succ])
         | (refine quiet_val10 (.int .i64 (N : Int)) ?_ ?_; (focus (intro W hW; go_simp; done)); go_big_quiet_on; simp only [Act.put, List.setIfInBounds_toArray, List.set_cons_zero, List.set_cons_succ])
         | (refine quiet_call10 (.int .i64 (M : Int)) 72 #[.int .i64 (N : Int), .func (.func 70) #[] #[.pointer (some ⟨w.heap.size, 0, none⟩), .pointer (some ⟨w2.heap.size, 0, none⟩), .pointer (some ⟨w.heap.size + 1, 0, none⟩)]] ?_ ?_ ?_; (focus (intro W hW; go_simp; done)); (focus (intro W hW; exact HS5.out W hW)); go_big_quiet_on; simp only [Act.put, List.setIfInBounds_toArray, List.set_cons_zero, List.set_cons_succ])
         | (refine quiet_val10 (.int .i64 (k : Int)) ?_ ?_; (focus (intro W hW; go_simp; done)); go_big_quiet_on; simp only [Act.put, List.setIfInBounds_toArray, List.set_cons_zero, List.set_cons_succ])
         | (go_big_quiet_op; go_big_quiet_on)))
  refine wpQuiet_nil ?_
  intro w5 hw5
  have H5 : Hid (FdS w g x f w2.heap.size w5) := hw5
  have H5d : Hid (FdS w g x f w2.heap.size w5.drew) := hw5.next ((Below.refl _ _).drew)
  clear hw5 F5 HS5 hNz hMz
  by_cases hkt2 : k = t
  · have HFN : Hid (fnd l x = none) := by
      show _ = _
      rw [HF0.out, if_pos hkt2]
    subst hkt2
    have hzz := Tryz.zeroValue34
    have hbz : ∀ w, (Instr.build 34 #[]).run Tryz.prog w = .ok (.agg z35X) w := fun w => by kernel_rfl
    clear HF0
    go_wp2_with fail
    refine region_class10 (FdS w g x f w2.heap.size) (by kernel_rfl) (by kernel_rfl) H5d.out ?_
    try simp only [Act.put, List.setIfInBounds_toArray, List.set_cons_zero, List.set_cons_succ]
    repeat (first
      | go_big_quiet_skip
      | (go_big_quiet_want
         first
           | (refine quiet_val10 (.bool true) ?_ ?_; (focus (intro W hW; go_simp; done)); go_big_quiet_on; simp only [Act.put, List.setIfInBounds_toArray, List.set_cons_zero, List.set_cons_succ])
           | (go_big_quiet_op; go_big_quiet_on)))
    refine wpQuiet_nil ?_
    intro w6 hw6
    have H6 : Hid (FdS w g x f w2.heap.size w6) := hw6
    clear hw6 H5 H5d
    go_wp2_with (first
      | (refine wpList_bdX0 rfl 34 rfl (.agg z35X) (hbz _) ?_)
      | (refine wpList_stoX rfl 34 (.tmp 4) (.tmp 43) rfl (w.heap.size + 1 + 1) z35X z35X 34 rfl rfl H6.out.b2 inf_xe35 rfl z35_all ?_; intro w7 HB7 HG7)
      | fail)
    refine bodyPost_ret (results_cell_tmp_row rfl _ _ (w.heap.size + 1 + 1) 34 z35X (0, 0) _ rfl HB7.out Tryz.underlying34 rfl inf_xe35) rfl ⟨by rw [HFN.out]; rfl, ?_⟩
    exact below_own H6.out.bel H6.out.bel.size HG7.out (by omega)
  · obtain ⟨e, he⟩ : ∃ e, l[k]? = some e := ⟨_, List.getElem?_eq_getElem (by rw [HX32.out.2]; omega)⟩
    obtain ⟨a', n', c', hB', hX', hl', hc', hA'⟩ := HIS.out.row
    obtain rfl : n' = n := by rw [← hl', HX32.out.2]
    obtain ⟨ga, oa, rfl, hga, h32, hcells⟩ := hX'.get he
    have hkn : k < n' := by omega
    have hkz : (k : Int) < (n' : Nat) := by omega
    have hk0 : (0 : Int) ≤ k := by omega
    have hneb : ((k : Int) == (t : Int)) = false := by rw [beq_eq_false_iff_ne]; omega
    have C4 : Hid (∀ W, FdS w g x f w2.heap.size W → W.cell? ⟨g, 288, none⟩ = some (.slice (some ⟨ga, oa, none⟩) n' c')) := fun W hW => by
      rw [(hB'.below hW.bel hB'.lt).cell]; exact ixC_row s _ _ HIS.out.id
    have C5 : Hid (∀ W, FdS w g x f w2.heap.size W → ∀ j v, (idc e.id)[j]? = some v → W.cell? ⟨ga, oa + k * 35 + j, none⟩ = some v) := fun W hW j v hv => by
      rw [hW.bel.cell hga]; exact hcells j v (by have := xeC_id e h32 j v hv; rwa [Nat.zero_add] at this)
    have C6 : Hid (∀ W, FdS w g x f w2.heap.size W → ∀ j v, (xeC e)[j]? = some v → W.cell? ⟨ga, oa + k * 35 + j, none⟩ = some v) := fun W hW j v hv => by
      rw [hW.bel.cell hga]; exact hcells j v hv
    have hNE := neq_ids e.id x h32 HX32.out.1
    have HI1 : Hid ((Tryz.prog.info? 23).map (·.size) = some (idc e.id).size) := info_32 (by rw [idc_size, h32])
    obtain ⟨D, hD⟩ : ∃ D, idc e.id = D := ⟨_, rfl⟩
    obtain ⟨Y, hY⟩ : ∃ Y, idc x = Y := ⟨_, rfl⟩
    have HYY : Hid (idc x = Y) := hY
    obtain ⟨X, hXe⟩ : ∃ X, xeC e = X := ⟨_, rfl⟩
    have HXE : Hid (xeC e = X) := hXe
    have HIX : Hid ((Tryz.prog.info? 34).map (·.size) = some X.toList.length ∧ X.all (·.oneCell') = true ∧ X.size = 35) := by rw [← hXe]; exact ⟨by rw [inf_xe35, Array.length_toList, xeC_size e h32], xeC_all e, xeC_size e h32⟩
    rw [hD] at C5 HI1
    rw [hXe] at C6
    rw [hY] at HI
    rw [hD, hY] at hNE
    have HFE : Hid (fnd l x = if e.id = x then some e else none) := by
      show _ = _
      rw [HF0.out, if_neg hkt2]
      simp only [he]
    clear HF0 hB' hX' hl' hc' hA' hcells he h32 hD hY hXe
    by_cases hex : e.id = x
    · have HFN : Hid (fnd l x = some e) := by
        show _ = _
        rw [HFE.out, if_pos hex]
      have hNE2 : ∀ u, (binOp .neq 23 (.agg D) (.agg Y)).run Tryz.prog u = .ok (.bool false) u := fun u => by rw [hNE u]; simp [hex]
      clear HFE hNE hex
      go_wp2_with fail
      refine region_class10 (FdS w g x f w2.heap.size) (by kernel_rfl) (by kernel_rfl) H5d.out ?_
      try simp only [Act.put, List.setIfInBounds_toArray, List.set_cons_zero, List.set_cons_succ]
      repeat (first
        | go_big_quiet_skip
        | (go_big_quiet_want
           first
             | (refine quiet_one 41 _ rfl w.heap.size 0 (.pointer (some ⟨g, 0, none⟩)) rfl (fun _ => by kernel_rfl) (fun _ h => h.b0) ?_; go_big_quiet_on; simp only [Act.put, List.setIfInBounds_toArray, List.set_cons_zero, List.set_cons_succ])
             | (refine quiet_one 25 _ rfl g 288 (.slice (some ⟨ga, oa, none⟩) n' c') rfl (fun _ => by kernel_rfl) C4.out ?_; go_big_quiet_on; simp only [Act.put, List.setIfInBounds_toArray, List.set_cons_zero, List.set_cons_succ])
             | (refine quiet_row 23 _ rfl (w.heap.size + 1) 0 Y Y 23 _ rfl (fun _ h => by rw [← HYY.out]; exact h.b1) (fun j v hv => by rw [Nat.zero_add]; exact hv) Tryz.underlying23 rfl HI.out.1 ?_; go_big_quiet_on; simp only [Act.put, List.setIfInBounds_toArray, List.set_cons_zero, List.set_cons_succ])
             | (refine quiet_rowc 23 _ rfl ga (oa + k * 35) D _ rfl C5.out Tryz.underlying23 rfl HI1.out ?_; go_big_quiet_on; simp only [Act.put, List.setIfInBounds_toArray, List.set_cons_zero, List.set_cons_succ])
             | (refine quiet_val10 (.pointer (some ⟨g, 0, none⟩)) ?_ ?_; (focus (intro W hW; go_simp; done)); go_big_quiet_on; simp only [Act.put, List.setIfInBounds_toArray, List.set_cons_zero, List.set_cons_succ])
             | (refine quiet_val10 (.pointer (some ⟨g, 288, none⟩)) ?_ ?_; (focus (intro W hW; go_simp; done)); go_big_quiet_on; simp only [Act.put, List.setIfInBounds_toArray, List.set_cons_zero, List.set_cons_succ])
             | (refine quiet_val10 (.pointer (some ⟨ga, oa + k * 35, none⟩)) ?_ ?_; (focus (intro W hW; go_simp; done)); go_big_quiet_on; simp only [Act.put, List.setIfInBounds_toArray, List.set_cons_zero, List.set_cons_succ])
             | (refine quiet_val10 (.bool false) ?_ ?_; (focus (intro W hW; go_simp; done)); go_big_quiet_on; simp only [Act.put, List.setIfInBounds_toArray, List.set_cons_zero, List.set_cons_succ])
             | (refine quiet_val10 (.bool true) ?_ ?_; (focus (intro W hW; go_simp; done)); go_big_quiet_on; simp only [Act.put, List.setIfInBounds_toArray, List.set_cons_zero, List.set_cons_succ])
             | (go_big_quiet_op; go_big_quiet_on)))
      refine wpQuiet_nil ?_
      intro w6 hw6
      have H6 : Hid (FdS w g x f w2.heap.size w6) := hw6
      have hc4 := C4.out w6 hw6
      have hc0 := hw6.b0
      have HC6 : Hid (∀ j v, X[j]? = some v → w6.cell? ⟨ga, oa + k * 35 + j, none⟩ = some v) := C6.out w6 hw6
      clear hw6 H5 H5d C4 C5 C6
      go_wp2_with (first
        | (refine wpList_load_mid rfl 34 (.tmp 49) rfl ga (oa + k * 35) rfl X.toList _ (fun j v hv => HC6.out j v (by rwa [Array.getElem?_toList] at hv)) Tryz.underlying34 rfl HIX.out.1 ?_)
        | (refine wpList_stoX rfl 34 (.tmp 4) (.tmp 50) rfl (w.heap.size + 1 + 1) X z35X 34 rfl rfl H6.out.b2 (info_xe HIX.out.2.2) (by rw [HIX.out.2.2]; rfl) HIX.out.2.1 ?_; intro w7 HB7 HG7)
        | fail)
      refine bodyPost_ret (results_cell_tmp_row rfl _ _ (w.heap.size + 1 + 1) 34 X (0, 0) _ rfl HB7.out Tryz.underlying34 rfl (info_xe HIX.out.2.2)) rfl ⟨by rw [HFN.out, ← HXE.out]; rfl, ?_⟩
      exact below_own H6.out.bel H6.out.bel.size HG7.out (by omega)
    · have HFN : Hid (fnd l x = none) := by
        show _ = _
        rw [HFE.out, if_neg hex]
      have hNE2 : ∀ u, (binOp .neq 23 (.agg D) (.agg Y)).run Tryz.prog u = .ok (.bool true) u := fun u => by rw [hNE u]; simp [hex]
      have hbz : ∀ w, (Instr.build 34 #[]).run Tryz.prog w = .ok (.agg z35X) w := fun w => by kernel_rfl
      clear HFE hNE hex
      go_wp2_with fail
      refine region_class10 (FdS w g x f w2.heap.size) (by kernel_rfl) (by kernel_rfl) H5d.out ?_
      try simp only [Act.put, List.setIfInBounds_toArray, List.set_cons_zero, List.set_cons_succ]
      repeat (first
        | go_big_quiet_skip
        | (go_big_quiet_want
           first
             | (refine quiet_one 41 _ rfl w.heap.size 0 (.pointer (some ⟨g, 0, none⟩)) rfl (fun _ => by kernel_rfl) (fun _ h => h.b0) ?_; go_big_quiet_on; simp only [Act.put, List.setIfInBounds_toArray, List.set_cons_zero, List.set_cons_succ])
             | (refine quiet_one 25 _ rfl g 288 (.slice (some ⟨ga, oa, none⟩) n' c') rfl (fun _ => by kernel_rfl) C4.out ?_; go_big_quiet_on; simp only [Act.put, List.setIfInBounds_toArray, List.set_cons_zero, List.set_cons_succ])
             | (refine quiet_row 23 _ rfl (w.heap.size + 1) 0 Y Y 23 _ rfl (fun _ h => by rw [← HYY.out]; exact h.b1) (fun j v hv => by rw [Nat.zero_add]; exact hv) Tryz.underlying23 rfl HI.out.1 ?_; go_big_quiet_on; simp only [Act.put, List.setIfInBounds_toArray, List.set_cons_zero, List.set_cons_succ])
             | (refine quiet_rowc 23 _ rfl ga (oa + k * 35) D _ rfl C5.out Tryz.underlying23 rfl HI1.out ?_; go_big_quiet_on; simp only [Act.put, List.setIfInBounds_toArray, List.set_cons_zero, List.set_cons_succ])
             | (refine quiet_val10 (.pointer (some ⟨g, 0, none⟩)) ?_ ?_; (focus (intro W hW; go_simp; done)); go_big_quiet_on; simp only [Act.put, List.setIfInBounds_toArray, List.set_cons_zero, List.set_cons_succ])
             | (refine quiet_val10 (.pointer (some ⟨g, 288, none⟩)) ?_ ?_; (focus (intro W hW; go_simp; done)); go_big_quiet_on; simp only [Act.put, List.setIfInBounds_toArray, List.set_cons_zero, List.set_cons_succ])
             | (refine quiet_val10 (.pointer (some ⟨ga, oa + k * 35, none⟩)) ?_ ?_; (focus (intro W hW; go_simp; done)); go_big_quiet_on; simp only [Act.put, List.setIfInBounds_toArray, List.set_cons_zero, List.set_cons_succ])
             | (refine quiet_val10 (.bool false) ?_ ?_; (focus (intro W hW; go_simp; done)); go_big_quiet_on; simp only [Act.put, List.setIfInBounds_toArray, List.set_cons_zero, List.set_cons_succ])
             | (refine quiet_val10 (.bool true) ?_ ?_; (focus (intro W hW; go_simp; done)); go_big_quiet_on; simp only [Act.put, List.setIfInBounds_toArray, List.set_cons_zero, List.set_cons_succ])
             | (go_big_quiet_op; go_big_quiet_on)))
      refine wpQuiet_nil ?_
      intro w6 hw6
      have H6 : Hid (FdS w g x f w2.heap.size w6) := hw6
      clear hw6 H5 H5d C4 C5 C6
      go_wp2_with (first
        | (refine wpList_bdX0 rfl 34 rfl (.agg z35X) (hbz _) ?_)
        | (refine wpList_stoX rfl 34 (.tmp 4) (.tmp 43) rfl (w.heap.size + 1 + 1) z35X z35X 34 rfl rfl H6.out.b2 inf_xe35 rfl z35_all ?_; intro w7 HB7 HG7)
        | fail)
      refine bodyPost_ret (results_cell_tmp_row rfl _ _ (w.heap.size + 1 + 1) 34 z35X (0, 0) _ rfl HB7.out Tryz.underlying34 rfl inf_xe35) rfl ⟨by rw [HFN.out]; rfl, ?_⟩
      exact below_own H6.out.bel H6.out.bel.size HG7.out (by omega)
end Go.Proofs.YtbdkacfpeokggaaGreatDoor
/- A drawn append whose run is known. -/
namespace Go.Proofs.YtbdkacfpeokggaaGreatDoor
open Go.RowKit
set_option linter.unusedSimpArgs false
set_option linter.unusedVariables false
theorem step_app_run {P : Program} {ops : Array Oper} {o : Oper} {a : Act} {w : World} {K : Act → World → Prop} {Q : Exit → Act → World → Prop} {E : Prop} (hgd : o.guard = none) (s x : Operand) (t u : TypeId)
    (ho : o.op = .call { callee := .builtin .append, args := #[s, x], argTypes := #[t, u] }) (v y v' : Value) (w' : World) (hs : a.eval s = v) (hx : a.eval x = y) (hr : (Builtin.append_ #[t, u] o.type #[v, y]).run P w = .ok v' w') (h : K (a.put o.dst v') w') :
    if Region.wanted o (yielded ops a.tmps) = true then Oper.wp P o a w K Q else E := by
  have hw : Region.wanted o (yielded ops a.tmps) = true := by simp [Region.wanted, hgd]
  rw [if_pos hw]
  unfold Oper.wp execOp
  simp only [ho, resolve, invoke, builtin, Sem.run_bind, Sem.run_pure, Result.andThen_ok, List.map_toArray, List.map_cons, List.map_nil, hs, hx, hr]
  exact h
end Go.Proofs.YtbdkacfpeokggaaGreatDoor
/- The law's own: an entry, a list of entries with a mark behind it. -/
namespace Go.Proofs.YtbdkacfpeokggaaGreatDoor
open Go.RowKit
set_option linter.unusedSimpArgs false
set_option linter.unusedVariables false
set_option maxHeartbeats 4000000 in
set_option maxRecDepth 100000 in
theorem own13 (e : Xe) (w : World) (h : e.id.size = 32) : Calls Tryz.prog 30 #[.agg (xeC e)] w fun r w' => r = .returned (.agg (xeC e)) ∧ Below w.heap.size w w' := by
  obtain ⟨X, hX⟩ : ∃ X, xeC e = X := ⟨_, rfl⟩
  obtain ⟨D, hD⟩ : ∃ D, idc e.id = D := ⟨_, rfl⟩
  obtain ⟨k1, k2, k3⟩ := xeC_at e h
  have HBD := build_xe e h
  rw [hD, hX] at HBD
  rw [hX] at k1 k2 k3 ⊢
  have HIX : Hid ((Tryz.prog.info? 34).map (·.size) = some X.size ∧ X.all (·.oneCell') = true ∧ X.size = 35) := by rw [← hX]; exact ⟨info_xe (xeC_size e h), xeC_all e, xeC_size e h⟩
  have HXI : Hid (∀ j v, D[j]? = some v → X[0 + j]? = some v) := fun j v hv => by rw [← hX]; exact xeC_id e h j v (by rw [hD]; exact hv)
  have HID : Hid ((Tryz.prog.info? 23).map (·.size) = some D.size) := info_32 (by rw [← hD, idc_size, h])
  have hz : ∀ w, (zeroValue 34).run Tryz.prog w = .ok (.agg z35X) w := Tryz.zeroValue34
  have b1 := (bk_new w X 69).alloc (.cells z35X 34)
  have b2 := bk_new (w.alloc (.cells X 69)) z35X 34
  rw [al_size] at b2
  have c1 : ((w.alloc (.cells X 69)).alloc (.cells z35X 34)).cell? ⟨w.heap.size, 32, none⟩ = some (.int .u8 (e.k.toNat : Int)) := by rw [b1.cell]; exact k1
  have c2 : ((w.alloc (.cells X 69)).alloc (.cells z35X 34)).cell? ⟨w.heap.size, 33, none⟩ = some (.int .i64 e.off) := by rw [b1.cell]; exact k2
  have c3 : ((w.alloc (.cells X 69)).alloc (.cells z35X 34)).cell? ⟨w.heap.size, 34, none⟩ = some (.int .i64 e.sz) := by rw [b1.cell]; exact k3
  have HB : Hid (Bk ((w.alloc (.cells X 69)).alloc (.cells z35X 34)) w.heap.size X 69 ∧ Bk ((w.alloc (.cells X 69)).alloc (.cells z35X 34)) (w.heap.size + 1) z35X 34 ∧ Below w.heap.size w ((w.alloc (.cells X 69)).alloc (.cells z35X 34))) := ⟨b1, b2, ((Below.refl _ _).alloc (Nat.le_refl _) _).alloc (by rw [al_size]; omega) _⟩
  have HBD2 : Hid (∀ (w : World), (Instr.build 34 #[(0, .agg D), (1, .int .u8 (e.k.toNat : Int)), (2, .int .i64 e.off), (3, .int .i64 e.sz)]).run Tryz.prog w = .ok (.agg X) w) := HBD
  obtain ⟨ek, hek⟩ : ∃ ek, (e.k.toNat : Int) = ek := ⟨_, rfl⟩
  obtain ⟨eo, heo⟩ : ∃ eo, e.off = eo := ⟨_, rfl⟩
  obtain ⟨es, hes⟩ : ∃ es, e.sz = es := ⟨_, rfl⟩
  rw [hek, heo, hes] at HBD2
  rw [hek] at c1
  rw [heo] at c2
  rw [hes] at c3
  clear b1 b2 HBD k1 k2 k3 hX hD h hek heo hes
  go_enter Tryz.func30, Tryz.ntmps30
  go_wp2_with (first
    | (refine wpList_get rfl 23 (.tmp 3) rfl w.heap.size 0 X D 69 _ rfl HB.out.1 HXI.out Tryz.underlying23 rfl HID.out ?_)
    | (refine wpList_bdX4 rfl 34 (.tmp 4) (.tmp 6) (.tmp 8) (.tmp 10) rfl (.agg D) (.int .u8 ek) (.int .i64 eo) (.int .i64 es) (.agg X) rfl rfl rfl rfl (HBD2.out _) ?_)
    | (refine wpList_stoX rfl 34 (.tmp 2) (.tmp 11) rfl (w.heap.size + 1) X z35X 34 rfl rfl HB.out.2.1 HIX.out.1 (by rw [HIX.out.2.2]; rfl) HIX.out.2.1 ?_; intro w7 HB7 HG7)
    | fail)
  refine bodyPost_ret (results_cell_row rfl _ _ (w.heap.size + 1) 34 X (0, 0) _ rfl HB7.out Tryz.underlying34 rfl HIX.out.1) rfl ⟨rfl, ?_⟩
  exact below_own HB.out.2.2 HB.out.2.2.size HG7.out (by omega)
/-- One entry is appended to a row of the call's own. -/
theorem xe_app {B : Nat} {w : World} {l : List Xe} {v : Value} (h : w.ownsRow B 34 35 v l.length (xvs l)) (hB : B ≤ w.heap.size) (e : Xe) (hs : e.id.size = 32) (hn : (l.length + 1) * 56 ≤ 140737488355328) :
    ∃ g cp w7, (Builtin.append_ #[25, 25] 25 #[v, .slice (some ⟨w.heap.size, 0, none⟩) 1 1]).run Tryz.prog (w.alloc (.cells (xeC e) 34)) = .ok (.slice (some ⟨g, 0, none⟩) (l.length + 1) cp) w7 ∧
      w7.ownsRow B 34 35 (.slice (some ⟨g, 0, none⟩) (l.length + 1) cp) (l.length + 1) (xvs (l ++ [e])) ∧ l.length + 1 ≤ cp ∧ (w.alloc (.cells (xeC e) 34)).grownBy w7 v.ownBlock := by
  obtain ⟨i0, hi, hz0, hz1, hz2⟩ := info_parts inf_xe
  obtain ⟨v', w7, hrun, hown, hgrow, _, hat⟩ := run_append_own_at (P := Tryz.prog) (w := w.alloc (.cells (xeC e) 34)) B 25 25 34 i0 (.agg z35X) 35 56 Tryz.underlying25 hi hz0 hz1 hz2 rfl (by decide) v l.length (xvs l) (h.alloc _) ⟨w.heap.size, 0, none⟩ 1 1 (xeC e).toList (by rw [Array.length_toList, xeC_size e hs])
    (fun j u hu => by
      rw [WideShapes.add_plain, (bk_new w (xeC e) 34).cell, Nat.zero_add]
      rwa [Array.getElem?_toList] at hu) (xeC_one e) (by unfold maxLen; omega) (by omega) (by rw [al_size]; omega)
  have ho : w7.ownsRow B 34 35 v' (l.length + 1) (xvs (l ++ [e])) := by rw [xvs_snoc]; exact hown
  obtain ⟨g, cp, hv, hcp⟩ : ∃ g cp, v' = .slice (some ⟨g, 0, none⟩) (l.length + 1) cp ∧ l.length + 1 ≤ cp := by
    rcases ho.2 with ⟨_, h0⟩ | ⟨g7, c7, cur, h1, _, _, h2, _⟩
    · omega
    · exact ⟨g7, c7, h1, h2⟩
  subst hv
  exact ⟨g, cp, w7, hrun, ho, hcp, hgrow⟩
theorem grn_keepX {w w' : World} (h : Below w.heap.size w w') : w.grownBy w' none := ⟨h.os, h.tape, h.output, h.size, fun k hk _ => h.block k hk⟩
/-- The mark. -/
def mkX : Xe := ⟨⟨(List.replicate 32 (0 : UInt8)).toArray⟩, 77, 0, 0⟩
theorem mkX_id : mkX.id.size = 32 := by decide
structure OwX (w0 : World) (l : List Xe) (v : Value) (w : World) : Prop where
  ow : w.ownsRow w0.heap.size 34 35 v l.length (xvs l)
  ids : ∀ e ∈ l, e.id.size = 32
  bel : Below w0.heap.size w0 w
theorem OwX.next {w0 w w' : World} {l : List Xe} {v : Value} (h : OwX w0 l v w) (hb : Below w.heap.size w w') : OwX w0 l v w' :=
  ⟨rows_keep h.ow (fun g _ hg => hb.block g hg), h.ids, h.bel.trans (hb.mono h.bel.size)⟩
theorem OwX.app {w0 w : World} {l : List Xe} {v : Value} (h : OwX w0 l v w) (e : Xe) (hs : e.id.size = 32) (hn : (l.length + 1) * 56 ≤ 140737488355328) :
    ∃ g cp w7, (Builtin.append_ #[25, 25] 25 #[v, .slice (some ⟨w.heap.size, 0, none⟩) 1 1]).run Tryz.prog (w.alloc (.cells (xeC e) 34)) = .ok (.slice (some ⟨g, 0, none⟩) (l.length + 1) cp) w7 ∧
      OwX w0 (l ++ [e]) (.slice (some ⟨g, 0, none⟩) (l.length + 1) cp) w7 ∧ l.length + 1 ≤ cp := by
  obtain ⟨g, cp, w7, h1, h2, h3, h4⟩ := xe_app h.ow h.bel.size e hs hn
  refine ⟨g, cp, w7, h1, ⟨by rw [List.length_append]; exact h2, ?_, ?_⟩, h3⟩
  · intro x hx
    rcases List.mem_append.1 hx with hx | hx
    · exact h.ids x hx
    · rw [List.mem_singleton.1 hx]; exact hs
  · exact rows_bel (h.bel.alloc h.bel.size _) (by rw [al_size]; have := h.bel.size; omega) (h.ow.alloc _) (Nat.le_refl _) h4
set_option maxHeartbeats 4000000 in
set_option maxRecDepth 100000 in
theorem owns13 (l : List Xe) (ad : Option Addr) (n c : Nat) (w : World) (hX : XeL w ad l) (hl : l.length = n) (hn : (n + 1) * 56 ≤ 140737488355328) :
    Calls Tryz.prog 6 #[.slice ad n c] w fun e w' => ∃ g cp, e = .returned (.slice (some ⟨g, 0, none⟩) n cp) ∧ w'.ownsRow w.heap.size 34 35 (.slice (some ⟨g, 0, none⟩) (n + 1) cp) (n + 1) (xvs (l ++ [mkX])) ∧ n + 1 ≤ cp ∧ Below w.heap.size w w' := by
  have HO : Hid (XeL w ad l) := hX
  have HL : Hid (l.length = n) := hl
  clear hX hl
  go_enter Tryz.func6, Tryz.ntmps6
  go_wp2
  go_loopw [3, 4] (fun m v wr => ∃ (k : Nat) (u : Value), m = u ∧ v = .int .i64 k ∧ k ≤ n ∧ Hid (OwX w (l.take k) u wr)) (fun m v _ => n - (intOf v).toNat)
  case atStart => exact ⟨0, _, rfl, rfl, Nat.zero_le _, rows_none, (fun e he => by simp at he), Below.refl _ _⟩
  case round =>
    obtain ⟨k, u, rfl, rfl, hk, OR⟩ := hrel
    have htk : (l.take k).length = k := by rw [List.length_take, HL.out]; omega
    by_cases hlt : k < n
    · have hkz : (k : Int) < (n : Nat) := by omega
      obtain ⟨e, he⟩ : ∃ e, l[k]? = some e := ⟨l[k]'(by rw [HL.out]; exact hlt), List.getElem?_eq_getElem _⟩
      obtain ⟨ga, oa, rfl, hga, h32, hcells⟩ := (HO.out.below OR.out.bel).get he
      have HT : Hid (l.take (k + 1) = l.take k ++ [e]) := take_snocX he
      obtain ⟨X, hXe⟩ : ∃ X, xeC e = X := ⟨_, rfl⟩
      have HI : Hid ((Tryz.prog.info? 69).map (·.size) = some X.toList.length) := by rw [← hXe, Array.length_toList, xeC_size e h32]; show _ = _; kernel_rfl
      have HCE : Hid (∀ j v, X[j]? = some v → wr.cell? ⟨ga, oa + k * 35 + j, none⟩ = some v) := by rw [← hXe]; exact hcells
      have HOW : Hid (Calls Tryz.prog 30 #[.agg X] wr fun r w' => r = .returned (.agg X) ∧ Below wr.heap.size wr w') := by rw [← hXe]; exact own13 e wr h32
      have HSL : Hid (∀ w, (Instr.buildSlice 25 1 #[(0, .agg X)]).run Tryz.prog w = .ok (.slice (some ⟨w.heap.size, 0, none⟩) 1 1) (w.alloc (.cells X 34))) := by rw [← hXe]; exact slice_xe e h32
      have HAP : Hid (∀ W, OwX w (l.take k) u3 W → ∃ g cp w7, (Builtin.append_ #[25, 25] 25 #[u3, .slice (some ⟨W.heap.size, 0, none⟩) 1 1]).run Tryz.prog (W.alloc (.cells X 34)) = .ok (.slice (some ⟨g, 0, none⟩) (k + 1) cp) w7 ∧ OwX w (l.take (k + 1)) (.slice (some ⟨g, 0, none⟩) (k + 1) cp) w7) := fun W hW => by
        obtain ⟨g, cp, w7, q1, q2, q3⟩ := hW.app e h32 (by rw [htk]; omega)
        rw [htk, hXe] at q1
        rw [htk, ← HT.out] at q2
        exact ⟨g, cp, w7, q1, q2⟩
      clear hcells hXe h32 he htk
      go_wp2_with (first
        | (go_at_call 30; refine HOW.out.mono ?_; rintro r w2 ⟨rfl, hb2⟩; have OR2 : Hid (OwX w (l.take k) u3 w2) := OR.out.next hb2; obtain ⟨g7, cp7, w7, hrun, hO7⟩ := HAP.out w2 OR2.out; have O7 : Hid (OwX w (l.take (k + 1)) (.slice (some ⟨g7, 0, none⟩) (k + 1) cp7) w7) := hO7; clear hO7 hb2)
        | (refine wpList_load_mid rfl 69 (.tmp 14) rfl ga (oa + k * 35) rfl X.toList _ (fun j v hv => HCE.out j v (by rwa [Array.getElem?_toList] at hv)) Tryz.underlying69 rfl HI.out ?_)
        | (refine wpList_bsX rfl 25 (.tmp 16) rfl (.agg X) (.slice (some ⟨w2.heap.size, 0, none⟩) 1 1) (w2.alloc (.cells X 34)) rfl (HSL.out _) ?_)
        | (refine wpList_appX rfl (.tmp 11) (.tmp 17) 25 25 rfl u3 (.slice (some ⟨w2.heap.size, 0, none⟩) 1 1) (.slice (some ⟨g7, 0, none⟩) (k + 1) cp7) w7 rfl rfl hrun ?_)
        | fail)
      clear hrun
      go_wp2
      go_roundw
      case rel => exact ⟨k + 1, _, rfl, by go_num, by omega, O7.out⟩
      case measure => simp [intOf]; omega
    · have hkz : ¬ (k : Int) < (n : Nat) := by omega
      obtain rfl : k = n := by omega
      have hxs : l.take k = l := List.take_of_length_le (by rw [HL.out]; omega)
      rw [hxs] at OR htk
      obtain ⟨g7, cp7, w7, hrun, hO7, hcp⟩ := OR.out.app mkX mkX_id (by rw [htk]; omega)
      rw [htk] at hrun hO7 hcp
      have O7 : Hid (OwX w (l ++ [mkX]) (.slice (some ⟨g7, 0, none⟩) (k + 1) cp7) w7) := hO7
      have hmkc : ∀ w, (Instr.build 34 #[(1, .int .u8 77)]).run Tryz.prog w = .ok (.agg (xeC mkX)) w := fun w => by kernel_rfl
      obtain ⟨X, hXe⟩ : ∃ X, xeC mkX = X := ⟨_, rfl⟩
      have HSL : Hid (∀ w, (Instr.buildSlice 25 1 #[(0, .agg X)]).run Tryz.prog w = .ok (.slice (some ⟨w.heap.size, 0, none⟩) 1 1) (w.alloc (.cells X 34))) := by rw [← hXe]; exact slice_xe mkX mkX_id
      rw [hXe] at hrun hmkc
      have hcz : (k : Int) ≤ (cp7 : Nat) := by omega
      clear hO7 hxs
      go_wp2_with (first
        | (refine wpList_bdX1 rfl 34 1 (.const (.int .u8 77)) rfl (.int .u8 77) (.agg X) rfl (hmkc _) ?_)
        | (refine wpList_bsX rfl 25 (.tmp 20) rfl (.agg X) (.slice (some ⟨wr.heap.size, 0, none⟩) 1 1) (wr.alloc (.cells X 34)) rfl (HSL.out _) ?_)
        | (refine wpList_appX rfl (.tmp 19) (.tmp 21) 25 25 rfl u3 (.slice (some ⟨wr.heap.size, 0, none⟩) 1 1) (.slice (some ⟨g7, 0, none⟩) (k + 1) cp7) w7 rfl rfl hrun ?_)
        | fail)
      go_ret
      refine ⟨g7, cp7, rfl, ?_, hcp, O7.out.bel⟩
      have := O7.out.ow
      rw [List.length_append, List.length_singleton, HL.out] at this
      exact this
end Go.Proofs.YtbdkacfpeokggaaGreatDoor
