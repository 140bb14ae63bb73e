import Derived.Test.YtbfoiocbmhhdbaaGreatY10
import Derived.Test.YtbfoiocbmhhdbaaGreatY8
import Derived.Test.YtbfoiocbmhhdbaaGreatY7
/- idx.Index.Find: its closure. -/
namespace Go.Proofs.YtbfoiocbmhhdbaaGreat
open Go.RowKit
set_option linter.unusedSimpArgs false
set_option linter.unusedVariables false
/-- Worlds that have grown out of this one. -/
def Grw (W0 W : World) : Prop := ∃ q os, W = Sort.grow (W0.drewN q) os
theorem Grw.drew (W0 : World) : Grw W0 W0.drew := ⟨1, #[], by rw [Sort.grow_empty]; rfl⟩
theorem Grw.next {W0 W W' : World} (h : Grw W0 W) (h' : Grw W W') : Grw W0 W' := by
  obtain ⟨q, os, rfl⟩ := h
  obtain ⟨q', os', rfl⟩ := h'
  refine ⟨q + q', os ++ os', ?_⟩
  show Sort.grow (Sort.grow ((W0.drewN q).drewN q') os) os' = _
  rw [Sort.grow_grow, World.drewN_drewN]
theorem Grw.below {W0 W : World} (h : Grw W0 W) : Below W0.heap.size W0 W := by
  obtain ⟨q, os, rfl⟩ := h
  exact grow_below _ _ _
theorem ret_bX {a b : Bool} (h : b = a) : Ending.returned (.bool a) = .returned (.bool b) := by rw [h]
set_option maxHeartbeats 4000000 in
set_option maxRecDepth 100000 in
theorem find1_any (bx bf bi g f i : Nat) (s x : ByteArray) (l : List Xe) (e : Xe) (w : World) (hx : w.cell? ⟨bx, 0, none⟩ = some (.pointer (some ⟨g, 0, none⟩))) (hf : w.cell? ⟨bf, 0, none⟩ = some (.int .i64 (f : Int)))
    (hi : Bk w bi (idc x) 48) (hx32 : x.size = 32) (h : IxS w g s l) (hn : l.length ≤ 65536) (he : l[f + i]? = some e) :
    Calls Tryz.prog 89 (#[.int .i64 (i : Int)] ++ #[.pointer (some ⟨bx, 0, none⟩), .pointer (some ⟨bf, 0, none⟩), .pointer (some ⟨bi, 0, none⟩)]) w fun r w' => r = .returned (.bool (!ltN e.id x)) ∧ Grw w w' := by
  obtain ⟨a, n, c, hB, hX, hl, hc, hA⟩ := h.row
  obtain ⟨m, hm⟩ : ∃ m, f + i = m := ⟨_, rfl⟩
  rw [hm] at he
  have hmn : m < n := by rw [← hl]; exact (List.getElem?_eq_some_iff.1 he).1
  have hmz : (m : Int) < (n : Nat) := by omega
  have hm0 : (0 : Int) ≤ m := by omega
  have hadd : (f : Int) + (i : Int) = (m : Int) := by omega
  have hwr : IntKind.i64.wrap (m : Int) = (m : Int) := by rw [IntKind.wrap_i64]; omega
  obtain ⟨ga, oa, rfl, hga, h32, hcells⟩ := hX.get he
  have lx := block_lt_of_cell hx
  have lf := block_lt_of_cell hf
  have C1 : Hid (∀ W, Grw w W → W.cell? ⟨bx, 0, none⟩ = some (.pointer (some ⟨g, 0, none⟩))) := fun W hW => by rw [hW.below.cell lx]; exact hx
  have C2 : Hid (∀ W, Grw w W → W.cell? ⟨bf, 0, none⟩ = some (.int .i64 (f : Int))) := fun W hW => by rw [hW.below.cell lf]; exact hf
  have C3 : Hid (∀ W, Grw w W → Bk W bi (idc x) 48) := fun W hW => hi.below hW.below hi.lt
  have C4 : Hid (∀ W, Grw w W → W.cell? ⟨g, 288, none⟩ = some (.slice (some ⟨ga, oa, none⟩) n c)) := fun W hW => by
    rw [(hB.below hW.below hB.lt).cell]; exact ixC_row s _ _ h.id
  have C5 : Hid (∀ W, Grw w W → ∀ j v, (idc e.id)[j]? = some v → W.cell? ⟨ga, oa + m * 35 + j, none⟩ = some v) := fun W hW j v hv => by
    rw [hW.below.cell hga]; exact hcells j v (by have := xeC_id e h32 j v hv; rwa [Nat.zero_add] at this)
  have C6 : Hid (∀ W, Grw w W → Calls Tryz.prog 43 #[.agg (idc e.id), .agg (idc x)] W fun r w' => r = .returned (.bool (ltN e.id x)) ∧ Grw w w') := fun W hW => (less_grow e.id x W h32 hx32).mono fun r w' ⟨q1, q2⟩ => ⟨q1, hW.next q2⟩
  have HI1 : Hid ((Tryz.prog.info? 48).map (·.size) = some (idc e.id).size ∧ (Tryz.prog.info? 48).map (·.size) = some (idc x).size) := ⟨info_32 (by rw [idc_size, h32]), info_32 (by rw [idc_size, hx32])⟩
  obtain ⟨L, hL⟩ : ∃ L, ltN e.id x = L := ⟨_, rfl⟩
  obtain ⟨D, hD⟩ : ∃ D, idc e.id = D := ⟨_, rfl⟩
  obtain ⟨Y, hY⟩ : ∃ Y, idc x = Y := ⟨_, rfl⟩
  rw [hL, hD, hY] at C6
  rw [hD] at C5
  rw [hY] at C3
  rw [hD, hY] at HI1
  rw [hL]
  clear hx hf hi hx32 h hB hX hl hc hA hcells he h32 hL hD hY
  show Calls Tryz.prog 89 #[.int .i64 (i : Int), .pointer (some ⟨bx, 0, none⟩), .pointer (some ⟨bf, 0, none⟩), .pointer (some ⟨bi, 0, none⟩)] w _
  go_enter Tryz.func89, Tryz.ntmps89
  go_wp2_with fail
  refine region_class10 (Grw w) (by kernel_rfl) (by kernel_rfl) (Grw.drew w) ?_
  try simp only [Act.put, List.setIfInBounds_toArray, List.set_cons_zero, List.set_cons_succ]
  repeat (first
    | go_big_quiet_skip
    | (go_big_quiet_want
       first
         | (refine quiet_one 63 _ rfl bx 0 (.pointer (some ⟨g, 0, none⟩)) rfl (fun _ => by kernel_rfl) C1.out ?_; go_big_quiet_on; simp only [Act.put, List.setIfInBounds_toArray, List.set_cons_zero, List.set_cons_succ])
         | (refine quiet_one 3 _ rfl bf 0 (.int .i64 (f : Int)) rfl (fun _ => by kernel_rfl) C2.out ?_; go_big_quiet_on; simp only [Act.put, List.setIfInBounds_toArray, List.set_cons_zero, List.set_cons_succ])
         | (refine quiet_one 66 _ rfl g 288 (.slice (some ⟨ga, oa, none⟩) n c) rfl (fun _ => by kernel_rfl) C4.out ?_; go_big_quiet_on; simp only [Act.put, List.setIfInBounds_toArray, List.set_cons_zero, List.set_cons_succ])
         | (refine quiet_row 48 _ rfl bi 0 Y Y 48 _ rfl C3.out (fun j v hv => by rw [Nat.zero_add]; exact hv) Tryz.underlying48 rfl HI1.out.2 ?_; go_big_quiet_on; simp only [Act.put, List.setIfInBounds_toArray, List.set_cons_zero, List.set_cons_succ])
         | (refine quiet_rowc 48 _ rfl ga (oa + m * 35) D _ rfl C5.out Tryz.underlying48 rfl HI1.out.1 ?_; go_big_quiet_on; simp only [Act.put, List.setIfInBounds_toArray, List.set_cons_zero, List.set_cons_succ])
         | (refine quiet_call10 (.bool L) 43 #[.agg D, .agg Y] ?_ ?_ ?_; (focus (intro W hW; go_simp; done)); (focus (intro W hW; exact C6.out W hW)); go_big_quiet_on; simp only [Act.put, List.setIfInBounds_toArray, List.set_cons_zero, List.set_cons_succ])
         | (refine quiet_val10 (.pointer (some ⟨g, 0, none⟩)) ?_ ?_; (focus (intro W hW; go_simp; done)); go_big_quiet_on; simp only [Act.put, List.setIfInBounds_toArray, List.set_cons_zero, List.set_cons_succ])
         | (refine quiet_val10 (.pointer (some ⟨g, 288, none⟩)) ?_ ?_; (focus (intro W hW; go_simp; done)); go_big_quiet_on; simp only [Act.put, List.setIfInBounds_toArray, List.set_cons_zero, List.set_cons_succ])
         | (refine quiet_val10 (.int .i64 (m : Int)) ?_ ?_; (focus (intro W hW; go_simp; done)); go_big_quiet_on; simp only [Act.put, List.setIfInBounds_toArray, List.set_cons_zero, List.set_cons_succ])
         | (refine quiet_val10 (.pointer (some ⟨ga, oa + m * 35, none⟩)) ?_ ?_; (focus (intro W hW; go_simp; done)); go_big_quiet_on; simp only [Act.put, List.setIfInBounds_toArray, List.set_cons_zero, List.set_cons_succ])
         | (refine quiet_val10 (.bool !L) ?_ ?_; (focus (intro W hW; go_simp; done)); go_big_quiet_on; simp only [Act.put, List.setIfInBounds_toArray, List.set_cons_zero, List.set_cons_succ])
         | (go_big_quiet_op; go_big_quiet_on)))
  refine wpQuiet_nil ?_
  intro w9 hw9
  have H9 : Hid (Grw w w9) := hw9
  clear hw9
  go_wp2
  go_ret
  exact ⟨rfl, H9.out⟩
end Go.Proofs.YtbfoiocbmhhdbaaGreat
/- midx.Index.bytes: its closure isAbove, and the search with it: how many names' first byte is not above. -/
namespace Go.Proofs.YtbfoiocbmhhdbaaGreat
open Go.RowKit
set_option linter.unusedSimpArgs false
set_option linter.unusedVariables false
/-- An index in memory, its rows wherever, with whatever room. -/
structure MxW (w : World) (g : Nat) (ps : List ByteArray) (l : List Mr) : Prop where
  row : ∃ ap ar cp cr, Bk w g #[.slice ap ps.length cp, .slice ar l.length cr] 101 ∧ NmL w ap ps ∧ MrL w ar l
  pl : ps.length ≤ 4096
  ll : l.length ≤ 1048576
theorem MxW.below {w w' : World} {g : Nat} {ps : List ByteArray} {l : List Mr} (h : MxW w g ps l) (hb : Below w.heap.size w w') : MxW w' g ps l := by
  obtain ⟨ap, ar, cp, cr, h1, h2, h3⟩ := h.row
  exact ⟨⟨ap, ar, cp, cr, h1.below hb h1.lt, h2.below hb, h3.below hb⟩, h.pl, h.ll⟩
theorem MxS.w {w : World} {g : Nat} {ps : List ByteArray} {l : List Mr} (h : MxS w g ps l) : MxW w g ps l := by
  obtain ⟨gp, gr, h1, h2, h3⟩ := h.row
  exact ⟨⟨_, _, _, _, h1, h2, h3⟩, h.pl, h.ll⟩
theorem range_ltF (F : Nat) : ∀ N, (List.range N).countP (fun i => decide (i < F)) = min N F
  | 0 => by simp
  | N + 1 => by
    rw [List.range_succ, List.countP_append, range_ltF F N]
    by_cases h : N < F
    · simp [h]; omega
    · simp [h]; omega
theorem range_cntF {N F : Nat} {q : Nat → Bool} (h : ∀ i, i < N → q i = decide (i < F)) (hF : F ≤ N) : (List.range N).countP q = F := by
  have e : (List.range N).countP q = (List.range N).countP (fun i => decide (i < F)) := List.countP_congr (fun i hi => by rw [h i (List.mem_range.1 hi)])
  rw [e, range_ltF]
  omega
set_option maxHeartbeats 4000000 in
set_option maxRecDepth 100000 in
theorem above_any (bx bf g i f : Nat) (ps : List ByteArray) (l : List Mr) (r : Mr) (w : World) (hx : w.cell? ⟨bx, 0, none⟩ = some (.pointer (some ⟨g, 0, none⟩))) (hf : w.cell? ⟨bf, 0, none⟩ = some (.int .i64 (f : Int))) (h : MxW w g ps l) (hr : l[i]? = some r) :
    Calls Tryz.prog 70 (#[.int .i64 (i : Int)] ++ #[.pointer (some ⟨bx, 0, none⟩), .pointer (some ⟨bf, 0, none⟩)]) w fun e w' => e = .returned (.bool (decide (f < fst8 r.e))) ∧ Grw w w' := by
  obtain ⟨ap, ar, cp, cr, h1, h2, h3⟩ := h.row
  have hll := h.ll
  have hil : i < l.length := (List.getElem?_eq_some_iff.1 hr).1
  obtain ⟨⟨hp32, h32⟩, gr, ro, rfl, k2, k3⟩ := h3 i r hr
  have lx := block_lt_of_cell hx
  have lf := block_lt_of_cell hf
  obtain ⟨n, hn⟩ : ∃ n, l.length = n := ⟨_, rfl⟩
  have C1 : Hid (∀ W, Grw w W → W.cell? ⟨bx, 0, none⟩ = some (.pointer (some ⟨g, 0, none⟩))) := fun W hW => by rw [hW.below.cell lx]; exact hx
  have C2 : Hid (∀ W, Grw w W → W.cell? ⟨bf, 0, none⟩ = some (.int .i64 (f : Int))) := fun W hW => by rw [hW.below.cell lf]; exact hf
  have C4 : Hid (∀ W, Grw w W → W.cell? ⟨g, 1, none⟩ = some (.slice (some ⟨gr, ro, none⟩) n cr)) := fun W hW => by
    rw [(h1.below hW.below h1.lt).cell, ← hn]; rfl
  have C5 : Hid (∀ W, Grw w W → W.cell? ⟨gr, ro + i * 67 + 32, none⟩ = some (.int .u8 (fst8 r.e : Int))) := fun W hW => by
    rw [hW.below.cell (p := ⟨gr, ro + i * 67 + 32, none⟩) k2]
    exact k3 (32 + 0) _ (mrC_e r hp32 0 _ (fst8_cell r.e h32))
  rw [hn] at hll hil
  obtain ⟨k, hk⟩ : ∃ k, fst8 r.e = k := ⟨_, rfl⟩
  have hk8 : k < 256 := by rw [← hk]; exact fst8_lt _
  rw [hk] at C5 ⊢
  have hiz : (i : Int) < (n : Int) := by omega
  have hwr : IntKind.i64.wrap (k : Int) = (k : Int) := by rw [IntKind.wrap_i64]; omega
  clear hx hf h h1 h2 h3 k2 k3 hr hn hk lx lf hp32 h32
  show Calls Tryz.prog 70 #[.int .i64 (i : Int), .pointer (some ⟨bx, 0, none⟩), .pointer (some ⟨bf, 0, none⟩)] w _
  go_enter Tryz.func70, Tryz.ntmps70
  go_wp2_with fail
  refine region_class10 (Grw w) (by kernel_rfl) (by kernel_rfl) (Grw.drew w) ?_
  try simp only [Act.put, List.setIfInBounds_toArray, List.set_cons_zero, List.set_cons_succ]
  repeat (first
    | go_big_quiet_skip
    | (go_big_quiet_want
       first
         | (refine quiet_one 28 _ rfl bx 0 (.pointer (some ⟨g, 0, none⟩)) rfl (fun _ => by kernel_rfl) C1.out ?_; go_big_quiet_on; simp only [Act.put, List.setIfInBounds_toArray, List.set_cons_zero, List.set_cons_succ])
         | (refine quiet_one 3 _ rfl bf 0 (.int .i64 (f : Int)) rfl (fun _ => by kernel_rfl) C2.out ?_; go_big_quiet_on; simp only [Act.put, List.setIfInBounds_toArray, List.set_cons_zero, List.set_cons_succ])
         | (refine quiet_one 58 _ rfl g 1 (.slice (some ⟨gr, ro, none⟩) n cr) rfl (fun _ => by kernel_rfl) C4.out ?_; go_big_quiet_on; simp only [Act.put, List.setIfInBounds_toArray, List.set_cons_zero, List.set_cons_succ])
         | (refine quiet_one 5 _ rfl gr (ro + i * 67 + 32) (.int .u8 (k : Int)) rfl (fun _ => by kernel_rfl) C5.out ?_; go_big_quiet_on; simp only [Act.put, List.setIfInBounds_toArray, List.set_cons_zero, List.set_cons_succ])
         | (refine quiet_val10 (.pointer (some ⟨g, 0, none⟩)) ?_ ?_; (focus (intro W hW; go_simp; done)); go_big_quiet_on; simp only [Act.put, List.setIfInBounds_toArray, List.set_cons_zero, List.set_cons_succ])
         | (refine quiet_val10 (.pointer (some ⟨g, 1, none⟩)) ?_ ?_; (focus (intro W hW; go_simp; done)); go_big_quiet_on; simp only [Act.put, List.setIfInBounds_toArray, List.set_cons_zero, List.set_cons_succ])
         | (refine quiet_val10 (.pointer (some ⟨gr, ro + i * 67, none⟩)) ?_ ?_; (focus (intro W hW; go_simp; done)); go_big_quiet_on; simp only [Act.put, List.setIfInBounds_toArray, List.set_cons_zero, List.set_cons_succ])
         | (refine quiet_val10 (.pointer (some ⟨gr, ro + i * 67 + 32, none⟩)) ?_ ?_; (focus (intro W hW; go_simp; done)); go_big_quiet_on; simp only [Act.put, List.setIfInBounds_toArray, List.set_cons_zero, List.set_cons_succ])
         | (refine quiet_val10 (.int .i64 (k : Int)) ?_ ?_; (focus (intro W hW; go_simp; done)); go_big_quiet_on; simp only [Act.put, List.setIfInBounds_toArray, List.set_cons_zero, List.set_cons_succ])
         | (refine quiet_val10 (.bool (decide (f < k))) ?_ ?_; (focus (intro W hW; go_simp; done)); go_big_quiet_on; simp only [Act.put, List.setIfInBounds_toArray, List.set_cons_zero, List.set_cons_succ])
         | (go_big_quiet_op; go_big_quiet_on)))
  refine wpQuiet_nil ?_
  intro w9 hw9
  have H9 : Hid (Grw w w9) := hw9
  clear hw9
  go_wp2
  go_ret
  exact ⟨rfl, H9.out⟩
set_option maxHeartbeats 4000000 in
set_option maxRecDepth 100000 in
theorem search_above (bx bf g f : Nat) (ps : List ByteArray) (l : List Mr) (w : World) (hx : w.cell? ⟨bx, 0, none⟩ = some (.pointer (some ⟨g, 0, none⟩))) (hf : w.cell? ⟨bf, 0, none⟩ = some (.int .i64 (f : Int))) (h : MxW w g ps l) (hri : RiM l) :
    Calls Tryz.prog 44 #[.int .i64 (l.length : Int), .func (.func 70) #[] #[.pointer (some ⟨bx, 0, none⟩), .pointer (some ⟨bf, 0, none⟩)]] w fun e w' => e = .returned (.int .i64 (fanL (l.map Mr.e) f : Int)) ∧ Grw w w' := by
  have hll := h.ll
  have lx := block_lt_of_cell hx
  have lf := block_lt_of_cell hf
  have hget : ∀ i, i < l.length → ∃ r, l[i]? = some r := fun i hi => ⟨_, List.getElem?_eq_getElem hi⟩
  have hmap : ∀ (i : Nat) (r : Mr), l[i]? = some r → (l.map Mr.e)[i]? = some r.e := fun i r hr => by rw [List.getElem?_map, hr]; rfl
  let p : Nat → Bool := fun i => match l[i]? with | some r => decide (f < fst8 r.e) | none => true
  have hp : ∀ (i : Nat) (r : Mr), l[i]? = some r → p i = decide (f < fst8 r.e) := fun i r hr => by simp only [p, hr]
  have hfan : ∀ (i : Nat) (r : Mr), l[i]? = some r → (p i = true ↔ ¬ i < fanL (l.map Mr.e) f) := fun i r hr => by
    rw [hp i r hr, decide_eq_true_iff]
    have := hri.fan (hmap i r hr) f
    constructor
    · intro q q2
      have := this.2 q2
      omega
    · intro q
      have h3 : ¬ fst8 r.e ≤ f := fun q2 => q (this.1 q2)
      omega
  have q := Any.sort_Search (P := Tryz.prog) laysO16 70 #[.pointer (some ⟨bx, 0, none⟩), .pointer (some ⟨bf, 0, none⟩)] l.length p w (fun _ _ => by kernel_rfl) (by omega) (fun m os i hi => ?_) (fun a b hab hb ha => ?_)
  · refine q.mono fun e w' ⟨q1, q2⟩ => ⟨?_, q2⟩
    rw [q1]
    have hF : fanL (l.map Mr.e) f ≤ l.length := by have := fanL_le (l.map Mr.e) f; rwa [List.length_map] at this
    rw [range_cntF (F := fanL (l.map Mr.e) f) (fun i hi => ?_) hF]
    obtain ⟨r, hr⟩ := hget i hi
    have := hfan i r hr
    by_cases h3 : i < fanL (l.map Mr.e) f
    · rw [decide_eq_true h3]
      cases hq : p i with
      | true => exact absurd h3 (this.1 hq)
      | false => rfl
    · rw [decide_eq_false h3, this.2 h3]; rfl
  · obtain ⟨r, hr⟩ := hget i hi
    have hG : Grw w (Sort.grow (w.drewN m) os) := ⟨m, os, rfl⟩
    rw [hp i r hr]
    exact above_any bx bf g i f ps l r _ (by rw [hG.below.cell lx]; exact hx) (by rw [hG.below.cell lf]; exact hf) (h.below hG.below) hr
  · obtain ⟨d, hd⟩ := hget a (by omega)
    obtain ⟨e, he⟩ := hget b (by omega)
    have h1 := (hfan a d hd).1 ha
    exact (hfan b e he).2 (by omega)
end Go.Proofs.YtbfoiocbmhhdbaaGreat
/- midx.Index.Find: its closure, and the search with it. -/
namespace Go.Proofs.YtbfoiocbmhhdbaaGreat
open Go.RowKit
set_option linter.unusedSimpArgs false
set_option linter.unusedVariables false
set_option maxHeartbeats 4000000 in
set_option maxRecDepth 100000 in
theorem mfind1_any (bx bi g i : Nat) (ps : List ByteArray) (l : List Mr) (r : Mr) (x : ByteArray) (w : World) (hx : w.cell? ⟨bx, 0, none⟩ = some (.pointer (some ⟨g, 0, none⟩))) (hi : Bk w bi (idc x) 48) (hx32 : x.size = 32) (h : MxS w g ps l) (hr : l[i]? = some r) :
    Calls Tryz.prog 42 (#[.int .i64 (i : Int)] ++ #[.pointer (some ⟨bx, 0, none⟩), .pointer (some ⟨bi, 0, none⟩)]) w fun e w' => e = .returned (.bool (!ltN r.e.id x)) ∧ Grw w w' := by
  obtain ⟨gp, gr, h1, h2, h3⟩ := h.row
  have hll := h.ll
  have hil : i < l.length := (List.getElem?_eq_some_iff.1 hr).1
  obtain ⟨⟨hp32, h32⟩, g', o', k1, k2, k3⟩ := h3 i r hr
  simp only [Option.some.injEq, Addr.mk.injEq] at k1
  obtain ⟨rfl, rfl, _⟩ := k1
  have lx := block_lt_of_cell hx
  obtain ⟨n, hn⟩ : ∃ n, l.length = n := ⟨_, rfl⟩
  have C1 : Hid (∀ W, Grw w W → W.cell? ⟨bx, 0, none⟩ = some (.pointer (some ⟨g, 0, none⟩))) := fun W hW => by rw [hW.below.cell lx]; exact hx
  have C3 : Hid (∀ W, Grw w W → Bk W bi (idc x) 48) := fun W hW => hi.below hW.below hi.lt
  have C4 : Hid (∀ W, Grw w W → W.cell? ⟨g, 1, none⟩ = some (.slice (some ⟨gr, 0, none⟩) n n)) := fun W hW => by
    rw [(h1.below hW.below h1.lt).cell, ← hn]; rfl
  have C5 : Hid (∀ W, Grw w W → ∀ j v, (idc r.e.id)[j]? = some v → W.cell? ⟨gr, i * 67 + 32 + j, none⟩ = some v) := fun W hW j v hv => by
    rw [hW.below.cell (p := ⟨gr, i * 67 + 32 + j, none⟩) k2]
    have := k3 (32 + j) _ (mrC_id r hp32 h32 j v hv)
    rwa [Nat.zero_add, ← Nat.add_assoc] at this
  have C6 : Hid (∀ W, Grw w W → Calls Tryz.prog 43 #[.agg (idc r.e.id), .agg (idc x)] W fun r' w' => r' = .returned (.bool (ltN r.e.id x)) ∧ Grw w w') := fun W hW => (less_grow r.e.id x W h32 hx32).mono fun r' w' ⟨q1, q2⟩ => ⟨q1, hW.next q2⟩
  have HI1 : Hid ((Tryz.prog.info? 48).map (·.size) = some (idc r.e.id).size ∧ (Tryz.prog.info? 48).map (·.size) = some (idc x).size) := ⟨info_32 (by rw [idc_size, h32]), info_32 (by rw [idc_size, hx32])⟩
  obtain ⟨L, hL⟩ : ∃ L, ltN r.e.id x = L := ⟨_, rfl⟩
  obtain ⟨D, hD⟩ : ∃ D, idc r.e.id = D := ⟨_, rfl⟩
  obtain ⟨Y, hY⟩ : ∃ Y, idc x = Y := ⟨_, rfl⟩
  rw [hL, hD, hY] at C6
  rw [hD] at C5
  rw [hY] at C3
  rw [hD, hY] at HI1
  rw [hL]
  rw [hn] at hll hil
  have hiz : (i : Int) < (n : Int) := by omega
  clear hx hi h h1 h2 h3 k2 k3 hr hn lx hp32 h32 hx32 hL hD hY
  show Calls Tryz.prog 42 #[.int .i64 (i : Int), .pointer (some ⟨bx, 0, none⟩), .pointer (some ⟨bi, 0, none⟩)] w _
  go_enter Tryz.func42, Tryz.ntmps42
  go_wp2_with fail
  refine region_class10 (Grw w) (by kernel_rfl) (by kernel_rfl) (Grw.drew w) ?_
  try simp only [Act.put, List.setIfInBounds_toArray, List.set_cons_zero, List.set_cons_succ]
  repeat (first
    | go_big_quiet_skip
    | (go_big_quiet_want
       first
         | (refine quiet_one 28 _ rfl bx 0 (.pointer (some ⟨g, 0, none⟩)) rfl (fun _ => by kernel_rfl) C1.out ?_; go_big_quiet_on; simp only [Act.put, List.setIfInBounds_toArray, List.set_cons_zero, List.set_cons_succ])
         | (refine quiet_one 58 _ rfl g 1 (.slice (some ⟨gr, 0, none⟩) n n) rfl (fun _ => by kernel_rfl) C4.out ?_; go_big_quiet_on; simp only [Act.put, List.setIfInBounds_toArray, List.set_cons_zero, List.set_cons_succ])
         | (refine quiet_row 48 _ rfl bi 0 Y Y 48 _ rfl C3.out (fun j v hv => by rw [Nat.zero_add]; exact hv) Tryz.underlying48 rfl HI1.out.2 ?_; go_big_quiet_on; simp only [Act.put, List.setIfInBounds_toArray, List.set_cons_zero, List.set_cons_succ])
         | (refine quiet_rowc 48 _ rfl gr (i * 67 + 32) D _ rfl C5.out Tryz.underlying48 rfl HI1.out.1 ?_; go_big_quiet_on; simp only [Act.put, List.setIfInBounds_toArray, List.set_cons_zero, List.set_cons_succ])
         | (refine quiet_call10 (.bool L) 43 #[.agg D, .agg Y] ?_ ?_ ?_; (focus (intro W hW; go_simp; done)); (focus (intro W hW; exact C6.out W hW)); go_big_quiet_on; simp only [Act.put, List.setIfInBounds_toArray, List.set_cons_zero, List.set_cons_succ])
         | (refine quiet_val10 (.pointer (some ⟨g, 0, none⟩)) ?_ ?_; (focus (intro W hW; go_simp; done)); go_big_quiet_on; simp only [Act.put, List.setIfInBounds_toArray, List.set_cons_zero, List.set_cons_succ])
         | (refine quiet_val10 (.pointer (some ⟨g, 1, none⟩)) ?_ ?_; (focus (intro W hW; go_simp; done)); go_big_quiet_on; simp only [Act.put, List.setIfInBounds_toArray, List.set_cons_zero, List.set_cons_succ])
         | (refine quiet_val10 (.pointer (some ⟨gr, i * 67, none⟩)) ?_ ?_; (focus (intro W hW; go_simp; done)); go_big_quiet_on; simp only [Act.put, List.setIfInBounds_toArray, List.set_cons_zero, List.set_cons_succ])
         | (refine quiet_val10 (.pointer (some ⟨gr, i * 67 + 32, none⟩)) ?_ ?_; (focus (intro W hW; go_simp; done)); go_big_quiet_on; simp only [Act.put, List.setIfInBounds_toArray, List.set_cons_zero, List.set_cons_succ])
         | (refine quiet_val10 (.bool !L) ?_ ?_; (focus (intro W hW; go_simp; done)); go_big_quiet_on; simp only [Act.put, List.setIfInBounds_toArray, List.set_cons_zero, List.set_cons_succ])
         | (go_big_quiet_op; go_big_quiet_on)))
  refine wpQuiet_nil ?_
  intro w9 hw9
  have H9 : Hid (Grw w w9) := hw9
  clear hw9
  go_wp2
  go_ret
  exact ⟨rfl, H9.out⟩
set_option maxHeartbeats 4000000 in
set_option maxRecDepth 100000 in
theorem search_name (bx bi g : Nat) (ps : List ByteArray) (l : List Mr) (x : ByteArray) (w : World) (hx : w.cell? ⟨bx, 0, none⟩ = some (.pointer (some ⟨g, 0, none⟩))) (hi : Bk w bi (idc x) 48) (hx32 : x.size = 32) (h : MxS w g ps l) (hri : RiM l) :
    Calls Tryz.prog 44 #[.int .i64 (l.length : Int), .func (.func 42) #[] #[.pointer (some ⟨bx, 0, none⟩), .pointer (some ⟨bi, 0, none⟩)]] w fun e w' => e = .returned (.int .i64 (cntN (l.map Mr.e) x : Int)) ∧ Grw w w' := by
  have hll := h.ll
  have lx := block_lt_of_cell hx
  have hget : ∀ i, i < l.length → ∃ r, l[i]? = some r := fun i hi => ⟨_, List.getElem?_eq_getElem hi⟩
  have hmap : ∀ (i : Nat) (r : Mr), l[i]? = some r → (l.map Mr.e)[i]? = some r.e := fun i r hr => by rw [List.getElem?_map, hr]; rfl
  let p : Nat → Bool := fun i => match l[i]? with | some r => !ltN r.e.id x | none => true
  have hp : ∀ (i : Nat) (r : Mr), l[i]? = some r → p i = !ltN r.e.id x := fun i r hr => by simp only [p, hr]
  have hfan : ∀ (i : Nat) (r : Mr), l[i]? = some r → (p i = true ↔ ¬ i < cntN (l.map Mr.e) x) := fun i r hr => by
    rw [hp i r hr]
    have := Rise.cnt hri (hmap i r hr) x
    cases hq : ltN r.e.id x with
    | true => simp; exact Nat.not_le.2 (this.1 hq) |> Nat.lt_of_not_le
    | false =>
      constructor
      · intro _ q
        have := this.2 q
        rw [hq] at this; cases this
      · intro _; rfl
  have q := Any.sort_Search (P := Tryz.prog) laysO16 42 #[.pointer (some ⟨bx, 0, none⟩), .pointer (some ⟨bi, 0, none⟩)] l.length p w (fun _ _ => by kernel_rfl) (by omega) (fun m os i hi' => ?_) (fun a b hab hb ha => ?_)
  · refine q.mono fun e w' ⟨q1, q2⟩ => ⟨?_, q2⟩
    rw [q1]
    have hF : cntN (l.map Mr.e) x ≤ l.length := by
      have : cntN (l.map Mr.e) x ≤ (l.map Mr.e).length := List.countP_le_length
      rwa [List.length_map] at this
    rw [range_cntF (F := cntN (l.map Mr.e) x) (fun i hi => ?_) hF]
    obtain ⟨r, hr⟩ := hget i hi
    have := hfan i r hr
    by_cases h3 : i < cntN (l.map Mr.e) x
    · rw [decide_eq_true h3]
      cases hq : p i with
      | true => exact absurd h3 (this.1 hq)
      | false => rfl
    · rw [decide_eq_false h3, this.2 h3]; rfl
  · obtain ⟨r, hr⟩ := hget i hi'
    have hG : Grw w (Sort.grow (w.drewN m) os) := ⟨m, os, rfl⟩
    rw [hp i r hr]
    exact mfind1_any bx bi g i ps l r x _ (by rw [hG.below.cell lx]; exact hx) (hi.below hG.below hi.lt) hx32 (h.below hG.below) hr
  · obtain ⟨d, hd⟩ := hget a (by omega)
    obtain ⟨e, he⟩ := hget b (by omega)
    have h1 := (hfan a d hd).1 ha
    exact (hfan b e he).2 (by omega)
end Go.Proofs.YtbfoiocbmhhdbaaGreat
/- midx.Index.Find. -/
namespace Go.Proofs.YtbfoiocbmhhdbaaGreat
open Go.RowKit
set_option linter.unusedSimpArgs false
set_option linter.unusedVariables false
/-- What Find finds, and answers. -/
def mfnd (l : List Mr) (x : ByteArray) : Option Mr := match l[cntN (l.map Mr.e) x]? with
  | some r => if r.e.id = x then some r else none
  | none => none
def mfdV : Option Mr → Value
  | none => .tuple #[.agg z67, .int .i64 6]
  | some r => .tuple #[.agg (mrC r), .int .i64 0]
theorem mfnd_end {l : List Mr} {x : ByteArray} (h : cntN (l.map Mr.e) x = l.length) : mfnd l x = none := by
  rw [mfnd, h, List.getElem?_eq_none (Nat.le_refl _)]
theorem mfnd_at {l : List Mr} {x : ByteArray} {r : Mr} (h : l[cntN (l.map Mr.e) x]? = some r) : mfnd l x = if r.e.id = x then some r else none := by
  rw [mfnd, h]
/-- While it is sought. -/
structure FmS (w : World) (g : Nat) (x : ByteArray) (ps : List ByteArray) (l : List Mr) (W : World) : Prop where
  b0 : W.cell? ⟨w.heap.size, 0, none⟩ = some (.pointer (some ⟨g, 0, none⟩))
  b1 : Bk W (w.heap.size + 1) (idc x) 48
  b2 : Bk W (w.heap.size + 1 + 1) z67 52
  mx : MxS W g ps l
  bel : Below w.heap.size w W
theorem FmS.next {w W W' : World} {g : Nat} {x : ByteArray} {ps : List ByteArray} {l : List Mr} (h : FmS w g x ps l W) (hb : Below W.heap.size W W') : FmS w g x ps l W' :=
  ⟨by rw [hb.cell (block_lt_of_cell h.b0)]; exact h.b0, h.b1.below hb h.b1.lt, h.b2.below hb h.b2.lt, h.mx.below hb, h.bel.trans (hb.mono h.bel.size)⟩
theorem zc67 : Tryz.zeroCells52 = z67 := by kernel_rfl
set_option maxHeartbeats 8000000 in
set_option maxRecDepth 100000 in
theorem mfind_any (g : Nat) (x : ByteArray) (ps : List ByteArray) (l : List Mr) (w : World) (h : MxS w g ps l) (hri : RiM l) (hx : x.size = 32) :
    Calls Tryz.prog 19 #[.pointer (some ⟨g, 0, none⟩), .agg (idc x)] w fun e w' => e = .returned (mfdV (mfnd l x)) ∧ Below w.heap.size w w' := by
  have hS0 : FmS w g x ps l (((w.alloc (.cells #[.pointer (some ⟨g, 0, none⟩)] 28)).alloc (.cells (idc x) 48)).alloc (.cells Tryz.zeroCells52 52)) := by
    have q1 := bk_new w #[.pointer (some ⟨g, 0, none⟩)] 28
    have q2 := bk_new (w.alloc (.cells #[.pointer (some ⟨g, 0, none⟩)] 28)) (idc x) 48
    have q3 := bk_new ((w.alloc (.cells #[.pointer (some ⟨g, 0, none⟩)] 28)).alloc (.cells (idc x) 48)) Tryz.zeroCells52 52
    rw [al_size] at q2
    rw [al_size, al_size, zc67] at q3
    rw [zc67]
    have hb : Below w.heap.size w (((w.alloc (.cells #[.pointer (some ⟨g, 0, none⟩)] 28)).alloc (.cells (idc x) 48)).alloc (.cells z67 52)) := (((Below.refl _ _).alloc (Nat.le_refl _) _).alloc (by rw [al_size]; omega) _).alloc (by rw [al_size, al_size]; omega) _
    exact ⟨by rw [((q1.alloc _).alloc _).cell]; rfl, q2.alloc _, q3, h.below hb, hb⟩
  have HSN : Hid (∀ W, FmS w g x ps l W → Calls Tryz.prog 44 #[.int .i64 (l.length : Int), .func (.func 42) #[] #[.pointer (some ⟨w.heap.size, 0, none⟩), .pointer (some ⟨w.heap.size + 1, 0, none⟩)]] W fun e w' => e = .returned (.int .i64 (cntN (l.map Mr.e) x : Int)) ∧ FmS w g x ps l w') := fun W hW => (search_name w.heap.size (w.heap.size + 1) g ps l x W hW.b0 hW.b1 hx hW.mx hri).mono fun e w' q => ⟨q.1, hW.next q.2.below⟩
  have hF : cntN (l.map Mr.e) x ≤ l.length := by
    have : cntN (l.map Mr.e) x ≤ (l.map Mr.e).length := List.countP_le_length
    rwa [List.length_map] at this
  have hll := h.ll
  obtain ⟨gp, gr, h1, h2, h3⟩ := h.row
  have hgl := h1.lt
  obtain ⟨n, hn⟩ : ∃ n, l.length = n := ⟨_, rfl⟩
  have HG : Hid (∀ W, FmS w g x ps l W → W.cell? ⟨g, 1, none⟩ = some (.slice (some ⟨gr, 0, none⟩) n n) ∧ MrL W (some ⟨gr, 0, none⟩) l) := fun W hW => ⟨by rw [(h1.below hW.bel h1.lt).cell, ← hn]; rfl, h3.below hW.bel⟩
  obtain ⟨k, hk⟩ : ∃ k, cntN (l.map Mr.e) x = k := ⟨_, rfl⟩
  have HME : Hid (k = n → mfnd l x = none) := fun q => mfnd_end (by rw [hk, hn]; exact q)
  have HMA : Hid (∀ r, l[k]? = some r → mfnd l x = if r.e.id = x then some r else none) := fun r hr => mfnd_at (by rw [hk]; exact hr)
  have HLN : Hid (l.length = n) := hn
  rw [hk] at hF HSN
  rw [hn] at hF hll HSN
  obtain ⟨Y, hY⟩ : ∃ Y, idc x = Y := ⟨_, rfl⟩
  have HY : Hid (idc x = Y ∧ x.size = 32) := ⟨hY, hx⟩
  rw [hY] at hS0 ⊢
  obtain ⟨W3, hW3⟩ : ∃ W3, (((w.alloc (.cells #[.pointer (some ⟨g, 0, none⟩)] 28)).alloc (.cells Y 48)).alloc (.cells Tryz.zeroCells52 52)) = W3 := ⟨_, rfl⟩
  rw [hW3] at hS0
  have H3 : Hid (FmS w g x ps l W3) := hS0
  have HW3 : Hid ((((w.alloc (.cells #[.pointer (some ⟨g, 0, none⟩)] 28)).alloc (.cells Y 48)).alloc (.cells Tryz.zeroCells52 52)) = W3) := hW3
  have hmf : ∀ (fn : Fn) (first cap : Array Value) (w : World), (Instr.makeFunc fn first cap).run Tryz.prog w = .ok (.func fn first cap) w := fun _ _ _ _ => rfl
  have hbz := build_mz
  clear hS0 hW3 h h1 h2 h3 hn hk hY hri hx
  go_enter Tryz.func19, Tryz.ntmps19
  go_upto_region 1 with fail
  rw [HW3.out]
  have c1 := H3.out.b0
  have c2 := (HG.out _ H3.out).1
  go_wp2_with fail
  refine (HSN.out W3 H3.out).mono ?_
  rintro e w4 ⟨rfl, hw4⟩
  have H4 : Hid (FmS w g x ps l w4) := hw4
  clear hw4 c1 c2
  have H4d : Hid (FmS w g x ps l w4.drew) := H4.out.next ((Below.refl _ _).drew)
  by_cases hkn : k = n
  · have HFN : Hid (mfnd l x = none) := HME.out hkn
    subst hkn
    clear HME HMA HSN
    go_wp2_with fail
    refine region_class10 (FmS w g x ps l) (by kernel_rfl) (by kernel_rfl) H4d.out ?_
    try simp only [Act.put, List.setIfInBounds_toArray, List.set_cons_zero, List.set_cons_succ]
    repeat (first
      | go_big_quiet_skip
      | (go_big_quiet_want
         first
           | (refine quiet_one 28 _ rfl w.heap.size 0 (.pointer (some ⟨g, 0, none⟩)) rfl (fun _ => by kernel_rfl) (fun _ h => h.b0) ?_; go_big_quiet_on; simp only [Act.put, List.setIfInBounds_toArray, List.set_cons_zero, List.set_cons_succ])
           | (refine quiet_one 58 _ rfl g 1 (.slice (some ⟨gr, 0, none⟩) k k) rfl (fun _ => by kernel_rfl) (fun W hW => (HG.out W hW).1) ?_; go_big_quiet_on; simp only [Act.put, List.setIfInBounds_toArray, List.set_cons_zero, List.set_cons_succ])
           | (refine quiet_val10 (.pointer (some ⟨g, 0, none⟩)) ?_ ?_; (focus (intro W hW; go_simp; done)); go_big_quiet_on; simp only [Act.put, List.setIfInBounds_toArray, List.set_cons_zero, List.set_cons_succ])
           | (refine quiet_val10 (.pointer (some ⟨g, 1, none⟩)) ?_ ?_; (focus (intro W hW; go_simp; done)); go_big_quiet_on; simp only [Act.put, List.setIfInBounds_toArray, List.set_cons_zero, List.set_cons_succ])
           | (refine quiet_val10 (.int .i64 (k : Int)) ?_ ?_; (focus (intro W hW; go_simp; done)); go_big_quiet_on; simp only [Act.put, List.setIfInBounds_toArray, List.set_cons_zero, List.set_cons_succ])
           | (refine quiet_val10 (.bool false) ?_ ?_; (focus (intro W hW; go_simp; done)); go_big_quiet_on; simp only [Act.put, List.setIfInBounds_toArray, List.set_cons_zero, List.set_cons_succ])
           | (refine quiet_val10 (.bool true) ?_ ?_; (focus (intro W hW; go_simp; done)); go_big_quiet_on; simp only [Act.put, List.setIfInBounds_toArray, List.set_cons_zero, List.set_cons_succ])
           | (go_big_quiet_op; go_big_quiet_on)))
    refine wpQuiet_nil ?_
    intro w6 hw6
    have H6 : Hid (FmS w g x ps l w6) := hw6
    clear hw6 H4 H4d
    go_wp2_with (first
      | (refine wpList_bdX0 rfl 52 rfl (.agg z67) (hbz _) ?_)
      | (refine wpList_stoX rfl 52 (.tmp 4) (.tmp 39) rfl (w.heap.size + 1 + 1) z67 z67 52 rfl rfl H6.out.b2 inf_mr67 rfl (by rw [z67_is]; exact mrC_all _) ?_; intro w7 HB7 HG7)
      | fail)
    refine bodyPost_ret (results_cell_tmp_row rfl _ _ (w.heap.size + 1 + 1) 52 z67 (0, 0) _ rfl HB7.out Tryz.underlying52 rfl inf_mr67) rfl ⟨by rw [HFN.out]; rfl, ?_⟩
    exact below_own H6.out.bel H6.out.bel.size HG7.out (by omega)
  · have hlt : k < n := by omega
    obtain ⟨r, hr⟩ : ∃ r, l[k]? = some r := ⟨_, List.getElem?_eq_getElem (by rw [HLN.out]; exact hlt)⟩
    have hkz : (k : Int) < (n : Int) := by omega
    have hneb : ((k : Int) == (n : Int)) = false := by rw [beq_eq_false_iff_ne]; omega
    obtain ⟨⟨hp32, h32⟩, _⟩ := (HG.out w4 H4.out).2 k r hr
    have HCL : Hid (∀ W, FmS w g x ps l W → ∀ j v, (mrC r)[j]? = some v → W.cell? ⟨gr, k * 67 + j, none⟩ = some v) := fun W hW j v hv => by
      obtain ⟨_, g', o', k1, k2, k3⟩ := (HG.out W hW).2 k r hr
      simp only [Option.some.injEq, Addr.mk.injEq] at k1
      obtain ⟨rfl, rfl, _⟩ := k1
      have := k3 j v hv
      rwa [Nat.zero_add] at this
    have C5 : Hid (∀ W, FmS w g x ps l W → ∀ j v, (idc r.e.id)[j]? = some v → W.cell? ⟨gr, k * 67 + 32 + j, none⟩ = some v) := fun W hW j v hv => by
      have := HCL.out W hW (32 + j) v (mrC_id r hp32 h32 j v hv)
      rwa [← Nat.add_assoc] at this
    have hNE := neq_ids r.e.id x h32 HY.out.2
    have HID : Hid ((Tryz.prog.info? 48).map (·.size) = some (idc r.e.id).size) := info_32 (by rw [idc_size, h32])
    have HIY : Hid ((Tryz.prog.info? 48).map (·.size) = some Y.size) := by rw [← HY.out.1]; exact info_32 (by rw [idc_size, HY.out.2])
    obtain ⟨D, hD⟩ : ∃ D, idc r.e.id = D := ⟨_, rfl⟩
    obtain ⟨X, hXe⟩ : ∃ X, mrC r = X := ⟨_, rfl⟩
    have HXE : Hid (mrC r = X) := hXe
    have HIX : Hid ((Tryz.prog.info? 52).map (·.size) = some X.toList.length ∧ X.all (·.oneCell') = true ∧ X.size = 67) := by rw [← hXe]; exact ⟨by rw [inf_mr67, Array.length_toList, mrC_size r hp32 h32], mrC_all r, mrC_size r hp32 h32⟩
    rw [hD] at C5 HID
    rw [hXe] at HCL
    rw [hD, HY.out.1] at hNE
    have HFE : Hid (mfnd l x = if r.e.id = x then some r else none) := HMA.out r hr
    clear HMA HME HSN hr h32 hp32 hD hXe hkn
    by_cases hex : r.e.id = x
    · have HFN : Hid (mfnd l x = some r) := by
        show _ = _
        rw [HFE.out, if_pos hex]
      have hNE2 : ∀ u, (binOp .neq 48 (.agg D) (.agg Y)).run Tryz.prog u = .ok (.bool false) u := fun u => by rw [hNE u]; simp [hex]
      clear HFE hNE hex
      go_wp2_with fail
      refine region_class10 (FmS w g x ps l) (by kernel_rfl) (by kernel_rfl) H4d.out ?_
      try simp only [Act.put, List.setIfInBounds_toArray, List.set_cons_zero, List.set_cons_succ]
      repeat (first
        | go_big_quiet_skip
        | (go_big_quiet_want
           first
             | (refine quiet_one 28 _ rfl w.heap.size 0 (.pointer (some ⟨g, 0, none⟩)) rfl (fun _ => by kernel_rfl) (fun _ h => h.b0) ?_; go_big_quiet_on; simp only [Act.put, List.setIfInBounds_toArray, List.set_cons_zero, List.set_cons_succ])
             | (refine quiet_one 58 _ rfl g 1 (.slice (some ⟨gr, 0, none⟩) n n) rfl (fun _ => by kernel_rfl) (fun W hW => (HG.out W hW).1) ?_; go_big_quiet_on; simp only [Act.put, List.setIfInBounds_toArray, List.set_cons_zero, List.set_cons_succ])
             | (refine quiet_row 48 _ rfl (w.heap.size + 1) 0 Y Y 48 _ rfl (fun _ h => by rw [← HY.out.1]; exact h.b1) (fun j v hv => by rw [Nat.zero_add]; exact hv) Tryz.underlying48 rfl HIY.out ?_; go_big_quiet_on; simp only [Act.put, List.setIfInBounds_toArray, List.set_cons_zero, List.set_cons_succ])
             | (refine quiet_rowc 48 _ rfl gr (k * 67 + 32) D _ rfl C5.out Tryz.underlying48 rfl HID.out ?_; go_big_quiet_on; simp only [Act.put, List.setIfInBounds_toArray, List.set_cons_zero, List.set_cons_succ])
             | (refine quiet_val10 (.pointer (some ⟨g, 0, none⟩)) ?_ ?_; (focus (intro W hW; go_simp; done)); go_big_quiet_on; simp only [Act.put, List.setIfInBounds_toArray, List.set_cons_zero, List.set_cons_succ])
             | (refine quiet_val10 (.pointer (some ⟨g, 1, none⟩)) ?_ ?_; (focus (intro W hW; go_simp; done)); go_big_quiet_on; simp only [Act.put, List.setIfInBounds_toArray, List.set_cons_zero, List.set_cons_succ])
             | (refine quiet_val10 (.pointer (some ⟨gr, k * 67, none⟩)) ?_ ?_; (focus (intro W hW; go_simp; done)); go_big_quiet_on; simp only [Act.put, List.setIfInBounds_toArray, List.set_cons_zero, List.set_cons_succ])
             | (refine quiet_val10 (.pointer (some ⟨gr, k * 67 + 32, none⟩)) ?_ ?_; (focus (intro W hW; go_simp; done)); go_big_quiet_on; simp only [Act.put, List.setIfInBounds_toArray, List.set_cons_zero, List.set_cons_succ])
             | (refine quiet_val10 (.int .i64 (n : Int)) ?_ ?_; (focus (intro W hW; go_simp; done)); go_big_quiet_on; simp only [Act.put, List.setIfInBounds_toArray, List.set_cons_zero, List.set_cons_succ])
             | (refine quiet_val10 (.bool false) ?_ ?_; (focus (intro W hW; go_simp; done)); go_big_quiet_on; simp only [Act.put, List.setIfInBounds_toArray, List.set_cons_zero, List.set_cons_succ])
             | (refine quiet_val10 (.bool true) ?_ ?_; (focus (intro W hW; go_simp; done)); go_big_quiet_on; simp only [Act.put, List.setIfInBounds_toArray, List.set_cons_zero, List.set_cons_succ])
             | (go_big_quiet_op; go_big_quiet_on)))
      refine wpQuiet_nil ?_
      intro w6 hw6
      have H6 : Hid (FmS w g x ps l w6) := hw6
      have hc4 := (HG.out w6 hw6).1
      have hc0 := hw6.b0
      have HC6 : Hid (∀ j v, X[j]? = some v → w6.cell? ⟨gr, k * 67 + j, none⟩ = some v) := HCL.out w6 hw6
      clear hw6 H4 H4d C5 HCL
      go_wp2_with (first
        | (refine wpList_load_mid rfl 52 (.tmp 45) rfl gr (k * 67) rfl X.toList _ (fun j v hv => HC6.out j v (by rwa [Array.getElem?_toList] at hv)) Tryz.underlying52 rfl HIX.out.1 ?_)
        | (refine wpList_stoX rfl 52 (.tmp 4) (.tmp 46) rfl (w.heap.size + 1 + 1) X z67 52 rfl rfl H6.out.b2 (info_mr HIX.out.2.2) (by rw [HIX.out.2.2]; rfl) HIX.out.2.1 ?_; intro w7 HB7 HG7)
        | fail)
      refine bodyPost_ret (results_cell_tmp_row rfl _ _ (w.heap.size + 1 + 1) 52 X (0, 0) _ rfl HB7.out Tryz.underlying52 rfl (info_mr HIX.out.2.2)) rfl ⟨by rw [HFN.out, ← HXE.out]; rfl, ?_⟩
      exact below_own H6.out.bel H6.out.bel.size HG7.out (by omega)
    · have HFN : Hid (mfnd l x = none) := by
        show _ = _
        rw [HFE.out, if_neg hex]
      have hNE2 : ∀ u, (binOp .neq 48 (.agg D) (.agg Y)).run Tryz.prog u = .ok (.bool true) u := fun u => by rw [hNE u]; simp [hex]
      clear HFE hNE hex
      go_wp2_with fail
      refine region_class10 (FmS w g x ps l) (by kernel_rfl) (by kernel_rfl) H4d.out ?_
      try simp only [Act.put, List.setIfInBounds_toArray, List.set_cons_zero, List.set_cons_succ]
      repeat (first
        | go_big_quiet_skip
        | (go_big_quiet_want
           first
             | (refine quiet_one 28 _ rfl w.heap.size 0 (.pointer (some ⟨g, 0, none⟩)) rfl (fun _ => by kernel_rfl) (fun _ h => h.b0) ?_; go_big_quiet_on; simp only [Act.put, List.setIfInBounds_toArray, List.set_cons_zero, List.set_cons_succ])
             | (refine quiet_one 58 _ rfl g 1 (.slice (some ⟨gr, 0, none⟩) n n) rfl (fun _ => by kernel_rfl) (fun W hW => (HG.out W hW).1) ?_; go_big_quiet_on; simp only [Act.put, List.setIfInBounds_toArray, List.set_cons_zero, List.set_cons_succ])
             | (refine quiet_row 48 _ rfl (w.heap.size + 1) 0 Y Y 48 _ rfl (fun _ h => by rw [← HY.out.1]; exact h.b1) (fun j v hv => by rw [Nat.zero_add]; exact hv) Tryz.underlying48 rfl HIY.out ?_; go_big_quiet_on; simp only [Act.put, List.setIfInBounds_toArray, List.set_cons_zero, List.set_cons_succ])
             | (refine quiet_rowc 48 _ rfl gr (k * 67 + 32) D _ rfl C5.out Tryz.underlying48 rfl HID.out ?_; go_big_quiet_on; simp only [Act.put, List.setIfInBounds_toArray, List.set_cons_zero, List.set_cons_succ])
             | (refine quiet_val10 (.pointer (some ⟨g, 0, none⟩)) ?_ ?_; (focus (intro W hW; go_simp; done)); go_big_quiet_on; simp only [Act.put, List.setIfInBounds_toArray, List.set_cons_zero, List.set_cons_succ])
             | (refine quiet_val10 (.pointer (some ⟨g, 1, none⟩)) ?_ ?_; (focus (intro W hW; go_simp; done)); go_big_quiet_on; simp only [Act.put, List.setIfInBounds_toArray, List.set_cons_zero, List.set_cons_succ])
             | (refine quiet_val10 (.pointer (some ⟨gr, k * 67, none⟩)) ?_ ?_; (focus (intro W hW; go_simp; done)); go_big_quiet_on; simp only [Act.put, List.setIfInBounds_toArray, List.set_cons_zero, List.set_cons_succ])
             | (refine quiet_val10 (.pointer (some ⟨gr, k * 67 + 32, none⟩)) ?_ ?_; (focus (intro W hW; go_simp; done)); go_big_quiet_on; simp only [Act.put, List.setIfInBounds_toArray, List.set_cons_zero, List.set_cons_succ])
             | (refine quiet_val10 (.int .i64 (n : Int)) ?_ ?_; (focus (intro W hW; go_simp; done)); go_big_quiet_on; simp only [Act.put, List.setIfInBounds_toArray, List.set_cons_zero, List.set_cons_succ])
             | (refine quiet_val10 (.bool false) ?_ ?_; (focus (intro W hW; go_simp; done)); go_big_quiet_on; simp only [Act.put, List.setIfInBounds_toArray, List.set_cons_zero, List.set_cons_succ])
             | (refine quiet_val10 (.bool true) ?_ ?_; (focus (intro W hW; go_simp; done)); go_big_quiet_on; simp only [Act.put, List.setIfInBounds_toArray, List.set_cons_zero, List.set_cons_succ])
             | (go_big_quiet_op; go_big_quiet_on)))
      refine wpQuiet_nil ?_
      intro w6 hw6
      have H6 : Hid (FmS w g x ps l w6) := hw6
      clear hw6 H4 H4d
      go_wp2_with (first
        | (refine wpList_bdX0 rfl 52 rfl (.agg z67) (hbz _) ?_)
        | (refine wpList_stoX rfl 52 (.tmp 4) (.tmp 39) rfl (w.heap.size + 1 + 1) z67 z67 52 rfl rfl H6.out.b2 inf_mr67 rfl (by rw [z67_is]; exact mrC_all _) ?_; intro w7 HB7 HG7)
        | fail)
      refine bodyPost_ret (results_cell_tmp_row rfl _ _ (w.heap.size + 1 + 1) 52 z67 (0, 0) _ rfl HB7.out Tryz.underlying52 rfl inf_mr67) rfl ⟨by rw [HFN.out]; rfl, ?_⟩
      exact below_own H6.out.bel H6.out.bel.size HG7.out (by omega)

end Go.Proofs.YtbfoiocbmhhdbaaGreat
