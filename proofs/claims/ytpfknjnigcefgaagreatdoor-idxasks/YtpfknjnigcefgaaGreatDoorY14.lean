import Derived.Test.YtpfknjnigcefgaaGreatDoorY13
import Derived.Test.YtpfknjnigcefgaaGreatDoorY12
/- idx.Index.Find: its closure. -/
namespace Go.Proofs.YtpfknjnigcefgaaGreatDoor
open Go.RowKit
set_option linter.unusedSimpArgs false
set_option linter.unusedVariables false
/-- Worlds that have grown out of this one. -/
def Grw (W0 W : World) : Prop := ∃ q os, W = Sort.grow (W0.drewN q) os
theorem Grw.drew (W0 : World) : Grw W0 W0.drew := ⟨1, #[], by rw [Sort.grow_empty]; rfl⟩
theorem Grw.next {W0 W W' : World} (h : Grw W0 W) (h' : Grw W W') : Grw W0 W' := by
  obtain ⟨q, os, rfl⟩ := h
  obtain ⟨q', os', rfl⟩ := h'
  refine ⟨q + q', os ++ os', ?_⟩
  show Sort.grow (Sort.grow ((W0.drewN q).drewN q') os) os' = _
  rw [Sort.grow_grow, World.drewN_drewN]
theorem Grw.below {W0 W : World} (h : Grw W0 W) : Below W0.heap.size W0 W := by
  obtain ⟨q, os, rfl⟩ := h
  exact grow_below _ _ _
theorem ret_bX {a b : Bool} (h : b = a) : Ending.returned (.bool a) = .returned (.bool b) := by rw [h]
set_option maxHeartbeats 4000000 in
set_option maxRecDepth 100000 in
theorem find1_any (bx bf bi g f i : Nat) (s x : ByteArray) (l : List Xe) (e : Xe) (w : World) (hx : w.cell? ⟨bx, 0, none⟩ = some (.pointer (some ⟨g, 0, none⟩))) (hf : w.cell? ⟨bf, 0, none⟩ = some (.int .i64 (f : Int)))
    (hi : Bk w bi (idc x) 23) (hx32 : x.size = 32) (h : IxS w g s l) (hn : l.length ≤ 65536) (he : l[f + i]? = some e) :
    Calls Tryz.prog 78 (#[.int .i64 (i : Int)] ++ #[.pointer (some ⟨bx, 0, none⟩), .pointer (some ⟨bf, 0, none⟩), .pointer (some ⟨bi, 0, none⟩)]) w fun r w' => r = .returned (.bool (!ltN e.id x)) ∧ Grw w w' := by
  obtain ⟨a, n, c, hB, hX, hl, hc, hA⟩ := h.row
  obtain ⟨m, hm⟩ : ∃ m, f + i = m := ⟨_, rfl⟩
  rw [hm] at he
  have hmn : m < n := by rw [← hl]; exact (List.getElem?_eq_some_iff.1 he).1
  have hmz : (m : Int) < (n : Nat) := by omega
  have hm0 : (0 : Int) ≤ m := by omega
  have hadd : (f : Int) + (i : Int) = (m : Int) := by omega
  have hwr : IntKind.i64.wrap (m : Int) = (m : Int) := by rw [IntKind.wrap_i64]; omega
  obtain ⟨ga, oa, rfl, hga, h32, hcells⟩ := hX.get he
  have lx := block_lt_of_cell hx
  have lf := block_lt_of_cell hf
  have C1 : Hid (∀ W, Grw w W → W.cell? ⟨bx, 0, none⟩ = some (.pointer (some ⟨g, 0, none⟩))) := fun W hW => by rw [hW.below.cell lx]; exact hx
  have C2 : Hid (∀ W, Grw w W → W.cell? ⟨bf, 0, none⟩ = some (.int .i64 (f : Int))) := fun W hW => by rw [hW.below.cell lf]; exact hf
  have C3 : Hid (∀ W, Grw w W → Bk W bi (idc x) 23) := fun W hW => hi.below hW.below hi.lt
  have C4 : Hid (∀ W, Grw w W → W.cell? ⟨g, 288, none⟩ = some (.slice (some ⟨ga, oa, none⟩) n c)) := fun W hW => by
    rw [(hB.below hW.below hB.lt).cell]; exact ixC_row s _ _ h.id
  have C5 : Hid (∀ W, Grw w W → ∀ j v, (idc e.id)[j]? = some v → W.cell? ⟨ga, oa + m * 35 + j, none⟩ = some v) := fun W hW j v hv => by
    rw [hW.below.cell hga]; exact hcells j v (by have := xeC_id e h32 j v hv; rwa [Nat.zero_add] at this)
  have C6 : Hid (∀ W, Grw w W → Calls Tryz.prog 59 #[.agg (idc e.id), .agg (idc x)] W fun r w' => r = .returned (.bool (ltN e.id x)) ∧ Grw w w') := fun W hW => (less_grow e.id x W h32 hx32).mono fun r w' ⟨q1, q2⟩ => ⟨q1, hW.next q2⟩
  have HI1 : Hid ((Tryz.prog.info? 23).map (·.size) = some (idc e.id).size ∧ (Tryz.prog.info? 23).map (·.size) = some (idc x).size) := ⟨info_32 (by rw [idc_size, h32]), info_32 (by rw [idc_size, hx32])⟩
  obtain ⟨L, hL⟩ : ∃ L, ltN e.id x = L := ⟨_, rfl⟩
  obtain ⟨D, hD⟩ : ∃ D, idc e.id = D := ⟨_, rfl⟩
  obtain ⟨Y, hY⟩ : ∃ Y, idc x = Y := ⟨_, rfl⟩
  rw [hL, hD, hY] at C6
  rw [hD] at C5
  rw [hY] at C3
  rw [hD, hY] at HI1
  rw [hL]
  clear hx hf hi hx32 h hB hX hl hc hA hcells he h32 hL hD hY
  show Calls Tryz.prog 78 #[.int .i64 (i : Int), .pointer (some ⟨bx, 0, none⟩), .pointer (some ⟨bf, 0, none⟩), .pointer (some ⟨bi, 0, none⟩)] w _
  go_enter Tryz.func78, Tryz.ntmps78
  go_wp2_with fail
  refine region_class10 (Grw w) (by kernel_rfl) (by kernel_rfl) (Grw.drew w) ?_
  try simp only [Act.put, List.setIfInBounds_toArray, List.set_cons_zero, List.set_cons_succ]
  repeat (first
    | go_big_quiet_skip
    | (go_big_quiet_want
       first
         | (refine quiet_one 41 _ rfl bx 0 (.pointer (some ⟨g, 0, none⟩)) rfl (fun _ => by kernel_rfl) C1.out ?_; go_big_quiet_on; simp only [Act.put, List.setIfInBounds_toArray, List.set_cons_zero, List.set_cons_succ])
         | (refine quiet_one 3 _ rfl bf 0 (.int .i64 (f : Int)) rfl (fun _ => by kernel_rfl) C2.out ?_; go_big_quiet_on; simp only [Act.put, List.setIfInBounds_toArray, List.set_cons_zero, List.set_cons_succ])
         | (refine quiet_one 25 _ rfl g 288 (.slice (some ⟨ga, oa, none⟩) n c) rfl (fun _ => by kernel_rfl) C4.out ?_; go_big_quiet_on; simp only [Act.put, List.setIfInBounds_toArray, List.set_cons_zero, List.set_cons_succ])
         | (refine quiet_row 23 _ rfl bi 0 Y Y 23 _ rfl C3.out (fun j v hv => by rw [Nat.zero_add]; exact hv) Tryz.underlying23 rfl HI1.out.2 ?_; go_big_quiet_on; simp only [Act.put, List.setIfInBounds_toArray, List.set_cons_zero, List.set_cons_succ])
         | (refine quiet_rowc 23 _ rfl ga (oa + m * 35) D _ rfl C5.out Tryz.underlying23 rfl HI1.out.1 ?_; go_big_quiet_on; simp only [Act.put, List.setIfInBounds_toArray, List.set_cons_zero, List.set_cons_succ])
         | (refine quiet_call10 (.bool L) 59 #[.agg D, .agg Y] ?_ ?_ ?_; (focus (intro W hW; go_simp; done)); (focus (intro W hW; exact C6.out W hW)); go_big_quiet_on; simp only [Act.put, List.setIfInBounds_toArray, List.set_cons_zero, List.set_cons_succ])
         | (refine quiet_val10 (.pointer (some ⟨g, 0, none⟩)) ?_ ?_; (focus (intro W hW; go_simp; done)); go_big_quiet_on; simp only [Act.put, List.setIfInBounds_toArray, List.set_cons_zero, List.set_cons_succ])
         | (refine quiet_val10 (.pointer (some ⟨g, 288, none⟩)) ?_ ?_; (focus (intro W hW; go_simp; done)); go_big_quiet_on; simp only [Act.put, List.setIfInBounds_toArray, List.set_cons_zero, List.set_cons_succ])
         | (refine quiet_val10 (.int .i64 (m : Int)) ?_ ?_; (focus (intro W hW; go_simp; done)); go_big_quiet_on; simp only [Act.put, List.setIfInBounds_toArray, List.set_cons_zero, List.set_cons_succ])
         | (refine quiet_val10 (.pointer (some ⟨ga, oa + m * 35, none⟩)) ?_ ?_; (focus (intro W hW; go_simp; done)); go_big_quiet_on; simp only [Act.put, List.setIfInBounds_toArray, List.set_cons_zero, List.set_cons_succ])
         | (refine quiet_val10 (.bool !L) ?_ ?_; (focus (intro W hW; go_simp; done)); go_big_quiet_on; simp only [Act.put, List.setIfInBounds_toArray, List.set_cons_zero, List.set_cons_succ])
         | (go_big_quiet_op; go_big_quiet_on)))
  refine wpQuiet_nil ?_
  intro w9 hw9
  have H9 : Hid (Grw w w9) := hw9
  clear hw9
  go_wp2
  go_ret
  exact ⟨rfl, H9.out⟩
end Go.Proofs.YtpfknjnigcefgaaGreatDoor
/- The document's Sorted. -/
namespace Go.Proofs.YtpfknjnigcefgaaGreatDoor
open Go.RowKit
set_option linter.unusedSimpArgs false
set_option linter.unusedVariables false
def slN : Value → Nat
  | .slice _ n _ => n
  | _ => 0
theorem rbs_none (w : World) : (Instr.buildSlice 24 0 #[]).run Tryz.prog w = .ok (.slice (some ⟨w.heap.size, 0, none⟩) 0 0) (w.alloc (.cells #[] 56)) := by kernel_rfl
/-- The document's Less, as a contract handed in. -/
def RLess : Prop := ∀ (a b : ByteArray) (w : World), a.size = 32 → b.size = 32 → Calls Tryz.prog 40 #[.agg (idc a), .agg (idc b)] w fun e w' => e = .returned (.bool (ltN a b)) ∧ Below w.heap.size w w'
/-- What Sorted tells. -/
def SoS (w : World) (l : List Xe) (n : Nat) (e : Ending) (w' : World) : Prop := ∃ g c' L, e = .returned (.slice (some ⟨g, 0, none⟩) n c') ∧ w'.ownsRow w.heap.size 56 35 (.slice (some ⟨g, 0, none⟩) n c') n (xvs L) ∧ L.Perm l ∧ Srt L ∧ Below w.heap.size w w'
set_option maxHeartbeats 1000000 in
set_option maxRecDepth 100000 in
theorem rsorted_small (l : List Xe) (ad : Addr) (n c : Nat) (w : World) (hX : XeL w (some ad) l) (hl : l.length = n) (hn : n < 2) : Calls Tryz.prog 32 #[.slice (some ad) n c] w fun e w' => SoS w l n e w' := by
  have hnz : (n : Int) < 2 := by omega
  have hown0 : (w.alloc (.cells #[] 56)).ownsRow w.heap.size 56 35 (.slice (some ⟨w.heap.size, 0, none⟩) 0 0) 0 [] :=
    ⟨rfl, .inr ⟨w.heap.size, 0, #[], rfl, Nat.le_refl _, bk_new w #[] 56, Nat.le_refl _, by unfold maxLen; omega, rfl, rfl⟩⟩
  have hb0 : Below w.heap.size w (w.alloc (.cells #[] 56)) := (Below.refl _ _).alloc (Nat.le_refl _) _
  obtain ⟨a, cp, w7, hrun, hown, hg, hcp, hsome⟩ := rapp (l := []) (m := l) hown0 (by rw [al_size]; omega) (by simp) ad c (hX.below hb0) (by simp; omega)
  obtain ⟨g, rfl⟩ := hsome (by simp)
  simp only [List.length_nil, Nat.zero_add, List.nil_append] at hrun hown
  rw [hl] at hrun hown
  have hbs := rbs_none
  have HR : Hid (SoS w l n (.returned (.slice (some ⟨g, 0, none⟩) n cp)) w7) := ⟨g, cp, l, rfl, hown, List.Perm.refl _, by
    match l, hl with
    | [], _ => exact List.Pairwise.nil
    | [e], _ => exact List.pairwise_singleton _ _
    | _ :: _ :: _, hl => simp at hl; omega, rows_bel hb0 (by rw [al_size]; omega) hown0 (Nat.le_refl _) hg⟩
  clear hX hl hown0 hb0 hown hg hcp hsome
  go_enter Tryz.func32, Tryz.ntmps32
  go_wp2_with (first
    | (refine wpList_appX rfl (.tmp 9) (.tmp 10) 24 24 rfl (.slice (some ⟨w.heap.size, 0, none⟩) 0 0) (.slice (some ad) n c) (.slice (some ⟨g, 0, none⟩) n cp) w7 rfl rfl hrun ?_)
    | fail)
  go_ret
  exact HR.out
end Go.Proofs.YtpfknjnigcefgaaGreatDoor
