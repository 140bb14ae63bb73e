/- digest.Of. -/
import Derived.Test.YtbfdggkoildfkaaDoorD10
namespace Go.Proofs.YtbfdggkoildfkaaDoor
open Go.RowKit
set_option linter.unusedSimpArgs false
set_option linter.unusedVariables false
set_option maxHeartbeats 400000 in
set_option maxRecDepth 100000 in
theorem of_any (k : Nat) (p : ByteArray) (w : World) (hk : k < 256) (hp : p.size ≤ 2000) (hL : Lst w) :
    Calls Tryd.prog 12 #[.int .u8 (k : Int), .string p] w fun e w' => e = .returned (.agg (shc (whl k p))) ∧ Below w.heap.size w w' := by
  have HL : Hid (Lst w) := hL
  have hlt := hL.lt
  have hz := (zero_of_info zero_state).1
  have c1 := fun o => conv1s w o (k : Int)
  have hsz := one_size (k : Int)
  have hwr : IntKind.u64.wrap (p.size : Int) = (p.size : Int) := wrap64s _ (by omega)
  have hw9 : (whl k p).length < 288230376151711744 := by simp [whl, fixN_length, byl_length]; omega
  have hp9 : (byl (sb (k :: fixN 8 p.size))).length = 9 := by rw [byl_pre k _ hk]; simp [fixN_length]
  have HP9 : Hid ((byl (sb (k :: fixN 8 p.size))).length = 9) := hp9
  have HPE : Hid (byl (sb (k :: fixN 8 p.size)) ++ byl p = whl k p) := by show _ = _; rw [byl_pre k _ hk]; rfl
  have HPS : Hid ((sb (k :: fixN 8 p.size)).size = 9) := by show _ = _; rw [sb_size]; simp [fixN_length]
  have hpe := pre_eq k p.size
  clear hL hp9
  go_enter Tryd.func12, Tryd.ntmps12
  go_wp2_with (first
    | (go_at_call 33; refine (putFixed_ok _ _ 8 _ (by omega) (by omega) (by omega) (by omega) (by omega) (by rw [hsz]; omega)).mono ?_; rintro e w0 ⟨rfl, hb0⟩; have HB0 : Hid (Below ((w.alloc (.cells z32c 23)).alloc (.cells #[.int .u8 (k : Int)] 5)).heap.size ((w.alloc (.cells z32c 23)).alloc (.cells #[.int .u8 (k : Int)] 5)) w0) := hb0; clear hb0; have hz0 : w.heap.size + 2 ≤ w0.heap.size := by { have := HB0.out.size; rw [alloc_size, alloc_size] at this; exact this })
    | (go_at_call 26; refine (begin_any _ (((HL.out.alloc _).alloc _).below HB0.out).h).mono ?_; rintro e w1 ⟨rfl, hb1⟩; have HB1 : Hid (Below w0.heap.size w0 w1) := hb1; clear hb1; have hz1 := HB1.out.size)
    | (refine wpList_store_abs rfl 52 (.tmp 7) (.tmp 18) rfl (stc H0 z64 0) _ 52 w1.heap.size rfl rfl rfl (info_st _ _ _ rfl) (by exact zst_st) (stc_one _ _ _) ?_; intro w1' HBk HG1 hsz1; have HL1 : Hid (Lst w1') := ((((HL.out.alloc _).alloc _).below HB0.out).below HB1.out).grown HG1.out (by simp); have HZ1 : Hid (Blk w1' w.heap.size z32c 23 ∧ w.grownBy w1' none) := ⟨Blk.grown (Blk.grown (Blk.grown (Blk.grown (blk_new w (.cells z32c 23)) (World.grownBy_alloc _ _ none) (by simp)) (grown_of_below HB0.out none) (by simp)) (grown_of_below HB1.out none) (by simp)) HG1.out (by simp), ((((World.grownBy_alloc w _ none).trans (World.grownBy_alloc _ _ none)).trans (grown_of_below HB0.out none)).trans (grown_of_below HB1.out none)).trans HG1.out⟩)
    | (go_at_call 27; refine (take_any _ m2 p w1.heap.size 52 w2 HS2.out HL2.out.k (by omega) (by rw [HP9.out]; omega)).mono ?_; rintro e w3 ⟨rfl, ⟨m3, hs3⟩, hg3⟩; rw [HPE.out] at hs3; have HS3 : Hid (Stt w3 w1.heap.size 52 (whl k p) m3) := hs3; have HG3 : Hid (w2.grownBy w3 (some w1.heap.size)) := hg3; have HL3 : Hid (Lst w3) := HL2.out.grown hg3 (by intro j hj; simp at hj; omega); clear hs3 hg3)
    | (go_at_call 27; refine (take_any [] z64 (sb (k :: fixN 8 p.size)) w1.heap.size 52 w1' (new_stt HBk.out) HL1.out.k (by omega) (by rw [HPS.out]; simp)).mono ?_; rintro e w2 ⟨rfl, ⟨m2, hs2⟩, hg2⟩; rw [List.nil_append] at hs2; have HS2 : Hid (Stt w2 w1.heap.size 52 (byl (sb (k :: fixN 8 p.size))) m2) := hs2; have HG2 : Hid (w1'.grownBy w2 (some w1.heap.size)) := hg2; have HL2 : Hid (Lst w2) := HL1.out.grown hg2 (by intro j hj; simp at hj; omega); clear hs2 hg2)
    | (refine wpList_load_row rfl 52 (.tmp 7) rfl w1.heap.size rfl 52 _ (0, 0) _ HS3.out.blk Tryd.underlying52 rfl (info_st _ _ _ HS3.out.sta.len) ?_)
    | (go_at_call 28; refine (end_sh HS3.out HL3.out.k hw9).mono ?_; rintro e w4 ⟨rfl, hb4⟩; have HZ : Hid (Blk w4 w.heap.size z32c 23) := Blk.grown (Blk.grown (Blk.grown HZ1.out.1 HG2.out (by simp; omega)) HG3.out (by simp; omega)) (grown_of_below hb4 none) (by simp); have HB4 : Hid (Below w3.heap.size w3 w4) := hb4; clear hb4)
    | (refine wpList_store_row rfl 23 (.tmp 4) (.tmp 24) rfl w.heap.size (shc (whl k p)) rfl rfl 23 z32c HZ.out (info_sh _) (by rw [z32c_size, shc_size]) (shc_one _) ?_))
  refine bodyPost_ret (results_cell_row rfl _ _ w.heap.size 23 (shc (whl k p)) (0, 0) _ rfl (setRow_heap _ _ _ _ _ _ HZ.out) Tryd.underlying23 rfl (info_sh _)) rfl ⟨rfl, ?_⟩
  refine below_setRow (below_of_grown ?_) (Nat.le_refl _) _
  exact ((HZ1.out.2.andThen HG2.out (fun j hj => by left; simp at hj; omega)).andThen HG3.out (fun j hj => by left; simp at hj; omega)).trans (grown_of_below HB4.out none)
end Go.Proofs.YtbfdggkoildfkaaDoor
