/- digest.begin, digest.State.end. -/
import Derived.Test.YtbfdggkoildfkaaDoorD5
import Derived.Test.YtbfdggkoildfkaaDoorW3F
namespace Go.Proofs.YtbfdggkoildfkaaDoor
open Go.RowKit
set_option linter.unusedSimpArgs false
set_option linter.unusedVariables false
/-- The listed first numbers. -/
def HIs (w : World) : Prop := ∀ t, t < 8 → w.cell? ⟨0, t, none⟩ = some (c32 (H0.list.getD t 0))
theorem HIs.grown {w w' : World} {r : Option Nat} (h : HIs w) (hg : w.grownBy w' r) (hr : r ≠ some 0) : HIs w' := fun t ht => hg.cell (h t ht) (fun e => hr e.symm)
/-- 64 noughts. -/
def z64 : List Nat := List.replicate 64 0
def V0 : V8 := ⟨0, 0, 0, 0, 0, 0, 0, 0⟩
/-- A state of noughts. -/
def zst : Array Value := stc V0 z64 0
theorem zero_state : (Tryd.prog.info? 52).map (fun i => (i.zero, i.size)) = some (some (.agg zst), 73) := by kernel_rfl
theorem zst_size : zst.size = 73 := stc_size _ _ _ rfl
theorem info_st (h : V8) (m : List Nat) (n : Nat) (hm : m.length = 64) : (Tryd.prog.info? 52).map (·.size) = some (stc h m n).size := by
  rw [(zero_of_info zero_state).2, stc_size _ _ _ hm]
theorem stc_one (h : V8) (m : List Nat) (n : Nat) : (stc h m n).all (·.oneCell') = true := by
  rw [Array.all_eq_true_iff_forall_mem]
  intro x hx
  simp only [stc, Array.mem_push, Array.mem_append, List.mem_toArray, v8c, bvc, List.mem_map] at hx
  rcases hx with (hx | ⟨y, _, rfl⟩) | rfl
  · simp at hx
    rcases hx with rfl | rfl | rfl | rfl | rfl | rfl | rfl | rfl <;> rfl
  · rfl
  · rfl
theorem bld0 : Array.foldl (fun (cs : Array Value) (x : Value × Nat) => cs.setIfInBounds x.snd x.fst) zst (v8c H0).zipIdx 0 (v8c H0).size = stc H0 z64 0 := by kernel_rfl
set_option maxHeartbeats 400000 in
set_option maxRecDepth 100000 in
theorem begin_any (w : World) (hH : HIs w) :
    Calls Tryd.prog 26 #[] w fun e w' => e = .returned (.agg (stc H0 z64 0)) ∧ Below w.heap.size w w' := by
  have HH : Hid (HIs w) := hH
  clear hH
  have hz := (zero_of_info zero_state).1
  go_enter Tryd.func26, Tryd.ntmps26
  have hb0 := bld0
  have hs0 := zst_size
  have hs1 := v8c_size H0
  have hs2 := stc_size H0 z64 0 rfl
  go_wp2_with (first
    | (refine wpList_load_v8 rfl (.global 0) rfl 0 0 rfl H0 (fun j hj => by rw [Nat.zero_add]; exact (HH.out.grown (World.grownBy_alloc w _ none) (by simp)) j hj) ?_)
    | (refine wpList_store_new rfl 52 (.tmp 0) (.tmp 2) rfl (stc H0 z64 0) zst 52 w.heap.size rfl rfl rfl (info_st _ _ _ rfl) (by rw [hs0, hs2]) (stc_one _ _ _) ?_))
  refine bodyPost_ret (results_cell_row rfl _ _ w.heap.size 52 (stc H0 z64 0) (0, 0) _ rfl (blk_new _ _) Tryd.underlying52 rfl (info_st _ _ _ rfl)) rfl ⟨rfl, ?_⟩
  exact (Below.refl _ _).alloc (Nat.le_refl _) _
end Go.Proofs.YtbfdggkoildfkaaDoor
