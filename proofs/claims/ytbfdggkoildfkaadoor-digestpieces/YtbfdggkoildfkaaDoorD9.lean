/- digest.New, State.Write, State.Sum, State.Wrote. -/
import Derived.Test.YtbfdggkoildfkaaDoorD8
import Derived.Laws.ResultCell
namespace Go.Proofs.YtbfdggkoildfkaaDoor
open Go.RowKit
set_option linter.unusedSimpArgs false
set_option linter.unusedVariables false
theorem results_cell_tmp_row {P : Program} {fn : Func} {p u : Tmp} {ty : TypeId} (h : fn.results = #[.cell p ty, .tmp u]) (tmps : Array Value) (w : World) (g : Nat) (t : TypeId) (cs : Array Value) (fr : Nat × Nat) (d : TypeDesc)
    (hp : tmps.getD p undef = .pointer (some ⟨g, 0, none⟩)) (hg : w.heap[g]? = some (.cells cs t fr))
    (hu : P.underlying ty = some d) (hd : (match d with | .struct _ | .array _ _ => true | _ => false) = true) (hi : (P.info? ty).map (·.size) = some cs.size) :
    (results fn tmps).run P w = .ok (.tuple #[.agg cs, tmps.getD u undef]) w := by
  have hp' : tmps[p]?.getD undef = .pointer (some ⟨g, 0, none⟩) := by simpa using hp
  simp [results, h, hp', asAddr, run_loadVar_row w g t ty cs fr d hg hu hd hi]
set_option maxHeartbeats 400000 in
set_option maxRecDepth 100000 in
theorem new_any (w : World) (hL : Lst w) :
    Calls Tryd.prog 19 #[] w fun e w' => ∃ b, e = .returned (.pointer (some ⟨b, 0, none⟩)) ∧ w.heap.size ≤ b ∧ Stt w' b 52 [] z64 ∧ w.grownBy w' none := by
  have HL : Hid (Lst w) := hL
  have hz := (zero_of_info zero_state).1
  clear hL
  go_enter Tryd.func19, Tryd.ntmps19
  go_wp2_with (first
    | (go_at_call 26; refine (begin_any _ HL.out.h).mono ?_; rintro e w1 ⟨rfl, hb1⟩; have HB1 : Hid (Below w.heap.size w w1) := hb1; clear hb1)
    | (refine wpList_store_abs rfl 52 (.tmp 1) (.tmp 2) rfl (stc H0 z64 0) _ 52 w1.heap.size rfl rfl rfl (info_st _ _ _ rfl) (by exact zst_st) (stc_one _ _ _) ?_; intro w1' HBk HG1 hsz1))
  go_ret
  exact ⟨w1.heap.size, rfl, HB1.out.size, new_stt HBk.out, (grown_of_below HB1.out none).trans HG1.out⟩
set_option maxHeartbeats 400000 in
set_option maxRecDepth 100000 in
theorem write_any (msg m : List Nat) (s : ByteArray) (b : Nat) (w : World) (hS : Stt w b 52 msg m) (hL : Lst w) (hb2 : 2 < b) (hlen : msg.length + s.size < 4611686018427387904) :
    Calls Tryd.prog 20 #[.pointer (some ⟨b, 0, none⟩), .string s] w fun e w' =>
      e = .returned (.int .i64 0) ∧ (∃ m', Stt w' b 52 (msg ++ byl s) m') ∧ w.grownBy w' (some b) := by
  have HS : Hid (Stt w b 52 msg m) := hS
  have HL : Hid (Lst w) := hL
  clear hS hL
  go_enter Tryd.func20, Tryd.ntmps20
  go_wp2_with (go_at_call 27; refine (take_any msg m s b 52 _ HS.out HL.out.k (by omega) hlen).mono ?_; rintro e w2 ⟨rfl, hs2, hg2⟩)
  go_ret
  exact ⟨rfl, hs2, hg2⟩
theorem write_nil (s : ByteArray) (w : World) :
    Calls Tryd.prog 20 #[.pointer none, .string s] w fun e w' => e = .returned (.int .i64 2) ∧ w' = w := by
  go_enter Tryd.func20, Tryd.ntmps20
  go_wp2
  go_ret
  exact ⟨rfl, rfl⟩
theorem wrote_any (msg m : List Nat) (b : Nat) (w : World) (hS : Stt w b 52 msg m) :
    Calls Tryd.prog 22 #[.pointer (some ⟨b, 0, none⟩)] w fun e w' => e = .returned (.int .u64 (msg.length : Int)) ∧ w' = w := by
  have h1 := hS.wrote
  go_enter Tryd.func22, Tryd.ntmps22
  go_wp2
  go_ret
  exact ⟨rfl, rfl⟩
theorem wrote_nil (w : World) :
    Calls Tryd.prog 22 #[.pointer none] w fun e w' => e = .returned (.int .u64 0) ∧ w' = w := by
  go_enter Tryd.func22, Tryd.ntmps22
  go_wp2
  go_ret
  exact ⟨rfl, rfl⟩
set_option maxHeartbeats 400000 in
set_option maxRecDepth 100000 in
theorem stsum_any (msg m : List Nat) (b : Nat) (w : World) (hS : Stt w b 52 msg m) (hL : Lst w) (hlen : msg.length < 288230376151711744) :
    Calls Tryd.prog 21 #[.pointer (some ⟨b, 0, none⟩)] w fun e w' => e = .returned (.tuple #[.agg (shc msg), .int .i64 0]) ∧ Below w.heap.size w w' := by
  have HS : Hid (Stt w b 52 msg m) := hS
  have HL : Hid (Lst w) := hL
  have hlt := hS.blk.lt
  clear hS hL
  go_enter Tryd.func21, Tryd.ntmps21
  go_wp2_with (first
    | (refine wpList_load_row rfl 52 (.tmp 8) rfl b rfl 52 _ (0, 0) _ (HS.out.blk.grown (World.grownBy_alloc w _ none) (by simp)) Tryd.underlying52 rfl (info_st _ _ _ HS.out.sta.len) ?_)
    | (go_at_call 28; refine (end_sh HS.out (HL.out.alloc _).k hlen).mono ?_; rintro e w3 ⟨rfl, hb3⟩; have HB3 : Hid (Below (w.alloc (.cells z32c 23)).heap.size (w.alloc (.cells z32c 23)) w3) := hb3; clear hb3; have HZ : Hid (Blk w3 w.heap.size z32c 23) := Blk.grown (blk_new w (.cells z32c 23)) (grown_of_below HB3.out none) (by simp))
    | (refine wpList_store_row rfl 23 (.tmp 2) (.tmp 10) rfl w.heap.size (shc msg) rfl rfl 23 z32c HZ.out (info_sh _) (by rw [z32c_size, shc_size]) (shc_one _) ?_))
  refine bodyPost_ret (results_cell_tmp_row rfl _ _ w.heap.size 23 (shc msg) (0, 0) _ rfl (setRow_heap _ _ _ _ _ _ HZ.out) Tryd.underlying23 rfl (info_sh _)) rfl ⟨rfl, ?_⟩
  exact below_setRow (below_of_grown ((World.grownBy_alloc w _ none).trans (grown_of_below HB3.out none))) (Nat.le_refl _) _
end Go.Proofs.YtbfdggkoildfkaaDoor
