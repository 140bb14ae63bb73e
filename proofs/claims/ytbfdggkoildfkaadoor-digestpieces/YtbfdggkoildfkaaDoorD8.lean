/- digest.Sum. -/
import Derived.Test.YtbfdggkoildfkaaDoorD7
namespace Go.Proofs.YtbfdggkoildfkaaDoor
open Go.RowKit
set_option linter.unusedSimpArgs false
set_option linter.unusedVariables false
/-- The listed numbers of package digest. -/
structure Lst (w : World) : Prop where
  k : KIs w
  h : HIs w
theorem HIs.lt {w : World} (h : HIs w) : 0 < w.heap.size := World.block_lt_of_cell? w _ (h 0 (by omega))
theorem Lst.grown {w w' : World} {r : Option Nat} (H : Lst w) (hg : w.grownBy w' r) (hr : ∀ j, r = some j → 2 < j) : Lst w' :=
  ⟨H.k.grown hg (fun e => by have := hr _ e; omega), H.h.grown hg (fun e => by have := hr _ e; omega)⟩
theorem Lst.below {w w' : World} (H : Lst w) (hb : Below w.heap.size w w') : Lst w' := H.grown (grown_of_below hb none) (by simp)
theorem Lst.alloc {w : World} (H : Lst w) (o : Obj) : Lst (w.alloc o) := H.grown (World.grownBy_alloc w o none) (by simp)
theorem Lst.lt {w : World} (H : Lst w) : 2 < w.heap.size := H.k.lt
theorem wpList_store_abs {P : Program} {ops : Array Oper} {rest : List Oper} {o : Oper} {a : Act} {w : World} {Q : Exit → Act → World → Prop} (hgd : o.guard = none) (ty : TypeId) (x y : Operand) (ho : o.op = .store ty x y)
    (cells old : Array Value) (t : TypeId) (H : Nat) (hH : w.heap.size = H) (hx : a.eval x = .pointer (some ⟨H, 0, none⟩)) (hy : a.eval y = .agg cells)
    (hi : (P.info? ty).map (·.size) = some cells.size) (hold : old.size = cells.size) (h1 : cells.all (·.oneCell') = true)
    (h : ∀ w', Hid (Blk w' H cells t) → Hid (w.grownBy w' none) → w'.heap.size = H + 1 → wpList P ops Q rest (a.put o.dst undef) w') : wpList P ops Q (o :: rest) a (w.alloc (.cells old t)) :=
  wpList_store_new hgd ty x y ho cells old t H hH hx hy hi hold h1 (h _ (by rw [← hH]; exact blk_new _ _) (World.grownBy_alloc _ _ none) (by rw [alloc_size, hH]))
theorem zst_st : zst.size = (stc H0 z64 0).size := by rw [zst_size, stc_size _ _ _ rfl]
theorem new_stt {w1 : World} {b : Nat} (h : Blk w1 b (stc H0 z64 0) 52) : Stt w1 b 52 [] z64 := ⟨h, Sta.zero z64 rfl (by intro x hx; have := List.eq_of_mem_replicate hx; omega)⟩
/-- A sum's 32 bytes as a value's cells. -/
def shc (m : List Nat) : Array Value := (bvc (sha m)).toArray
theorem shc_size (m : List Nat) : (shc m).size = 32 := by simp [shc, bvc, sha_length]
theorem shc_one (m : List Nat) : (shc m).all (·.oneCell') = true := by
  rw [Array.all_eq_true_iff_forall_mem]
  intro x hx
  simp only [shc, bvc, List.mem_toArray, List.mem_map] at hx
  obtain ⟨y, _, rfl⟩ := hx
  rfl
theorem info_sh (m : List Nat) : (Tryd.prog.info? 23).map (·.size) = some (shc m).size := by rw [shc_size]; exact info_id
theorem end_sh {msg m : List Nat} {w w' : World} {b : Nat} (hS : Stt w' b 52 msg m) (hK : KIs w) (hlen : msg.length < 288230376151711744) :
    Calls Tryd.prog 28 #[.agg (stc (hs msg (msg.length / 64)) m msg.length)] w fun e w' => e = .returned (.agg (shc msg)) ∧ Below w.heap.size w w' := end_any msg m w hS.sta hK hlen
set_option maxHeartbeats 200000 in
set_option maxRecDepth 100000 in
theorem sum_any (s : ByteArray) (w : World) (hL : Lst w) (hlen : s.size < 288230376151711744) :
    Calls Tryd.prog 9 #[.string s] w fun e w' => e = .returned (.agg (shc (byl s))) ∧ Below w.heap.size w w' := by
  have HL : Hid (Lst w) := hL
  have hlt := hL.lt
  have hz := (zero_of_info zero_state).1
  have hbl : (byl s).length < 288230376151711744 := by rw [byl_length]; exact hlen
  clear hL
  go_enter Tryd.func9, Tryd.ntmps9
  go_wp2_with (first
    | (go_at_call 26; refine (begin_any _ (HL.out.alloc _).h).mono ?_; rintro e w1 ⟨rfl, hb1⟩; have HB1 : Hid (Below (w.alloc (.cells z32c 23)).heap.size (w.alloc (.cells z32c 23)) w1) := hb1; clear hb1; have hz1 : w.heap.size + 1 ≤ w1.heap.size := by { have := HB1.out.size; rw [alloc_size] at this; exact this })
    | (refine wpList_store_abs rfl 52 (.tmp 3) (.tmp 4) rfl (stc H0 z64 0) _ 52 w1.heap.size rfl rfl rfl (info_st _ _ _ rfl) (by exact zst_st) (stc_one _ _ _) ?_; intro w1' HBk HG1 hsz1)
    | (go_at_call 27; refine (take_any [] z64 s w1.heap.size 52 _ (new_stt HBk.out) (((HL.out.alloc _).below HB1.out).grown HG1.out (by simp)).k (by omega) (by simp; omega)).mono ?_; rintro e w2 ⟨rfl, ⟨m2, hs2⟩, hg2⟩; rw [List.nil_append] at hs2; have HS2 : Hid (Stt w2 w1.heap.size 52 (byl s) m2) := hs2; have HG2 : Hid (w1'.grownBy w2 (some w1.heap.size)) := hg2; clear hs2 hg2)
    | (refine wpList_load_row rfl 52 (.tmp 3) rfl w1.heap.size rfl 52 _ (0, 0) _ HS2.out.blk Tryd.underlying52 rfl (info_st _ _ _ HS2.out.sta.len) ?_)
    | (go_at_call 28; refine (end_sh HS2.out ((((HL.out.alloc _).below HB1.out).grown HG1.out (by simp)).grown HG2.out (by intro j hj; simp at hj; omega)).k hbl).mono ?_; rintro e w3 ⟨rfl, hb3⟩; have HZ : Hid (Blk w3 w.heap.size z32c 23) := Blk.grown (Blk.grown (Blk.grown (Blk.grown (blk_new w (.cells z32c 23)) (grown_of_below HB1.out none) (by simp)) HG1.out (by simp)) HG2.out (by simp; omega)) (grown_of_below hb3 none) (by simp); have HB3 : Hid (Below w2.heap.size w2 w3) := hb3; clear hb3)
    | (refine wpList_store_row rfl 23 (.tmp 2) (.tmp 8) rfl w.heap.size (shc (byl s)) rfl rfl 23 z32c HZ.out (info_sh _) (by rw [z32c_size, shc_size]) (shc_one _) ?_))
  refine bodyPost_ret (results_cell_row rfl _ _ w.heap.size 23 (shc (byl s)) (0, 0) _ rfl (setRow_heap _ _ _ _ _ _ HZ.out) Tryd.underlying23 rfl (info_sh _)) rfl ⟨rfl, ?_⟩
  refine below_setRow (below_of_grown ?_) (Nat.le_refl _) _
  exact ((((World.grownBy_alloc w _ none).trans (grown_of_below HB1.out none)).trans HG1.out).andThen HG2.out (fun j hj => by left; simp at hj; omega)).trans (grown_of_below HB3.out none)
end Go.Proofs.YtbfdggkoildfkaaDoor
