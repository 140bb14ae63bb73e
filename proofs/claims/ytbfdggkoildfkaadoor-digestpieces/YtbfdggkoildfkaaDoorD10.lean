/- digest.Text, digest.Of, the document's own Fixed and Whole, the law's awake. -/
import Derived.Test.YtbfdggkoildfkaaDoorD9
import Derived.Test.YtbfdggkoildfkaaDoorX3
import Derived.Test.YtbfdggkoildfkaaDoorR4
import Derived.Test.YtbfdggkoildfkaaDoorP10
import Derived.Deep.RegionWith
namespace Go.Proofs.YtbfdggkoildfkaaDoor
open Go.RowKit
set_option linter.unusedSimpArgs false
set_option linter.unusedVariables false
/-- A name's cells, of its 32 bytes. -/
def idc (s : ByteArray) : Array Value := (bvc (byl s)).toArray
theorem idc_size (s : ByteArray) : (idc s).size = s.size := by simp [idc, bvc, byl_length]
theorem shc_idc (m : List Nat) : shc m = idc (sb (sha m)) := by
  have h := byl_sb (sha m) (outB_lt _)
  rw [idc, h]; rfl
theorem byl_getD (s : ByteArray) (i : Nat) (h : i < s.size) : (byl s)[i]? = some (s[i].toNat) := by
  simp only [byl, List.getElem?_map]
  rw [List.getElem?_eq_getElem (by simpa using h)]
  rfl
theorem idc_get (s : ByteArray) (i : Nat) (h : i < s.size) : (idc s)[i]? = some (.int .u8 (s[i].toNat : Int)) := by
  rw [idc, List.getElem?_toArray, bvc, List.getElem?_map, byl_getD s i h]; rfl
/-- All the listed variables. -/
structure All (w : World) : Prop where
  l : Lst w
  t : TabIs w
theorem All.lt {w : World} (H : All w) : 2 < w.heap.size := H.l.lt
theorem All.grown {w w' : World} {r : Option Nat} (H : All w) (hg : w.grownBy w' r) (hr : ∀ j, r = some j → 2 < j) : All w' :=
  ⟨H.l.grown hg hr, fun v hv => hg.cell (H.t v hv) (fun e => by have := hr _ e.symm; simp at this)⟩
theorem All.below {w w' : World} (H : All w) (hb : Below w.heap.size w w') : All w' := H.grown (grown_of_below hb none) (by simp)
theorem All.alloc {w : World} (H : All w) (o : Obj) : All (w.alloc o) := H.grown (World.grownBy_alloc w o none) (by simp)
theorem slice32 (g : Nat) (w : World) : (Instr.sliceAt 23 (.pointer (some ⟨g, 0, none⟩)) none none none).run Tryd.prog w = .ok (.slice (some ⟨g, 0, none⟩) 32 32) w := by
  have e1 : Tryd.prog.elem 23 = 5 := by kernel_rfl
  have e2 : Tryd.prog.arrayLen 23 = 32 := by kernel_rfl
  have e0 : Tryd.prog.underlying 23 = some (.array (Tryd.prog.arrayLen 23) (Tryd.prog.elem 23)) := by kernel_rfl
  rw [run_sliceAt_array_all (P := Tryd.prog) w 23 ⟨g, 0, none⟩ e0]
  rw [e1, e2, sizeOf_u8']
  simp [slicedAt, Result.andThen, Addr.add]
theorem conv32 (s : ByteArray) (g : Nat) (T : TypeId) (w : World) (hs : s.size = 32) (hB : Blk w g (idc s) T) :
    (convert 47 9 (.slice (some ⟨g, 0, none⟩) 32 32)).run Tryd.prog w = .ok (.string s) w := by
  have h := run_convert_bytes_arg w 47 5 Tryd.underlying47 Tryd.underlying5 g 0 32 32 ((byl s).map Int.ofNat) (by simp [byl_length, hs]) (fun i hi => by
    rw [Nat.zero_add, hB.cell, idc_get s i (by omega), List.getD, List.getElem?_map, byl_getD s i (by omega)]; rfl) 9 Tryd.underlying9
  rw [sb_nums, sb_byl] at h
  exact h
set_option maxHeartbeats 400000 in
set_option maxRecDepth 100000 in
theorem text_any (s : ByteArray) (w : World) (hs : s.size = 32) (hA : All w) :
    Calls Tryd.prog 14 #[.agg (idc s)] w fun e w' => e = .returned (.string (sb (hexL (bl s)))) ∧ Below w.heap.size w w' := by
  have HA : Hid (All w) := hA
  have hlt := hA.lt
  have h1 := slice32 w.heap.size
  have h2 := conv32 s w.heap.size 23 (w.alloc (.cells (idc s) 23)) hs (blk_new _ _)
  clear hA
  go_enter Tryd.func14, Tryd.ntmps14
  go_wp2_with (go_at_call 34; refine (hex_any s _ (by omega) (HA.out.alloc _).t (by rw [alloc_size]; omega)).mono ?_; rintro e w1 ⟨rfl, hb1⟩)
  go_ret
  exact ⟨rfl, ((Below.refl _ _).alloc (Nat.le_refl _) _).trans (hb1.mono (by rw [alloc_size]; omega))⟩
set_option maxHeartbeats 400000 in
theorem rfixed_any (n : Nat) (w : World) (hn : n < 18446744073709551616) :
    Calls Tryd.prog 37 #[.int .u64 (n : Int), .int .i64 8] w fun e w' => e = .returned (.string ((⟨#[]⟩ : ByteArray) ++ sb (fixN 8 n))) ∧ Below w.heap.size w w' := by
  go_enter Tryd.func37, Tryd.ntmps37
  go_wp2_with (go_at_call 46; refine (rputFixed_ok ⟨#[]⟩ n 8 _ hn (by omega) (by omega) (by omega) (by decide)).mono ?_; rintro e w1 ⟨rfl, hb1⟩)
  go_ret
  exact ⟨rfl, hb1⟩
/-- What an object's name is the sum of. -/
def whl (k : Nat) (p : ByteArray) : List Nat := k :: (fixN 8 p.size ++ byl p)
theorem conv_any (w : World) (g : Nat) (v : Int) (h : w.cell? ⟨g, 0, none⟩ = some (.int .u8 v)) : (convert 47 9 (.slice (some ⟨g, 0, none⟩) 1 1)).run Tryd.prog w = .ok (.string (strOfNums [v])) w :=
  run_convert_bytes_arg _ 47 5 Tryd.underlying47 Tryd.underlying5 _ 0 1 1 [v] rfl (fun i hi => by
    have : i = 0 := by omega
    subst this
    exact h) 9 Tryd.underlying9
theorem sb_append (a b : List Nat) : sb (a ++ b) = sb a ++ sb b := by
  apply bl_inj
  rw [bl_append, bl_sb, bl_sb, bl_sb, by8, by8, by8, List.map_append]
theorem whole_eq (k : Nat) (p : ByteArray) (hk : k < 256) : strOfNums [(k : Int)] ++ ((⟨#[]⟩ : ByteArray) ++ sb (fixN 8 p.size)) ++ p = sb (whl k p) := by
  rw [show ((⟨#[]⟩ : ByteArray) ++ sb (fixN 8 p.size)) = sb (fixN 8 p.size) from ByteArray.empty_append, one_is k k rfl]
  have : whl k p = [k] ++ fixN 8 p.size ++ byl p := by simp [whl]
  rw [this, sb_append, sb_append, sb_byl]
theorem wrap64s (n : Nat) (h : n < 18446744073709551616) : IntKind.u64.wrap (n : Int) = (n : Int) := by
  simp [IntKind.wrap, IntKind.bits, IntKind.signed]
  omega
set_option maxHeartbeats 400000 in
set_option maxRecDepth 100000 in
theorem whole_any (k : Nat) (p : ByteArray) (w : World) (hk : k < 256) (hp : p.size ≤ 2000) :
    Calls Tryd.prog 23 #[.int .u8 (k : Int), .string p] w fun e w' => e = .returned (.string (sb (whl k p))) ∧ Below w.heap.size w w' := by
  have c1 := fun w => conv1 w (k : Int)
  have c2 := fun (W : World) (h : W.cell? ⟨w.heap.size, 0, none⟩ = some (.int .u8 (k : Int))) => conv_any W w.heap.size (k : Int) h
  have c3 := conv_any (w.alloc (.cells #[.int .u8 (k : Int)] 5)).drew w.heap.size (k : Int) (by show (w.alloc (.cells #[.int .u8 (k : Int)] 5)).cell? _ = _; rw [World.cell?_alloc_new]; rfl)
  have hz := one_size (k : Int)
  have hwr : IntKind.u64.wrap (p.size : Int) = (p.size : Int) := wrap64s _ (by omega)
  have hl8 := lenstr p.size
  go_enter Tryd.func23, Tryd.ntmps23
  go_wp2
  go_region_with (go_at_call 37; refine (rfixed_any p.size _ (by omega)).mono ?_; rintro e w1 ⟨rfl, hb1⟩; obtain ⟨hc, hf⟩ := bcellD hb1)
  all_goals go_wp2
  all_goals go_ret
  all_goals refine ⟨ret_str (whole_eq k p hk), ?_⟩
  all_goals first
    | exact (((Below.refl _ _).alloc (Nat.le_refl _) _).drew).trans (hb1.mono (by show w.heap.size ≤ (w.alloc _).heap.size; rw [alloc_size]; omega))
    | exact (((Below.refl _ _).drew).trans hb1).alloc hb1.size _
theorem conv1s (w : World) (o : Obj) (v : Int) : (convert 47 9 (.slice (some ⟨w.heap.size + 1, 0, none⟩) 1 1)).run Tryd.prog ((w.alloc o).alloc (.cells #[.int .u8 v] 5)) = .ok (.string (strOfNums [v])) ((w.alloc o).alloc (.cells #[.int .u8 v] 5)) := by
  have h := conv1 (w.alloc o) v
  rwa [alloc_size] at h
theorem pre_eq (k : Nat) (n : Nat) : strOfNums [(k : Int)] ++ sb (fixN 8 n) = sb (k :: fixN 8 n) := by
  rw [one_is k k rfl, ← sb_append]; rfl
theorem byl_pre (k n : Nat) (hk : k < 256) : byl (sb (k :: fixN 8 n)) = k :: fixN 8 n := byl_sb _ (by
  intro x hx
  simp only [List.mem_cons] at hx
  rcases hx with rfl | hx
  · exact hk
  · exact fixN_lt _ _ x hx)
end Go.Proofs.YtbfdggkoildfkaaDoor
