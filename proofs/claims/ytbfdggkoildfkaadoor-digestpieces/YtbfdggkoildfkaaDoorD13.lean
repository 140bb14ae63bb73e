/- bytes.Compare, digest.Less. -/
import Derived.Test.YtbfdggkoildfkaaDoorD12
import Derived.Lib.BytesEntry
import Derived.Laws.Externs
namespace Go.Proofs.YtbfdggkoildfkaaDoor
open Go.RowKit
set_option linter.unusedSimpArgs false
set_option linter.unusedVariables false
theorem byl_back (s : ByteArray) : Lib.bytesOf ((byl s).map Int.ofNat) = s.data.toList := by
  simp only [Lib.bytesOf, byl, List.map_map]
  conv => rhs; rw [← List.map_id s.data.toList]
  apply List.map_congr_left
  intro x _
  simp
theorem load_id (s : ByteArray) (g : Nat) (T : TypeId) (w : World) (hs : s.size = 32) (hB : Blk w g (idc s) T) {P : Program} :
    (Extern.Bytes.bytesOf (.slice (some ⟨g, 0, none⟩) 32 32)).run P w = .ok s w := by
  have h := Lib.run_loadBytesX (P := P) w ((byl s).map Int.ofNat) ⟨g, 0, none⟩ .empty (fun j x hj => by
    have hjl : j < s.size := by have := (List.getElem?_eq_some_iff.1 hj).1; simpa [byl_length] using this
    rw [Addr.add_mid, Nat.zero_add, hB.cell, idc_get s j hjl]
    rw [List.getElem?_map, byl_getD s j hjl] at hj
    simp only [Option.map_some, Option.some.injEq] at hj
    rw [← hj]; rfl)
  rw [byl_back, show ((byl s).map Int.ofNat).length = 32 from by simp [byl_length, hs]] at h
  show (Extern.Bytes.loadBytes ⟨g, 0, none⟩ 32 .empty).run P w = _
  rw [h]
  congr 1
  apply ByteArray.ext
  simp [ByteArray.empty, ByteArray.emptyWithCapacity]
  rfl
/-- What bytes.Compare says of two names. -/
def cmpId (a b : ByteArray) : Int := Lib.compareBytes a.data.toList b.data.toList
theorem compare_ids (a b : ByteArray) (ga gb : Nat) (Ta Tb : TypeId) (w : World) (ha : a.size = 32) (hb : b.size = 32) (hA : Blk w ga (idc a) Ta) (hB : Blk w gb (idc b) Tb) {P : Program} :
    (Extern.BytealgCompare.compare #[.slice (some ⟨ga, 0, none⟩) 32 32, .slice (some ⟨gb, 0, none⟩) 32 32]).run P w = .ok (.int .i64 (cmpId a b)) w := by
  change Sem.run P (do pure (goInt (Extern.BytealgCompare.cmp (← Extern.Bytes.bytesOf (.slice (some ⟨ga, 0, none⟩) 32 32)) (← Extern.Bytes.bytesOf (.slice (some ⟨gb, 0, none⟩) 32 32))))) w = _
  simp only [Sem.run_bind, load_id a ga Ta w ha hA, load_id b gb Tb w hb hB, Result.andThen, Sem.run_pure]
  rw [Lib.cmp_eq]
  rfl
set_option maxHeartbeats 400000 in
set_option maxRecDepth 100000 in
theorem bcompare_any (a b : ByteArray) (ga gb : Nat) (Ta Tb : TypeId) (w : World) (ha : a.size = 32) (hb : b.size = 32) (hA : Blk w ga (idc a) Ta) (hB : Blk w gb (idc b) Tb) :
    Calls Tryd.prog 36 #[.slice (some ⟨ga, 0, none⟩) 32 32, .slice (some ⟨gb, 0, none⟩) 32 32] w fun e w' => e = .returned (.int .i64 (cmpId a b)) ∧ w' = w := by
  have HC := compare_ids a b ga gb Ta Tb w ha hb hA hB (P := Tryd.prog)
  have HH : Hid ((Extern.BytealgCompare.compare #[.slice (some ⟨ga, 0, none⟩) 32 32, .slice (some ⟨gb, 0, none⟩) 32 32]).run Tryd.prog w = .ok (.int .i64 (cmpId a b)) w) := HC
  clear HC hA hB
  go_enter Tryd.func36, Tryd.ntmps36
  go_wp2
  rw [run_callFunc_extern Tryd.func45 (by kernel_rfl) (by kernel_rfl) (by kernel_rfl) (e := Extern.BytealgCompare.compare) (by kernel_rfl), HH.out]
  simp only [Result.andThen]
  rw [Oper.upon_value]
  go_wp2
  go_ret
  exact ⟨rfl, rfl⟩
def lessB (a b : ByteArray) : Bool := decide (cmpId a b < 0)
set_option maxHeartbeats 400000 in
set_option maxRecDepth 100000 in
theorem less_any (a b : ByteArray) (w : World) (ha : a.size = 32) (hb : b.size = 32) :
    Calls Tryd.prog 16 #[.agg (idc a), .agg (idc b)] w fun e w' => e = .returned (.bool (lessB a b)) ∧ Below w.heap.size w w' := by
  have h1 := slice32 w.heap.size
  have h2 := slice32 (w.heap.size + 1)
  go_enter Tryd.func16, Tryd.ntmps16
  go_wp2
  have hA : Blk ((w.alloc (.cells (idc a) 23)).alloc (.cells (idc b) 23)) w.heap.size (idc a) 23 := Blk.grown (blk_new w _) (World.grownBy_alloc _ _ none) (by simp)
  have hB : Blk ((w.alloc (.cells (idc a) 23)).alloc (.cells (idc b) 23)) (w.heap.size + 1) (idc b) 23 := by
    have e := blk_new (w.alloc (.cells (idc a) 23)) (.cells (idc b) 23)
    rwa [alloc_size] at e
  have HAB : Hid (Blk ((w.alloc (.cells (idc a) 23)).alloc (.cells (idc b) 23)) w.heap.size (idc a) 23 ∧ Blk ((w.alloc (.cells (idc a) 23)).alloc (.cells (idc b) 23)) (w.heap.size + 1) (idc b) 23) := ⟨hA, hB⟩
  clear hA hB
  go_quiet ((go_at_call 36; exact Calls.quiet_of_same (bcompare_any a b _ _ 23 23 _ ha hb (HAB.out.1.drewN _) (HAB.out.2.drewN _))))
  go_wp2
  go_ret
  refine ⟨rfl, ?_⟩
  exact below_of_grown (((World.grownBy_alloc w _ none).trans (World.grownBy_alloc _ _ none)).trans (grown_drewN _ nq none))
end Go.Proofs.YtbfdggkoildfkaaDoor
