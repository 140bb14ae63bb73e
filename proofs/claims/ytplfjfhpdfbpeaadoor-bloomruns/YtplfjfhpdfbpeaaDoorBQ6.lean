/- The law's own: id, made. -/
import Derived.Test.YtplfjfhpdfbpeaaDoorBQ5
import Derived.Test.YtplfjfhpdfbpeaaDoorM1
namespace Go.Proofs.YtplfjfhpdfbpeaaDoor
open Go.RowKit
set_option linter.unusedSimpArgs false
set_option linter.unusedVariables false
/-- The name of a text's first bytes. -/
def idF (s : ByteArray) : ByteArray := ⟨(s.data.toList.take 32 ++ List.replicate (32 - s.size) (0 : UInt8)).toArray⟩
theorem idF_size (s : ByteArray) : (idF s).size = 32 := by
  show ((s.data.toList.take 32 ++ List.replicate (32 - s.size) (0 : UInt8)).toArray).size = 32
  have : s.data.toList.length = s.size := by rw [Array.length_toList]; rfl
  simp only [List.size_toArray, List.length_append, List.length_take, List.length_replicate, this]
  omega
/-- So many of them are laid. -/
def idK (s : ByteArray) (j : Nat) : Array Value := (bvc ((byl s).take j ++ List.replicate (32 - j) 0)).toArray
theorem idK_get (s : ByteArray) (j i : Nat) (hj : j ≤ s.size) (h32 : j ≤ 32) : (idK s j)[i]? = if i < j then some (.int .u8 (((byl s).getD i 0 : Nat) : Int)) else if i < 32 then some (.int .u8 0) else none := by
  have hl := byl_length s
  simp only [idK, bvc, List.getElem?_toArray, List.getElem?_map]
  by_cases e : i < j
  · rw [if_pos e, List.getElem?_append_left (by rw [List.length_take]; omega), List.getElem?_take, if_pos e, List.getElem?_eq_getElem (by omega), List.getD, List.getElem?_eq_getElem (by omega)]; rfl
  · rw [if_neg e, List.getElem?_append_right (by rw [List.length_take]; omega), List.length_take, List.getElem?_replicate]
    by_cases e2 : i < 32
    · rw [if_pos (by omega), if_pos e2]; rfl
    · rw [if_neg (by omega), if_neg e2]; rfl
theorem idK_size (s : ByteArray) (j : Nat) (hj : j ≤ s.size) (h32 : j ≤ 32) : (idK s j).size = 32 := by
  have hl := byl_length s
  simp only [idK, bvc, List.size_toArray, List.length_map, List.length_append, List.length_take, List.length_replicate]
  omega
theorem idK_next (s : ByteArray) (j : Nat) (hj : j < s.size) (h32 : j < 32) : (idK s j).setIfInBounds j (.int .u8 (((byl s).getD j 0 : Nat) : Int)) = idK s (j + 1) := by
  apply Array.ext_getElem?
  intro i
  rw [Array.getElem?_setIfInBounds, idK_get s j i (by omega) (by omega), idK_get s (j + 1) i (by omega) (by omega), idK_size s j (by omega) (by omega)]
  by_cases e : j = i
  · subst e; rw [if_pos rfl, if_pos h32, if_pos (by omega)]
  · rw [if_neg e]
    by_cases e2 : i < j
    · rw [if_pos e2, if_pos (by omega)]
    · have e3 : ¬ i < j + 1 := by omega
      rw [if_neg e2, if_neg e3]
theorem idK_zero (s : ByteArray) : idK s 0 = z32c := rfl
theorem idK_end (s : ByteArray) (j : Nat) (h : j = min s.size 32) : idK s j = idc (idF s) := by
  have hl := byl_length s
  unfold idK idc
  congr 2
  show _ = List.map UInt8.toNat (s.data.toList.take 32 ++ List.replicate (32 - s.size) (0 : UInt8))
  have e0 : List.map UInt8.toNat s.data.toList = byl s := rfl
  rw [List.map_append, List.map_take, e0, List.map_replicate]
  have e1 : (byl s).take j = (byl s).take 32 := by
    subst h
    by_cases e : s.size ≤ 32
    · rw [Nat.min_eq_left e, List.take_of_length_le (by omega), List.take_of_length_le (by omega)]
    · rw [Nat.min_eq_right (by omega)]
  have e2 : 32 - j = 32 - s.size := by omega
  rw [e1, e2]; rfl
theorem idK_one (s : ByteArray) (j : Nat) : (idK s j).all (·.oneCell') = true := Array.all_eq_true_iff_forall_mem.2 (by intro v hv; exact bvc_one _ v (by simpa [idK] using hv))
/-- While a name is laid. -/
structure IdS (w : World) (s : ByteArray) (j : Nat) (W : World) : Prop where
  res : Bk W w.heap.size z32c 36
  out : Bk W (w.heap.size + 1) (idK s j) 36
  bel : Below w.heap.size w W
theorem IdS.new (w : World) (s : ByteArray) : IdS w s 0 ((w.alloc (.cells z32c 36)).alloc (.cells z32c 36)) := by
  have h := bk_new (w.alloc (.cells z32c 36)) z32c 36
  rw [al_size] at h
  exact ⟨(bk_new _ _ _).alloc _, h, ((Below.refl _ _).alloc (Nat.le_refl _) _).alloc (by simp) _⟩
theorem IdS.next {w W : World} {s : ByteArray} {j : Nat} (h : IdS w s j W) (hj : j < s.size) (h32 : j < 32) : IdS w s (j + 1) (W.setCell ⟨w.heap.size + 1, j, none⟩ (.int .u8 (((byl s).getD j 0 : Nat) : Int))) := by
  have hg : W.grownBy (W.setCell ⟨w.heap.size + 1, j, none⟩ (.int .u8 (((byl s).getD j 0 : Nat) : Int))) (some (w.heap.size + 1)) := Lib.grownBy_setB (World.grownBy.refl W _) j _
  refine ⟨h.res.grown hg (by simp), ?_, below_own h.bel h.bel.size hg (by omega)⟩
  rw [← idK_next s j hj h32]
  exact h.out.set j _
set_option maxHeartbeats 1000000 in
set_option maxRecDepth 100000 in
theorem id_any14 (s : ByteArray) (w : World) : Calls Tryd.prog 10 #[.string s] w fun e w' => e = .returned (.agg (idc (idF s))) ∧ Below w.heap.size w w' := by
  have HS : Hid (IdS w s 0 ((w.alloc (.cells z32c 36)).alloc (.cells z32c 36))) := IdS.new w s
  go_enter Tryd.func10, Tryd.ntmps10
  go_wp2
  go_loopw [4] (fun v wr => ∃ j : Nat, j ≤ 32 ∧ j ≤ s.size ∧ v = .int .i64 j ∧ Hid (IdS w s j wr)) (fun v _ => 33 - (intOf v).toNat)
  case atStart => exact ⟨0, by omega, by omega, rfl, HS.out⟩
  case round =>
    clear HS
    obtain ⟨j, h32, hjs, rfl, HS⟩ := hrel
    by_cases hlt : j < s.size ∧ j < 32
    · have h1 := hlt.1
      have h2 := hlt.2
      have k1 : (j : Int) < (s.size : Nat) := by omega
      have k2 : (j : Int) < 32 := by omega
      have hc : wr.cell? ⟨w.heap.size + 1, j, none⟩ = some (.int .u8 0) := by rw [HS.out.out.cell, idK_get s j j (by omega) (by omega), if_neg (by omega), if_pos h2]
      have hf := HS.out.out.frozen j
      have HN : Hid _ := HS.out.next h1 h2
      have e : (byl s).getD j 0 = s[j].toNat := by rw [List.getD, byl_getD s j h1]; rfl
      rw [e] at HN
      clear e hlt
      go_wp2
      go_roundw
      case rel => exact ⟨j + 1, by omega, by omega, by go_num, HN.out⟩
      case measure => simp [intOf]; omega
    · have hj : j = min s.size 32 := by omega
      have HE : Hid (idK s j = idc (idF s)) := idK_end s j hj
      have HI : Hid ((Tryd.prog.info? 36).map (·.size) = some (idK s j).size) := info_32 (idK_size s j hjs h32)
      have HO := idK_one s j
      have HZ := idK_size s j hjs h32
      have HK : Hid (idK s j = idc (idF s)) := HE
      obtain ⟨D, hD⟩ : ∃ D, idK s j = D := ⟨_, rfl⟩
      have HB1 : Hid (Bk wr (w.heap.size + 1) D 36) := by rw [← hD]; exact HS.out.out
      rw [hD] at HI HE HO HZ
      have HB0 : Hid (Bk wr w.heap.size z32c 36 ∧ Below w.heap.size w wr) := ⟨HS.out.res, HS.out.bel⟩
      clear HK hD HS
      have HOO : Hid (D.all (·.oneCell') = true ∧ D.size = 32) := ⟨HO, HZ⟩
      clear HO HZ
      by_cases hjl : j < s.size
      · have k1 : (j : Int) < (s.size : Nat) := by omega
        have k2 : ¬ (j : Int) < 32 := by omega
        clear hlt hj
        go_wp2_with (first
          | (refine wpList_load_row rfl 36 (.tmp 3) rfl (w.heap.size + 1) rfl 36 D (0, 0) _ HB1.out Tryd.underlying36 rfl HI.out ?_)
          | (refine wpList_store_row rfl 36 (.tmp 2) (.tmp 20) rfl w.heap.size D rfl rfl 36 z32c HB0.out.1 HI.out (by rw [z32c_size, HOO.out.2]) HOO.out.1 ?_))
        refine bodyPost_ret (results_cell_row rfl _ _ w.heap.size 36 D (0, 0) _ rfl (setRow_heap _ _ _ _ _ _ HB0.out.1) Tryd.underlying36 rfl HI.out) rfl ⟨by rw [HE.out], ?_⟩
        exact below_setRow HB0.out.2 (Nat.le_refl _) _
      · have k1 : ¬ (j : Int) < (s.size : Nat) := by omega
        clear hlt hj
        go_wp2_with (first
          | (refine wpList_load_row rfl 36 (.tmp 3) rfl (w.heap.size + 1) rfl 36 D (0, 0) _ HB1.out Tryd.underlying36 rfl HI.out ?_)
          | (refine wpList_store_row rfl 36 (.tmp 2) (.tmp 20) rfl w.heap.size D rfl rfl 36 z32c HB0.out.1 HI.out (by rw [z32c_size, HOO.out.2]) HOO.out.1 ?_))
        refine bodyPost_ret (results_cell_row rfl _ _ w.heap.size 36 D (0, 0) _ rfl (setRow_heap _ _ _ _ _ _ HB0.out.1) Tryd.underlying36 rfl HI.out) rfl ⟨by rw [HE.out], ?_⟩
        exact below_setRow HB0.out.2 (Nat.le_refl _) _
end Go.Proofs.YtplfjfhpdfbpeaaDoor
