import Derived.Test.YteccnnpialaalaaDoorY12
import Derived.Test.YteccnnpialaalaaDoorY8
import Derived.Test.YteccnnpialaalaaDoorY4
import Derived.Test.YteccnnpialaalaaDoorY3
import Derived.Test.YteccnnpialaalaaDoorY6
import Derived.Test.YteccnnpialaalaaDoorY13
import Derived.Test.YteccnnpialaalaaDoorY11
/- The document's Ids. -/
namespace Go.Proofs.YteccnnpialaalaaDoor
open Go.RowKit
set_option linter.unusedSimpArgs false
set_option linter.unusedVariables false
/-- A load of many cells that lie somewhere, in a class. -/
theorem quiet_rowc17 {P : Program} {o : Oper} {a : Act} {C : World → Prop} {K : Act → Prop} (t : TypeId) (x : Operand) (ho : o.op = .load t x) (g f : Nat) (cells : Array Value) (d : TypeDesc) (hx : a.eval x = .pointer (some ⟨g, f, none⟩))
    (hc : ∀ w, C w → ∀ j v, cells[j]? = some v → w.cell? ⟨g, f + j, none⟩ = some v) (hu : P.underlying t = some d) (hd : d.isRow = true) (hi : (P.info? t).map (·.size) = some cells.size) (hn : K (a.put o.dst (.agg cells))) : o.quiet P a C K :=
  quiet_val10 (.agg cells) (fun w hw => by
    have h := hc w hw
    have hr := run_loadVar_mid (P := P) w g f t cells.toList d (fun j v hv => h j v (by rwa [Array.getElem?_toList] at hv)) hu hd (by rw [Array.length_toList]; exact hi)
    unfold execOp
    simp [ho, hx, Instr.loadAt, Instr.sureAddr, hr]) hn
set_option maxHeartbeats 4000000 in
set_option maxRecDepth 100000 in
theorem rids17 (la lb : List ByteArray) (a b : Option Addr) (n m c1 c2 : Nat) (w : World) (ha : NmL w a la) (hb : NmL w b lb) (hn : la.length = n) (hm : lb.length = m) (hz : n ≤ 140737488355328) (hz2 : m ≤ 140737488355328) :
    Calls Tryd.prog 9 #[.slice a n c1, .slice b m c2] w fun e w' => e = .returned (.bool (decide (la = lb))) ∧ Below w.heap.size w w' := by
  have HAB : Hid (∀ W, Below w.heap.size w W → NmL W a la ∧ NmL W b lb) := fun W hW => ⟨ha.below hW, hb.below hW⟩
  have HLN : Hid (la.length = n ∧ lb.length = m) := ⟨hn, hm⟩
  clear ha hb hn hm
  by_cases hnm : n = m
  · subst hnm
    have hbz : ((n : Int) != (n : Int)) = false := by simp
    go_enter Tryd.func9, Tryd.ntmps9
    go_wp2
    go_loopw [5] (fun v wr => ∃ i : Nat, v = .int .i64 i ∧ i ≤ n ∧ (∀ j, j < i → la[j]? = lb[j]?) ∧ Hid (Below w.heap.size w wr)) (fun v _ => n - (intOf v).toNat)
    case atStart => exact ⟨0, rfl, by omega, fun j hj => absurd hj (by omega), Below.refl _ _⟩
    case round =>
      obtain ⟨i, rfl, hin, heq, HB⟩ := hrel
      have HEQ : Hid (∀ j, j < i → la[j]? = lb[j]?) := heq
      clear heq
      by_cases hlt : i < n
      · have hiz : (i : Int) < (n : Int) := by omega
        have hi0 : (0 : Int) ≤ (i : Int) := by omega
        obtain ⟨x, hx⟩ : ∃ x, la[i]? = some x := ⟨_, List.getElem?_eq_getElem (by rw [HLN.out.1]; exact hlt)⟩
        obtain ⟨y, hy⟩ : ∃ y, lb[i]? = some y := ⟨_, List.getElem?_eq_getElem (by rw [HLN.out.2]; exact hlt)⟩
        obtain ⟨hxs, g1, o1, h1, hg1, hc1⟩ := (HAB.out wr HB.out).1 i x hx
        obtain ⟨hys, g2, o2, h2, hg2, hc2⟩ := (HAB.out wr HB.out).2 i y hy
        subst h1
        subst h2
        have HXY : Hid (la[i]? = some x ∧ lb[i]? = some y ∧ x.size = 32 ∧ y.size = 32) := ⟨hx, hy, hxs, hys⟩
        have hNE := neq_ids x y hxs hys
        have HI1 := info_32 (by rw [idc_size, hxs] : (idc x).size = 32)
        have HI2 := info_32 (by rw [idc_size, hys] : (idc y).size = 32)
        obtain ⟨X, hX⟩ : ∃ X, idc x = X := ⟨_, rfl⟩
        obtain ⟨Y, hY⟩ : ∃ Y, idc y = Y := ⟨_, rfl⟩
        rw [hX] at hc1 HI1
        rw [hY] at hc2 HI2
        rw [hX, hY] at hNE
        have HII : Hid ((Tryd.prog.info? 27).map (·.size) = some X.size ∧ (Tryd.prog.info? 27).map (·.size) = some Y.size) := ⟨HI1, HI2⟩
        have C1 : Hid (∀ W, Below wr.heap.size wr W → ∀ j v, X[j]? = some v → W.cell? ⟨g1, o1 + i * 32 + j, none⟩ = some v) := fun W hW j v hv => by rw [hW.cell hg1]; exact hc1 j v hv
        have C2 : Hid (∀ W, Below wr.heap.size wr W → ∀ j v, Y[j]? = some v → W.cell? ⟨g2, o2 + i * 32 + j, none⟩ = some v) := fun W hW j v hv => by rw [hW.cell hg2]; exact hc2 j v hv
        clear hc1 hc2 hg1 hg2 hxs hys HI1 HI2 hX hY
        by_cases hxy : x = y
        · have hNE2 : ∀ u, (binOp .neq 27 (.agg X) (.agg Y)).run Tryd.prog u = .ok (.bool false) u := fun u => by rw [hNE u]; simp [hxy]
          have HEQ2 : Hid (∀ j, j < i + 1 → la[j]? = lb[j]?) := fun j hj => by
            by_cases hji : j < i
            · exact HEQ.out j hji
            · obtain rfl : j = i := by omega
              rw [HXY.out.1, HXY.out.2.1, hxy]
          clear hNE hxy hx hy
          go_wp2
          refine region_class10 (fun W => Below wr.heap.size wr W) (by kernel_rfl) (by kernel_rfl) ((Below.refl _ _).drew) ?_
          try simp only [Act.put, List.setIfInBounds_toArray, List.set_cons_zero, List.set_cons_succ]
          repeat (first
            | go_big_quiet_skip
            | (go_big_quiet_want
               first
                 | (refine quiet_rowc17 27 _ rfl g1 (o1 + i * 32) X _ rfl C1.out Tryd.underlying27 rfl HII.out.1 ?_; go_big_quiet_on; simp only [Act.put, List.setIfInBounds_toArray, List.set_cons_zero, List.set_cons_succ])
                 | (refine quiet_rowc17 27 _ rfl g2 (o2 + i * 32) Y _ rfl C2.out Tryd.underlying27 rfl HII.out.2 ?_; go_big_quiet_on; simp only [Act.put, List.setIfInBounds_toArray, List.set_cons_zero, List.set_cons_succ])
                 | (refine quiet_val10 (.pointer (some ⟨g1, o1 + i * 32, none⟩)) ?_ ?_; (focus (intro W hW; go_simp; done)); go_big_quiet_on; simp only [Act.put, List.setIfInBounds_toArray, List.set_cons_zero, List.set_cons_succ])
                 | (refine quiet_val10 (.pointer (some ⟨g2, o2 + i * 32, none⟩)) ?_ ?_; (focus (intro W hW; go_simp; done)); go_big_quiet_on; simp only [Act.put, List.setIfInBounds_toArray, List.set_cons_zero, List.set_cons_succ])
                 | (refine quiet_val10 (.bool false) ?_ ?_; (focus (intro W hW; go_simp; done)); go_big_quiet_on; simp only [Act.put, List.setIfInBounds_toArray, List.set_cons_zero, List.set_cons_succ])
                 | (go_big_quiet_op; go_big_quiet_on)))
          refine wpQuiet_nil ?_
          intro w9 hw9
          have H9 : Hid (Below w.heap.size w w9) := HB.out.trans (hw9.mono HB.out.size)
          clear hw9
          go_wp2
          go_roundw
          case rel => exact ⟨i + 1, by go_num, by omega, HEQ2.out, H9.out⟩
          case measure => simp [intOf]; omega
        · have hNE2 : ∀ u, (binOp .neq 27 (.agg X) (.agg Y)).run Tryd.prog u = .ok (.bool true) u := fun u => by rw [hNE u]; simp [hxy]
          have HN : Hid (decide (la = lb) = false) := by
            show _ = _
            rw [decide_eq_false_iff_not]
            intro e
            rw [e, hy] at hx
            injection hx with hx
            exact hxy hx.symm
          clear hNE hxy hx hy
          go_wp2
          refine region_class10 (fun W => Below wr.heap.size wr W) (by kernel_rfl) (by kernel_rfl) ((Below.refl _ _).drew) ?_
          try simp only [Act.put, List.setIfInBounds_toArray, List.set_cons_zero, List.set_cons_succ]
          repeat (first
            | go_big_quiet_skip
            | (go_big_quiet_want
               first
                 | (refine quiet_rowc17 27 _ rfl g1 (o1 + i * 32) X _ rfl C1.out Tryd.underlying27 rfl HII.out.1 ?_; go_big_quiet_on; simp only [Act.put, List.setIfInBounds_toArray, List.set_cons_zero, List.set_cons_succ])
                 | (refine quiet_rowc17 27 _ rfl g2 (o2 + i * 32) Y _ rfl C2.out Tryd.underlying27 rfl HII.out.2 ?_; go_big_quiet_on; simp only [Act.put, List.setIfInBounds_toArray, List.set_cons_zero, List.set_cons_succ])
                 | (refine quiet_val10 (.pointer (some ⟨g1, o1 + i * 32, none⟩)) ?_ ?_; (focus (intro W hW; go_simp; done)); go_big_quiet_on; simp only [Act.put, List.setIfInBounds_toArray, List.set_cons_zero, List.set_cons_succ])
                 | (refine quiet_val10 (.pointer (some ⟨g2, o2 + i * 32, none⟩)) ?_ ?_; (focus (intro W hW; go_simp; done)); go_big_quiet_on; simp only [Act.put, List.setIfInBounds_toArray, List.set_cons_zero, List.set_cons_succ])
                 | (refine quiet_val10 (.bool true) ?_ ?_; (focus (intro W hW; go_simp; done)); go_big_quiet_on; simp only [Act.put, List.setIfInBounds_toArray, List.set_cons_zero, List.set_cons_succ])
                 | (go_big_quiet_op; go_big_quiet_on)))
          refine wpQuiet_nil ?_
          intro w9 hw9
          have H9 : Hid (Below w.heap.size w w9) := HB.out.trans (hw9.mono HB.out.size)
          clear hw9
          go_wp2
          go_ret
          exact ⟨ret_b17 HN.out, H9.out⟩
      · obtain rfl : i = n := by omega
        have HN : Hid (decide (la = lb) = true) := by
          show _ = _
          rw [decide_eq_true_iff]
          apply List.ext_getElem?
          intro j
          by_cases hj : j < i
          · exact HEQ.out j hj
          · rw [List.getElem?_eq_none (by rw [HLN.out.1]; omega), List.getElem?_eq_none (by rw [HLN.out.2]; omega)]
        have hiz : ¬ (i : Int) < (i : Int) := by omega
        go_wp2
        go_ret
        exact ⟨ret_b17 HN.out, HB.out⟩
  · have hbz : ((n : Int) != (m : Int)) = true := by rw [bne_iff_ne]; omega
    have HN : Hid (decide (la = lb) = false) := by
      show _ = _
      rw [decide_eq_false_iff_not]
      intro e
      have := HLN.out
      rw [e] at this
      omega
    go_enter Tryd.func9, Tryd.ntmps9
    go_wp2
    go_ret
    exact ⟨ret_b17 HN.out, Below.refl _ _⟩
end Go.Proofs.YteccnnpialaalaaDoor
/- The name of a text's first bytes: its cells, while it is laid. -/
namespace Go.Proofs.YteccnnpialaalaaDoor
open Go.RowKit
set_option linter.unusedSimpArgs false
set_option linter.unusedVariables false
/-- The name of a text's first bytes. -/
def idF (s : ByteArray) : ByteArray := ⟨(s.data.toList.take 32 ++ List.replicate (32 - s.size) (0 : UInt8)).toArray⟩
theorem idF_size (s : ByteArray) : (idF s).size = 32 := by
  show ((s.data.toList.take 32 ++ List.replicate (32 - s.size) (0 : UInt8)).toArray).size = 32
  have : s.data.toList.length = s.size := by rw [Array.length_toList]; rfl
  simp only [List.size_toArray, List.length_append, List.length_take, List.length_replicate, this]
  omega
/-- So many of them are laid. -/
def idK (s : ByteArray) (j : Nat) : Array Value := (bvc ((byl s).take j ++ List.replicate (32 - j) 0)).toArray
theorem idK_get (s : ByteArray) (j i : Nat) (hj : j ≤ s.size) (h32 : j ≤ 32) : (idK s j)[i]? = if i < j then some (.int .u8 (((byl s).getD i 0 : Nat) : Int)) else if i < 32 then some (.int .u8 0) else none := by
  have hl := byl_length s
  simp only [idK, bvc, List.getElem?_toArray, List.getElem?_map]
  by_cases e : i < j
  · rw [if_pos e, List.getElem?_append_left (by rw [List.length_take]; omega), List.getElem?_take, if_pos e, List.getElem?_eq_getElem (by omega), List.getD, List.getElem?_eq_getElem (by omega)]; rfl
  · rw [if_neg e, List.getElem?_append_right (by rw [List.length_take]; omega), List.length_take, List.getElem?_replicate]
    by_cases e2 : i < 32
    · rw [if_pos (by omega), if_pos e2]; rfl
    · rw [if_neg (by omega), if_neg e2]; rfl
theorem idK_size (s : ByteArray) (j : Nat) (hj : j ≤ s.size) (h32 : j ≤ 32) : (idK s j).size = 32 := by
  have hl := byl_length s
  simp only [idK, bvc, List.size_toArray, List.length_map, List.length_append, List.length_take, List.length_replicate]
  omega
theorem idK_next (s : ByteArray) (j : Nat) (hj : j < s.size) (h32 : j < 32) : (idK s j).setIfInBounds j (.int .u8 (((byl s).getD j 0 : Nat) : Int)) = idK s (j + 1) := by
  apply Array.ext_getElem?
  intro i
  rw [Array.getElem?_setIfInBounds, idK_get s j i (by omega) (by omega), idK_get s (j + 1) i (by omega) (by omega), idK_size s j (by omega) (by omega)]
  by_cases e : j = i
  · subst e; rw [if_pos rfl, if_pos h32, if_pos (by omega)]
  · rw [if_neg e]
    by_cases e2 : i < j
    · rw [if_pos e2, if_pos (by omega)]
    · have e3 : ¬ i < j + 1 := by omega
      rw [if_neg e2, if_neg e3]
theorem idK_zero (s : ByteArray) : idK s 0 = z32c := rfl
theorem idK_end (s : ByteArray) (j : Nat) (h : j = min s.size 32) : idK s j = idc (idF s) := by
  have hl := byl_length s
  unfold idK idc
  congr 2
  show _ = List.map UInt8.toNat (s.data.toList.take 32 ++ List.replicate (32 - s.size) (0 : UInt8))
  have e0 : List.map UInt8.toNat s.data.toList = byl s := rfl
  rw [List.map_append, List.map_take, e0, List.map_replicate]
  have e1 : (byl s).take j = (byl s).take 32 := by
    subst h
    by_cases e : s.size ≤ 32
    · rw [Nat.min_eq_left e, List.take_of_length_le (by omega), List.take_of_length_le (by omega)]
    · rw [Nat.min_eq_right (by omega)]
  have e2 : 32 - j = 32 - s.size := by omega
  rw [e1, e2]; rfl
theorem idK_one (s : ByteArray) (j : Nat) : (idK s j).all (·.oneCell') = true := Array.all_eq_true_iff_forall_mem.2 (by intro v hv; exact bvc_one _ v (by simpa [idK] using hv))
/-- While a name is laid. -/
structure IdS (w : World) (s : ByteArray) (j : Nat) (W : World) : Prop where
  res : Bk W w.heap.size z32c 27
  out : Bk W (w.heap.size + 1) (idK s j) 27
  bel : Below w.heap.size w W
theorem IdS.new (w : World) (s : ByteArray) : IdS w s 0 ((w.alloc (.cells z32c 27)).alloc (.cells z32c 27)) := by
  have h := bk_new (w.alloc (.cells z32c 27)) z32c 27
  rw [al_size] at h
  exact ⟨(bk_new _ _ _).alloc _, h, ((Below.refl _ _).alloc (Nat.le_refl _) _).alloc (by simp) _⟩
theorem IdS.next {w W : World} {s : ByteArray} {j : Nat} (h : IdS w s j W) (hj : j < s.size) (h32 : j < 32) : IdS w s (j + 1) (W.setCell ⟨w.heap.size + 1, j, none⟩ (.int .u8 (((byl s).getD j 0 : Nat) : Int))) := by
  have hg : W.grownBy (W.setCell ⟨w.heap.size + 1, j, none⟩ (.int .u8 (((byl s).getD j 0 : Nat) : Int))) (some (w.heap.size + 1)) := Lib.grownBy_setB (World.grownBy.refl W _) j _
  refine ⟨h.res.grown hg (by simp), ?_, below_own h.bel h.bel.size hg (by omega)⟩
  rw [← idK_next s j hj h32]
  exact h.out.set j _
end Go.Proofs.YteccnnpialaalaaDoor
/- Law 17: id. -/
namespace Go.Proofs.YteccnnpialaalaaDoor
open Go.RowKit
set_option linter.unusedSimpArgs false
set_option linter.unusedVariables false
set_option maxHeartbeats 1000000 in
set_option maxRecDepth 100000 in
theorem id_any17 (s : ByteArray) (w : World) : Calls Tryd.prog 4 #[.string s] w fun e w' => e = .returned (.agg (idc (idF s))) ∧ Below w.heap.size w w' := by
  have HS : Hid (IdS w s 0 ((w.alloc (.cells z32c 27)).alloc (.cells z32c 27))) := IdS.new w s
  go_enter Tryd.func4, Tryd.ntmps4
  go_wp2
  go_loopw [4] (fun v wr => ∃ j : Nat, j ≤ 32 ∧ j ≤ s.size ∧ v = .int .i64 j ∧ Hid (IdS w s j wr)) (fun v _ => 33 - (intOf v).toNat)
  case atStart => exact ⟨0, by omega, by omega, rfl, HS.out⟩
  case round =>
    clear HS
    obtain ⟨j, h32, hjs, rfl, HS⟩ := hrel
    by_cases hlt : j < s.size ∧ j < 32
    · have h1 := hlt.1
      have h2 := hlt.2
      have k1 : (j : Int) < (s.size : Nat) := by omega
      have k2 : (j : Int) < 32 := by omega
      have hc : wr.cell? ⟨w.heap.size + 1, j, none⟩ = some (.int .u8 0) := by rw [HS.out.out.cell, idK_get s j j (by omega) (by omega), if_neg (by omega), if_pos h2]
      have hf := HS.out.out.frozen j
      have HN : Hid _ := HS.out.next h1 h2
      have e : (byl s).getD j 0 = s[j].toNat := by rw [List.getD, byl_getD s j h1]; rfl
      rw [e] at HN
      clear e hlt
      go_wp2
      go_roundw
      case rel => exact ⟨j + 1, by omega, by omega, by go_num, HN.out⟩
      case measure => simp [intOf]; omega
    · have hj : j = min s.size 32 := by omega
      have HE : Hid (idK s j = idc (idF s)) := idK_end s j hj
      have HI : Hid ((Tryd.prog.info? 27).map (·.size) = some (idK s j).size) := info_32 (idK_size s j hjs h32)
      have HO := idK_one s j
      have HZ := idK_size s j hjs h32
      have HK : Hid (idK s j = idc (idF s)) := HE
      obtain ⟨D, hD⟩ : ∃ D, idK s j = D := ⟨_, rfl⟩
      have HB1 : Hid (Bk wr (w.heap.size + 1) D 27) := by rw [← hD]; exact HS.out.out
      rw [hD] at HI HE HO HZ
      have HB0 : Hid (Bk wr w.heap.size z32c 27 ∧ Below w.heap.size w wr) := ⟨HS.out.res, HS.out.bel⟩
      clear HK hD HS
      have HOO : Hid (D.all (·.oneCell') = true ∧ D.size = 32) := ⟨HO, HZ⟩
      clear HO HZ
      by_cases hjl : j < s.size
      · have k1 : (j : Int) < (s.size : Nat) := by omega
        have k2 : ¬ (j : Int) < 32 := by omega
        clear hlt hj
        go_wp2_with (first
          | (refine wpList_load_row rfl 27 (.tmp 3) rfl (w.heap.size + 1) rfl 27 D (0, 0) _ HB1.out Tryd.underlying27 rfl HI.out ?_)
          | (refine wpList_store_row rfl 27 (.tmp 2) (.tmp 20) rfl w.heap.size D rfl rfl 27 z32c HB0.out.1 HI.out (by rw [z32c_size, HOO.out.2]) HOO.out.1 ?_))
        refine bodyPost_ret (results_cell_row rfl _ _ w.heap.size 27 D (0, 0) _ rfl (setRow_heap _ _ _ _ _ _ HB0.out.1) Tryd.underlying27 rfl HI.out) rfl ⟨by rw [HE.out], ?_⟩
        exact below_setRow HB0.out.2 (Nat.le_refl _) _
      · have k1 : ¬ (j : Int) < (s.size : Nat) := by omega
        clear hlt hj
        go_wp2_with (first
          | (refine wpList_load_row rfl 27 (.tmp 3) rfl (w.heap.size + 1) rfl 27 D (0, 0) _ HB1.out Tryd.underlying27 rfl HI.out ?_)
          | (refine wpList_store_row rfl 27 (.tmp 2) (.tmp 20) rfl w.heap.size D rfl rfl 27 z32c HB0.out.1 HI.out (by rw [z32c_size, HOO.out.2]) HOO.out.1 ?_))
        refine bodyPost_ret (results_cell_row rfl _ _ w.heap.size 27 D (0, 0) _ rfl (setRow_heap _ _ _ _ _ _ HB0.out.1) Tryd.underlying27 rfl HI.out) rfl ⟨by rw [HE.out], ?_⟩
        exact below_setRow HB0.out.2 (Nat.le_refl _) _
end Go.Proofs.YteccnnpialaalaaDoor
/- Law 17: what lies in memory while tables are laid, read and spoilt. -/
namespace Go.Proofs.YteccnnpialaalaaDoor
open Go.RowKit
set_option linter.unusedSimpArgs false
set_option linter.unusedVariables false
/-- While sums are laid. -/
structure LwA (w : World) (d p z : Int) (v : Value) (l : List ByteArray) (W : World) : Prop where
  b : Bk W w.heap.size #[.int .i64 d, .int .i64 p, .int .i64 z, v] 25
  ow : W.ownsRow (w.heap.size + 1) 27 32 v l.length (ivs l)
  bel : Below w.heap.size w W
theorem LwA.new (w : World) (d p z : Int) : LwA w d p z (.slice none 0 0) [] (w.alloc (.cells #[.int .i64 d, .int .i64 p, .int .i64 z, .slice none 0 0] 25)) :=
  ⟨bk_new _ _ _, ids_nil _ _, (Below.refl _ _).alloc (Nat.le_refl _) _⟩
theorem LwA.next {w W W' : World} {d p z : Int} {v : Value} {l : List ByteArray} (h : LwA w d p z v l W) (hb : Below W.heap.size W W') : LwA w d p z v l W' :=
  ⟨h.b.below hb h.b.lt, rows_keep h.ow (fun g _ hg => hb.block g hg), h.bel.trans (hb.mono h.bel.size)⟩
theorem LwA.cell {w W : World} {d p z : Int} {v : Value} {l : List ByteArray} (h : LwA w d p z v l W) : W.cell? ⟨w.heap.size, 3, none⟩ = some v ∧ W.frozen? ⟨w.heap.size, 3, none⟩ = false := ⟨by rw [h.b.cell]; rfl, h.b.frozen 3⟩
structure LwU (w : World) (d p z : Int) (v0 v : Value) (l : List ByteArray) (W : World) : Prop where
  b : Bk W w.heap.size #[.int .i64 d, .int .i64 p, .int .i64 z, v0] 25
  ow : W.ownsRow (w.heap.size + 1) 27 32 v l.length (ivs l)
  bel : Below w.heap.size w W
theorem LwA.app {w W : World} {k o : Nat} {d p z : Int} {v : Value} {l : List ByteArray} {x : ByteArray} (h : LwA w d p z v l W) (hx : x.size = 32) (hk : ∀ j u, (idc x)[j]? = some u → W.cell? ⟨k, o + j, none⟩ = some u) (hn : (l.length + 1) * 32 ≤ 140737488355328) :
    ∃ g cp W7, (Builtin.append_ #[23, 23] 23 #[v, .slice (some ⟨k, o, none⟩) 1 1]).run Tryd.prog W = .ok (.slice (some ⟨g, 0, none⟩) (l.length + 1) cp) W7 ∧
      LwU w d p z v (.slice (some ⟨g, 0, none⟩) (l.length + 1) cp) (l ++ [x]) W7 := by
  have hlt := h.b.lt
  obtain ⟨g, cp, w7, hr, ho, hc, hg⟩ := ids_app h.ow (by omega) hx hk hn
  refine ⟨g, cp, w7, hr, ?_⟩
  have hb : Below (w.heap.size + 1) W w7 := rows_bel (Below.refl _ _) (by omega) h.ow (Nat.le_refl _) hg
  refine ⟨h.b.below hb (by omega), ?_, h.bel.trans (hb.mono (by omega))⟩
  rw [List.length_append]
  exact ho
theorem LwU.put {w W : World} {d p z : Int} {v0 v : Value} {l : List ByteArray} (h : LwU w d p z v0 v l W) : LwA w d p z v l (W.setCell ⟨w.heap.size, 3, none⟩ v) := by
  have hg : W.grownBy (W.setCell ⟨w.heap.size, 3, none⟩ v) (some w.heap.size) := Lib.grownBy_setB (World.grownBy.refl W _) 3 _
  exact ⟨h.b.set 3 v, rows_keep h.ow (fun g hle hlt => hg.block g hlt (fun e => by injection e with e; omega)), h.bel.grown hg h.bel.size (fun b hk => by injection hk with hk; omega)⟩
theorem bs0_17 (w : World) : (Instr.buildSlice 23 0 #[]).run Tryd.prog w = .ok (.slice (some ⟨w.heap.size, 0, none⟩) 0 0) (w.alloc (.cells #[] 27)) := by kernel_rfl
theorem ivs_one (l : List ByteArray) : ∀ u ∈ ivs l, u.oneCell' = true := fun u hu => by
  obtain ⟨s, _, hu⟩ := List.mem_flatMap.1 hu
  exact idc_oneI s u hu
/-- All of a row are copied behind nothing. -/
theorem app0_17 {B : Nat} {W : World} {v : Value} {l : List ByteArray} (h : W.ownsRow B 27 32 v l.length (ivs l)) (hs : ∀ x ∈ l, x.size = 32) (hl : l.length ≤ 1048576) :
    ∃ v1 W2, (Builtin.append_ #[23, 23] 23 #[.slice (some ⟨W.heap.size, 0, none⟩) 0 0, v]).run Tryd.prog (W.alloc (.cells #[] 27)) = .ok v1 W2 ∧
      W2.ownsRow W.heap.size 27 32 v1 l.length (ivs l) ∧ Below W.heap.size W W2 := by
  obtain ⟨i0, hi, hz0, hz1, hz2⟩ := infoP17 inf_id17
  have hal : Below W.heap.size W (W.alloc (.cells #[] 27)) := (Below.refl _ _).alloc (Nat.le_refl _) _
  have hbk := bk_new W #[] 27
  have own0 : (W.alloc (.cells #[] 27)).ownsRow W.heap.size 27 32 (.slice (some ⟨W.heap.size, 0, none⟩) 0 0) 0 [] :=
    ⟨rfl, .inr ⟨W.heap.size, 0, #[], rfl, Nat.le_refl _, hbk, Nat.le_refl _, by unfold maxLen; omega, rfl, rfl⟩⟩
  rcases h.2 with ⟨rfl, h0⟩ | ⟨g, cap, cur, rfl, hle, hg, hnc, hcl, hsz, ht⟩
  · obtain rfl : l = [] := List.length_eq_zero_iff.1 h0
    exact ⟨_, _, run_append_owned_none _ W.heap.size _ _ _ i0 32 Tryd.underlying23 hi _ 0 [] own0, own0, hal⟩
  · have hk := rows_keep h (fun g _ hg => hal.block g hg)
    have hcell : ∀ j u, (ivs l)[j]? = some u → (W.alloc (.cells #[] 27)).cell? ((⟨g, 0, none⟩ : Addr).add j) = some u := fun j u hu => by
      have hb : Bk W g cur 27 := hg
      rw [WideShapes.add_plain, Nat.zero_add]
      rw [(hb.below hal hb.lt).cell]
      rw [← ht, List.getElem?_take] at hu
      split at hu
      · rw [← Array.getElem?_toList]; exact hu
      · cases hu
    obtain ⟨v', w7, hrun, hown, hgrow, _, hat⟩ := run_append_own_at (P := Tryd.prog) (w := W.alloc (.cells #[] 27)) W.heap.size 23 23 27 i0 (.agg z32c) 32 32 Tryd.underlying23 hi hz0 hz1 hz2 rfl (by decide) (.slice (some ⟨W.heap.size, 0, none⟩) 0 0) 0 [] own0 ⟨g, 0, none⟩ l.length cap (ivs l) h.1
      hcell (ivs_one l) (by unfold maxLen; omega) (by omega) hal.size
    rw [Nat.zero_add, List.nil_append] at hown
    exact ⟨v', w7, hrun, hown, rows_bel hal hal.size own0 (Nat.le_refl _) hgrow⟩
/-- All that the law has laid. -/
structure LwB (w : World) (d p z : Int) (a : Option Addr) (n c : Nat) (l : List ByteArray) (g2 cp : Nat) (mk : ByteArray) (W : World) : Prop where
  b : Bk W w.heap.size #[.int .i64 d, .int .i64 p, .int .i64 z, .slice a n c] 25
  nm : NmL W a l
  nm2 : NmL W (some ⟨g2, 0, none⟩) (l ++ [mk])
  bel : Below w.heap.size w W
theorem LwB.next {w W W' : World} {d p z : Int} {a : Option Addr} {n c g2 cp : Nat} {l : List ByteArray} {mk : ByteArray} (h : LwB w d p z a n c l g2 cp mk W) (hb : Below W.heap.size W W') : LwB w d p z a n c l g2 cp mk W' :=
  ⟨h.b.below hb h.b.lt, h.nm.below hb, h.nm2.below hb, h.bel.trans (hb.mono h.bel.size)⟩
theorem NmL.front {w : World} {a : Option Addr} {l m : List ByteArray} (h : NmL w a (l ++ m)) : NmL w a l := fun i s hs => h i s (by rw [List.getElem?_append_left (List.getElem?_eq_some_iff.1 hs).1]; exact hs)
/-- A table's cells, its names in a row of its own. -/
def TbG (d p z : Int) (l : List ByteArray) (B : Nat) (C : Array Value) (W : World) : Prop :=
  ∃ v, C = #[.int .i64 d, .int .i64 p, .int .i64 z, v] ∧ W.ownsRow B 27 32 v l.length (ivs l)
/-- What both tell of a text, in letters. -/
theorem dc_gen (s : ByteArray) (hs : s.size ≤ maxLen) : ∃ d p z l E0, (∀ x ∈ l, x.size = 32) ∧ l.length ≤ 2097153 ∧ (E0 = 0 ∨ E0 = 4) ∧ ∀ B C E W, DcA17 s B C E W → E = E0 ∧ TbG d p z l B C W := by
  by_cases h : IsT17 s
  · refine ⟨nm17 (ufP s) 1, nm17 (ufP s) 2, nm17 (ufP s) 3, rows17 (rd17 (ufP s) 4) ((rd17 (ufP s) 4).size / 32), 0, rows17_size _ _ (by omega), ?_, .inl rfl, ?_⟩
    · rw [rows17_len]
      have := rd17_size (ufP s) 4
      have := ufP_size17 s
      omega
    · rintro B C E W (⟨_, ⟨v, h1, h2⟩, h3⟩ | ⟨h1, _⟩)
      · exact ⟨h3, v, h1, by rw [rows17_len]; exact h2⟩
      · exact absurd h h1
  · refine ⟨0, 0, 0, [], 4, fun x hx => (by cases hx), by simp, .inr rfl, ?_⟩
    rintro B C E W (⟨h1, _⟩ | ⟨_, h2, h3⟩)
    · exact absurd h1 h
    · exact ⟨h3, _, h2, ids_nil _ _⟩
theorem TbG.shape {d p z : Int} {l : List ByteArray} {B : Nat} {C : Array Value} {W : World} (h : TbG d p z l B C W) (hs : ∀ x ∈ l, x.size = 32) : ∃ a c, C = #[.int .i64 d, .int .i64 p, .int .i64 z, .slice a l.length c] ∧ NmL W a l ∧ W.ownsRow B 27 32 (.slice a l.length c) l.length (ivs l) := by
  obtain ⟨v, h1, h2⟩ := h
  obtain ⟨a, c, rfl, h3, _⟩ := own_ids h2 rfl hs
  exact ⟨a, c, h1, h3, h2⟩
/-- The three that were read, and their blocks. -/
structure LwD (w : World) (d p z : Int) (l : List ByteArray) (a1 : Option Addr) (c1 g1 : Nat) (a3 : Option Addr) (c3 g3 : Nat) (W : World) : Prop where
  b1 : Bk W g1 #[.int .i64 d, .int .i64 p, .int .i64 z, .slice a1 l.length c1] 25
  b3 : Bk W g3 #[.int .i64 d, .int .i64 p, .int .i64 z, .slice a3 l.length c3] 29
  n1 : NmL W a1 l
  n3 : NmL W a3 l
theorem LwD.next {w W W' : World} {d p z : Int} {l : List ByteArray} {a1 a3 : Option Addr} {c1 g1 c3 g3 : Nat} (h : LwD w d p z l a1 c1 g1 a3 c3 g3 W) (hb : Below W.heap.size W W') : LwD w d p z l a1 c1 g1 a3 c3 g3 W' :=
  ⟨h.b1.below hb h.b1.lt, h.b3.below hb h.b3.lt, h.n1.below hb, h.n3.below hb⟩
/-- What is spoilt is a row of its own, none of the others'. -/
structure SpV (w W0 : World) (B T1 : Nat) (v : Value) (m : Nat) (W : World) : Prop where
  fr : ∀ k, k < W0.heap.size → (k < B ∨ T1 ≤ k) → W.heap[k]? = W0.heap[k]?
  sz : W0.heap.size ≤ W.heap.size
  ow : ∃ xs, W.ownsRow B 27 32 v m xs
  ne : ∀ g, v.ownBlock = some g → B ≤ g ∧ (g < T1 ∨ W0.heap.size ≤ g)
  bel : Below w.heap.size w W
  lo : w.heap.size ≤ B
theorem SpV.call {w W0 W W' : World} {B T1 m : Nat} {v : Value} (h : SpV w W0 B T1 v m W) (hb : Below W.heap.size W W') : SpV w W0 B T1 v m W' := by
  obtain ⟨xs, ho⟩ := h.ow
  have hs := h.sz
  exact ⟨fun k hk hkk => by rw [hb.block k (by omega)]; exact h.fr k hk hkk, Nat.le_trans hs hb.size, ⟨xs, rows_keep ho (fun g _ hg => hb.block g hg)⟩, h.ne, h.bel.trans (hb.mono h.bel.size), h.lo⟩
/-- The row's block. -/
theorem SpV.blk {w W0 W : World} {B T1 m : Nat} {v : Value} (h : SpV w W0 B T1 v m W) (hm : 0 < m) : ∃ g cap cur, v = .slice (some ⟨g, 0, none⟩) m cap ∧ Bk W g cur 27 ∧ m ≤ cap ∧ cap ≤ maxLen ∧ cur.size = cap * 32 := by
  obtain ⟨xs, ho⟩ := h.ow
  rcases ho.2 with ⟨_, h0⟩ | ⟨g, cap, cur, h1, _, h2, h3, h4, h5, _⟩
  · omega
  · exact ⟨g, cap, cur, h1, h2, h3, h4, h5⟩
theorem SpV.store {w W0 W W' : World} {B T1 m g cap : Nat} {cur' : Array Value} (h : SpV w W0 B T1 (.slice (some ⟨g, 0, none⟩) m cap) m W) (hm : m ≤ cap) (hc : cap ≤ maxLen) (hz : cur'.size = cap * 32) (hb : Bk W' g cur' 27) (hg : W.grownBy W' (some g)) : SpV w W0 B T1 (.slice (some ⟨g, 0, none⟩) m cap) m W' := by
  obtain ⟨hB, hne⟩ := h.ne g rfl
  have hs := h.sz
  have hlo := h.lo
  refine ⟨fun k hk hkk => ?_, Nat.le_trans hs hg.size, ⟨cur'.toList.take (m * 32), ?_, .inr ⟨g, cap, cur', rfl, hB, hb, hm, hc, hz, rfl⟩⟩, h.ne, h.bel.grown hg h.bel.size (fun b hk => by have e : g = b := (Option.some.inj hk); omega), hlo⟩
  · rw [hg.block k (by omega) (fun e => by injection e with e; omega)]
    exact h.fr k hk hkk
  · rw [List.length_take, Array.length_toList, hz]
    have : m * 32 ≤ cap * 32 := Nat.mul_le_mul_right _ hm
    omega
/-- One more behind it. -/
theorem SpV.app {w W0 W : World} {B T1 m k : Nat} {v : Value} {x : ByteArray} (h : SpV w W0 B T1 v m W) (hBs : B ≤ W.heap.size) (hx : x.size = 32) (hk : Bk W k (idc x) 27) (hn : (m + 1) * 32 ≤ 140737488355328) :
    ∃ g cp W7, (Builtin.append_ #[23, 23] 23 #[v, .slice (some ⟨k, 0, none⟩) 1 1]).run Tryd.prog W = .ok (.slice (some ⟨g, 0, none⟩) (m + 1) cp) W7 ∧ SpV w W0 B T1 (.slice (some ⟨g, 0, none⟩) (m + 1) cp) (m + 1) W7 := by
  obtain ⟨xs, ho⟩ := h.ow
  have hs := h.sz
  have hlo := h.lo
  obtain ⟨i0, hi, hz0, hz1, hz2⟩ := infoP17 inf_id17
  obtain ⟨v', w7, hrun, hown, hgrow, _, hat⟩ := run_append_own_at (P := Tryd.prog) (w := W) B 23 23 27 i0 (.agg z32c) 32 32 Tryd.underlying23 hi hz0 hz1 hz2 rfl (by decide) v m xs ho ⟨k, 0, none⟩ 1 1 (idc x).toList (by rw [Array.length_toList, idc_size, hx])
    (fun j u hu => by
      rw [WideShapes.add_plain, Nat.zero_add, hk.cell]
      rwa [Array.getElem?_toList] at hu) (idc_oneI x) (by unfold maxLen; omega) (by omega) hBs
  obtain ⟨g, cp, rfl⟩ : ∃ g cp, v' = .slice (some ⟨g, 0, none⟩) (m + 1) cp := by
    rcases hown.2 with ⟨_, h0⟩ | ⟨g7, c7, cur, h1, _⟩
    · omega
    · exact ⟨g7, c7, h1⟩
  have hgB : B ≤ g := by
    rcases hown.2 with ⟨_, h0⟩ | ⟨g7, c7, cur, h1, h2, _⟩
    · omega
    · injection h1 with h1; injection h1 with h1; injection h1 with h1; omega
  refine ⟨g, cp, w7, hrun, fun k hk hkk => ?_, Nat.le_trans hs hgrow.size, ⟨_, hown⟩, fun q hq => ?_, ?_, hlo⟩
  · rw [hgrow.block k (by omega) (fun e => by have := h.ne k e.symm; omega)]
    exact h.fr k hk hkk
  · obtain rfl : g = q := Option.some.inj hq
    refine ⟨hgB, ?_⟩
    rcases hat with e | e
    · exact (h.ne g e.symm).2
    · right
      have e2 : g = W.heap.size := Option.some.inj e
      show _ ≤ g
      omega
  · exact h.bel.grown hgrow h.bel.size (fun b hk => by have := (h.ne b hk).1; omega)
theorem bd_tb4 (d p z : Int) (v : Value) (hv : v.oneCell' = true) (a : Option Addr) (n c : Nat) (e : v = .slice a n c) (w : World) : (Instr.build 29 #[(0, .int .i64 d), (1, .int .i64 p), (2, .int .i64 z), (3, v)]).run Tryd.prog w = .ok (.agg #[.int .i64 d, .int .i64 p, .int .i64 z, v]) w := by
  subst e
  refine run_build w _ _ _ ?_
  kernel_rfl
/-- The law's two tables. -/
structure LwC (w : World) (d p z : Int) (a : Option Addr) (n c : Nat) (l : List ByteArray) (g2 cp : Nat) (mk : ByteArray) (g6 : Nat) (W : World) : Prop where
  t : Bk W g6 #[.int .i64 d, .int .i64 p, .int .i64 z, .slice (some ⟨g2, 0, none⟩) n cp] 29
  b : LwB w d p z a n c l g2 cp mk W
theorem LwC.next {w W W' : World} {d p z : Int} {a : Option Addr} {n c g2 cp g6 : Nat} {l : List ByteArray} {mk : ByteArray} (h : LwC w d p z a n c l g2 cp mk g6 W) (hb : Below W.heap.size W W') : LwC w d p z a n c l g2 cp mk g6 W' :=
  ⟨h.t.below hb h.t.lt, h.b.next hb⟩
theorem LwC.last {w W : World} {d p z : Int} {a : Option Addr} {n c g2 cp g6 : Nat} {l : List ByteArray} {mk : ByteArray} (h : LwC w d p z a n c l g2 cp mk g6 W) (hl : l.length = n) : ∀ j v, (idc mk)[j]? = some v → W.cell? ⟨g2, n * 32 + j, none⟩ = some v := fun j v hv => by
  obtain ⟨_, g, o, h1, _, h2⟩ := h.b.nm2 n mk (by rw [List.getElem?_append_right (by omega), hl, Nat.sub_self]; rfl)
  injection h1 with h1
  injection h1 with h1 h3
  subst h1
  subst h3
  have := h2 j v hv
  rwa [Nat.zero_add] at this
/-- What is encoded, in letters. -/
theorem enc_gen (d p z : Int) (l : List ByteArray) (n : Nat) (hl : l.length = n) (hs : ∀ x ∈ l, x.size = 32) : ∃ Wt e0, encE17 d p z l = .returned (.tuple #[.string Wt, .int .i64 e0]) ∧ Wt.size ≤ 140737488351232 ∧ e0 = ckE17 d p z n := by
  by_cases h : okT d p z n = true
  · refine ⟨_, 0, by rw [encE17, hl, if_pos h], ?_, by rw [ckE17, if_pos h]⟩
    have hb := h
    simp only [okT, Bool.and_eq_true, decide_eq_true_eq] at hb
    obtain ⟨q1, q2, q3, q4, q5, q6⟩ := (mayN_iff d p z).1 hb.1
    have hq := hb.2
    rw [frm_size]
    show 8 + (tbP d.toNat p.toNat z.toNat l).toArray.size ≤ _
    rw [List.size_toArray, tbP, List.length_append, flat_bl_len l hs, hl]
    have e1 := eN_len 1 (by omega)
    have e2 := eN_len d.toNat (by omega)
    have e3 := eN_len p.toNat (by omega)
    have e4 := eN_len z.toNat (by omega)
    have : ((nmsP d.toNat p.toNat z.toNat).flatMap eN).length = (eN 1).length + ((eN d.toNat).length + ((eN p.toNat).length + (eN z.toNat).length)) := by simp [nmsP]
    omega
  · exact ⟨⟨#[]⟩, 1, by rw [encE17, hl, if_neg h], by show 0 ≤ _; omega, by rw [ckE17, if_neg h]⟩
theorem NmL.blk {W W' : World} {a : Option Addr} {l : List ByteArray} (h : NmL W a l) (hz : W.heap.size ≤ W'.heap.size) (hb : ∀ g o, a = some ⟨g, o, none⟩ → g < W.heap.size → W'.heap[g]? = W.heap[g]?) : NmL W' a l := fun i s hs => by
  obtain ⟨h1, g, o, h2, h3, h4⟩ := h i s hs
  refine ⟨h1, g, o, h2, Nat.lt_of_lt_of_le h3 hz, fun j v hv => ?_⟩
  rw [(cell_blkX (j := o + i * 32 + j) (hb g o h2 h3)).1]
  exact h4 j v hv
theorem SpV.new {w W0 : World} {B T1 m : Nat} {v : Value} {xs : List Value} (ho : W0.ownsRow B 27 32 v m xs) (hT : ∀ g, v.ownBlock = some g → B ≤ g ∧ g < T1) (hb : Below w.heap.size w W0) (hl : w.heap.size ≤ B) : SpV w W0 B T1 v m W0 :=
  ⟨fun _ _ _ => rfl, Nat.le_refl _, ⟨xs, ho⟩, fun g hg => ⟨(hT g hg).1, .inl (hT g hg).2⟩, hb, hl⟩
theorem LwD.kept {w W0 W : World} {d p z : Int} {l : List ByteArray} {a1 a3 : Option Addr} {c1 g1 c3 g3 B T1 m : Nat} {v : Value} (h : LwD w d p z l a1 c1 g1 a3 c3 g3 W0) (hs : SpV w W0 B T1 v m W) (hp : (∀ g o, a1 = some ⟨g, o, none⟩ → g < B) ∧ (∀ g o, a3 = some ⟨g, o, none⟩ → T1 ≤ g) ∧ g1 < B ∧ T1 ≤ g3) : LwD w d p z l a1 c1 g1 a3 c3 g3 W := by
  have l1 := h.b1.lt
  have l3 := h.b3.lt
  refine ⟨?_, ?_, h.n1.blk hs.sz (fun g o e hg => hs.fr g hg (.inl (hp.1 g o e))), h.n3.blk hs.sz (fun g o e hg => hs.fr g hg (.inr (hp.2.1 g o e)))⟩
  · unfold Bk; rw [hs.fr g1 l1 (.inl hp.2.2.1)]; exact h.b1
  · unfold Bk; rw [hs.fr g3 l3 (.inr hp.2.2.2)]; exact h.b3
/-- The three that were read, all of them. -/
structure LwE (w : World) (d p z : Int) (l : List ByteArray) (n : Nat) (a1 : Option Addr) (c1 g1 : Nat) (a2 : Option Addr) (c2 g2 : Nat) (a3 : Option Addr) (c3 g3 B T1 : Nat) (W : World) : Prop where
  len : l.length = n
  dd : LwD w d p z l a1 c1 g1 a3 c3 g3 W
  b2 : Bk W g2 #[.int .i64 d, .int .i64 p, .int .i64 z, .slice a2 n c2] 29
  n2 : NmL W a2 l
  o2 : W.ownsRow B 27 32 (.slice a2 n c2) n (ivs l)
  bel : Below w.heap.size w W
  lo : w.heap.size ≤ B
  Bs : B ≤ W.heap.size
  pos : (∀ g o, a1 = some ⟨g, o, none⟩ → g < B) ∧ (∀ g o, a3 = some ⟨g, o, none⟩ → T1 ≤ g) ∧ g1 < B ∧ T1 ≤ g3
  pos2 : ∀ g, (Value.slice a2 n c2).ownBlock = some g → B ≤ g ∧ g < T1
theorem LwE.next {w W W' : World} {d p z : Int} {l : List ByteArray} {n : Nat} {a1 a2 a3 : Option Addr} {c1 g1 c2 g2 c3 g3 B T1 : Nat} (h : LwE w d p z l n a1 c1 g1 a2 c2 g2 a3 c3 g3 B T1 W) (hb : Below W.heap.size W W') : LwE w d p z l n a1 c1 g1 a2 c2 g2 a3 c3 g3 B T1 W' :=
  ⟨h.len, h.dd.next hb, h.b2.below hb h.b2.lt, h.n2.below hb, rows_keep h.o2 (fun g _ hg => hb.block g hg), h.bel.trans (hb.mono h.bel.size), h.lo, Nat.le_trans h.Bs hb.size, h.pos, h.pos2⟩
theorem own_at17 {B n c g o : Nat} {w : World} {a : Option Addr} {xs : List Value} {e : TypeId} (h : w.ownsRow B e 32 (.slice a n c) n xs) (ha : a = some ⟨g, o, none⟩) : B ≤ g ∧ g < w.heap.size := by
  subst ha
  exact rows_blk h rfl
theorem LwE.mk17 {w wr W1 W2 W3 : World} {d p z : Int} {l : List ByteArray} {n : Nat} {a1 a2 a3 : Option Addr} {c1 c2 c3 : Nat} (hl : l.length = n) (hb : Below w.heap.size w wr)
    (n1 : NmL W1 a1 l) (o1 : W1.ownsRow wr.heap.size 27 32 (.slice a1 n c1) n (ivs l)) (b1 : Below wr.heap.size wr W1)
    (n2 : NmL W2 a2 l) (o2 : W2.ownsRow (W1.heap.size + 1) 27 32 (.slice a2 n c2) n (ivs l)) (b2 : Below (W1.heap.size + 1) (W1.alloc (.cells #[.int .i64 d, .int .i64 p, .int .i64 z, .slice a1 n c1] 25)) W2)
    (n3 : NmL W3 a3 l) (o3 : W3.ownsRow (W2.heap.size + 1) 27 32 (.slice a3 n c3) n (ivs l)) (b3 : Below (W2.heap.size + 1) (W2.alloc (.cells #[.int .i64 d, .int .i64 p, .int .i64 z, .slice a2 n c2] 29)) W3) :
    LwE w d p z l n a1 c1 W1.heap.size a2 c2 W2.heap.size a3 c3 W3.heap.size (W1.heap.size + 1) (W2.heap.size + 1) (W3.alloc (.cells #[.int .i64 d, .int .i64 p, .int .i64 z, .slice a3 n c3] 29)) := by
  subst hl
  obtain ⟨W1a, hW1a⟩ : ∃ W, W1.alloc (.cells #[.int .i64 d, .int .i64 p, .int .i64 z, .slice a1 l.length c1] 25) = W := ⟨_, rfl⟩
  obtain ⟨W2a, hW2a⟩ : ∃ W, W2.alloc (.cells #[.int .i64 d, .int .i64 p, .int .i64 z, .slice a2 l.length c2] 29) = W := ⟨_, rfl⟩
  obtain ⟨W3a, hW3a⟩ : ∃ W, W3.alloc (.cells #[.int .i64 d, .int .i64 p, .int .i64 z, .slice a3 l.length c3] 29) = W := ⟨_, rfl⟩
  have k1 : Bk W1a W1.heap.size #[.int .i64 d, .int .i64 p, .int .i64 z, .slice a1 l.length c1] 25 := by rw [← hW1a]; exact bk_new _ _ _
  have k2 : Bk W2a W2.heap.size #[.int .i64 d, .int .i64 p, .int .i64 z, .slice a2 l.length c2] 29 := by rw [← hW2a]; exact bk_new _ _ _
  have k3 : Bk W3a W3.heap.size #[.int .i64 d, .int .i64 p, .int .i64 z, .slice a3 l.length c3] 29 := by rw [← hW3a]; exact bk_new _ _ _
  have s1 : W1a.heap.size = W1.heap.size + 1 := by rw [← hW1a, al_size]
  have s2 : W2a.heap.size = W2.heap.size + 1 := by rw [← hW2a, al_size]
  have s3 : W3a.heap.size = W3.heap.size + 1 := by rw [← hW3a, al_size]
  have q1 : Below W1.heap.size W1 W1a := by rw [← hW1a]; exact (Below.refl _ _).alloc (Nat.le_refl _) _
  have q2 : Below W2.heap.size W2 W2a := by rw [← hW2a]; exact (Below.refl _ _).alloc (Nat.le_refl _) _
  have q3 : Below W3.heap.size W3 W3a := by rw [← hW3a]; exact (Below.refl _ _).alloc (Nat.le_refl _) _
  rw [hW1a] at b2
  rw [hW2a] at b3
  rw [hW3a]
  clear hW1a hW2a hW3a
  have b2' : Below W1a.heap.size W1a W2 := by rw [s1]; exact b2
  have b3' : Below W2a.heap.size W2a W3 := by rw [s2]; exact b3
  have z0 := hb.size
  have z1 := b1.size
  have z2 := b2.size
  have z3 := b3.size
  have q12 : Below W1a.heap.size W1a W2a := b2'.trans (q2.mono b2'.size)
  have q23 : Below W2a.heap.size W2a W3a := b3'.trans (q3.mono b3'.size)
  have q13 : Below W1a.heap.size W1a W3a := q12.trans (q23.mono q12.size)
  have q03 : Below W1.heap.size W1 W3a := q1.trans (q13.mono q1.size)
  have q2a : Below W2.heap.size W2 W3a := q2.trans (q23.mono q2.size)
  have l1 := k1.lt
  have l2 := k2.lt
  have l3 := k3.lt
  refine ⟨rfl, ⟨k1.below q13 l1, k3, n1.below q03, n3.below q3⟩, k2.below q23 l2, n2.below q2a, rows_keep o2 (fun g _ hg => q2a.block g hg), hb.trans ((b1.trans (q03.mono b1.size)).mono hb.size), by omega, by omega, ⟨?_, ?_, by omega, by omega⟩, ?_⟩
  · intro g o e
    have := (own_at17 o1 e).2
    omega
  · intro g o e
    exact (own_at17 o3 e).1
  · intro g e
    have h := rows_blk o2 e
    omega
theorem LwE.spoil {w W : World} {d p z : Int} {l : List ByteArray} {n : Nat} {a1 a2 a3 : Option Addr} {c1 g1 c2 g2 c3 g3 B T1 : Nat} (h : LwE w d p z l n a1 c1 g1 a2 c2 g2 a3 c3 g3 B T1 W) : SpV w W B T1 (.slice a2 n c2) n W :=
  SpV.new h.o2 h.pos2 h.bel h.lo
theorem LwE.after {w W0 W : World} {d p z : Int} {l : List ByteArray} {n m : Nat} {v : Value} {a1 a2 a3 : Option Addr} {c1 g1 c2 g2 c3 g3 B T1 : Nat} (h : LwE w d p z l n a1 c1 g1 a2 c2 g2 a3 c3 g3 B T1 W0) (hs : SpV w W0 B T1 v m W) : LwD w d p z l a1 c1 g1 a3 c3 g3 W := h.dd.kept hs h.pos
theorem z32_idc : z32c = idc (idF ⟨#[]⟩) := by rw [← idK_end ⟨#[]⟩ 0 (by decide), idK_zero]
theorem pn_gen {s : ByteArray} {e : Ending} (h : PnR s e) : ∃ x y E, x.size = 32 ∧ y.size = 32 ∧ e = .returned (.tuple #[.agg (idc x), .agg (idc y), .int .i64 E]) := by
  rcases h with ⟨x, y, h1, h2, _, h3⟩ | ⟨_, h⟩
  · exact ⟨x, y, 0, h1, h2, h3⟩
  · exact ⟨idF ⟨#[]⟩, idF ⟨#[]⟩, 10, idF_size _, idF_size _, by rw [h, z32_idc]⟩
end Go.Proofs.YteccnnpialaalaaDoor
/- Texts of a slice, as they lie in memory. No program is named here. -/
namespace Go.Proofs.YteccnnpialaalaaDoor
open Go.RowKit
set_option linter.unusedSimpArgs false
set_option linter.unusedVariables false
/-- The texts of a slice. -/
def TxL (w : World) (a : Option Addr) (xs : List ByteArray) : Prop :=
  ∀ i x, xs[i]? = some x → ∃ g o, a = some ⟨g, o, none⟩ ∧ g < w.heap.size ∧ w.cell? ⟨g, o + i, none⟩ = some (.string x)
theorem TxL.below {w w' : World} {a : Option Addr} {xs : List ByteArray} (h : TxL w a xs) (hb : Below w.heap.size w w') : TxL w' a xs := by
  intro i x hx
  obtain ⟨g, o, e, hg, hc⟩ := h i x hx
  exact ⟨g, o, e, Nat.lt_of_lt_of_le hg hb.size, by rw [hb.cell (p := ⟨g, o + i, none⟩) hg]; exact hc⟩
theorem TxL.drewN {w : World} {a : Option Addr} {xs : List ByteArray} (h : TxL w a xs) (n : Nat) : TxL (w.drewN n) a xs := h.below (below_drewN (Below.refl _ _) n)
theorem TxL.alloc {w : World} {a : Option Addr} {xs : List ByteArray} (h : TxL w a xs) (o : Obj) : TxL (w.alloc o) a xs := h.below ((Below.refl _ _).alloc (Nat.le_refl _) _)
/-- Texts as cells. -/
def txc (xs : List ByteArray) : Array Value := (xs.map fun x => Value.string x).toArray
theorem txc_size (xs : List ByteArray) : (txc xs).size = xs.length := by simp [txc]
theorem txc_get (xs : List ByteArray) (i : Nat) : (txc xs)[i]? = (xs[i]?).map fun x => Value.string x := by simp [txc]
theorem txc_set (xs : List ByteArray) (i : Nat) (x : ByteArray) : (txc xs).setIfInBounds i (.string x) = txc (xs.set i x) := by
  simp only [txc, List.setIfInBounds_toArray, List.map_set]
theorem Bk.txl {w : World} {b : Nat} {T : TypeId} {xs : List ByteArray} (h : Bk w b (txc xs) T) : TxL w (some ⟨b, 0, none⟩) xs := by
  intro i x hx
  exact ⟨b, 0, rfl, h.lt, by rw [Nat.zero_add, h.cell, txc_get, hx]; rfl⟩
theorem str_ne (x y : ByteArray) : (x.toList != y.toList) = !decide (x = y) := by
  rw [Lib.toList_data, Lib.toList_data]
  by_cases h : x = y
  · subst h; simp
  · have : x.data.toList ≠ y.data.toList := fun e => h (by cases x; cases y; simp at e; simp [e])
    simp [h, this]
end Go.Proofs.YteccnnpialaalaaDoor
