/- field.texts. -/
import Derived.Test.YtblmblbkfdcbjabF8
import Derived.Laws.BytesArg
namespace Go.Proofs.Ytblmblbkfdcbjab
open Go.RowKit
set_option linter.unusedSimpArgs false
set_option linter.unusedVariables false
/-- A text of bytes. -/
def mkT (l : List UInt8) : ByteArray := ⟨l.toArray⟩
theorem mkT_size (l : List UInt8) : (mkT l).size = l.length := by simp [mkT, ByteArray.size]
theorem mkT_data (l : List UInt8) : (mkT l).data.toList = l := by simp [mkT]
/-- The texts of a matrix of so many columns. -/
def txtL (c : Nat) (L : List (List UInt8)) : List ByteArray := L.map fun r => mkT (r.take c)
/-- The first k texts. -/
def txtK (c : Nat) (L : List (List UInt8)) (k : Nat) : List ByteArray := (txtL c L).take k ++ List.replicate (L.length - k) (mkT [])
theorem txtL_len (c : Nat) (L : List (List UInt8)) : (txtL c L).length = L.length := by simp [txtL]
theorem txtK_next (c : Nat) (L : List (List UInt8)) (k : Nat) (r : List UInt8) (hr : L[k]? = some r) : (txtK c L k).set k (mkT (r.take c)) = txtK c L (k + 1) := by
  have hk := (List.getElem?_eq_some_iff.1 hr).1
  unfold txtK
  rw [List.set_append_right _ _ (by simp [txtL]; omega)]
  have hl : ((txtL c L).take k).length = k := by simp [txtL]; omega
  rw [hl, Nat.sub_self, show L.length - k = (L.length - (k + 1)) + 1 from by omega, List.replicate_succ, List.set_cons_zero]
  rw [List.take_succ_eq_append_getElem (by simp [txtL]; omega), List.append_assoc]
  have : (txtL c L)[k]'(by simp [txtL]; omega) = mkT (r.take c) := by
    simp only [txtL, List.getElem_map]
    rw [(List.getElem?_eq_some_iff.1 hr).2]
  rw [this]; rfl
theorem txtK_all (c : Nat) (L : List (List UInt8)) : txtK c L L.length = txtL c L := by
  unfold txtK
  rw [Nat.sub_self, List.replicate_zero, List.append_nil, List.take_of_length_le (by simp [txtL])]
theorem txtK_len (c : Nat) (L : List (List UInt8)) (k : Nat) (hk : k ≤ L.length) : (txtK c L k).length = L.length := by
  simp [txtK, txtL]; omega
theorem infoS : (Try.prog.info? 9).map (fun i => (i.zero, i.size, i.bytes)) = some (some (.string (mkT [])), 1, 16) := by kernel_rfl
theorem made_txt (n : Nat) : madeCells #[Value.string (mkT [])] n = txc (List.replicate n (mkT [])) := by
  apply Array.ext_getElem?
  intro i
  rw [txc_get]
  simp only [madeCells]
  by_cases hi : i < n
  · rw [List.getElem?_replicate, if_pos hi]
    simp [hi, Nat.mod_one]
  · rw [List.getElem?_eq_none (by simp; omega), Array.getElem?_eq_none (by simp; omega)]; rfl
theorem make_txts (n : Nat) (hn : n ≤ 64) (u : World) : (Instr.makeSlice 23 (.int .i64 n) (.int .i64 n)).run Try.prog u =
    .ok (.slice (some ⟨u.heap.size, 0, none⟩) n n) (u.alloc (.cells (txc (List.replicate n (mkT []))) 9)) := by
  obtain ⟨i0, hi, hz0, hz1, hz2⟩ := info_parts infoS
  have h := run_make (P := Try.prog) u 23 9 i0 (.string (mkT [])) Try.underlying23 hi hz0 .i64 .i64 (n : Int) (n : Int) (by omega) (Int.le_refl _) (by rw [hz2]; omega) (by omega)
  rw [Int.toNat_natCast, hz1, Nat.mul_one] at h
  rw [h, ← made_txt]; rfl
theorem slice_front (g c : Nat) (hc : c ≤ 64) (w : World) : (Instr.sliceAt 56 (.pointer (some ⟨g, 0, none⟩)) none (some (.int .i64 c)) none).run Try.prog w = .ok (.slice (some ⟨g, 0, none⟩) c 64) w := by
  have e1 : Try.prog.elem 56 = 5 := by kernel_rfl
  have e2 : Try.prog.arrayLen 56 = 64 := by kernel_rfl
  have e0 : Try.prog.underlying 56 = some (.array (Try.prog.arrayLen 56) (Try.prog.elem 56)) := by kernel_rfl
  rw [run_sliceAt_array_h (P := Try.prog) w 56 ⟨g, 0, none⟩ e0 .i64 (c : Int) (by omega) (by rw [e2]; omega)]
  rw [e1, e2, sizeOf_byte]
  simp [slicedAt, Result.andThen, Addr.add]
theorem conv_front (r : List UInt8) (g c cap : Nat) (T : TypeId) (w : World) (hc : c ≤ r.length) (hB : Bk w g (rc r) T) :
    (convert 28 9 (.slice (some ⟨g, 0, none⟩) c cap)).run Try.prog w = .ok (.string (mkT (r.take c))) w := by
  have h := run_convert_bytes_arg w 28 5 Try.underlying28 Try.underlying5 g 0 c cap ((r.take c).map fun x : UInt8 => (x.toNat : Int)) (by simp; omega) (fun i hi => by
    rw [Nat.zero_add, hB.cell, rc_get, List.getD, List.getElem?_map, List.getElem?_take, if_pos hi, List.getElem?_eq_getElem (by omega)]; rfl) 9 Try.underlying9
  rw [h]
  have e : strOfNums ((r.take c).map fun x : UInt8 => (x.toNat : Int)) = mkT (r.take c) := by
    unfold strOfNums mkT
    rw [List.map_map]
    congr 2
    conv => rhs; rw [← List.map_id (r.take c)]
    apply List.map_congr_left
    intro x _
    simp
  rw [e]
set_option maxHeartbeats 1000000 in
set_option maxRecDepth 100000 in
theorem texts_any (L : List (List UInt8)) (b c : Nat) (T : TypeId) (w : World) (hB : Bk w b (rc L.flatten) T) (hL : ∀ r ∈ L, r.length = 64) (hn : L.length ≤ 64) (hc : c ≤ 64) :
    Calls Try.prog 30 #[.slice (some ⟨b, 0, none⟩) L.length L.length, .int .i64 c] w fun e w' => e = .returned (.slice (some ⟨w.heap.size, 0, none⟩) L.length L.length) ∧ Bk w' w.heap.size (txc (txtL c L)) 9 ∧ Below w.heap.size w w' := by
  have HB : Hid (Bk w b (rc L.flatten) T) := hB
  have HL : Hid (∀ r ∈ L, r.length = 64) := hL
  have hbl := hB.lt
  clear hB hL
  obtain ⟨n, hln⟩ : ∃ n, L.length = n := ⟨_, rfl⟩
  have HN : Hid (L.length = n) := hln
  rw [hln] at hn ⊢
  clear hln
  have hz := (zero_of_info info_row).1
  have hmk := make_txts n hn
  have hsl := fun g w => slice_front g c hc w
  go_enter Try.func30, Try.ntmps30
  go_wp2_with fail
  go_loopw [13] (fun v wr => ∃ k : Nat, k ≤ n ∧ v = .int .i64 k ∧ Hid (Bk wr w.heap.size (txc (txtK c L k)) 9) ∧ Hid (Below w.heap.size w wr) ∧ w.heap.size < wr.heap.size) (fun v _ => n - (intOf v).toNat)
  case atStart =>
    refine ⟨0, by omega, rfl, ?_, (Below.refl _ _).alloc (Nat.le_refl _) _, by rw [al_size]; omega⟩
    show Bk _ _ _ _
    have e : txtK c L 0 = List.replicate n (mkT []) := by simp [txtK, HN.out]
    rw [e]; exact bk_new w _ _
  case round =>
    obtain ⟨k, hk, rfl, HT, HW, hsz⟩ := hrel
    by_cases hlt : k < n
    · obtain ⟨r, hr⟩ : ∃ r, L[k]? = some r := ⟨L[k]'(by rw [HN.out]; exact hlt), List.getElem?_eq_getElem _⟩
      have hrl := HL.out r (List.mem_of_getElem? hr)
      have HRL : Hid (r.length = 64) := hrl
      have HR : Hid (L[k]? = some r) := hr
      have hkz : (k : Int) < (n : Nat) := by omega
      have HBr : Hid (Bk wr b (rc L.flatten) T) := HB.out.below HW.out hbl
      have HI := size_row r hrl
      clear hr hrl
      go_wp2_with (first
        | (refine wpList_get rfl 56 (.tmp 16) rfl b (k * 64) (rc L.flatten) (rc r) T _ rfl HBr.out (by intro j v hv; rw [Nat.mul_comm k 64]; exact row_get 64 L HL.out k r HR.out j v hv) Try.underlying56 rfl HI ?_)
        | (refine wpList_put rfl 56 (.tmp 7) (.tmp 17) rfl wr.heap.size 0 (rc zr) (rc r) 56 rfl rfl (bk_new _ _ _) HI (by rw [rc_size, rc_size, zr_len, HRL.out]; omega) (rc_one _) ?_; intro w2 HB3 HG3 hs3
           have HB4 : Hid (Bk w2 wr.heap.size (rc r) 56) := by have := HB3.out; rw [putC_all _ _ (by rw [zr_len, HRL.out])] at this; exact this
           have HW2 : Hid (Below w.heap.size w w2) := below_own (HW.out.alloc (by omega) _) (by rw [al_size]; omega) HG3.out (by omega)
           have HT2 : Hid (Bk w2 w.heap.size (txc (txtK c L k)) 9) := (HT.out.alloc _).grown HG3.out (by simp; omega)
           have hcv := conv_front r wr.heap.size c 64 56 w2 (by rw [HRL.out]; exact hc) HB4.out
           have hc2 : w2.cell? ⟨w.heap.size, k, none⟩ = some (.string ((txtK c L k)[k]'(by rw [txtK_len c L k (by rw [HN.out]; omega), HN.out]; exact hlt))) := by rw [HT2.out.cell, txc_get, List.getElem?_eq_getElem]; rfl
           have hf2 := HT2.out.frozen k))
      go_roundw
      case rel =>
        refine ⟨k + 1, by omega, by go_num, ?_, below_own HW2.out (by rw [al_size] at hs3; omega) (Lib.grownBy_setB (World.grownBy.refl _ _) k _) (Nat.le_refl _), by rw [al_size] at hs3; simp [World.setCell]; omega⟩
        show Bk _ _ _ _
        rw [← txtK_next c L k r HR.out, ← txc_set]
        exact HT2.out.set k _
      case measure => simp [intOf]; omega
    · have hkn : k = n := by omega
      have HB3 : Hid (Bk wr w.heap.size (txc (txtL c L)) 9) := by show Bk _ _ _ _; rw [← txtK_all c L, HN.out, ← hkn]; exact HT.out
      clear hkn
      go_wp2
      go_ret
      exact ⟨rfl, HB3.out, HW.out⟩
end Go.Proofs.Ytblmblbkfdcbjab
