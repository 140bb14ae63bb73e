/- field.arrays, field.texts. -/
import Derived.Test.YtblmblbkfdcbjabF7
namespace Go.Proofs.Ytblmblbkfdcbjab
open Go.RowKit
set_option linter.unusedSimpArgs false
set_option linter.unusedVariables false
/-- A text as a row, with 0 behind its end. -/
def rowOf (x : ByteArray) : List UInt8 := putB zr 0 x.data.toList
def arrL (xs : List ByteArray) : List (List UInt8) := xs.map rowOf
theorem dlen (x : ByteArray) : x.data.toList.length = x.size := by simp
theorem rowOf_len (x : ByteArray) (h : x.size ≤ 64) : (rowOf x).length = 64 := by
  unfold rowOf
  rw [putB_len _ _ _ (by rw [zr_len, dlen]; omega), zr_len]
theorem arrL_wide (xs : List ByteArray) (h : ∀ x ∈ xs, x.size ≤ 64) : ∀ r ∈ arrL xs, r.length = 64 := by
  intro r hr
  obtain ⟨x, hx, rfl⟩ := List.mem_map.1 hr
  exact rowOf_len x (h x hx)
/-- The first k rows laid. -/
def arrK (xs : List ByteArray) (k : Nat) : List (List UInt8) := (arrL xs).take k ++ List.replicate (xs.length - k) zr
theorem arrK_len (xs : List ByteArray) (k : Nat) (hk : k ≤ xs.length) : (arrK xs k).length = xs.length := by
  simp [arrK, arrL]; omega
theorem arrK_wide (xs : List ByteArray) (k : Nat) (h : ∀ x ∈ xs, x.size ≤ 64) : ∀ r ∈ arrK xs k, r.length = 64 := by
  intro r hr
  rcases List.mem_append.1 hr with h1 | h1
  · exact arrL_wide xs h r (List.mem_of_mem_take h1)
  · rw [(List.mem_replicate.1 h1).2]; exact zr_len
theorem arrK_at (xs : List ByteArray) (k : Nat) (hk : k < xs.length) : (arrK xs k)[k]? = some zr := by
  unfold arrK
  rw [List.getElem?_append_right (by simp [arrL]; omega)]
  simp [arrL, List.getElem?_replicate, Nat.min_eq_left (Nat.le_of_lt hk)]
  omega
theorem arrK_next (xs : List ByteArray) (k : Nat) (x : ByteArray) (hx : xs[k]? = some x) : (arrK xs k).set k (rowOf x) = arrK xs (k + 1) := by
  have hk := (List.getElem?_eq_some_iff.1 hx).1
  unfold arrK
  rw [List.set_append_right _ _ (by simp [arrL]; omega)]
  have hl : ((arrL xs).take k).length = k := by simp [arrL]; omega
  rw [hl, Nat.sub_self, show xs.length - k = (xs.length - (k + 1)) + 1 from by omega, List.replicate_succ, List.set_cons_zero]
  rw [List.take_succ_eq_append_getElem (by simp [arrL]; omega), List.append_assoc]
  have : (arrL xs)[k]'(by simp [arrL]; omega) = rowOf x := by
    simp only [arrL, List.getElem_map]
    rw [(List.getElem?_eq_some_iff.1 hx).2]
  rw [this]; rfl
theorem arrK_all (xs : List ByteArray) : arrK xs xs.length = arrL xs := by
  unfold arrK
  rw [Nat.sub_self, List.replicate_zero, List.append_nil, List.take_of_length_le (by simp [arrL])]
theorem infoR : (Try.prog.info? 56).map (fun i => (i.zero, i.size, i.bytes)) = some (some (.agg (rc zr)), 64, 64) := by kernel_rfl
theorem make_rows (n : Nat) (hn : n ≤ 64) (u : World) : (Instr.makeSlice 53 (.int .i64 n) (.int .i64 n)).run Try.prog u =
    .ok (.slice (some ⟨u.heap.size, 0, none⟩) n n) (u.alloc (.cells (rc (List.replicate n zr).flatten) 56)) := by
  obtain ⟨i0, hi, hz0, hz1, hz2⟩ := info_parts infoR
  have h := run_make (P := Try.prog) u 53 56 i0 (.agg (rc zr)) Try.underlying53 hi hz0 .i64 .i64 (n : Int) (n : Int) (by omega) (Int.le_refl _) (by rw [hz2]; omega) (by omega)
  rw [Int.toNat_natCast, hz1] at h
  have e := made_rows 64 n (by omega)
  rw [h]
  show Result.ok _ (u.alloc (.cells (madeCells (rc zr) (n * 64)) _)) = _
  rw [show madeCells (rc zr) (n * 64) = _ from e]; rfl
theorem slice_row (g o : Nat) (w : World) : (Instr.sliceAt 56 (.pointer (some ⟨g, o, none⟩)) none none none).run Try.prog w = .ok (.slice (some ⟨g, o, none⟩) 64 64) w := by
  have e1 : Try.prog.elem 56 = 5 := by kernel_rfl
  have e2 : Try.prog.arrayLen 56 = 64 := by kernel_rfl
  have e0 : Try.prog.underlying 56 = some (.array (Try.prog.arrayLen 56) (Try.prog.elem 56)) := by kernel_rfl
  rw [run_sliceAt_array_all (P := Try.prog) w 56 ⟨g, o, none⟩ e0]
  rw [e1, e2, sizeOf_byte]
  simp [slicedAt, Result.andThen, Addr.add]
theorem copy_row (xs : List ByteArray) (k H : Nat) (x : ByteArray) (wr : World) (hB : Bk wr H (rc (arrK xs k).flatten) 56) (hx : xs[k]? = some x) (hs : ∀ x ∈ xs, x.size ≤ 64) :
    ∃ w2, (∀ ty, (Builtin.copy_ #[28, 9] ty #[.slice (some ⟨H, k * 64, none⟩) 64 64, .string x]).run Try.prog wr = .ok (.int .i64 (x.size : Int)) w2) ∧ Bk w2 H (rc (arrK xs (k + 1)).flatten) 56 ∧ wr.grownBy w2 (some H) ∧ w2.heap.size = wr.heap.size := by
  have hk := (List.getElem?_eq_some_iff.1 hx).1
  have hz := hs x (List.mem_of_getElem? hx)
  have hm : Nat.min x.size 64 = x.size := Nat.min_eq_left hz
  have ht : x.data.toList.take x.size = x.data.toList := List.take_of_length_le (by rw [dlen]; omega)
  have hw := arrK_wide xs k hs
  have hfit := row_fits 64 (arrK xs k) hw k (by rw [arrK_len xs k (by omega)]; exact hk) zr zr_len
  rw [rc_size zr, zr_len] at hfit
  have hi : (Try.prog.info? 5).map (·.size) = some 1 := by kernel_rfl
  refine ⟨wr.setCells H (k * 64) (rc x.data.toList).toList, fun ty => ?_, ?_, gr_puts H _ _ (World.grownBy.refl _ _), setCells_size H _ _ _⟩
  · have h := copy_txt wr 28 9 ty 5 H (k * 64) 64 64 x (P := Try.prog) Try.underlying28 hi (fun j hj => by
      rw [hm] at hj
      rw [hB.cell, Array.getElem?_eq_getElem (by omega)]; rfl) (fun j hj => hB.frozen _)
    rw [hm, ht] at h
    exact h
  · have h := Bk.puts (rc x.data.toList).toList (k * 64) _ wr hB
    rw [putC_rc _ _ _ (by rw [rc_size] at hfit; rw [dlen]; omega), Nat.mul_comm k 64, flat_part 64 _ hw k zr (arrK_at xs k hk) _ (by rw [dlen]; exact hz)] at h
    rw [← arrK_next xs k x hx, Nat.mul_comm k 64]
    exact h
set_option maxHeartbeats 1000000 in
set_option maxRecDepth 100000 in
theorem arrays_any (a : Option Addr) (c : Nat) (xs : List ByteArray) (w : World) (hx : TxL w a xs) (nx : xs.length ≤ 64) (hs : ∀ x ∈ xs, x.size ≤ 64) :
    Calls Try.prog 35 #[.slice a xs.length c] w fun e w' => e = .returned (.slice (some ⟨w.heap.size, 0, none⟩) xs.length xs.length) ∧ Bk w' w.heap.size (rc (arrL xs).flatten) 56 ∧ Below w.heap.size w w' := by
  have HX : Hid (TxL w a xs) := hx
  have HSZ : Hid (∀ x ∈ xs, x.size ≤ 64) := hs
  clear hx hs
  obtain ⟨n, hn⟩ : ∃ n, xs.length = n := ⟨_, rfl⟩
  have HN : Hid (xs.length = n) := hn
  rw [hn] at nx ⊢
  clear hn
  have hmk := make_rows n nx
  have hsl := slice_row
  go_enter Try.func35, Try.ntmps35
  go_wp2_with fail
  go_loopw [11] (fun v wr => ∃ k : Nat, k ≤ n ∧ v = .int .i64 k ∧ Hid (Bk wr w.heap.size (rc (arrK xs k).flatten) 56) ∧ Hid (Below w.heap.size w wr) ∧ w.heap.size < wr.heap.size) (fun v _ => n - (intOf v).toNat)
  case atStart =>
    refine ⟨0, by omega, rfl, ?_, (Below.refl _ _).alloc (Nat.le_refl _) _, by rw [al_size]; omega⟩
    have := bk_new w (rc (List.replicate n zr).flatten) 56
    show Bk _ _ _ _
    have e : arrK xs 0 = List.replicate n zr := by simp [arrK, HN.out]
    rw [e]; exact this
  case round =>
    obtain ⟨k, hk, rfl, HB, HW, hsz⟩ := hrel
    by_cases hlt : k < n
    · obtain ⟨x, hx⟩ : ∃ x, xs[k]? = some x := ⟨xs[k]'(by rw [HN.out]; exact hlt), List.getElem?_eq_getElem _⟩
      obtain ⟨g, o, rfl, hg, hc⟩ := HX.out.below HW.out k x hx
      have hz := HSZ.out x (List.mem_of_getElem? hx)
      have HK : Hid (xs[k]? = some x) := hx
      have hkz : (k : Int) < (n : Nat) := by omega
      obtain ⟨w2, hcp, hB2, hG2, hs2⟩ := copy_row xs k w.heap.size x wr HB.out hx HSZ.out
      have HB2 : Hid _ := hB2
      have HG2 : Hid _ := hG2
      clear hx hB2 hG2
      go_wp2
      go_roundw
      case rel => exact ⟨k + 1, by omega, by go_num, HB2.out, below_own HW.out (by omega) HG2.out (Nat.le_refl _), by omega⟩
      case measure => simp [intOf]; omega
    · have hkn : k = n := by omega
      have HB3 : Hid (Bk wr w.heap.size (rc (arrL xs).flatten) 56) := by show Bk _ _ _ _; rw [← arrK_all xs, HN.out, ← hkn]; exact HB.out
      clear hkn
      go_wp2
      go_ret
      exact ⟨rfl, HB3.out, HW.out⟩
end Go.Proofs.Ytblmblbkfdcbjab
