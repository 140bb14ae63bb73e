import Derived.Test.YtecpcocnoengiaaY2
import Derived.Test.YtecpcocnoengiaaY1
import Derived.BigQuiet
import Derived.Laws.BytesArg
import Derived.Test.YtecpcocnoengiaaRows
import Derived.Deep.AppendLies
import Derived.Deep.DeepAppendRoom
import Derived.WalkMore
import Derived.Laws.AppendOwn
/- The document's Same and Check; field.Check. -/
namespace Go.Proofs.Ytecpcocnoengiaa
open Go.RowKit
set_option linter.unusedSimpArgs false
set_option linter.unusedVariables false
set_option maxHeartbeats 1000000 in
set_option maxRecDepth 100000 in
theorem rsame_any (a b : Option Addr) (ca cb : Nat) (xs ys : List ByteArray) (w : World) (hx : TxL w a xs) (hy : TxL w b ys) (nx : xs.length ≤ 4611686018427387904) (ny : ys.length ≤ 4611686018427387904) :
    Calls Try.prog 12 #[.slice a xs.length ca, .slice b ys.length cb] w fun e w' => e = .returned (.bool (decide (xs = ys))) ∧ Below w.heap.size w w' := by
  have HX : Hid (TxL w a xs) := hx
  have HY : Hid (TxL w b ys) := hy
  clear hx hy
  by_cases hl : xs.length = ys.length
  · obtain ⟨n, hn⟩ : ∃ n, xs.length = n := ⟨_, rfl⟩
    have hn2 : ys.length = n := by omega
    have HL : Hid (xs.length = n ∧ ys.length = n) := ⟨hn, hn2⟩
    rw [hn, hn2]
    have hnn : n ≤ 4611686018427387904 := by omega
    clear hn hn2 hl nx ny
    go_enter Try.func12, Try.ntmps12
    go_wp2
    go_loopw [5] (fun v wr => ∃ k : Nat, v = .int .i64 k ∧ k ≤ n ∧ Hid (Below w.heap.size w wr) ∧ Hid (∀ i, i < k → xs[i]? = ys[i]?)) (fun v _ => n - (intOf v).toNat)
    case atStart => exact ⟨0, rfl, Nat.zero_le _, Below.refl _ _, fun i hi => by omega⟩
    case round =>
      obtain ⟨k, rfl, hk, HB, HE⟩ := hrel
      by_cases hlt : k < n
      · obtain ⟨x, hx⟩ : ∃ x, xs[k]? = some x := ⟨xs[k]'(by rw [HL.out.1]; exact hlt), List.getElem?_eq_getElem _⟩
        obtain ⟨y, hy⟩ : ∃ y, ys[k]? = some y := ⟨ys[k]'(by rw [HL.out.2]; exact hlt), List.getElem?_eq_getElem _⟩
        obtain ⟨g, o, rfl, hg, hc⟩ := HX.out.below HB.out k x hx
        obtain ⟨g2, o2, rfl, hg2, hc2⟩ := HY.out.below HB.out k y hy
        have H1 : Hid (xs[k]? = some x ∧ ys[k]? = some y) := ⟨hx, hy⟩
        clear hx hy
        have hkz : (k : Int) < (n : Nat) := by omega
        have hbn := str_ne x y
        by_cases he : x = y
        · subst he
          simp only [decide_true, Bool.not_true] at hbn
          go_wp2
          go_quiet (fail)
          go_wp2
          go_roundw
          case rel =>
            refine ⟨k + 1, by go_num, by omega, below_drewN HB.out _, fun i hi => ?_⟩
            by_cases hik : i < k
            · exact HE.out i hik
            · obtain rfl : i = k := by omega
              rw [H1.out.1, H1.out.2]
          case measure => simp [intOf]; omega
        · simp only [he, decide_false, Bool.not_false] at hbn
          have hbe : (x.toList == y.toList) = false := by simpa [bne] using hbn
          go_wp2
          go_quiet (fail)
          go_wp2
          go_ret
          refine ⟨?_, below_drewN HB.out _⟩
          have : decide (xs = ys) = false := decide_eq_false fun e => he (by
            have := H1.out
            rw [e] at this
            exact Option.some.inj (this.1.symm.trans this.2))
          rw [this]; rfl
      · go_wp2
        go_ret
        refine ⟨?_, HB.out⟩
        have : decide (xs = ys) = true := decide_eq_true (List.ext_getElem? fun i => by
          by_cases hi : i < n
          · exact HE.out i (by omega)
          · rw [List.getElem?_eq_none (by rw [HL.out.1]; omega), List.getElem?_eq_none (by rw [HL.out.2]; omega)])
        rw [this]; rfl
  · have hz : ((xs.length : Int) != (ys.length : Int)) = true := by simp; omega
    have hd : decide (xs = ys) = false := decide_eq_false fun e => hl (by rw [e])
    rw [hd]
    clear hd HX HY
    go_enter Try.func12, Try.ntmps12
    go_wp2
    go_ret
    exact ⟨rfl, Below.refl _ _⟩
/-- The length of a matrix's first row. -/
def wid (xs : List ByteArray) : Nat := (xs[0]?.map fun x => x.size).getD 0
/-- Are these texts a matrix? -/
def isM (xs : List ByteArray) : Bool := decide (1 ≤ xs.length ∧ xs.length ≤ 64) && decide (1 ≤ wid xs ∧ wid xs ≤ 64) && xs.all fun x => x.size == wid xs
def ckR (xs : List ByteArray) : Nat := if isM xs then xs.length else 0
def ckC (xs : List ByteArray) : Nat := if isM xs then wid xs else 0
def ckE (xs : List ByteArray) : Nat := if isM xs then 0 else 1
theorem ck_no (xs : List ByteArray) (h : isM xs = false) : ckR xs = 0 ∧ ckC xs = 0 ∧ ckE xs = 1 := by simp [ckR, ckC, ckE, h]
theorem ck_yes (xs : List ByteArray) (h : isM xs = true) : ckR xs = xs.length ∧ ckC xs = wid xs ∧ ckE xs = 0 := by simp [ckR, ckC, ckE, h]
theorem isM_no1 (xs : List ByteArray) (h : ¬ (1 ≤ xs.length ∧ xs.length ≤ 64)) : isM xs = false := by simp only [isM, decide_eq_false h, Bool.false_and]
theorem isM_no2 (xs : List ByteArray) (h : ¬ (1 ≤ wid xs ∧ wid xs ≤ 64)) : isM xs = false := by simp only [isM, decide_eq_false h, Bool.and_false, Bool.false_and]
theorem isM_no3 (xs : List ByteArray) (k : Nat) (x : ByteArray) (hk : xs[k]? = some x) (h : ¬ x.size = wid xs) : isM xs = false := by
  have : (xs.all fun x => x.size == wid xs) = false := by
    rw [Bool.eq_false_iff]
    intro e
    rw [List.all_eq_true] at e
    have := e x (List.mem_of_getElem? hk)
    simp at this
    exact h this
  simp only [isM, this, Bool.and_false]
theorem isM_yes (xs : List ByteArray) (h1 : 1 ≤ xs.length ∧ xs.length ≤ 64) (h2 : 1 ≤ wid xs ∧ wid xs ≤ 64) (h : ∀ (k : Nat) (x : ByteArray), xs[k]? = some x → x.size = wid xs) : isM xs = true := by
  have : (xs.all fun x => x.size == wid xs) = true := by
    rw [List.all_eq_true]
    intro x hx
    obtain ⟨i, hi, e⟩ := List.mem_iff_getElem.1 hx
    have := h i x (by rw [List.getElem?_eq_getElem hi, e])
    simpa using this
  simp only [isM, decide_eq_true h1, decide_eq_true h2, this, Bool.and_self]
set_option maxHeartbeats 1000000 in
set_option maxRecDepth 100000 in
theorem check_any (a : Option Addr) (c : Nat) (xs : List ByteArray) (w : World) (hx : TxL w a xs) (nx : xs.length ≤ 4611686018427387904) (hs : ∀ x ∈ xs, x.size ≤ 4611686018427387904) :
    Calls Try.prog 35 #[.slice a xs.length c] w fun e w' => e = .returned (.tuple #[.int .i64 (ckR xs), .int .i64 (ckC xs), .int .i64 (ckE xs)]) ∧ ∃ n, w' = w.drewN n := by
  have HX : Hid (TxL w a xs) := hx
  have HSZ : Hid (∀ x ∈ xs, x.size ≤ 4611686018427387904) := hs
  clear hx hs
  obtain ⟨n, hn⟩ : ∃ n, xs.length = n := ⟨_, rfl⟩
  have HN : Hid (xs.length = n) := hn
  rw [hn] at nx ⊢
  by_cases h1 : 1 ≤ n ∧ n ≤ 64
  · obtain ⟨x0, hx0⟩ : ∃ x, xs[0]? = some x := ⟨xs[0]'(by omega), List.getElem?_eq_getElem _⟩
    obtain ⟨g, o, rfl, hg, hc0⟩ := HX.out 0 x0 hx0
    rw [Nat.add_zero] at hc0
    have hw : wid xs = x0.size := by simp [wid, hx0]
    have hz0 := HSZ.out x0 (List.mem_of_getElem? hx0)
    have HW : Hid (wid xs = x0.size) := hw
    obtain ⟨m, hm⟩ : ∃ m, x0.size = m := ⟨_, rfl⟩
    have HM : Hid (x0.size = m) := hm
    have s1 : sdB (n : Int) = true := decide_eq_true (by omega)
    obtain ⟨h1a, h1b⟩ := h1
    by_cases h2 : 1 ≤ m ∧ m ≤ 64
    · have s2 : sdB (x0.size : Int) = true := decide_eq_true (by omega)
      have c1 := side_any (n : Int)
      have c2 := side_any (x0.size : Int)
      rw [s1] at c1
      rw [s2] at c2
      have C1 : Hid _ := c1
      have C2 : Hid _ := c2
      clear c1 c2 s1 s2 hx0 hw hm hn
      go_enter Try.func35, Try.ntmps35
      go_wp2_with fail
      refine Calls.mono (C1.out _) ?_
      rintro e w1 ⟨rfl, hw1⟩
      subst hw1
      go_wp2_with fail
      refine Calls.mono (C2.out _) ?_
      rintro e w2 ⟨rfl, hw2⟩
      subst hw2
      go_wp2_with fail
      go_loop [21] (fun v => ∃ k : Nat, k ≤ n ∧ v = .int .i64 k ∧ Hid (∀ (i : Nat) (x : ByteArray), i < k → xs[i]? = some x → x.size = wid xs)) (fun v => n - (intOf v).toNat)
      case atStart => exact ⟨0, by omega, rfl, fun i x hi => by omega⟩
      case round =>
        obtain ⟨k, hk, rfl, HR⟩ := hrel
        by_cases hlt : k < n
        · obtain ⟨x, hx⟩ : ∃ x, xs[k]? = some x := ⟨xs[k]'(by rw [HN.out]; exact hlt), List.getElem?_eq_getElem _⟩
          obtain ⟨g2, o2, heq, _, hc⟩ := HX.out k x hx
          obtain ⟨rfl, rfl⟩ : g = g2 ∧ o = o2 := by simpa using heq
          have hkz : (k : Int) < (n : Nat) := by omega
          have HK : Hid (xs[k]? = some x) := hx
          clear heq hx
          by_cases he : x.size = x0.size
          · have hb : ((x.size : Int) == (x0.size : Int)) = true := by rw [he]; simp
            have HE : Hid (∀ (i : Nat) (x : ByteArray), i < k + 1 → xs[i]? = some x → x.size = wid xs) := by
              intro i y hi hy
              by_cases e : i < k
              · exact HR.out i y e hy
              · obtain rfl : i = k := by omega
                rw [HK.out] at hy
                cases hy
                rw [HW.out, he]
            clear he
            go_wp2
            go_round
            case rel => exact ⟨k + 1, by omega, by go_num, HE.out⟩
            case measure => simp [intOf]; omega
          · have hb : ((x.size : Int) == (x0.size : Int)) = false := by rw [beq_eq_false_iff_ne]; omega
            have hno := ck_no xs (isM_no3 xs k x HK.out (by rw [HW.out]; exact he))
            have HNO : Hid (ckR xs = 0 ∧ ckC xs = 0 ∧ ckE xs = 1) := hno
            clear hno he
            go_wp2
            go_ret3
            exact ⟨by rw [HNO.out.1, HNO.out.2.1, HNO.out.2.2]; rfl, 0, rfl⟩
        · have hys := ck_yes xs (isM_yes xs (by rw [HN.out]; exact ⟨h1a, h1b⟩) (by rw [HW.out, HM.out]; exact h2) (fun i x hx => HR.out i x (by have := (List.getElem?_eq_some_iff.1 hx).1; rw [HN.out] at this; omega) hx))
          have HY : Hid (ckR xs = n ∧ ckC xs = x0.size ∧ ckE xs = 0) := ⟨by rw [hys.1, HN.out], by rw [hys.2.1, HW.out], hys.2.2⟩
          clear hys HR
          go_wp2
          go_quiet (fail)
          go_wp2
          go_ret3
          exact ⟨by rw [HY.out.1, HY.out.2.1, HY.out.2.2]; rfl, _, rfl⟩
    · have s2 : sdB (x0.size : Int) = false := decide_eq_false (by omega)
      have c1 := side_any (n : Int)
      have c2 := side_any (x0.size : Int)
      rw [s1] at c1
      rw [s2] at c2
      have C1 : Hid _ := c1
      have C2 : Hid _ := c2
      have hno := ck_no xs (isM_no2 xs (by rw [hw, hm]; exact h2))
      have HNO : Hid (ckR xs = 0 ∧ ckC xs = 0 ∧ ckE xs = 1) := hno
      clear c1 c2 s1 s2 hx0 hw hm hn hno h2
      go_enter Try.func35, Try.ntmps35
      go_wp2_with fail
      refine Calls.mono (C1.out _) ?_
      rintro e w1 ⟨rfl, hw1⟩
      subst hw1
      go_wp2_with fail
      refine Calls.mono (C2.out _) ?_
      rintro e w2 ⟨rfl, hw2⟩
      subst hw2
      go_wp2
      go_ret3
      exact ⟨by rw [HNO.out.1, HNO.out.2.1, HNO.out.2.2]; rfl, 0, rfl⟩
  · have s1 : sdB (n : Int) = false := decide_eq_false (by omega)
    have c1 := side_any (n : Int)
    rw [s1] at c1
    have C1 : Hid _ := c1
    have hno := ck_no xs (isM_no1 xs (by rw [hn]; exact h1))
    have HNO : Hid (ckR xs = 0 ∧ ckC xs = 0 ∧ ckE xs = 1) := hno
    clear c1 s1 hn hno h1
    go_enter Try.func35, Try.ntmps35
    go_wp2_with fail
    refine Calls.mono (C1.out _) ?_
    rintro e w1 ⟨rfl, hw1⟩
    subst hw1
    go_wp2
    go_ret3
    exact ⟨by rw [HNO.out.1, HNO.out.2.1, HNO.out.2.2]; rfl, 0, rfl⟩
end Go.Proofs.Ytecpcocnoengiaa
/- field.arrays, field.texts. -/
namespace Go.Proofs.Ytecpcocnoengiaa
open Go.RowKit
set_option linter.unusedSimpArgs false
set_option linter.unusedVariables false
/-- A text as a row, with 0 behind its end. -/
def rowOf (x : ByteArray) : List UInt8 := putB zr 0 x.data.toList
def arrL (xs : List ByteArray) : List (List UInt8) := xs.map rowOf
theorem dlen (x : ByteArray) : x.data.toList.length = x.size := by simp
theorem rowOf_len (x : ByteArray) (h : x.size ≤ 64) : (rowOf x).length = 64 := by
  unfold rowOf
  rw [putB_len _ _ _ (by rw [zr_len, dlen]; omega), zr_len]
theorem arrL_wide (xs : List ByteArray) (h : ∀ x ∈ xs, x.size ≤ 64) : ∀ r ∈ arrL xs, r.length = 64 := by
  intro r hr
  obtain ⟨x, hx, rfl⟩ := List.mem_map.1 hr
  exact rowOf_len x (h x hx)
/-- The first k rows laid. -/
def arrK (xs : List ByteArray) (k : Nat) : List (List UInt8) := (arrL xs).take k ++ List.replicate (xs.length - k) zr
theorem arrK_len (xs : List ByteArray) (k : Nat) (hk : k ≤ xs.length) : (arrK xs k).length = xs.length := by
  simp [arrK, arrL]; omega
theorem arrK_wide (xs : List ByteArray) (k : Nat) (h : ∀ x ∈ xs, x.size ≤ 64) : ∀ r ∈ arrK xs k, r.length = 64 := by
  intro r hr
  rcases List.mem_append.1 hr with h1 | h1
  · exact arrL_wide xs h r (List.mem_of_mem_take h1)
  · rw [(List.mem_replicate.1 h1).2]; exact zr_len
theorem arrK_at (xs : List ByteArray) (k : Nat) (hk : k < xs.length) : (arrK xs k)[k]? = some zr := by
  unfold arrK
  rw [List.getElem?_append_right (by simp [arrL]; omega)]
  simp [arrL, List.getElem?_replicate, Nat.min_eq_left (Nat.le_of_lt hk)]
  omega
theorem arrK_next (xs : List ByteArray) (k : Nat) (x : ByteArray) (hx : xs[k]? = some x) : (arrK xs k).set k (rowOf x) = arrK xs (k + 1) := by
  have hk := (List.getElem?_eq_some_iff.1 hx).1
  unfold arrK
  rw [List.set_append_right _ _ (by simp [arrL]; omega)]
  have hl : ((arrL xs).take k).length = k := by simp [arrL]; omega
  rw [hl, Nat.sub_self, show xs.length - k = (xs.length - (k + 1)) + 1 from by omega, List.replicate_succ, List.set_cons_zero]
  rw [List.take_succ_eq_append_getElem (by simp [arrL]; omega), List.append_assoc]
  have : (arrL xs)[k]'(by simp [arrL]; omega) = rowOf x := by
    simp only [arrL, List.getElem_map]
    rw [(List.getElem?_eq_some_iff.1 hx).2]
  rw [this]; rfl
theorem arrK_all (xs : List ByteArray) : arrK xs xs.length = arrL xs := by
  unfold arrK
  rw [Nat.sub_self, List.replicate_zero, List.append_nil, List.take_of_length_le (by simp [arrL])]
theorem infoR : (Try.prog.info? 60).map (fun i => (i.zero, i.size, i.bytes)) = some (some (.agg (rc zr)), 64, 64) := by kernel_rfl
theorem make_rows (n : Nat) (hn : n ≤ 64) (u : World) : (Instr.makeSlice 57 (.int .i64 n) (.int .i64 n)).run Try.prog u =
    .ok (.slice (some ⟨u.heap.size, 0, none⟩) n n) (u.alloc (.cells (rc (List.replicate n zr).flatten) 60)) := by
  obtain ⟨i0, hi, hz0, hz1, hz2⟩ := info_parts infoR
  have h := run_make (P := Try.prog) u 57 60 i0 (.agg (rc zr)) Try.underlying57 hi hz0 .i64 .i64 (n : Int) (n : Int) (by omega) (Int.le_refl _) (by rw [hz2]; omega) (by omega)
  rw [Int.toNat_natCast, hz1] at h
  have e := made_rows 64 n (by omega)
  rw [h]
  show Result.ok _ (u.alloc (.cells (madeCells (rc zr) (n * 64)) _)) = _
  rw [show madeCells (rc zr) (n * 64) = _ from e]; rfl
theorem slice_row (g o : Nat) (w : World) : (Instr.sliceAt 60 (.pointer (some ⟨g, o, none⟩)) none none none).run Try.prog w = .ok (.slice (some ⟨g, o, none⟩) 64 64) w := by
  have e1 : Try.prog.elem 60 = 5 := by kernel_rfl
  have e2 : Try.prog.arrayLen 60 = 64 := by kernel_rfl
  have e0 : Try.prog.underlying 60 = some (.array (Try.prog.arrayLen 60) (Try.prog.elem 60)) := by kernel_rfl
  rw [run_sliceAt_array_all (P := Try.prog) w 60 ⟨g, o, none⟩ e0]
  rw [e1, e2, sizeOf_byte]
  simp [slicedAt, Result.andThen, Addr.add]
theorem copy_row (xs : List ByteArray) (k H : Nat) (x : ByteArray) (wr : World) (hB : Bk wr H (rc (arrK xs k).flatten) 60) (hx : xs[k]? = some x) (hs : ∀ x ∈ xs, x.size ≤ 64) :
    ∃ w2, (∀ ty, (Builtin.copy_ #[28, 9] ty #[.slice (some ⟨H, k * 64, none⟩) 64 64, .string x]).run Try.prog wr = .ok (.int .i64 (x.size : Int)) w2) ∧ Bk w2 H (rc (arrK xs (k + 1)).flatten) 60 ∧ wr.grownBy w2 (some H) ∧ w2.heap.size = wr.heap.size := by
  have hk := (List.getElem?_eq_some_iff.1 hx).1
  have hz := hs x (List.mem_of_getElem? hx)
  have hm : Nat.min x.size 64 = x.size := Nat.min_eq_left hz
  have ht : x.data.toList.take x.size = x.data.toList := List.take_of_length_le (by rw [dlen]; omega)
  have hw := arrK_wide xs k hs
  have hfit := row_fits 64 (arrK xs k) hw k (by rw [arrK_len xs k (by omega)]; exact hk) zr zr_len
  rw [rc_size zr, zr_len] at hfit
  have hi : (Try.prog.info? 5).map (·.size) = some 1 := by kernel_rfl
  refine ⟨wr.setCells H (k * 64) (rc x.data.toList).toList, fun ty => ?_, ?_, gr_puts H _ _ (World.grownBy.refl _ _), setCells_size H _ _ _⟩
  · have h := copy_txt wr 28 9 ty 5 H (k * 64) 64 64 x (P := Try.prog) Try.underlying28 hi (fun j hj => by
      rw [hm] at hj
      rw [hB.cell, Array.getElem?_eq_getElem (by omega)]; rfl) (fun j hj => hB.frozen _)
    rw [hm, ht] at h
    exact h
  · have h := Bk.puts (rc x.data.toList).toList (k * 64) _ wr hB
    rw [putC_rc _ _ _ (by rw [rc_size] at hfit; rw [dlen]; omega), Nat.mul_comm k 64, flat_part 64 _ hw k zr (arrK_at xs k hk) _ (by rw [dlen]; exact hz)] at h
    rw [← arrK_next xs k x hx, Nat.mul_comm k 64]
    exact h
set_option maxHeartbeats 1000000 in
set_option maxRecDepth 100000 in
theorem arrays_any (a : Option Addr) (c : Nat) (xs : List ByteArray) (w : World) (hx : TxL w a xs) (nx : xs.length ≤ 64) (hs : ∀ x ∈ xs, x.size ≤ 64) :
    Calls Try.prog 38 #[.slice a xs.length c] w fun e w' => e = .returned (.slice (some ⟨w.heap.size, 0, none⟩) xs.length xs.length) ∧ Bk w' w.heap.size (rc (arrL xs).flatten) 60 ∧ Below w.heap.size w w' := by
  have HX : Hid (TxL w a xs) := hx
  have HSZ : Hid (∀ x ∈ xs, x.size ≤ 64) := hs
  clear hx hs
  obtain ⟨n, hn⟩ : ∃ n, xs.length = n := ⟨_, rfl⟩
  have HN : Hid (xs.length = n) := hn
  rw [hn] at nx ⊢
  clear hn
  have hmk := make_rows n nx
  have hsl := slice_row
  go_enter Try.func38, Try.ntmps38
  go_wp2_with fail
  go_loopw [11] (fun v wr => ∃ k : Nat, k ≤ n ∧ v = .int .i64 k ∧ Hid (Bk wr w.heap.size (rc (arrK xs k).flatten) 60) ∧ Hid (Below w.heap.size w wr) ∧ w.heap.size < wr.heap.size) (fun v _ => n - (intOf v).toNat)
  case atStart =>
    refine ⟨0, by omega, rfl, ?_, (Below.refl _ _).alloc (Nat.le_refl _) _, by rw [al_size]; omega⟩
    have := bk_new w (rc (List.replicate n zr).flatten) 60
    show Bk _ _ _ _
    have e : arrK xs 0 = List.replicate n zr := by simp [arrK, HN.out]
    rw [e]; exact this
  case round =>
    obtain ⟨k, hk, rfl, HB, HW, hsz⟩ := hrel
    by_cases hlt : k < n
    · obtain ⟨x, hx⟩ : ∃ x, xs[k]? = some x := ⟨xs[k]'(by rw [HN.out]; exact hlt), List.getElem?_eq_getElem _⟩
      obtain ⟨g, o, rfl, hg, hc⟩ := HX.out.below HW.out k x hx
      have hz := HSZ.out x (List.mem_of_getElem? hx)
      have HK : Hid (xs[k]? = some x) := hx
      have hkz : (k : Int) < (n : Nat) := by omega
      obtain ⟨w2, hcp, hB2, hG2, hs2⟩ := copy_row xs k w.heap.size x wr HB.out hx HSZ.out
      have HB2 : Hid _ := hB2
      have HG2 : Hid _ := hG2
      clear hx hB2 hG2
      go_wp2
      go_roundw
      case rel => exact ⟨k + 1, by omega, by go_num, HB2.out, below_own HW.out (by omega) HG2.out (Nat.le_refl _), by omega⟩
      case measure => simp [intOf]; omega
    · have hkn : k = n := by omega
      have HB3 : Hid (Bk wr w.heap.size (rc (arrL xs).flatten) 60) := by show Bk _ _ _ _; rw [← arrK_all xs, HN.out, ← hkn]; exact HB.out
      clear hkn
      go_wp2
      go_ret
      exact ⟨rfl, HB3.out, HW.out⟩
end Go.Proofs.Ytecpcocnoengiaa
/- field.texts. -/
namespace Go.Proofs.Ytecpcocnoengiaa
open Go.RowKit
set_option linter.unusedSimpArgs false
set_option linter.unusedVariables false
/-- A text of bytes. -/
def mkT (l : List UInt8) : ByteArray := ⟨l.toArray⟩
theorem mkT_size (l : List UInt8) : (mkT l).size = l.length := by simp [mkT, ByteArray.size]
theorem mkT_data (l : List UInt8) : (mkT l).data.toList = l := by simp [mkT]
/-- The texts of a matrix of so many columns. -/
def txtL (c : Nat) (L : List (List UInt8)) : List ByteArray := L.map fun r => mkT (r.take c)
/-- The first k texts. -/
def txtK (c : Nat) (L : List (List UInt8)) (k : Nat) : List ByteArray := (txtL c L).take k ++ List.replicate (L.length - k) (mkT [])
theorem txtL_len (c : Nat) (L : List (List UInt8)) : (txtL c L).length = L.length := by simp [txtL]
theorem txtK_next (c : Nat) (L : List (List UInt8)) (k : Nat) (r : List UInt8) (hr : L[k]? = some r) : (txtK c L k).set k (mkT (r.take c)) = txtK c L (k + 1) := by
  have hk := (List.getElem?_eq_some_iff.1 hr).1
  unfold txtK
  rw [List.set_append_right _ _ (by simp [txtL]; omega)]
  have hl : ((txtL c L).take k).length = k := by simp [txtL]; omega
  rw [hl, Nat.sub_self, show L.length - k = (L.length - (k + 1)) + 1 from by omega, List.replicate_succ, List.set_cons_zero]
  rw [List.take_succ_eq_append_getElem (by simp [txtL]; omega), List.append_assoc]
  have : (txtL c L)[k]'(by simp [txtL]; omega) = mkT (r.take c) := by
    simp only [txtL, List.getElem_map]
    rw [(List.getElem?_eq_some_iff.1 hr).2]
  rw [this]; rfl
theorem txtK_all (c : Nat) (L : List (List UInt8)) : txtK c L L.length = txtL c L := by
  unfold txtK
  rw [Nat.sub_self, List.replicate_zero, List.append_nil, List.take_of_length_le (by simp [txtL])]
theorem txtK_len (c : Nat) (L : List (List UInt8)) (k : Nat) (hk : k ≤ L.length) : (txtK c L k).length = L.length := by
  simp [txtK, txtL]; omega
theorem infoS : (Try.prog.info? 9).map (fun i => (i.zero, i.size, i.bytes)) = some (some (.string (mkT [])), 1, 16) := by kernel_rfl
theorem made_txt (n : Nat) : madeCells #[Value.string (mkT [])] n = txc (List.replicate n (mkT [])) := by
  apply Array.ext_getElem?
  intro i
  rw [txc_get]
  simp only [madeCells]
  by_cases hi : i < n
  · rw [List.getElem?_replicate, if_pos hi]
    simp [hi, Nat.mod_one]
  · rw [List.getElem?_eq_none (by simp; omega), Array.getElem?_eq_none (by simp; omega)]; rfl
theorem make_txts (n : Nat) (hn : n ≤ 64) (u : World) : (Instr.makeSlice 23 (.int .i64 n) (.int .i64 n)).run Try.prog u =
    .ok (.slice (some ⟨u.heap.size, 0, none⟩) n n) (u.alloc (.cells (txc (List.replicate n (mkT []))) 9)) := by
  obtain ⟨i0, hi, hz0, hz1, hz2⟩ := info_parts infoS
  have h := run_make (P := Try.prog) u 23 9 i0 (.string (mkT [])) Try.underlying23 hi hz0 .i64 .i64 (n : Int) (n : Int) (by omega) (Int.le_refl _) (by rw [hz2]; omega) (by omega)
  rw [Int.toNat_natCast, hz1, Nat.mul_one] at h
  rw [h, ← made_txt]; rfl
theorem slice_front (g c : Nat) (hc : c ≤ 64) (w : World) : (Instr.sliceAt 60 (.pointer (some ⟨g, 0, none⟩)) none (some (.int .i64 c)) none).run Try.prog w = .ok (.slice (some ⟨g, 0, none⟩) c 64) w := by
  have e1 : Try.prog.elem 60 = 5 := by kernel_rfl
  have e2 : Try.prog.arrayLen 60 = 64 := by kernel_rfl
  have e0 : Try.prog.underlying 60 = some (.array (Try.prog.arrayLen 60) (Try.prog.elem 60)) := by kernel_rfl
  rw [run_sliceAt_array_h (P := Try.prog) w 60 ⟨g, 0, none⟩ e0 .i64 (c : Int) (by omega) (by rw [e2]; omega)]
  rw [e1, e2, sizeOf_byte]
  simp [slicedAt, Result.andThen, Addr.add]
theorem conv_front (r : List UInt8) (g c cap : Nat) (T : TypeId) (w : World) (hc : c ≤ r.length) (hB : Bk w g (rc r) T) :
    (convert 28 9 (.slice (some ⟨g, 0, none⟩) c cap)).run Try.prog w = .ok (.string (mkT (r.take c))) w := by
  have h := run_convert_bytes_arg w 28 5 Try.underlying28 Try.underlying5 g 0 c cap ((r.take c).map fun x : UInt8 => (x.toNat : Int)) (by simp; omega) (fun i hi => by
    rw [Nat.zero_add, hB.cell, rc_get, List.getD, List.getElem?_map, List.getElem?_take, if_pos hi, List.getElem?_eq_getElem (by omega)]; rfl) 9 Try.underlying9
  rw [h]
  have e : strOfNums ((r.take c).map fun x : UInt8 => (x.toNat : Int)) = mkT (r.take c) := by
    unfold strOfNums mkT
    rw [List.map_map]
    congr 2
    conv => rhs; rw [← List.map_id (r.take c)]
    apply List.map_congr_left
    intro x _
    simp
  rw [e]
set_option maxHeartbeats 1000000 in
set_option maxRecDepth 100000 in
theorem texts_any (L : List (List UInt8)) (b c : Nat) (T : TypeId) (w : World) (hB : Bk w b (rc L.flatten) T) (hL : ∀ r ∈ L, r.length = 64) (hn : L.length ≤ 64) (hc : c ≤ 64) :
    Calls Try.prog 33 #[.slice (some ⟨b, 0, none⟩) L.length L.length, .int .i64 c] w fun e w' => e = .returned (.slice (some ⟨w.heap.size, 0, none⟩) L.length L.length) ∧ Bk w' w.heap.size (txc (txtL c L)) 9 ∧ Below w.heap.size w w' := by
  have HB : Hid (Bk w b (rc L.flatten) T) := hB
  have HL : Hid (∀ r ∈ L, r.length = 64) := hL
  have hbl := hB.lt
  clear hB hL
  obtain ⟨n, hln⟩ : ∃ n, L.length = n := ⟨_, rfl⟩
  have HN : Hid (L.length = n) := hln
  rw [hln] at hn ⊢
  clear hln
  have hz := (zero_of_info info_row).1
  have hmk := make_txts n hn
  have hsl := fun g w => slice_front g c hc w
  go_enter Try.func33, Try.ntmps33
  go_wp2_with fail
  go_loopw [13] (fun v wr => ∃ k : Nat, k ≤ n ∧ v = .int .i64 k ∧ Hid (Bk wr w.heap.size (txc (txtK c L k)) 9) ∧ Hid (Below w.heap.size w wr) ∧ w.heap.size < wr.heap.size) (fun v _ => n - (intOf v).toNat)
  case atStart =>
    refine ⟨0, by omega, rfl, ?_, (Below.refl _ _).alloc (Nat.le_refl _) _, by rw [al_size]; omega⟩
    show Bk _ _ _ _
    have e : txtK c L 0 = List.replicate n (mkT []) := by simp [txtK, HN.out]
    rw [e]; exact bk_new w _ _
  case round =>
    obtain ⟨k, hk, rfl, HT, HW, hsz⟩ := hrel
    by_cases hlt : k < n
    · obtain ⟨r, hr⟩ : ∃ r, L[k]? = some r := ⟨L[k]'(by rw [HN.out]; exact hlt), List.getElem?_eq_getElem _⟩
      have hrl := HL.out r (List.mem_of_getElem? hr)
      have HRL : Hid (r.length = 64) := hrl
      have HR : Hid (L[k]? = some r) := hr
      have hkz : (k : Int) < (n : Nat) := by omega
      have HBr : Hid (Bk wr b (rc L.flatten) T) := HB.out.below HW.out hbl
      have HI := size_row r hrl
      clear hr hrl
      go_wp2_with (first
        | (refine wpList_get rfl 60 (.tmp 16) rfl b (k * 64) (rc L.flatten) (rc r) T _ rfl HBr.out (by intro j v hv; rw [Nat.mul_comm k 64]; exact row_get 64 L HL.out k r HR.out j v hv) Try.underlying60 rfl HI ?_)
        | (refine wpList_put rfl 60 (.tmp 7) (.tmp 17) rfl wr.heap.size 0 (rc zr) (rc r) 60 rfl rfl (bk_new _ _ _) HI (by rw [rc_size, rc_size, zr_len, HRL.out]; omega) (rc_one _) ?_; intro w2 HB3 HG3 hs3
           have HB4 : Hid (Bk w2 wr.heap.size (rc r) 60) := by have := HB3.out; rw [putC_all _ _ (by rw [zr_len, HRL.out])] at this; exact this
           have HW2 : Hid (Below w.heap.size w w2) := below_own (HW.out.alloc (by omega) _) (by rw [al_size]; omega) HG3.out (by omega)
           have HT2 : Hid (Bk w2 w.heap.size (txc (txtK c L k)) 9) := (HT.out.alloc _).grown HG3.out (by simp; omega)
           have hcv := conv_front r wr.heap.size c 64 60 w2 (by rw [HRL.out]; exact hc) HB4.out
           have hc2 : w2.cell? ⟨w.heap.size, k, none⟩ = some (.string ((txtK c L k)[k]'(by rw [txtK_len c L k (by rw [HN.out]; omega), HN.out]; exact hlt))) := by rw [HT2.out.cell, txc_get, List.getElem?_eq_getElem]; rfl
           have hf2 := HT2.out.frozen k))
      go_roundw
      case rel =>
        refine ⟨k + 1, by omega, by go_num, ?_, below_own HW2.out (by rw [al_size] at hs3; omega) (Lib.grownBy_setB (World.grownBy.refl _ _) k _) (Nat.le_refl _), by rw [al_size] at hs3; simp [World.setCell]; omega⟩
        show Bk _ _ _ _
        rw [← txtK_next c L k r HR.out, ← txc_set]
        exact HT2.out.set k _
      case measure => simp [intOf]; omega
    · have hkn : k = n := by omega
      have HB3 : Hid (Bk wr w.heap.size (txc (txtL c L)) 9) := by show Bk _ _ _ _; rw [← txtK_all c L, HN.out, ← hkn]; exact HT.out
      clear hkn
      go_wp2
      go_ret
      exact ⟨rfl, HB3.out, HW.out⟩
end Go.Proofs.Ytecpcocnoengiaa
/- Sums over the field of 256; a row that takes every column of a Cauchy matrix to 0 is 0. No program is named here. -/
namespace Go.Proofs.Ytecpcocnoengiaa
set_option linter.unusedSimpArgs false
set_option linter.unusedVariables false
open Go
/-- The sum of the first n. -/
def Sx : Nat → (Nat → UInt8) → UInt8
  | 0, _ => 0
  | n + 1, f => Sx n f ^^^ f n
theorem Sx_congr : ∀ (n : Nat) (f g : Nat → UInt8), (∀ i, i < n → f i = g i) → Sx n f = Sx n g
  | 0, _, _, _ => rfl
  | n + 1, f, g, h => by rw [Sx, Sx, Sx_congr n f g (fun i hi => h i (by omega)), h n (by omega)]
theorem Sx_add : ∀ (n : Nat) (f g : Nat → UInt8), Sx n (fun i => f i ^^^ g i) = Sx n f ^^^ Sx n g
  | 0, _, _ => by simp [Sx]
  | n + 1, f, g => by rw [Sx, Sx, Sx, Sx_add n, xor_swap]
theorem Sx_mul : ∀ (n : Nat) (f : Nat → UInt8) (c : UInt8), Sx n (fun i => mul (f i) c) = mul (Sx n f) c
  | 0, _, _ => by simp [Sx, zero_mul]
  | n + 1, f, c => by rw [Sx, Sx, Sx_mul n, mul_xor_left]
theorem Sx_zero : ∀ n : Nat, Sx n (fun _ => 0) = 0
  | 0 => rfl
  | n + 1 => by rw [Sx, Sx_zero n]; rfl
theorem Sx_nil (n : Nat) (f : Nat → UInt8) (h : ∀ i, i < n → f i = 0) : Sx n f = 0 := by
  rw [Sx_congr n f (fun _ => 0) h, Sx_zero]
theorem Sx_one (n : Nat) (f : Nat → UInt8) (k : Nat) (hk : k < n) (h : ∀ i, i < n → i ≠ k → f i = 0) : Sx n f = f k := by
  induction n with
  | zero => omega
  | succ n ih =>
    rw [Sx]
    by_cases e : k = n
    · subst e
      rw [Sx_nil k f (fun i hi => h i (by omega) (by omega)), UInt8.zero_xor]
    · rw [ih (by omega) (fun i hi => h i (by omega)), h n (by omega) (fun e2 => e e2.symm), UInt8.xor_zero]
theorem Sx_swap (n : Nat) : ∀ (m : Nat) (f : Nat → Nat → UInt8), Sx n (fun i => Sx m (fun j => f i j)) = Sx m (fun j => Sx n (fun i => f i j))
  | 0, f => by
    rw [show Sx 0 (fun j => Sx n (fun i => f i j)) = 0 from rfl]
    exact Sx_nil n _ (fun i _ => rfl)
  | m + 1, f => by
    rw [Sx, ← Sx_swap n m f, ← Sx_add]
    rfl
theorem xor_eq {a b : UInt8} (h : a ^^^ b = 0) : a = b := by
  have : (a ^^^ b) ^^^ b = b := by rw [h, UInt8.zero_xor]
  rwa [UInt8.xor_assoc, UInt8.xor_self, UInt8.xor_zero] at this
theorem xor_ne {a b : UInt8} (h : a ≠ b) : a ^^^ b ≠ 0 := fun e => h (xor_eq e)
theorem inv_sum (d e : UInt8) (hd : d ≠ 0) (he : e ≠ 0) : inv d ^^^ inv e = mul (mul (inv d) (inv e)) (d ^^^ e) := by
  rw [mul_xor_right, mul_assoc (inv d) (inv e) e, mul_inv e he, mul_one, mul_comm (inv d) (inv e), mul_assoc (inv e) (inv d) d, mul_inv d hd, mul_one, UInt8.xor_comm]
theorem cauchy_ker : ∀ (n : Nat) (x y v : Nat → UInt8), (∀ i j, i < n → j < n → x i ≠ y j) → (∀ i j, i < n → j < n → i ≠ j → x i ≠ x j) → (∀ i j, i < n → j < n → i ≠ j → y i ≠ y j) →
    (∀ j, j < n → Sx n (fun i => mul (v i) (inv (x i ^^^ y j))) = 0) → ∀ i, i < n → v i = 0
  | 0, _, _, _, _, _, _, _, i, hi => by omega
  | n + 1, x, y, v, hxy, hx, hy, hS, i, hi => by
    have hd : ∀ i j, i < n + 1 → j < n + 1 → x i ^^^ y j ≠ 0 := fun i j h1 h2 => xor_ne (hxy i j h1 h2)
    -- each equation, times (x n + y j)
    have key : ∀ j, j < n + 1 → Sx n (fun i => mul (mul (v i) (x n ^^^ x i)) (inv (x i ^^^ y j))) = Sx (n + 1) v := by
      intro j hj
      have h1 : mul (Sx (n + 1) (fun i => mul (v i) (inv (x i ^^^ y j)))) (x n ^^^ y j) = 0 := by rw [hS j hj, zero_mul]
      rw [← Sx_mul] at h1
      have h2 : Sx (n + 1) (fun i => mul (mul (v i) (inv (x i ^^^ y j))) (x n ^^^ y j)) = Sx (n + 1) (fun i => mul (mul (v i) (x n ^^^ x i)) (inv (x i ^^^ y j)) ^^^ v i) := by
        apply Sx_congr
        intro i hi
        have e : x n ^^^ y j = (x i ^^^ y j) ^^^ (x n ^^^ x i) := by
          rw [UInt8.xor_comm (x i) (y j), UInt8.xor_comm (x n) (x i), UInt8.xor_assoc, ← UInt8.xor_assoc (x i) (x i), UInt8.xor_self, UInt8.zero_xor, UInt8.xor_comm]
        rw [e, mul_xor_right, mul_assoc (v i) (inv _) (x i ^^^ y j), mul_inv _ (hd i j hi hj), mul_one, UInt8.xor_comm]
        congr 1
        rw [mul_assoc, mul_assoc, mul_comm (inv _)]
      rw [h2, Sx_add] at h1
      have h3 := xor_eq h1
      rw [Sx] at h3
      rw [UInt8.xor_self, mul_zero_right, zero_mul, UInt8.xor_zero] at h3
      exact h3
    have hv' : ∀ i, i < n → mul (mul (v i) (x n ^^^ x i)) (inv (x i ^^^ y n)) = 0 := by
      refine cauchy_ker n x y (fun i => mul (mul (v i) (x n ^^^ x i)) (inv (x i ^^^ y n))) (fun i j h1 h2 => hxy i j (by omega) (by omega)) (fun i j h1 h2 => hx i j (by omega) (by omega)) (fun i j h1 h2 => hy i j (by omega) (by omega)) ?_
      intro j hj
      have h1 := key j (by omega)
      rw [← key n (by omega)] at h1
      have h2 : Sx n (fun i => mul (mul (v i) (x n ^^^ x i)) (inv (x i ^^^ y j)) ^^^ mul (mul (v i) (x n ^^^ x i)) (inv (x i ^^^ y n))) = 0 := by
        rw [Sx_add, h1, UInt8.xor_self]
      have h3 : Sx n (fun i => mul (mul (v i) (x n ^^^ x i)) (inv (x i ^^^ y j)) ^^^ mul (mul (v i) (x n ^^^ x i)) (inv (x i ^^^ y n))) = mul (Sx n (fun i => mul (mul (mul (v i) (x n ^^^ x i)) (inv (x i ^^^ y n))) (inv (x i ^^^ y j)))) (y j ^^^ y n) := by
        rw [← Sx_mul]
        apply Sx_congr
        intro i hi
        rw [← mul_xor_right, inv_sum _ _ (hd i j (by omega) (by omega)) (hd i n (by omega) (by omega))]
        have e : (x i ^^^ y j) ^^^ (x i ^^^ y n) = y j ^^^ y n := by
          rw [UInt8.xor_comm (x i) (y j), UInt8.xor_assoc, ← UInt8.xor_assoc (x i) (x i), UInt8.xor_self, UInt8.zero_xor]
        rw [e, ← mul_assoc, mul_comm (inv (x i ^^^ y j)) (inv (x i ^^^ y n)), ← mul_assoc]
      rw [h3] at h2
      rcases mul_eq_zero h2 with h4 | h4
      · exact h4
      · exact absurd (xor_eq h4) (hy j n (by omega) (by omega) (by omega))
    have hv : ∀ i, i < n → v i = 0 := by
      intro i hi
      rcases mul_eq_zero (hv' i hi) with h1 | h1
      · rcases mul_eq_zero h1 with h2 | h2
        · exact h2
        · exact absurd (xor_eq h2) (hx n i (by omega) (by omega) (by omega))
      · exact absurd h1 (inv_ne _ (hd i n (by omega) (by omega)))
    by_cases e : i = n
    · subst e
      have h1 := hS 0 (by omega)
      rw [Sx, Sx_nil _ _ (fun k hk => by rw [hv k hk, zero_mul]), UInt8.zero_xor] at h1
      rcases mul_eq_zero h1 with h2 | h2
      · exact h2
      · exact absurd h2 (inv_ne _ (hd i 0 (by omega) (by omega)))
    · exact hv i (by omega)
end Go.Proofs.Ytecpcocnoengiaa
/- Slices of texts, and of bytes, that the call makes by append. -/
namespace Go.Proofs.Ytecpcocnoengiaa
open Go.RowKit
set_option linter.unusedSimpArgs false
set_option linter.unusedVariables false
theorem inf_str : (Try.prog.info? 9).map (fun i => (i.zero, i.size, i.bytes)) = some (some (.string ⟨#[]⟩), 1, 16) := by kernel_rfl
theorem inf_byte : (Try.prog.info? 5).map (fun i => (i.zero, i.size, i.bytes)) = some (some (.int .u8 0), 1, 1) := by kernel_rfl
/-- Texts as cells. -/
def sv (l : List ByteArray) : List Value := l.map fun x => Value.string x
theorem sv_append (a b : List ByteArray) : sv (a ++ b) = sv a ++ sv b := by simp [sv]
def bv (l : List UInt8) : List Value := l.map fun x : UInt8 => Value.int .u8 (x.toNat : Int)
theorem bv_append (a b : List UInt8) : bv (a ++ b) = bv a ++ bv b := by simp [bv]
theorem news_one (w : World) (p : Value) (T : TypeId) : ∀ (j : Nat) (u : Value), [p][j]? = some u → (w.alloc (.cells #[p] T)).cell? ((⟨w.heap.size, 0, none⟩ : Addr).add j) = some u := by
  intro j u h
  rw [WideShapes.add_plain, Nat.zero_add, World.cell?_alloc_new]
  simpa using h
theorem one_str (p : ByteArray) : ∀ u ∈ [Value.string p], u.oneCell' = true := by
  intro u hu
  simp at hu
  subst hu; rfl
theorem one_byte (n : Int) : ∀ u ∈ [Value.int .u8 n], u.oneCell' = true := by
  intro u hu
  simp at hu
  subst hu; rfl
theorem own_kept {B n : Nat} {w w' : World} {v : Value} {xs : List Value} {e : TypeId} (h : w.ownsRow B e 1 v n xs) (hb : Below w.heap.size w w') : w'.ownsRow B e 1 v n xs :=
  h.kept (gr_of_below hb none) (by cases v.ownBlock <;> simp)
theorem apn_bel {B n : Nat} {w wr w1 : World} {o : Obj} {v : Value} {xs : List Value} {e : TypeId} (hb : Below B w wr) (hz : B ≤ wr.heap.size) (ho : wr.ownsRow B e 1 v n xs) (hg : (wr.alloc o).grownBy w1 v.ownBlock) : Below B w w1 := by
  refine (hb.alloc hz o).grown hg (by simp; omega) (fun k hk => ?_)
  rcases ho.2 with ⟨rfl, _⟩ | ⟨g, cap, cur, rfl, hle, _⟩
  · cases hk
  · simp [Value.ownBlock] at hk; omega
theorem _root_.Go.World.ownsRow.lower {B B' n k : Nat} {w : World} {v : Value} {xs : List Value} {e : TypeId} (h : w.ownsRow B e k v n xs) (hB : B' ≤ B) : w.ownsRow B' e k v n xs := by
  refine ⟨h.1, ?_⟩
  rcases h.2 with h | ⟨g, cap, cur, h1, h2, h3⟩
  · exact .inl h
  · exact .inr ⟨g, cap, cur, h1, by omega, h3⟩
theorem own_txl {w : World} {B : Nat} {v : Value} {xs : List ByteArray} {e : TypeId} (h : w.ownsRow B e 1 v xs.length (sv xs)) : ∃ a c, v = .slice a xs.length c ∧ TxL w a xs ∧ (∀ b o s, a = some ⟨b, o, s⟩ → B ≤ b) := by
  rcases h.2 with ⟨rfl, h0⟩ | ⟨g, cap, cur, rfl, hle, hg, hn, _, hc, ht⟩
  · have : xs = [] := List.eq_nil_of_length_eq_zero h0
    subst this
    exact ⟨none, 0, rfl, fun i c hc => by simp at hc, fun b o s e => by cases e⟩
  · refine ⟨some ⟨g, 0, none⟩, cap, rfl, fun i c hi => ⟨g, 0, rfl, (Array.getElem?_eq_some_iff.1 hg).1, ?_⟩, fun b o s e => by cases e; exact hle⟩
    have hl : i < xs.length := (List.getElem?_eq_some_iff.1 hi).1
    have e := congrArg (·[i]?) ht
    rw [Nat.mul_one] at e
    simp only [List.getElem?_take, if_pos hl, sv, List.getElem?_map, hi, Option.map_some] at e
    simp only [World.cell?, hg, Nat.zero_add]
    rw [← Array.getElem?_toList]; exact e
end Go.Proofs.Ytecpcocnoengiaa
/- Lists that a call made: nil, or of a block of its own. -/
namespace Go.Proofs.Ytecpcocnoengiaa
open Go.RowKit
set_option linter.unusedSimpArgs false
set_option linter.unusedVariables false
/-- A list that the package made: nil, or a block of its own. -/
def Mad (w : World) (ao : Option Addr) (xs : List ByteArray) (w' : World) : Prop :=
  (ao = none ∧ xs.length = 0) ∨ ∃ g, ao = some ⟨g, 0, none⟩ ∧ w.heap.size ≤ g ∧ Bk w' g (txc xs) 9
theorem Mad.txl {w w' : World} {ao : Option Addr} {xs : List ByteArray} (h : Mad w ao xs w') : TxL w' ao xs := by
  rcases h with ⟨rfl, h0⟩ | ⟨g, rfl, _, hB⟩
  · have : xs = [] := List.eq_nil_of_length_eq_zero h0
    rw [this]; intro i x hx; simp at hx
  · exact hB.txl
theorem Mad.lo {w w' : World} {ao : Option Addr} {xs : List ByteArray} (h : Mad w ao xs w') (b o : Nat) (s : Option Nat) (e : ao = some ⟨b, o, s⟩) : w.heap.size ≤ b ∧ b < w'.heap.size := by
  rcases h with ⟨rfl, h0⟩ | ⟨g, rfl, h1, hB⟩
  · cases e
  · cases e; exact ⟨h1, hB.lt⟩
theorem Mad.grown {w w1 w2 : World} {ao : Option Addr} {xs : List ByteArray} {r : Option Nat} (h : Mad w ao xs w1) (hg : w1.grownBy w2 r) (hr : ∀ b o s, ao = some ⟨b, o, s⟩ → r ≠ some b) : Mad w ao xs w2 := by
  rcases h with h | ⟨g, h0, h1, hB⟩
  · exact .inl h
  · exact .inr ⟨g, h0, h1, hB.grown hg (hr g 0 none h0)⟩
theorem Mad.below {w w1 w2 : World} {ao : Option Addr} {xs : List ByteArray} (h : Mad w ao xs w1) (hb : Below w1.heap.size w1 w2) : Mad w ao xs w2 := h.grown (gr_of_below hb none) (by simp)
/-- A list of the document's answer. -/
def Ans (w : World) (a : Option Addr) (xs : List ByteArray) (w' : World) : Prop := TxL w' a xs ∧ ∀ b o s, a = some ⟨b, o, s⟩ → w.heap.size ≤ b ∧ b < w'.heap.size
theorem ans_of {w w' : World} {v : Value} {xs : List ByteArray} (h : w'.ownsRow w.heap.size 9 1 v xs.length (sv xs)) : ∃ a c, v = .slice a xs.length c ∧ Ans w a xs w' := by
  have h0 := h
  obtain ⟨a, c, rfl, ht, hl⟩ := own_txl h
  refine ⟨a, c, rfl, ht, fun b o s e => ⟨hl b o s e, ?_⟩⟩
  rcases h0.2 with ⟨h1, _⟩ | ⟨g, cap, cur, h1, _, hg, _⟩
  · rw [e] at h1; cases h1
  · rw [e] at h1; cases h1; exact (Array.getElem?_eq_some_iff.1 hg).1
theorem Ans.below {w w1 w2 : World} {a : Option Addr} {xs : List ByteArray} (h : Ans w a xs w1) (hb : Below w1.heap.size w1 w2) : Ans w a xs w2 :=
  ⟨h.1.below hb, fun b o s e => ⟨(h.2 b o s e).1, Nat.lt_of_lt_of_le (h.2 b o s e).2 hb.size⟩⟩
theorem map_block {ao : Option Addr} {g : Nat} (h : ao.map (·.block) = some g) : ∃ o s, ao = some ⟨g, o, s⟩ := by
  cases ao with
  | none => cases h
  | some q =>
    obtain ⟨b, o, s⟩ := q
    simp at h
    exact ⟨o, s, by rw [h]⟩
end Go.Proofs.Ytecpcocnoengiaa
