/- names.isWhole, Runes, Check. -/
import Derived.Test.YtjnijcmalnckcaaDoorH2V
import Derived.Test.YtjnijcmalnckcaaDoorP13
import Derived.Lib.OthersKept
import Derived.WalkKit
import Derived.BigCall
namespace Go.Proofs.YtjnijcmalnckcaaDoor
open Go.RowKit
set_option linter.unusedSimpArgs false
set_option linter.unusedVariables false
theorem data_len (s : ByteArray) : s.data.toList.length = s.size := Array.length_toList
set_option maxRecDepth 100000 in
theorem whole_anyN (s : ByteArray) (w : World) (hs : s.size ≤ 9223372036854775807) (hT : U8 w) :
    Calls Tryd.prog 75 #[.string s] w fun e w' => e = .returned (.bool (decide (s.data.toList.length ≤ 255) && Lib.validD s.data.toList)) ∧ Below w.heap.size w w' := by
  rw [data_len]
  by_cases h : s.size ≤ 255
  · have hz : (s.size : Int) ≤ 255 := by omega
    go_enter Tryd.func75, Tryd.ntmps75
    go_wp2_with (go_at_call 77; refine (valid_any s w hs hT).mono ?_; rintro e w1 ⟨rfl, hb⟩)
    go_ret
    exact ⟨by simp [h], hb⟩
  · have hz : ¬ (s.size : Int) ≤ 255 := by omega
    go_enter Tryd.func75, Tryd.ntmps75
    go_wp2
    go_ret
    exact ⟨by simp [h], Below.refl _ _⟩
/-- A rune more of a text, at a place. -/
theorem rn_at (s : ByteArray) (pos : Nat) (h : pos < s.size) : rn (s.data.toList.drop pos) = (Utf8.decode s pos).1 :: rn (s.data.toList.drop (pos + (Utf8.decode s pos).2)) := by
  have hne : s.data.toList.drop pos ≠ [] := by
    intro e
    have := congrArg List.length e
    rw [List.length_drop, data_len] at this
    simp at this
    omega
  rw [rn_step _ hne, Lib.decodeL_drop, List.drop_drop]
theorem dec_le (s : ByteArray) (pos : Nat) (h : pos < s.size) : 1 ≤ (Utf8.decode s pos).2 ∧ pos + (Utf8.decode s pos).2 ≤ s.size := by
  refine ⟨Lib.width_pos s pos, ?_⟩
  have hne : s.data.toList.drop pos ≠ [] := by
    intro e
    have := congrArg List.length e
    rw [List.length_drop, data_len] at this
    simp at this
    omega
  have := Lib.decodeL_le _ hne
  rw [Lib.decodeL_drop, List.length_drop, data_len] at this
  omega
theorem rn_end (s : ByteArray) (pos : Nat) (h : ¬ pos < s.size) : rn (s.data.toList.drop pos) = [] := by
  rw [List.drop_eq_nil_of_le (by rw [data_len]; omega)]; rfl
theorem str_ne (s : ByteArray) (l : List UInt8) : (s.data.toList = l) = (s = ⟨l.toArray⟩) := by
  apply propext
  constructor
  · intro h; cases s; subst h; rfl
  · intro h; subst h; rfl
set_option maxHeartbeats 1000000 in
set_option maxRecDepth 100000 in
theorem runes_any (s : ByteArray) (w : World) (hs : s.size ≤ 9223372036854775807) (hT : U8 w) :
    Calls Tryd.prog 70 #[.string s] w fun e w' => e = .returned (.tuple #[.int .i64 (rnN s.data.toList), .int .i64 (rnE s.data.toList)]) ∧ Below w.heap.size w w' := by
  obtain ⟨q, hq⟩ : ∃ q, q = (decide (s.data.toList.length ≤ 255) && Lib.validD s.data.toList) := ⟨_, rfl⟩
  have hwh := whole_anyN s w hs hT
  rw [← hq] at hwh
  have HQ : Hid (q = (decide (s.data.toList.length ≤ 255) && Lib.validD s.data.toList)) := hq
  clear hq hT
  have bad : okN s.data.toList = false → (Ending.returned (.tuple #[.int .i64 (0 : Int), .int .i64 (10 : Int)]) : Ending) = .returned (.tuple #[.int .i64 (rnN s.data.toList), .int .i64 (rnE s.data.toList)]) := fun h => by simp [rnN, rnE, h]
  have HBAD : Hid (okN s.data.toList = false → (Ending.returned (.tuple #[.int .i64 (0 : Int), .int .i64 (10 : Int)]) : Ending) = .returned (.tuple #[.int .i64 (rnN s.data.toList), .int .i64 (rnE s.data.toList)])) := bad
  clear bad
  obtain ⟨b1, hb1⟩ : ∃ b1, (s.toList == [46]) = b1 := ⟨_, rfl⟩
  obtain ⟨b2, hb2⟩ : ∃ b2, (s.toList == [46, 46]) = b2 := ⟨_, rfl⟩
  have HP : Hid (okN s.data.toList = true → q = true ∧ b1 = false ∧ b2 = false) := fun h => by
    obtain ⟨h1, h2, h3, h4, _⟩ := okN_split h
    refine ⟨by rw [HQ.out, decide_eq_true h1, h2]; rfl, ?_, ?_⟩
    · rw [← hb1, Lib.toList_data]; simpa using h3
    · rw [← hb2, Lib.toList_data]; simpa using h4
  have HN : Hid (b1 = false → b2 = false → s.data.toList ≠ [46] ∧ s.data.toList ≠ [46, 46]) := fun h1 h2 => by
    rw [h1, Lib.toList_data] at hb1
    rw [h2, Lib.toList_data] at hb2
    exact ⟨by simpa using hb1, by simpa using hb2⟩
  cases q with
  | false =>
    go_enter Tryd.func70, Tryd.ntmps70
    go_wp2_with (go_at_call 75; refine hwh.mono ?_; rintro e w1 ⟨rfl, hb⟩)
    go_ret2
    exact ⟨HBAD.out (Bool.eq_false_iff.2 fun h => by have := (HP.out h).1; cases this), hb⟩
  | true =>
    cases b1 with
    | true =>
      go_enter Tryd.func70, Tryd.ntmps70
      go_wp2_with (go_at_call 75; refine hwh.mono ?_; rintro e w1 ⟨rfl, hb⟩)
      go_ret2
      exact ⟨HBAD.out (Bool.eq_false_iff.2 fun h => by have := (HP.out h).2.1; cases this), hb⟩
    | false =>
    cases b2 with
    | true =>
      go_enter Tryd.func70, Tryd.ntmps70
      go_wp2_with (go_at_call 75; refine hwh.mono ?_; rintro e w1 ⟨rfl, hb⟩)
      go_ret2
      exact ⟨HBAD.out (Bool.eq_false_iff.2 fun h => by have := (HP.out h).2.2; cases this), hb⟩
    | false =>
    have HN' := HN.out rfl rfl
    clear HP HN
    have HNE : Hid (s.data.toList ≠ [46] ∧ s.data.toList ≠ [46, 46]) := HN'
    clear HN'
    go_enter Tryd.func70, Tryd.ntmps70
    go_wp2_with (go_at_call 75; refine hwh.mono ?_; rintro e w1 ⟨rfl, hb⟩)
    clear hwh
    have HB : Hid (Below w.heap.size w w1) := hb
    have hz1 : w.heap.size ≤ w1.heap.size := hb.size
    clear hb
    go_loopw [4] (fun v wr => ∃ (pos : Nat) (pre : List Nat), v = .int .i64 (pre.length : Nat) ∧ wr.heap[w1.heap.size]? = some (.stringIter s pos) ∧ Hid (Below w1.heap.size w1 wr) ∧ pos ≤ s.size ∧ pre.length ≤ pos ∧ Hid (rn s.data.toList = pre ++ rn (s.data.toList.drop pos)) ∧ Hid (∀ r ∈ pre, goodR r = true)) (fun _ wr => s.size - wr.iterPos w1.heap.size)
    case atStart =>
      refine ⟨0, [], rfl, World.iter_heap w1 s 0, ((Below.refl _ w1).alloc (Nat.le_refl _) _), by omega, by simp, rfl, ?_⟩
      intro r hr; cases hr
    case round =>
      obtain ⟨pos, pre, rfl, hit, HBr, hp0, hpl, HR, HG⟩ := hrel
      have hsz : w1.heap.size < wr.heap.size := (Array.getElem?_eq_some_iff.1 hit).1
      have HW : Hid (Below w.heap.size w wr) := HB.out.trans (HBr.out.mono hz1)
      by_cases hp : pos < s.size
      · have hnx : ∀ ty, (Instr.next (.pointer (some ⟨w1.heap.size, 0, none⟩)) true ty).run Tryd.prog wr = _ := fun ty => Lib.run_next_any_at wr w1.heap.size s pos ty hit hp
        have hd := dec_le s pos hp
        have hra := rn_at s pos hp
        have hit2 := Lib.iterAt_heap wr w1.heap.size s pos (pos + (Utf8.decode s pos).2) hit
        have hb2 := Lib.below_iterAt HBr.out (k := w1.heap.size) (Nat.le_refl _) s (pos + (Utf8.decode s pos).2)
        obtain ⟨r, hr⟩ : ∃ r, (Utf8.decode s pos).1 = r := ⟨_, rfl⟩
        obtain ⟨k, hk⟩ : ∃ k, (Utf8.decode s pos).2 = k := ⟨_, rfl⟩
        obtain ⟨wn, hwn⟩ : ∃ wn, wr.iterAt w1.heap.size s (pos + k) = wn := ⟨_, rfl⟩
        simp only [hr, hk, hwn] at hnx hd hra hit2 hb2
        have HB2 : Hid (Below w1.heap.size w1 wn) := hb2
        have HRA : Hid (rn (s.data.toList.drop pos) = r :: rn (s.data.toList.drop (pos + k))) := hra
        have hpos : wr.iterPos w1.heap.size = pos := by simp only [World.iterPos, hit]
        have hpos2 : wn.iterPos w1.heap.size = pos + k := by simp only [World.iterPos, hit2]
        have HM : Hid (wr.iterPos w1.heap.size = pos ∧ wn.iterPos w1.heap.size = pos + k) := ⟨hpos, hpos2⟩
        clear hra hb2 hwn hr hk hpos hpos2
        have hz2 : w1.heap.size ≤ wn.heap.size := HB2.out.size
        have nb : goodR r = false → okN s.data.toList = false := fun hg => Bool.eq_false_iff.2 fun h => by
          have := (okN_split h).2.2.2.2.1 r (by rw [HR.out, HRA.out]; simp)
          rw [hg] at this; cases this
        have HNB : Hid (goodR r = false → okN s.data.toList = false) := nb
        clear nb
        by_cases c1 : (r : Int) < 32
        · go_wp2
          go_ret2
          exact ⟨HBAD.out (HNB.out (by unfold goodR; simp; omega)), HB.out.trans (HB2.out.mono hz1)⟩
        by_cases c2 : (r : Int) = 127
        · have c2' : ((r : Int) == 127) = true := by simp [c2]
          go_wp2
          go_ret2
          exact ⟨HBAD.out (HNB.out (by unfold goodR; simp; omega)), HB.out.trans (HB2.out.mono hz1)⟩
        by_cases c3 : (r : Int) = 47
        · go_wp2
          go_ret2
          exact ⟨HBAD.out (HNB.out (by unfold goodR; simp; omega)), HB.out.trans (HB2.out.mono hz1)⟩
        have c2' : ((r : Int) == 127) = false := by simp [c2]
        have c3' : ((r : Int) == 47) = false := by simp [c3]
        go_wp2
        go_roundw
        case rel =>
          refine ⟨pos + k, pre ++ [r], by simp, hit2, HB2.out, hd.2, by simp; omega, ?_, ?_⟩
          · have : rn s.data.toList = (pre ++ [r]) ++ rn (s.data.toList.drop (pos + k)) := by rw [HR.out, HRA.out]; simp
            exact this
          · intro x hx
            rcases List.mem_append.1 hx with hx | hx
            · exact HG.out x hx
            · simp at hx; subst hx; unfold goodR; simp; omega
        case measure => rw [HM.out.1, HM.out.2]; omega
      · have hnx : ∀ ty, (Instr.next (.pointer (some ⟨w1.heap.size, 0, none⟩)) true ty).run Tryd.prog wr = _ := fun ty => Lib.run_next_end_at wr w1.heap.size s pos ty hit hp
        have HE : Hid (rn s.data.toList = pre) := by rw [HR.out, rn_end s pos hp, List.append_nil]; rfl
        clear HR
        by_cases z0 : pre.length = 0
        · have z0' : ((pre.length : Int) == 0) = true := by simp [z0]
          go_wp2
          go_ret2
          exact ⟨HBAD.out (Bool.eq_false_iff.2 fun h => by have := (okN_split h).2.2.2.2.2.1; rw [HE.out] at this; omega), HW.out⟩
        have z0' : ((pre.length : Int) == 0) = false := beq_eq_false_iff_ne.2 (by omega)
        by_cases z64 : (64 : Int) < (pre.length : Nat)
        · go_wp2
          go_ret2
          exact ⟨HBAD.out (Bool.eq_false_iff.2 fun h => by have := (okN_split h).2.2.2.2.2.2; rw [HE.out] at this; omega), HW.out⟩
        go_wp2
        go_ret2
        have hq2 := HQ.out.symm
        rw [Bool.and_eq_true, decide_eq_true_eq] at hq2
        have hok : okN s.data.toList = true := okN_mk hq2.1 hq2.2 HNE.out.1 HNE.out.2 (by rw [HE.out]; exact HG.out) (by rw [HE.out]; omega) (by rw [HE.out]; omega)
        refine ⟨?_, HW.out⟩
        simp [rnN, rnE, hok, HE.out]
set_option maxRecDepth 100000 in
theorem check_any (s : ByteArray) (w : World) (hs : s.size ≤ 9223372036854775807) (hT : U8 w) :
    Calls Tryd.prog 61 #[.string s] w fun e w' => e = .returned (.int .i64 (rnE s.data.toList)) ∧ Below w.heap.size w w' := by
  go_enter Tryd.func61, Tryd.ntmps61
  go_wp2_with (go_at_call 70; refine (runes_any s w hs hT).mono ?_; rintro e w1 ⟨rfl, hb⟩)
  go_ret
  exact ⟨rfl, hb⟩
end Go.Proofs.YtjnijcmalnckcaaDoor
