/- The document's Check. -/
import Derived.Test.YtobecfeelamlmaaDoorN9
namespace Go.Proofs.YtobecfeelamlmaaDoor
open Go.RowKit
set_option linter.unusedSimpArgs false
set_option linter.unusedVariables false
set_option maxHeartbeats 1000000 in
set_option maxRecDepth 100000 in
theorem rcheck_any (s : ByteArray) (w : World) (hT : U8 w) :
    Calls Tryd.prog 24 #[.string s] w fun e w' => e = .returned (.int .i64 (rnE s.data.toList)) ∧ Below w.heap.size w w' := by
  have HT : Hid (U8 w) := hT
  have HBAD : Hid (okN s.data.toList = false → (Ending.returned (.int .i64 (10 : Int)) : Ending) = .returned (.int .i64 (rnE s.data.toList))) := fun h => by simp [rnE, h]
  clear hT
  by_cases h1 : s.size < 1
  · have h1z : (s.size : Int) < 1 := by omega
    go_enter Tryd.func24, Tryd.ntmps24
    go_wp2
    go_ret
    refine ⟨HBAD.out (Bool.eq_false_iff.2 fun h => ?_), Below.refl _ _⟩
    have h6 := (okN_split h).2.2.2.2.2.1
    have := rn_le s.data.toList
    rw [data_len] at this
    omega
  have h1z : ¬ (s.size : Int) < 1 := by omega
  by_cases h2 : 255 < s.size
  · have h2z : (255 : Int) < (s.size : Nat) := by omega
    go_enter Tryd.func24, Tryd.ntmps24
    go_wp2
    go_ret
    refine ⟨HBAD.out (Bool.eq_false_iff.2 fun h => ?_), Below.refl _ _⟩
    have := (okN_split h).1
    rw [data_len] at this
    omega
  have h2z : ¬ (255 : Int) < (s.size : Nat) := by omega
  obtain ⟨b1, hb1⟩ : ∃ b1, (s.toList == [46]) = b1 := ⟨_, rfl⟩
  obtain ⟨b2, hb2⟩ : ∃ b2, (s.toList == [46, 46]) = b2 := ⟨_, rfl⟩
  have HP : Hid (okN s.data.toList = true → b1 = false ∧ b2 = false) := fun h => by
    obtain ⟨_, _, h3, h4, _⟩ := okN_split h
    refine ⟨?_, ?_⟩
    · rw [← hb1, Lib.toList_data]; simpa using h3
    · rw [← hb2, Lib.toList_data]; simpa using h4
  have HN : Hid (b1 = false → b2 = false → s.data.toList ≠ [46] ∧ s.data.toList ≠ [46, 46]) := fun h1 h2 => by
    rw [h1, Lib.toList_data] at hb1
    rw [h2, Lib.toList_data] at hb2
    exact ⟨by simpa using hb1, by simpa using hb2⟩
  cases b1 with
  | true =>
    go_enter Tryd.func24, Tryd.ntmps24
    go_wp2
    go_ret
    exact ⟨HBAD.out (Bool.eq_false_iff.2 fun h => by have := (HP.out h).1; cases this), Below.refl _ _⟩
  | false =>
  cases b2 with
  | true =>
    go_enter Tryd.func24, Tryd.ntmps24
    go_wp2
    go_ret
    exact ⟨HBAD.out (Bool.eq_false_iff.2 fun h => by have := (HP.out h).2; cases this), Below.refl _ _⟩
  | false =>
  have HNE : Hid (s.data.toList ≠ [46] ∧ s.data.toList ≠ [46, 46]) := HN.out rfl rfl
  clear HN HP
  have hru := rrunes_any s w (by omega) HT.out
  obtain ⟨q, hq⟩ : ∃ q, Lib.validD s.data.toList = q := ⟨_, rfl⟩
  rw [hq] at hru
  have HQ : Hid (Lib.validD s.data.toList = q) := hq
  clear hq
  cases q with
  | false =>
    go_enter Tryd.func24, Tryd.ntmps24
    go_wp2_with (go_at_call 23; refine hru.mono ?_; rintro e w1 ⟨v, rfl, _, hb⟩; have HB : Hid (Below w.heap.size w w1) := hb; clear hb)
    go_ret
    exact ⟨HBAD.out (Bool.eq_false_iff.2 fun h => by have := (okN_split h).2.1; rw [HQ.out] at this; cases this), HB.out⟩
  | true =>
    have hru2 : Calls Tryd.prog 23 #[.string s] w fun e w' => ∃ a c, e = .returned (.tuple #[.slice a (rn s.data.toList).length c, .bool true]) ∧ LieR w' a (rn s.data.toList) ∧ Below w.heap.size w w' := by
      refine hru.mono fun e w' ⟨v, he, hv, hb⟩ => ?_
      unfold rnsV at hv
      rw [HQ.out, if_pos rfl] at hv
      obtain ⟨a, c, rfl, hl, _⟩ := own_lie hv
      exact ⟨a, c, he, hl, hb⟩
    obtain ⟨rs, hrs⟩ : ∃ rs, rn s.data.toList = rs := ⟨_, rfl⟩
    have HRS : Hid (rn s.data.toList = rs) := hrs
    have hrl : rs.length ≤ 255 := by rw [← hrs]; have := rn_le s.data.toList; rw [data_len] at this; omega
    have hr1 : 1 ≤ rs.length := by
      rw [← hrs]
      have := rn_ne s.data.toList (by intro e; have := congrArg List.length e; rw [data_len, List.length_nil] at this; omega)
      exact List.length_pos_iff.2 this
    rw [hrs] at hru2
    clear hru hrs
    by_cases h64 : 64 < rs.length
    · have h64z : (64 : Int) < (rs.length : Nat) := by omega
      go_enter Tryd.func24, Tryd.ntmps24
      go_wp2_with (go_at_call 23; refine hru2.mono ?_; rintro e w1 ⟨a, c, rfl, _, hb⟩; have HB : Hid (Below w.heap.size w w1) := hb; clear hb)
      go_ret
      exact ⟨HBAD.out (Bool.eq_false_iff.2 fun h => by have := (okN_split h).2.2.2.2.2.2; rw [HRS.out] at this; omega), HB.out⟩
    have h64z : ¬ (64 : Int) < (rs.length : Nat) := by omega
    go_enter Tryd.func24, Tryd.ntmps24
    go_wp2_with (go_at_call 23; refine hru2.mono ?_; rintro e w1 ⟨a, c, rfl, hl, hb⟩; have HB : Hid (Below w.heap.size w w1) := hb; have HL : Hid (LieR w1 a rs) := hl; clear hb hl)
    clear hru2
    go_loopw [5] (fun v wr => ∃ k : Nat, v = .int .i64 k ∧ k ≤ rs.length ∧ w1 = wr ∧ Hid (∀ (i : Nat) x, i < k → rs[i]? = some x → goodR x = true)) (fun v _ => rs.length - (intOf v).toNat)
    case atStart => exact ⟨0, rfl, Nat.zero_le _, rfl, fun i x hi => by omega⟩
    case round =>
      obtain ⟨k, rfl, hk, hw, HO⟩ := hrel
      subst hw
      by_cases hlt : k < rs.length
      · obtain ⟨x, hx⟩ : ∃ x, rs[k]? = some x := ⟨rs[k], List.getElem?_eq_getElem hlt⟩
        obtain ⟨b, off, rfl, hb, hc⟩ := HL.out k x hx
        have HX1 : Hid (rs[k]? = some x) := hx
        have NB : Hid (goodR x = false → okN s.data.toList = false) := fun hg => Bool.eq_false_iff.2 fun h => by
          have := (okN_split h).2.2.2.2.1 x (by rw [HRS.out]; exact List.mem_of_getElem? HX1.out)
          rw [hg] at this; cases this
        clear hx
        have hkz : (k : Int) < (rs.length : Nat) := by omega
        by_cases c1 : (x : Int) < 32
        · go_wp2
          go_ret
          exact ⟨HBAD.out (NB.out (by unfold goodR; simp; omega)), HB.out⟩
        by_cases c2 : (x : Int) = 127
        · have c2' : ((x : Int) == 127) = true := by simp [c2]
          go_wp2
          go_ret
          exact ⟨HBAD.out (NB.out (by unfold goodR; simp; omega)), HB.out⟩
        have c2' : ((x : Int) == 127) = false := by simp [c2]
        by_cases c3 : (x : Int) = 47
        · have c3' : ((x : Int) == 47) = true := by simp [c3]
          go_wp2
          go_ret
          exact ⟨HBAD.out (NB.out (by unfold goodR; simp; omega)), HB.out⟩
        have c3' : ((x : Int) == 47) = false := by simp [c3]
        go_wp2
        go_roundw
        case rel =>
          refine ⟨k + 1, by go_num, by omega, by first | rfl | trivial, fun i y hi hy => ?_⟩
          by_cases hik : i < k
          · exact HO.out i y hik hy
          · obtain rfl : i = k := by omega
            have e := HX1.out
            rw [hy] at e
            rw [Option.some.inj e]
            unfold goodR; simp; omega
        case measure => simp [intOf]; omega
      · go_wp2
        go_ret
        refine ⟨?_, HB.out⟩
        have hok : okN s.data.toList = true := okN_mk (by rw [data_len]; omega) HQ.out HNE.out.1 HNE.out.2 (by
          rw [HRS.out]
          intro x hx
          obtain ⟨i, hi, e⟩ := List.getElem_of_mem hx
          exact HO.out i x (by omega) (by rw [List.getElem?_eq_getElem hi, e])) (by rw [HRS.out]; omega) (by rw [HRS.out]; omega)
        simp [rnE, hok]
end Go.Proofs.YtobecfeelamlmaaDoor
