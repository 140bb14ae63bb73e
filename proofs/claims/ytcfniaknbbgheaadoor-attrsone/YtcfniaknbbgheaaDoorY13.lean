import Derived.Test.YtcfniaknbbgheaaDoorY12
import Derived.Laws.AppendOwn
import Derived.WalkMore
import Derived.Deep.AppendLies
import Derived.Deep.DeepAppendRoom
import Derived.Deep.LoopGhost
/- The document's Rune, runes, Check, Runes. -/
namespace Go.Proofs.YtcfniaknbbgheaaDoor
open Go.RowKit
set_option linter.unusedSimpArgs false
set_option linter.unusedVariables false
/-- Runes as cells. -/
def rclN (rs : List Nat) : List Value := rs.map fun r : Nat => Value.int .i32 (r : Int)
theorem rcl_app (a b : List Nat) : rclN (a ++ b) = rclN a ++ rclN b := by simp [rclN]
theorem inf_i32 : (Tryd.prog.info? 21).map (fun i => (i.zero, i.size, i.bytes)) = some (some (.int .i32 0), 1, 4) := by kernel_rfl
theorem new_one (w : World) (a : Value) (T : TypeId) : ∀ (j : Nat) (u : Value), [a][j]? = some u → (w.alloc (.cells #[a] T)).cell? ((⟨w.heap.size, 0, none⟩ : Addr).add j) = some u := by
  intro j u h
  rw [WideShapes.add_plain, Nat.zero_add, World.cell?_alloc_new]
  simpa using h
theorem one_oneN (a : Int) : ∀ u ∈ [Value.int .i32 a], u.oneCell' = true := by
  intro u hu
  simp at hu
  subst hu; rfl
theorem apn_below {B n : Nat} {w wr w1 : World} {o : Obj} {v : Value} {xs : List Value} {e : TypeId} (hb : Below B w wr) (hz : B ≤ wr.heap.size) (ho : wr.ownsRow B e 1 v n xs) (hg : (wr.alloc o).grownBy w1 v.ownBlock) : Below B w w1 := by
  refine (hb.alloc hz o).grown hg (by simp; omega) (fun k hk => ?_)
  rcases ho.2 with ⟨rfl, _⟩ | ⟨g, cap, cur, rfl, hle, _⟩
  · cases hk
  · simp [Value.ownBlock] at hk; omega
theorem grn_below {w w' : World} (h : Below w.heap.size w w') (r : Option Nat) : w.grownBy w' r := ⟨h.os, h.tape, h.output, h.size, fun i hi _ => h.block i hi⟩
def sLn : Value → Nat
  | .string s => s.size
  | _ => 0
/-- The rune at the front of a text, and its width; nothing: no whole one stands there. -/
def rrN (s : ByteArray) : Nat × Nat := if s.size = 0 ∨ ((Utf8.decode s 0).1 = 65533 ∧ (Utf8.decode s 0).2 = 1) then (0, 0) else Utf8.decode s 0
set_option maxRecDepth 100000 in
theorem rune_any (s : ByteArray) (w : World) (hT : U8 w) :
    Calls Tryd.prog 65 #[.string s] w fun e w' => e = .returned (.tuple #[.int .i32 (rrN s).1, .int .i64 (rrN s).2]) ∧ Below w.heap.size w w' := by
  have hd := decode_any s w hT
  obtain ⟨r, hr⟩ : ∃ r, (Lib.decodeGo s).1 = r := ⟨_, rfl⟩
  obtain ⟨k, hk⟩ : ∃ k, (Lib.decodeGo s).2 = k := ⟨_, rfl⟩
  rw [hr, hk] at hd
  have hrr : rrN s = if r = 65533 ∧ k ≤ 1 then (0, 0) else (r, k) := by
    rw [← hr, ← hk]
    unfold rrN Lib.decodeGo
    by_cases h0 : s.size = 0
    · rw [if_pos (.inl h0), if_pos h0]; rfl
    · rw [if_neg h0]
      have hw := Lib.width_pos s 0
      by_cases h1 : (Utf8.decode s 0).1 = 65533 ∧ (Utf8.decode s 0).2 = 1
      · rw [if_pos (.inr h1), if_pos ⟨h1.1, by omega⟩]
      · rw [if_neg (by rintro (h | h) <;> contradiction), if_neg (fun h => h1 ⟨h.1, by omega⟩)]
  rw [hrr]
  clear hrr hr hk hT
  by_cases h1 : r = 65533
  · have h1' : ((r : Int) == 65533) = true := by simp [h1]
    by_cases h2 : k ≤ 1
    · have h2' : (k : Int) ≤ 1 := by omega
      rw [if_pos ⟨h1, h2⟩]
      clear h1 h2
      go_enter Tryd.func65, Tryd.ntmps65
      go_wp2_with (go_at_call 70; refine hd.mono ?_; rintro e w1 ⟨rfl, hb⟩; have HB : Hid (Below w.heap.size w w1) := hb; clear hb)
      go_ret2
      exact ⟨rfl, HB.out⟩
    · have h2' : ¬ (k : Int) ≤ 1 := by omega
      rw [if_neg (fun h => h2 h.2)]
      clear h1 h2
      go_enter Tryd.func65, Tryd.ntmps65
      go_wp2_with (go_at_call 70; refine hd.mono ?_; rintro e w1 ⟨rfl, hb⟩; have HB : Hid (Below w.heap.size w w1) := hb; clear hb)
      go_ret2
      exact ⟨rfl, HB.out⟩
  · have h1' : ((r : Int) == 65533) = false := by simp; omega
    rw [if_neg (fun h => h1 h.1)]
    clear h1
    go_enter Tryd.func65, Tryd.ntmps65
    go_wp2_with (go_at_call 70; refine hd.mono ?_; rintro e w1 ⟨rfl, hb⟩; have HB : Hid (Below w.heap.size w w1) := hb; clear hb)
    go_ret2
    exact ⟨rfl, HB.out⟩
theorem rr_step (s : ByteArray) (h : 0 < s.size) : (rrN s).2 = 0 ∧ Lib.validD s.data.toList = false ∨ (rrN s = Utf8.decode s 0 ∧ 1 ≤ (rrN s).2 ∧ (rrN s).2 ≤ s.size ∧ Lib.validD s.data.toList = Lib.validD (s.extract (rrN s).2 s.size).data.toList ∧ rn s.data.toList = (rrN s).1 :: rn (s.extract (rrN s).2 s.size).data.toList) := by
  have hne : s.data.toList ≠ [] := by
    intro e
    have := congrArg List.length e
    rw [data_len, List.length_nil] at this
    omega
  have hd : Lib.decodeL s.data.toList = Utf8.decode s 0 := by
    have := Lib.decodeL_drop s 0
    rwa [List.drop_zero] at this
  have hv := Lib.validD_step s.data.toList hne
  rw [hd] at hv
  unfold rrN
  by_cases h1 : (Utf8.decode s 0).1 = 65533 ∧ (Utf8.decode s 0).2 = 1
  · rw [if_pos (.inr h1)]
    rw [if_pos h1] at hv
    exact .inl ⟨rfl, hv⟩
  · rw [if_neg (fun h => h.elim (fun e => by omega) h1)]
    rw [if_neg h1] at hv
    have hf := fw_le s h
    unfold fw at hf
    refine .inr ⟨rfl, hf.1, hf.2, ?_, ?_⟩
    · rw [hv, Lib.extract_to_end]
    · exact rn_behind s h
/-- What runes answers: a row of the runes. -/
def rnsV (w : World) (s : ByteArray) (v : Value) (w' : World) : Prop := if Lib.validD s.data.toList then w'.ownsRow w.heap.size 21 1 v (rn s.data.toList).length (rclN (rn s.data.toList)) else v = .slice none 0 0
set_option maxHeartbeats 1000000 in
set_option maxRecDepth 100000 in
theorem rrunes_any (s : ByteArray) (w : World) (hs : s.size ≤ 4398046511104) (hT : U8 w) :
    Calls Tryd.prog 57 #[.string s] w fun e w' => ∃ v, e = .returned (.tuple #[v, .bool (Lib.validD s.data.toList)]) ∧ rnsV w s v w' ∧ Below w.heap.size w w' := by
  have HT : Hid (U8 w) := hT
  clear hT
  obtain ⟨i0, hi, hz0, hz1, hzb⟩ := info_parts inf_i32
  go_enter Tryd.func57, Tryd.ntmps57
  go_wp2
  go_loopw [0, 4] (fun v0 v4 wr => ∃ (t : ByteArray) (pre : List Nat), v0 = .string t ∧ wr.ownsRow w.heap.size 21 1 v4 pre.length (rclN pre) ∧ Hid (Below w.heap.size w wr) ∧ t.size + pre.length ≤ s.size ∧ Hid (Lib.validD s.data.toList = Lib.validD t.data.toList ∧ rn s.data.toList = pre ++ rn t.data.toList)) (fun v0 _ _ => sLn v0)
  case atStart => exact ⟨s, [], rfl, World.ownsRow_nil _ _ _ _, Below.refl _ _, by simp, ⟨rfl, rfl⟩⟩
  case round =>
    obtain ⟨t, pre, rfl, hown, HB, hts, HR⟩ := hrel
    have HO : Hid (wr.ownsRow w.heap.size 21 1 u4 pre.length (rclN pre)) := hown
    have hz : w.heap.size ≤ wr.heap.size := HB.out.size
    clear hown
    by_cases h0 : 0 < t.size
    · have h0z : (0 : Int) < (t.size : Nat) := by omega
      have hru := rune_any t wr (HT.out.below HB.out)
      have hst := rr_step t h0
      obtain ⟨r, hr⟩ : ∃ r, (rrN t).1 = r := ⟨_, rfl⟩
      obtain ⟨k, hk⟩ : ∃ k, (rrN t).2 = k := ⟨_, rfl⟩
      rw [hr, hk] at hru
      rw [hr, hk] at hst
      clear hr hk
      rcases hst with ⟨k0, hbad⟩ | ⟨_, hk1, hk2, hv, hrn⟩
      · subst k0
        go_wp2_with (go_at_call 65; refine hru.mono ?_; rintro e w1 ⟨rfl, hb⟩; have HB1 : Hid (Below wr.heap.size wr w1) := hb; clear hb)
        go_ret2
        have e : Lib.validD s.data.toList = false := by rw [HR.out.1]; exact hbad
        refine ⟨.slice none 0 0, by rw [e]; rfl, by unfold rnsV; rw [e]; rfl, HB.out.trans (HB1.out.mono hz)⟩
      · have k0 : ((k : Int) == 0) = false := by simp; omega
        have kz : (k : Int) ≤ (t.size : Nat) := by omega
        obtain ⟨t2, ht2⟩ : ∃ t2, t2 = t.extract k t.size := ⟨_, rfl⟩
        have hz2 : t2.size + k = t.size := by rw [ht2, ByteArray.size_extract]; omega
        rw [← ht2] at hv hrn
        have HT2 : Hid (t2 = t.extract k t.size) := ht2
        have HV : Hid (Lib.validD s.data.toList = Lib.validD t2.data.toList ∧ rn s.data.toList = (pre ++ [r]) ++ rn t2.data.toList) := ⟨by rw [HR.out.1, hv], by rw [HR.out.2, hrn]; simp⟩
        clear ht2 hv hrn HR
        go_wp2_with (first
          | (go_at_call 65; refine hru.mono ?_; rintro e w1 ⟨rfl, hb⟩; have HB1 : Hid (Below wr.heap.size wr w1) := hb; clear hb
             have HO1 : Hid (w1.ownsRow w.heap.size 21 1 u4 pre.length (rclN pre)) := HO.out.kept (grn_below HB1.out none) (by cases u4.ownBlock <;> simp)
             have HBW : Hid (Below w.heap.size w w1) := HB.out.trans (HB1.out.mono hz)
             have hzw1 : w.heap.size ≤ w1.heap.size := HBW.out.size)
          | (at_builtin; refine wpList_append_own _ rfl _ _ 110 rfl w.heap.size 21 i0 (.int .i32 0) 1 4 Tryd.underlying110 hi hz0 hz1 hzb rfl (by decide) _ _ _ rfl (HO1.out.alloc _) ⟨w1.heap.size, 0, none⟩ 1 1 [.int .i32 r] rfl rfl (new_one _ _ _) (one_oneN _) (by first | omega | (unfold maxLen; omega) | (simp; omega)) (by first | omega | (unfold maxLen; omega) | (simp; omega)) (by first | omega | (unfold maxLen; omega) | (simp; omega)) ?_))
        intro v' w7 hown7 hgrow _
        have HO7 : Hid (w7.ownsRow w.heap.size 21 1 v' (pre ++ [r]).length (rclN (pre ++ [r]))) := by
          show w7.ownsRow w.heap.size 21 1 v' (pre ++ [r]).length (rclN (pre ++ [r]))
          rw [rcl_app, List.length_append]; exact hown7
        have HB7 : Hid (Below w.heap.size w w7) := apn_below HBW.out HBW.out.size HO1.out hgrow
        clear hown7 hgrow HO1 HO
        go_wp2
        go_roundw
        case rel => exact ⟨t2, pre ++ [r], by rw [HT2.out], HO7.out, HB7.out, by simp; omega, HV.out⟩
        case measure => rw [← HT2.out]; simp [sLn]; omega
    · have h0z : ¬ (0 : Int) < (t.size : Nat) := by omega
      have ht : t.data.toList = [] := List.eq_nil_of_length_eq_zero (by rw [data_len]; omega)
      have hv := HR.out
      rw [ht] at hv
      have HV : Hid (Lib.validD s.data.toList = true ∧ rn s.data.toList = pre) := ⟨hv.1, by rw [hv.2]; show pre ++ [] = pre; simp⟩
      clear hv ht HR
      go_wp2
      go_ret2
      refine ⟨u4, by rw [HV.out.1]; rfl, ?_, HB.out⟩
      unfold rnsV
      rw [HV.out.1, if_pos rfl, HV.out.2]
      exact HO.out
theorem own_lie {w : World} {B : Nat} {v : Value} {rs : List Nat} (h : w.ownsRow B 21 1 v rs.length (rclN rs)) : ∃ a c, v = .slice a rs.length c ∧ LieR w a rs ∧ rs.length ≤ c := by
  rcases h.2 with ⟨rfl, h0⟩ | ⟨g, cap, cur, rfl, _, hg, hn, _, hc, ht⟩
  · have : rs = [] := List.eq_nil_of_length_eq_zero h0
    subst this
    exact ⟨none, 0, rfl, fun i c hc => by simp at hc, Nat.le_refl _⟩
  · refine ⟨some ⟨g, 0, none⟩, cap, rfl, fun i c hi => ⟨g, 0, rfl, (Array.getElem?_eq_some_iff.1 hg).1, ?_⟩, hn⟩
    have hl : i < rs.length := (List.getElem?_eq_some_iff.1 hi).1
    have e := congrArg (·[i]?) ht
    rw [Nat.mul_one] at e
    simp only [List.getElem?_take, if_pos hl, rclN, List.getElem?_map, hi, Option.map_some] at e
    simp only [World.cell?, hg, Nat.zero_add]
    rw [← Array.getElem?_toList]; exact e
end Go.Proofs.YtcfniaknbbgheaaDoor
/- The document's Check. -/
namespace Go.Proofs.YtcfniaknbbgheaaDoor
open Go.RowKit
set_option linter.unusedSimpArgs false
set_option linter.unusedVariables false
set_option maxHeartbeats 1000000 in
set_option maxRecDepth 100000 in
theorem rcheck_any (s : ByteArray) (w : World) (hT : U8 w) :
    Calls Tryd.prog 39 #[.string s] w fun e w' => e = .returned (.int .i64 (rnE s.data.toList)) ∧ Below w.heap.size w w' := by
  have HT : Hid (U8 w) := hT
  have HBAD : Hid (okN s.data.toList = false → (Ending.returned (.int .i64 (10 : Int)) : Ending) = .returned (.int .i64 (rnE s.data.toList))) := fun h => by simp [rnE, h]
  clear hT
  by_cases h1 : s.size < 1
  · have h1z : (s.size : Int) < 1 := by omega
    go_enter Tryd.func39, Tryd.ntmps39
    go_wp2
    go_ret
    refine ⟨HBAD.out (Bool.eq_false_iff.2 fun h => ?_), Below.refl _ _⟩
    have h6 := (okN_split h).2.2.2.2.2.1
    have := rn_le s.data.toList
    rw [data_len] at this
    omega
  have h1z : ¬ (s.size : Int) < 1 := by omega
  by_cases h2 : 255 < s.size
  · have h2z : (255 : Int) < (s.size : Nat) := by omega
    go_enter Tryd.func39, Tryd.ntmps39
    go_wp2
    go_ret
    refine ⟨HBAD.out (Bool.eq_false_iff.2 fun h => ?_), Below.refl _ _⟩
    have := (okN_split h).1
    rw [data_len] at this
    omega
  have h2z : ¬ (255 : Int) < (s.size : Nat) := by omega
  obtain ⟨b1, hb1⟩ : ∃ b1, (s.toList == [46]) = b1 := ⟨_, rfl⟩
  obtain ⟨b2, hb2⟩ : ∃ b2, (s.toList == [46, 46]) = b2 := ⟨_, rfl⟩
  have HP : Hid (okN s.data.toList = true → b1 = false ∧ b2 = false) := fun h => by
    obtain ⟨_, _, h3, h4, _⟩ := okN_split h
    refine ⟨?_, ?_⟩
    · rw [← hb1, Lib.toList_data]; simpa using h3
    · rw [← hb2, Lib.toList_data]; simpa using h4
  have HN : Hid (b1 = false → b2 = false → s.data.toList ≠ [46] ∧ s.data.toList ≠ [46, 46]) := fun h1 h2 => by
    rw [h1, Lib.toList_data] at hb1
    rw [h2, Lib.toList_data] at hb2
    exact ⟨by simpa using hb1, by simpa using hb2⟩
  cases b1 with
  | true =>
    go_enter Tryd.func39, Tryd.ntmps39
    go_wp2
    go_ret
    exact ⟨HBAD.out (Bool.eq_false_iff.2 fun h => by have := (HP.out h).1; cases this), Below.refl _ _⟩
  | false =>
  cases b2 with
  | true =>
    go_enter Tryd.func39, Tryd.ntmps39
    go_wp2
    go_ret
    exact ⟨HBAD.out (Bool.eq_false_iff.2 fun h => by have := (HP.out h).2; cases this), Below.refl _ _⟩
  | false =>
  have HNE : Hid (s.data.toList ≠ [46] ∧ s.data.toList ≠ [46, 46]) := HN.out rfl rfl
  clear HN HP
  have hru := rrunes_any s w (by omega) HT.out
  obtain ⟨q, hq⟩ : ∃ q, Lib.validD s.data.toList = q := ⟨_, rfl⟩
  rw [hq] at hru
  have HQ : Hid (Lib.validD s.data.toList = q) := hq
  clear hq
  cases q with
  | false =>
    go_enter Tryd.func39, Tryd.ntmps39
    go_wp2_with (go_at_call 57; refine hru.mono ?_; rintro e w1 ⟨v, rfl, _, hb⟩; have HB : Hid (Below w.heap.size w w1) := hb; clear hb)
    go_ret
    exact ⟨HBAD.out (Bool.eq_false_iff.2 fun h => by have := (okN_split h).2.1; rw [HQ.out] at this; cases this), HB.out⟩
  | true =>
    have hru2 : Calls Tryd.prog 57 #[.string s] w fun e w' => ∃ a c, e = .returned (.tuple #[.slice a (rn s.data.toList).length c, .bool true]) ∧ LieR w' a (rn s.data.toList) ∧ Below w.heap.size w w' := by
      refine hru.mono fun e w' ⟨v, he, hv, hb⟩ => ?_
      unfold rnsV at hv
      rw [HQ.out, if_pos rfl] at hv
      obtain ⟨a, c, rfl, hl, _⟩ := own_lie hv
      exact ⟨a, c, he, hl, hb⟩
    obtain ⟨rs, hrs⟩ : ∃ rs, rn s.data.toList = rs := ⟨_, rfl⟩
    have HRS : Hid (rn s.data.toList = rs) := hrs
    have hrl : rs.length ≤ 255 := by rw [← hrs]; have := rn_le s.data.toList; rw [data_len] at this; omega
    have hr1 : 1 ≤ rs.length := by
      rw [← hrs]
      have := rn_ne s.data.toList (by intro e; have := congrArg List.length e; rw [data_len, List.length_nil] at this; omega)
      exact List.length_pos_iff.2 this
    rw [hrs] at hru2
    clear hru hrs
    by_cases h64 : 64 < rs.length
    · have h64z : (64 : Int) < (rs.length : Nat) := by omega
      go_enter Tryd.func39, Tryd.ntmps39
      go_wp2_with (go_at_call 57; refine hru2.mono ?_; rintro e w1 ⟨a, c, rfl, _, hb⟩; have HB : Hid (Below w.heap.size w w1) := hb; clear hb)
      go_ret
      exact ⟨HBAD.out (Bool.eq_false_iff.2 fun h => by have := (okN_split h).2.2.2.2.2.2; rw [HRS.out] at this; omega), HB.out⟩
    have h64z : ¬ (64 : Int) < (rs.length : Nat) := by omega
    go_enter Tryd.func39, Tryd.ntmps39
    go_wp2_with (go_at_call 57; refine hru2.mono ?_; rintro e w1 ⟨a, c, rfl, hl, hb⟩; have HB : Hid (Below w.heap.size w w1) := hb; have HL : Hid (LieR w1 a rs) := hl; clear hb hl)
    clear hru2
    go_loopw [5] (fun v wr => ∃ k : Nat, v = .int .i64 k ∧ k ≤ rs.length ∧ w1 = wr ∧ Hid (∀ (i : Nat) x, i < k → rs[i]? = some x → goodR x = true)) (fun v _ => rs.length - (intOf v).toNat)
    case atStart => exact ⟨0, rfl, Nat.zero_le _, rfl, fun i x hi => by omega⟩
    case round =>
      obtain ⟨k, rfl, hk, hw, HO⟩ := hrel
      subst hw
      by_cases hlt : k < rs.length
      · obtain ⟨x, hx⟩ : ∃ x, rs[k]? = some x := ⟨rs[k], List.getElem?_eq_getElem hlt⟩
        obtain ⟨b, off, rfl, hb, hc⟩ := HL.out k x hx
        have HX1 : Hid (rs[k]? = some x) := hx
        have NB : Hid (goodR x = false → okN s.data.toList = false) := fun hg => Bool.eq_false_iff.2 fun h => by
          have := (okN_split h).2.2.2.2.1 x (by rw [HRS.out]; exact List.mem_of_getElem? HX1.out)
          rw [hg] at this; cases this
        clear hx
        have hkz : (k : Int) < (rs.length : Nat) := by omega
        by_cases c1 : (x : Int) < 32
        · go_wp2
          go_ret
          exact ⟨HBAD.out (NB.out (by unfold goodR; simp; omega)), HB.out⟩
        by_cases c2 : (x : Int) = 127
        · have c2' : ((x : Int) == 127) = true := by simp [c2]
          go_wp2
          go_ret
          exact ⟨HBAD.out (NB.out (by unfold goodR; simp; omega)), HB.out⟩
        have c2' : ((x : Int) == 127) = false := by simp [c2]
        by_cases c3 : (x : Int) = 47
        · have c3' : ((x : Int) == 47) = true := by simp [c3]
          go_wp2
          go_ret
          exact ⟨HBAD.out (NB.out (by unfold goodR; simp; omega)), HB.out⟩
        have c3' : ((x : Int) == 47) = false := by simp [c3]
        go_wp2
        go_roundw
        case rel =>
          refine ⟨k + 1, by go_num, by omega, by first | rfl | trivial, fun i y hi hy => ?_⟩
          by_cases hik : i < k
          · exact HO.out i y hik hy
          · obtain rfl : i = k := by omega
            have e := HX1.out
            rw [hy] at e
            rw [Option.some.inj e]
            unfold goodR; simp; omega
        case measure => simp [intOf]; omega
      · go_wp2
        go_ret
        refine ⟨?_, HB.out⟩
        have hok : okN s.data.toList = true := okN_mk (by rw [data_len]; omega) HQ.out HNE.out.1 HNE.out.2 (by
          rw [HRS.out]
          intro x hx
          obtain ⟨i, hi, e⟩ := List.getElem_of_mem hx
          exact HO.out i x (by omega) (by rw [List.getElem?_eq_getElem hi, e])) (by rw [HRS.out]; omega) (by rw [HRS.out]; omega)
        simp [rnE, hok]
end Go.Proofs.YtcfniaknbbgheaaDoor
