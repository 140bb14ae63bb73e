/- names.Match. -/
import Derived.Test.YtobecfeelamlmaaDoorN5
import Derived.Laws.IdiomStrings
namespace Go.Proofs.YtobecfeelamlmaaDoor
open Go.RowKit
set_option linter.unusedSimpArgs false
set_option linter.unusedVariables false
theorem runesFrom_rn (s : ByteArray) : ∀ (b i : Nat) (acc : Array Value), Conv.runesFrom s b i acc = acc ++ ((rnG b (s.data.toList.drop i)).map fun r : Nat => Value.int .i32 (r : Int)).toArray
  | 0, i, acc => by simp [Conv.runesFrom, rnG]
  | b + 1, i, acc => by
    unfold Conv.runesFrom rnG
    by_cases h : i < s.size
    · have hne : s.data.toList.drop i ≠ [] := by
        intro e
        have := congrArg List.length e
        rw [List.length_drop, data_len] at this
        simp at this
        omega
      rw [if_pos h, if_neg hne, Lib.decodeL_drop, List.drop_drop]
      simp only []
      rw [runesFrom_rn s b]
      simp
    · have he : s.data.toList.drop i = [] := List.drop_eq_nil_of_le (by rw [data_len]; omega)
      rw [if_neg h, if_pos he]
      simp
theorem runes_rn (s : ByteArray) : Conv.runesFrom s s.size 0 #[] = ((rn s.data.toList).map fun r : Nat => Value.int .i32 (r : Int)).toArray := by
  rw [runesFrom_rn, List.drop_zero]
  unfold rn
  rw [data_len]
  simp
theorem conv_runes (p : ByteArray) (w2 : World) (hle : p.size ≤ 70368744177664) : ∃ (w3 : World) (cc : Nat), (convert 9 52 (.string p)).run Tryd.prog w2 = .ok (.slice (some ⟨w2.heap.size, 0, none⟩) (rn p.data.toList).length cc) w3 ∧ LieR w3 (some ⟨w2.heap.size, 0, none⟩) (rn p.data.toList) ∧ Below w2.heap.size w2 w3 ∧ (rn p.data.toList).length ≤ cc := by
  have hlr := rn_le p.data.toList
  rw [data_len] at hlr
  obtain ⟨rs, hrs⟩ : ∃ rs, rs = rn p.data.toList := ⟨_, rfl⟩
  have hcv := run_runes_of_string (P := Tryd.prog) w2 9 52 21 p Tryd.underlying9 Tryd.underlying52 Tryd.underlying21 (by rw [runes_rn]; simp; omega)
  have hsz : ((rn p.data.toList).map fun r : Nat => Value.int .i32 (r : Int)).toArray.size = (rn p.data.toList).length := by simp
  rw [runes_rn, hsz] at hcv
  clear hsz
  rw [← hrs] at hcv hlr ⊢
  have hge := grownCap_ge w2 rs.length 0 21
  refine ⟨_, _, hcv, ?_, ((Below.refl _ w2).drew).alloc (Nat.le_refl _) _, by omega⟩
  intro i c hc
  refine ⟨w2.heap.size, 0, rfl, by simp, ?_⟩
  have hi : i < rs.length := (List.getElem?_eq_some_iff.1 hc).1
  rw [Nat.zero_add]
  refine (World.cell?_alloc_new w2.drew _ _ i).trans ?_
  rw [Array.getElem?_append_left (by simpa using hi), List.getElem?_toArray, List.getElem?_map, hc]; rfl
def wholeB (l : List UInt8) : Bool := decide (l.length ≤ 255) && Lib.validD l
/-- Whether the name is like the pattern, and the error. -/
def mtB (p n : List UInt8) : Bool := wholeB p && (okN n && like (rn p) (rn n))
def mtE (p n : List UInt8) : Nat := if wholeB p then rnE n else 4
set_option maxHeartbeats 1000000 in
set_option maxRecDepth 100000 in
theorem match_any (p n : ByteArray) (w : World) (hp : p.size ≤ 9223372036854775807) (hn : n.size ≤ 9223372036854775807) (hT : U8 w) :
    Calls Tryd.prog 7 #[.string p, .string n] w fun e w' => e = .returned (.tuple #[.bool (mtB p.data.toList n.data.toList), .int .i64 (mtE p.data.toList n.data.toList)]) ∧ Below w.heap.size w w' := by
  have HT : Hid (U8 w) := hT
  have hwh := whole_any p w hp hT
  obtain ⟨q, hq⟩ : ∃ q, q = wholeB p.data.toList := ⟨_, rfl⟩
  have e1 : (decide (p.data.toList.length ≤ 255) && Lib.validD p.data.toList) = q := hq.symm
  rw [e1] at hwh
  clear e1 hT
  cases q with
  | false =>
    have r1 : mtB p.data.toList n.data.toList = false := by simp [mtB, ← hq]
    have r2 : mtE p.data.toList n.data.toList = 4 := by simp [mtE, ← hq]
    rw [r1, r2]
    clear hq r1 r2
    go_enter Tryd.func7, Tryd.ntmps7
    go_wp2_with (go_at_call 20; refine hwh.mono ?_; rintro e w1 ⟨rfl, hb⟩; have HB : Hid (Below w.heap.size w w1) := hb; clear hb)
    go_ret2
    exact ⟨rfl, HB.out⟩
  | true =>
    have hle : p.size ≤ 255 := by
      have := hq.symm
      simp only [wholeB, Bool.and_eq_true, decide_eq_true_eq] at this
      rw [← data_len]; exact this.1
    have hck : ∀ w1, Below w.heap.size w w1 → Calls Tryd.prog 21 #[.string n] w1 fun e w' => e = .returned (.int .i64 (rnE n.data.toList)) ∧ Below w1.heap.size w1 w' := fun w1 hb => check_any n w1 hn (HT.out.below hb)
    have r2 : mtE p.data.toList n.data.toList = rnE n.data.toList := by simp [mtE, ← hq]
    have r1 : mtB p.data.toList n.data.toList = (okN n.data.toList && like (rn p.data.toList) (rn n.data.toList)) := by simp [mtB, ← hq]
    rw [r1, r2]
    clear r1 r2 hq
    cases ho : okN n.data.toList with
    | false =>
      have e10 : rnE n.data.toList = 10 := by simp [rnE, ho]
      rw [e10] at hck ⊢
      have HCK : Hid (∀ w1, Below w.heap.size w w1 → Calls Tryd.prog 21 #[.string n] w1 fun e w' => e = .returned (.int .i64 ((10 : Nat) : Int)) ∧ Below w1.heap.size w1 w') := hck
      clear hck ho e10
      go_enter Tryd.func7, Tryd.ntmps7
      go_wp2_with (first
        | (go_at_call 20; refine hwh.mono ?_; rintro e w1 ⟨rfl, hb⟩; have HB : Hid (Below w.heap.size w w1) := hb; clear hb)
        | (go_at_call 21; refine (HCK.out w1 HB.out).mono ?_; rintro e w2 ⟨rfl, hb⟩; have HB2 : Hid (Below w1.heap.size w1 w2) := hb; clear hb))
      go_ret2
      exact ⟨rfl, HB.out.trans (HB2.out.mono HB.out.size)⟩
    | true =>
      have e10 : rnE n.data.toList = 0 := by simp [rnE, ho]
      rw [e10] at hck ⊢
      have HCK : Hid (∀ w1, Below w.heap.size w w1 → Calls Tryd.prog 21 #[.string n] w1 fun e w' => e = .returned (.int .i64 ((0 : Nat) : Int)) ∧ Below w1.heap.size w1 w') := hck
      obtain ⟨ANS, hA⟩ : ∃ ANS, like (rn p.data.toList) (rn n.data.toList) = ANS := ⟨_, rfl⟩
      have HA : Hid (like (rn p.data.toList) (rn n.data.toList) = ANS) := hA
      rw [hA, Bool.true_and]
      clear hck ho e10 hA
      go_enter Tryd.func7, Tryd.ntmps7
      go_wp2_with (first
        | (go_at_call 20; refine hwh.mono ?_; rintro e w1 ⟨rfl, hb⟩; have HB : Hid (Below w.heap.size w w1) := hb; clear hb)
        | (go_at_call 21; refine (HCK.out w1 HB.out).mono ?_; rintro e w2 ⟨rfl, hb⟩; have HB2 : Hid (Below w1.heap.size w1 w2) := hb; clear hb
           obtain ⟨w3, cc, hcv, hL3, hb3, hge⟩ := conv_runes p w2 (by omega)
           have HB3 : Hid (Below w2.heap.size w2 w3) := hb3
           have hlk := isLike_any (some ⟨w2.heap.size, 0, none⟩) cc (rn p.data.toList) n w3 hL3 (by have := rn_le p.data.toList; rw [data_len] at this; omega) hge hn (((HT.out.below HB.out).below HB2.out).below hb3)
           rw [HA.out] at hlk
           clear hb3 hL3)
        | (go_at_call 22; refine hlk.mono ?_; rintro e w4 ⟨rfl, hb⟩; have HB4 : Hid (Below w3.heap.size w3 w4) := hb; clear hb))
      go_ret2
      exact ⟨rfl, HB.out.trans ((HB2.out.trans ((HB3.out.trans (HB4.out.mono HB3.out.size)).mono HB2.out.size)).mono HB.out.size)⟩
end Go.Proofs.YtobecfeelamlmaaDoor
