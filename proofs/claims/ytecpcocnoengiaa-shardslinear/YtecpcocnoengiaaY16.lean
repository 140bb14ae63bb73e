import Derived.Test.YtecpcocnoengiaaY11
import Derived.Test.YtecpcocnoengiaaY5
import Derived.Test.YtecpcocnoengiaaY12
import Derived.Test.YtecpcocnoengiaaY3
import Derived.Test.YtecpcocnoengiaaY4
import Derived.Test.YtecpcocnoengiaaRows
import Derived.ProofKit
/- The law's awake: a text cut, one shard missing. -/
namespace Go.Proofs.Ytecpcocnoengiaa
open Go.RowKit
set_option linter.unusedSimpArgs false
set_option linter.unusedVariables false
def aw0 : ByteArray := ⟨#[97, 98, 99]⟩
def aw1 : ByteArray := ⟨#[100, 101, 0]⟩
def awP : ByteArray := mkT (fl 3 (mxF (mkT [caV 0 0, caV 0 1]) [aw0, aw1] 2))
theorem aw_cut : cuX ⟨#[97, 98, 99, 100, 101]⟩ 2 = [aw0, aw1] := by decide +kernel
theorem aw_enc : enX [aw0, aw1] 1 = [awP] := by decide +kernel
theorem aw_reb : rbX [⟨#[]⟩, aw1, awP] [false, true, true] 2 = [aw0, aw1, awP] ∧ rbE [⟨#[]⟩, aw1, awP] [false, true, true] 2 = 0 := by decide +kernel
theorem aw_ts {w : World} {g : Nat} {T : TypeId} (h : Bk w g #[.bool false, .bool true, .bool true] T) : BoL w (some ⟨g, 0, none⟩) [false, true, true] := by
  intro i x hx
  refine ⟨_, 0, rfl, h.lt, ?_⟩
  rw [Nat.zero_add, h.cell]
  have hi : i < 3 := (List.getElem?_eq_some_iff.1 hx).1
  match i, hi, hx with
  | 0, _, hx => simp at hx; subst hx; rfl
  | 1, _, hx => simp at hx; subst hx; rfl
  | 2, _, hx => simp at hx; subst hx; rfl
set_option maxHeartbeats 2000000 in
set_option maxRecDepth 100000 in
theorem awake_any (w : World) : Calls Try.prog 5 #[] w fun e w' => e = .returned (.bool true) ∧ Below w.heap.size w w' := by
  have c1 := fun W => cut_any ⟨#[97, 98, 99, 100, 101]⟩ 2 W (by decide) (by decide) (by decide)
  rw [aw_cut, show cuE 2 = 0 from rfl] at c1
  have c2 := fun a W h => encode_any a 2 2 [aw0, aw1] 1 W h rfl (by omega) (fun x hx => by
    have : x = aw0 ∨ x = aw1 := by simpa using hx
    rcases this with h | h <;> rw [h] <;> decide) (by omega) (by omega)
  rw [aw_enc, show enE [aw0, aw1] 1 = 0 from by decide +kernel] at c2
  have c4 := fun a b W hx hb => rebuild_any a b 3 3 3 3 2 [⟨#[]⟩, aw1, awP] [false, true, true] W hx hb rfl rfl (by omega) (by omega) (fun x hx => by
    have : x = ⟨#[]⟩ ∨ x = aw1 ∨ x = awP := by simpa using hx
    rcases this with h | h | h <;> rw [h] <;> decide +kernel) (by omega) (by omega)
  rw [aw_reb.1, aw_reb.2] at c4
  have c5 := fun a b W hx hy => rsame_any a b 2 2 [aw0, aw1] [aw0, aw1] W hx hy (by decide) (by decide)
  rw [decide_eq_true rfl] at c5
  have HW0 : Hid (aw0 = ⟨#[97, 98, 99]⟩) := rfl
  have HW1 : Hid (aw1 = ⟨#[100, 101, 0]⟩) := rfl
  generalize awP = pp at c2 c4
  have C1 : Hid _ := c1
  have C2 : Hid _ := c2
  have C4 : Hid _ := c4
  have C5 : Hid _ := c5
  clear c1 c2 c4 c5
  go_enter Try.func5, Try.ntmps5
  go_wp2_with fail
  refine Calls.mono (C1.out _) ?_
  rintro e w1 ⟨a1, rfl, hM, hb⟩
  have T1 : Hid (TxL w1 a1 [aw0, aw1]) := hM.txl
  have B1 : Hid (Below w.heap.size w w1) := hb
  clear hM hb
  go_wp2_with fail
  refine Calls.mono (C2.out _ _ T1.out) ?_
  rintro e w2 ⟨a2, rfl, hM, hb⟩
  have T2 : Hid (TxL w2 a1 [aw0, aw1]) := T1.out.below hb
  have P2 : Hid (TxL w2 a2 [pp]) := hM.txl
  have B2 : Hid (Below w.heap.size w w2) := B1.out.trans (hb.mono B1.out.size)
  clear hM hb T1 B1
  have T3 : Hid (TxL (w2.alloc (.cells #[.string ⟨#[97, 98, 99]⟩, .string ⟨#[100, 101, 0]⟩] 9)) a1 [aw0, aw1]) := T2.out.alloc _
  have T3' : Hid (TxL (w2.alloc (.cells #[.string ⟨#[97, 98, 99]⟩, .string ⟨#[100, 101, 0]⟩] 9)) (some ⟨w2.heap.size, 0, none⟩) [aw0, aw1]) := by
    have h := bk_new w2 (txc [aw0, aw1]) 9
    exact h.txl
  have B3 : Hid (Below w.heap.size w (w2.alloc (.cells #[.string ⟨#[97, 98, 99]⟩, .string ⟨#[100, 101, 0]⟩] 9))) := B2.out.alloc B2.out.size _
  have P3 : Hid (TxL (w2.alloc (.cells #[.string ⟨#[97, 98, 99]⟩, .string ⟨#[100, 101, 0]⟩] 9)) a2 [pp]) := P2.out.alloc _
  go_wp2_with fail
  refine Calls.mono (C5.out _ _ _ T3.out T3'.out) ?_
  rintro e w3 ⟨rfl, hb⟩
  have T4 : Hid (TxL w3 a1 [aw0, aw1]) := T3.out.below hb
  have P4 : Hid (TxL w3 a2 [pp]) := P3.out.below hb
  have B4 : Hid (Below w.heap.size w w3) := B3.out.trans (hb.mono B3.out.size)
  clear hb T2 P2 B2 T3 T3' B3 P3
  obtain ⟨g1, o1, rfl, hg1, hc1⟩ := T4.out 1 aw1 rfl
  obtain ⟨g2, o2, rfl, hg2, hc2⟩ := P4.out 0 pp rfl
  rw [Nat.add_zero] at hc2
  have TA : Hid (TxL ((w3.drew.alloc (.cells #[.string ⟨#[]⟩, .string aw1, .string pp] 9)).alloc (.cells #[.bool false, .bool true, .bool true] 4)) (some ⟨w3.heap.size, 0, none⟩) [⟨#[]⟩, aw1, pp]) := by
    have h := bk_new w3.drew (txc [⟨#[]⟩, aw1, pp]) 9
    exact h.txl.alloc _
  have BA : Hid (BoL ((w3.drew.alloc (.cells #[.string ⟨#[]⟩, .string aw1, .string pp] 9)).alloc (.cells #[.bool false, .bool true, .bool true] 4)) (some ⟨w3.heap.size + 1, 0, none⟩) [false, true, true]) := by
    have h := bk_new (w3.drew.alloc (.cells #[.string ⟨#[]⟩, .string aw1, .string pp] 9)) #[.bool false, .bool true, .bool true] 4
    rw [al_size] at h
    exact aw_ts h
  have LA : Hid (Below w3.heap.size w3 ((w3.drew.alloc (.cells #[.string ⟨#[]⟩, .string aw1, .string pp] 9)).alloc (.cells #[.bool false, .bool true, .bool true] 4))) := ((Below.refl _ _).drew.alloc (by simp) _).alloc (by simp) _
  have TB : Hid (TxL ((w3.drew.alloc (.cells #[.bool false, .bool true, .bool true] 4)).alloc (.cells #[.string ⟨#[]⟩, .string aw1, .string pp] 9)) (some ⟨w3.heap.size + 1, 0, none⟩) [⟨#[]⟩, aw1, pp]) := by
    have h := bk_new (w3.drew.alloc (.cells #[.bool false, .bool true, .bool true] 4)) (txc [⟨#[]⟩, aw1, pp]) 9
    rw [al_size] at h
    exact h.txl
  have BB : Hid (BoL ((w3.drew.alloc (.cells #[.bool false, .bool true, .bool true] 4)).alloc (.cells #[.string ⟨#[]⟩, .string aw1, .string pp] 9)) (some ⟨w3.heap.size, 0, none⟩) [false, true, true]) := by
    have h := (bk_new w3.drew #[.bool false, .bool true, .bool true] 4).alloc (.cells #[.string ⟨#[]⟩, .string aw1, .string pp] 9)
    exact aw_ts h
  have LB : Hid (Below w3.heap.size w3 ((w3.drew.alloc (.cells #[.bool false, .bool true, .bool true] 4)).alloc (.cells #[.string ⟨#[]⟩, .string aw1, .string pp] 9))) := ((Below.refl _ _).drew.alloc (by simp) _).alloc (by simp) _
  go_wp2_with fail
  go_region_with (go_at_call 9; first
    | (refine Calls.mono (C4.out _ _ _ TA.out BA.out) ?_; rintro e w5 ⟨a5, rfl, hM5, hb5⟩
       have B5 : Hid (Below w3.heap.size w3 w5) := LA.out.trans (hb5.mono LA.out.size)
       have T5 : Hid (TxL w5 a5 [aw0, aw1, pp]) := hM5.txl
       clear hM5 hb5)
    | (refine Calls.mono (C4.out _ _ _ TB.out BB.out) ?_; rintro e w5 ⟨a5, rfl, hM5, hb5⟩
       have B5 : Hid (Below w3.heap.size w3 w5) := LB.out.trans (hb5.mono LB.out.size)
       have T5 : Hid (TxL w5 a5 [aw0, aw1, pp]) := hM5.txl
       clear hM5 hb5))
  all_goals
    obtain ⟨g5, o5, rfl, hg5, hd0⟩ := T5.out 0 ⟨#[97, 98, 99]⟩ rfl
    rw [Nat.add_zero] at hd0
    have hd1 := T5.out.cel (i := 1) (x := aw1) rfl
    have hd2 := T5.out.cel (i := 2) (x := pp) rfl
    have he1 := (T4.out.below B5.out).cel (i := 1) (x := aw1) rfl
    have he2 := (P4.out.below B5.out).cel (i := 0) (x := pp) rfl
    rw [Nat.add_zero] at he2
    have BF : Hid (Below w.heap.size w w5) := B4.out.trans (B5.out.mono B4.out.size)
    clear T5 B5 hc1 hc2
    generalize aw1 = q1 at *
    go_wp2
    go_quiet (fail)
    go_wp2
    go_ret
    exact ⟨by simp, below_drewN BF.out _⟩
end Go.Proofs.Ytecpcocnoengiaa
/- Numbers that come in to a law: their ranges. -/
namespace Go.Proofs.Ytecpcocnoengiaa
open Go.RowKit
set_option linter.unusedSimpArgs false
set_option linter.unusedVariables false
theorem u8_val (a : Int) (h : (Lit.int .u8 a).wf = true) : ∃ x : UInt8, a = (x.toNat : Int) := by
  have h' : 0 ≤ a ∧ a ≤ 255 := by
    have h3 : (decide (IntKind.u8.min ≤ a) && decide (a ≤ IntKind.u8.max)) = true := h
    have e1 : IntKind.u8.min = 0 := by decide
    have e2 : IntKind.u8.max = 255 := by decide
    rw [e1, e2] at h3
    simpa using h3
  refine ⟨UInt8.ofNat a.toNat, ?_⟩
  simp
  omega
theorem i64_val (a : Int) (h : (Lit.int .i64 a).wf = true) : -9223372036854775808 ≤ a ∧ a ≤ 9223372036854775807 := by
  have h3 : (decide (IntKind.i64.min ≤ a) && decide (a ≤ IntKind.i64.max)) = true := h
  have e1 : IntKind.i64.min = -9223372036854775808 := by decide
  have e2 : IntKind.i64.max = 9223372036854775807 := by decide
  rw [e1, e2] at h3
  simpa using h3
end Go.Proofs.Ytecpcocnoengiaa
