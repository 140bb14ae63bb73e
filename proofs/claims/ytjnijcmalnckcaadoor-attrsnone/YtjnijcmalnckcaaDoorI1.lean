/- attrs.isNode, isMode, isTick, isTarget. -/
import Derived.Test.YtjnijcmalnckcaaDoorI0
import Derived.Test.YtjnijcmalnckcaaDoorN13L
import Derived.Lib.Bytealg
import Derived.BigQuiet
import Derived.WalkKit
import Derived.BigCall
namespace Go.Proofs.YtjnijcmalnckcaaDoor
open Go.RowKit
set_option linter.unusedSimpArgs false
set_option linter.unusedVariables false
theorem retB {a b : Bool} (h : a = b) : Ending.returned (.bool a) = .returned (.bool b) := by rw [h]
theorem isNode_any (n : Nat) (w : World) : Calls Tryd.prog 38 #[.int .u8 (n : Int)] w fun e w' => e = .returned (.bool (ndB n)) ∧ w' = w := by
  unfold ndB
  by_cases h1 : (1 : Int) ≤ n
  · go_enter Tryd.func38, Tryd.ntmps38
    go_wp2
    go_ret
    exact ⟨retB (decide_eq_decide.2 (by omega)), rfl⟩
  · have h1' : (n : Int) < 1 := by omega
    go_enter Tryd.func38, Tryd.ntmps38
    go_wp2
    go_ret
    exact ⟨by rw [decide_eq_false (by omega)]; rfl, rfl⟩
theorem isMode_any (n : Nat) (w : World) : Calls Tryd.prog 39 #[.int .u32 (n : Int)] w fun e w' => e = .returned (.bool (mdB n)) ∧ w' = w := by
  unfold mdB
  go_enter Tryd.func39, Tryd.ntmps39
  go_wp2
  go_ret
  exact ⟨retB (decide_eq_decide.2 (by omega)), rfl⟩
theorem isTick_any (n : Int) (w : World) : Calls Tryd.prog 41 #[.int .i64 n] w fun e w' => e = .returned (.bool (mtB n)) ∧ w' = w := by
  unfold mtB
  by_cases h1 : 0 ≤ n
  · go_enter Tryd.func41, Tryd.ntmps41
    go_wp2
    go_ret
    exact ⟨retB (decide_eq_decide.2 (by omega)), rfl⟩
  · go_enter Tryd.func41, Tryd.ntmps41
    go_wp2
    go_ret
    exact ⟨by rw [decide_eq_false (by omega)]; rfl, rfl⟩
theorem indexByte_any (s : ByteArray) (w : World) : Calls Tryd.prog 60 #[.string s, .int .u8 0] w fun e w' => e = .returned (.int .i64 (Lib.indexByte s.data.toList 0)) ∧ w' = w := by
  have h : Calls Tryd.prog 69 #[.string s, .int .u8 0] w fun e w' => e = .returned (.int .i64 (Lib.indexByte s.data.toList 0)) ∧ w' = w := by
    go_enter Tryd.func69, Tryd.ntmps69
    go_wp2
    rw [run_callFunc_extern Tryd.func74 (by kernel_rfl) (by kernel_rfl) (by kernel_rfl) (e := Extern.BytealgIndexByte.indexByte) (by kernel_rfl), Lib.run_indexByteString]
    simp only [Result.andThen]
    rw [Oper.upon_value]
    go_wp2
    go_ret
    exact ⟨rfl, rfl⟩
  go_enter Tryd.func60, Tryd.ntmps60
  go_wp2_with fail
  refine h.mono ?_
  rintro e w1 ⟨rfl, rfl⟩
  go_wp2
  go_ret
  exact ⟨rfl, rfl⟩
theorem size_nil (t : ByteArray) : (t.toList == []) = decide (t.size = 0) := by
  rw [Lib.toList_data]
  cases h : t.data.toList with
  | nil => have := data_len t; rw [h] at this; simp at this; simp [← this]
  | cons a r => have := data_len t; rw [h] at this; simp at this; rw [decide_eq_false (by omega)]; rfl
set_option maxHeartbeats 1000000 in
set_option maxRecDepth 100000 in
theorem isTarget_any (n : Nat) (t : ByteArray) (w : World) (ht : t.size ≤ 9223372036854775807) : Calls Tryd.prog 42 #[.int .u8 (n : Int), .string t] w fun e w' => e = .returned (.bool (tgB n t)) ∧ w' = w := by
  have hsz := size_nil t
  obtain ⟨q, hq⟩ : ∃ q, (t.toList == []) = q := ⟨_, rfl⟩
  have hq2 : (t.toList != []) = !q := by simp [bne, hq]
  rw [hq] at hsz
  have hix : Hid (decide (Lib.indexByte t.data.toList 0 < 0) = t.data.toList.all (· != 0)) := ix_nz t.data.toList
  unfold tgB
  by_cases h3 : n = 3
  · have h3z : ((n : Int) != 3) = false := by simp [h3]
    rw [if_pos h3]
    cases q with
    | true =>
      have h0 : decide (t.size ≠ 0) = false := by have := of_decide_eq_true hsz.symm; simp [this]
      rw [h0, Bool.false_and, Bool.false_and]
      clear h0 hix hsz
      go_enter Tryd.func42, Tryd.ntmps42
      go_wp2
      go_ret
      exact ⟨rfl, rfl⟩
    | false =>
      have h0 : decide (t.size ≠ 0) = true := by have := of_decide_eq_false hsz.symm; simp [this]
      rw [h0, Bool.true_and]
      clear h0 hsz
      by_cases hl : (t.size : Int) ≤ 1024
      · have hl1 : decide (t.size ≤ 1024) = true := decide_eq_true (by omega)
        rw [hl1, Bool.true_and]
        clear hl1
        go_enter Tryd.func42, Tryd.ntmps42
        go_wp2_with fail
        refine (indexByte_any t _).mono ?_
        rintro e w1 ⟨rfl, rfl⟩
        go_wp2
        go_ret
        exact ⟨retB hix.out, rfl⟩
      · have hl1 : decide (t.size ≤ 1024) = false := decide_eq_false (by omega)
        rw [hl1, Bool.false_and]
        clear hl1 hix
        go_enter Tryd.func42, Tryd.ntmps42
        go_wp2
        go_ret
        exact ⟨rfl, rfl⟩
  · have h3z : ((n : Int) != 3) = true := by simp; omega
    rw [if_neg h3, ← hsz]
    clear hix hsz
    go_enter Tryd.func42, Tryd.ntmps42
    go_wp2
    go_ret
    exact ⟨rfl, rfl⟩
end Go.Proofs.YtjnijcmalnckcaaDoor
