/- The walks of the document's Check of a plan, and of the law's in. -/
import Derived.Test.YtdinhnpobdfnoaaU5
namespace Go.Proofs.Ytdinhnpobdfnoaa
open Go.RowKit
set_option linter.unusedSimpArgs false
set_option linter.unusedVariables false
set_option maxHeartbeats 2000000 in
set_option maxRecDepth 100000 in
theorem rcheck_any (b f m : Int) (w : World) : Calls Try.prog 14 #[plV b f m] w fun e w' => e = .returned (.int .i64 (plE b f m)) ∧ Below w.heap.size w w' := by
  by_cases h1 : b < 4
  · rw [plE_no (by simp [plB, wtn]; omega)]
    go_enter Try.func14, Try.ntmps14
    go_wp2
    go_ret
    exact ⟨rfl, (Below.refl _ _).alloc (Nat.le_refl _) _⟩
  by_cases h2 : b > 16
  · rw [plE_no (by simp [plB, wtn]; omega)]
    go_enter Try.func14, Try.ntmps14
    go_wp2
    go_ret
    exact ⟨rfl, (Below.refl _ _).alloc (Nat.le_refl _) _⟩
  by_cases h3 : f < 1
  · rw [plE_no (by simp [plB, wtn]; omega)]
    go_enter Try.func14, Try.ntmps14
    go_wp2
    go_ret
    exact ⟨rfl, (Below.refl _ _).alloc (Nat.le_refl _) _⟩
  by_cases h4 : f > 8
  · rw [plE_no (by simp [plB, wtn]; omega)]
    go_enter Try.func14, Try.ntmps14
    go_wp2
    go_ret
    exact ⟨rfl, (Below.refl _ _).alloc (Nat.le_refl _) _⟩
  by_cases h5 : m < 64
  · rw [plE_no (by simp [plB, wtn]; omega)]
    go_enter Try.func14, Try.ntmps14
    go_wp2
    go_ret
    exact ⟨rfl, (Below.refl _ _).alloc (Nat.le_refl _) _⟩
  by_cases h6 : m > 65536
  · rw [plE_no (by simp [plB, wtn]; omega)]
    go_enter Try.func14, Try.ntmps14
    go_wp2
    go_ret
    exact ⟨rfl, (Below.refl _ _).alloc (Nat.le_refl _) _⟩
  · have e : plE b f m = 0 := by unfold plE; rw [if_pos (by simp [plB, wtn]; omega)]
    rw [e]
    go_enter Try.func14, Try.ntmps14
    go_wp2
    go_ret
    exact ⟨rfl, (Below.refl _ _).alloc (Nat.le_refl _) _⟩
theorem inf_plan : (Try.prog.info? 31).map (·.size) = some 3 := by kernel_rfl
set_option maxHeartbeats 2000000 in
set_option maxRecDepth 100000 in
theorem in_any (b f m : Int) (w : World) : Calls Try.prog 11 #[plV b f m] w fun e w' => e = .returned (plV b f m) ∧ Below w.heap.size w w' := by
  go_enter Try.func11, Try.ntmps11
  go_wp2
  refine bodyPost_ret (v := plV b f m) (by simp [results, Try.results11, go_sem]) rfl ⟨rfl, ?_⟩
  exact ((Below.refl _ _).alloc (Nat.le_refl _) _).alloc (by simp) _
/-- The plan that the law takes. -/
def plT (b f m : Int) : Pl := if plB b f m = true then ⟨b.toNat, f.toNat, m.toNat⟩ else ⟨4, 1, 100⟩
theorem plT_ok (b f m : Int) : (plT b f m).ok := by
  unfold plT
  split
  · rename_i h
    unfold plB wtn at h
    simp only [Bool.and_eq_true, decide_eq_true_eq] at h
    refine ⟨?_, ?_, ?_, ?_, ?_, ?_⟩ <;> simp only <;> omega
  · refine ⟨?_, ?_, ?_, ?_, ?_, ?_⟩ <;> simp only <;> omega
theorem plT_yes {b f m : Int} (h : plB b f m = true) : plV (plT b f m).B (plT b f m).F (plT b f m).M = plV b f m := by
  unfold plT
  rw [if_pos h]
  unfold plB wtn at h
  simp only [Bool.and_eq_true, decide_eq_true_eq] at h
  have e1 : ((b.toNat : Nat) : Int) = b := by omega
  have e2 : ((f.toNat : Nat) : Int) = f := by omega
  have e3 : ((m.toNat : Nat) : Int) = m := by omega
  simp only [e1, e2, e3]
end Go.Proofs.Ytdinhnpobdfnoaa
