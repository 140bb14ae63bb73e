/- names.takeShown. -/
import Derived.Test.YtobecfeelamlmaaDoorN22
import Derived.Test.YtobecfeelamlmaaDoorN21
import Derived.Test.YtobecfeelamlmaaDoorP19
import Derived.BigQuiet
import Derived.Laws.Cover4
namespace Go.Proofs.YtobecfeelamlmaaDoor
open Go.RowKit
set_option linter.unusedSimpArgs false
set_option linter.unusedVariables false
/-- What takeShown answers. -/
def TkA (s : ByteArray) (e : Ending) : Prop := ∃ (p b : ByteArray) (ok : Bool), e = .returned (.tuple #[.string p, .string b, .bool ok]) ∧ p.size ≤ 4 ∧ b.size < s.size ∧ Tak s.data.toList p.data.toList b.data.toList ok
theorem below_dn (w : World) (n : Nat) : Below w.heap.size w (w.drewN n) := ⟨rfl, rfl, rfl, Nat.le_refl _, fun _ _ => rfl⟩
set_option maxHeartbeats 1000000 in
set_option maxRecDepth 100000 in
theorem tk_plain (s : ByteArray) (w : World) (h0 : 0 < s.size) (h92 : (s[0]'h0) ≠ 92) :
    Calls Tryd.prog 15 #[.string s] w fun e w' => e = .returned (.tuple #[.string (s.extract 0 1), .string (s.extract 1 s.size), .bool (plR ((s[0]'h0).toNat : Int))]) ∧ Below w.heap.size w w' := by
  have hz : (0 : Int) < (s.size : Nat) := by omega
  have hz1 : (1 : Int) ≤ (s.size : Nat) := by omega
  have hn : (((s[0]'h0).toNat : Int) != 92) = true := by
    have : (s[0]'h0).toNat ≠ 92 := fun e => h92 (UInt8.toNat_inj.1 e)
    simp; omega
  have hw32 : IntKind.i32.wrap ((s[0]'h0).toNat : Int) = ((s[0]'h0).toNat : Int) := by
    have := (s[0]'h0).toNat_lt
    rw [IntKind.wrap_i32]; omega
  go_enter Tryd.func15, Tryd.ntmps15
  go_wp2
  go_quiet (first | (go_at_call 25; refine Calls.quiet_of_same (isPlain_any _ _)))
  all_goals go_wp2
  all_goals go_ret3
  all_goals exact ⟨rfl, below_dn _ _⟩
set_option maxHeartbeats 1000000 in
set_option maxRecDepth 100000 in
theorem tk_bs (s : ByteArray) (w : World) (h0 : 1 < s.size) (h92 : (s[0]'(by omega)) = 92) (hq1 : Lib.hasPrefix s.data.toList [92, 92] = true) :
    Calls Tryd.prog 15 #[.string s] w fun e w' => e = .returned (.tuple #[.string ⟨#[92]⟩, .string (s.extract 2 s.size), .bool true]) ∧ Below w.heap.size w w' := by
  have hz : (0 : Int) < (s.size : Nat) := by omega
  have hz1 : (2 : Int) ≤ (s.size : Nat) := by omega
  have hn : (((s[0]'(by omega)).toNat : Int) != 92) = false := by rw [h92]; rfl
  have h1 := hasPrefix_any s ⟨#[92, 92]⟩
  rw [show (⟨#[92, 92]⟩ : ByteArray).data.toList = [92, 92] from rfl, hq1] at h1
  clear h92 hq1
  go_enter Tryd.func15, Tryd.ntmps15
  go_wp2_with fail
  refine (h1 _).mono ?_
  rintro e w1 ⟨rfl, hw⟩
  subst hw
  go_wp2
  go_region
  all_goals go_wp2
  all_goals go_ret3
  all_goals exact ⟨rfl, (Below.refl _ _).drew⟩
set_option maxHeartbeats 1000000 in
set_option maxRecDepth 100000 in
theorem tk_none (s : ByteArray) (w : World) (h0 : 0 < s.size) (h92 : (s[0]'h0) = 92) (q2 : Bool) (hq1 : Lib.hasPrefix s.data.toList [92, 92] = false) (hq2 : Lib.hasPrefix s.data.toList [92, 120] = q2) (hq3 : Lib.hasPrefix s.data.toList [92, 117] = false) (h4 : q2 = true → s.size < 4) :
    Calls Tryd.prog 15 #[.string s] w fun e w' => e = .returned (.tuple #[.string ⟨#[]⟩, .string ⟨#[]⟩, .bool false]) ∧ Below w.heap.size w w' := by
  have hz : (0 : Int) < (s.size : Nat) := by omega
  have hn : (((s[0]'h0).toNat : Int) != 92) = false := by rw [h92]; rfl
  have h1 := hasPrefix_any s ⟨#[92, 92]⟩
  rw [show (⟨#[92, 92]⟩ : ByteArray).data.toList = [92, 92] from rfl, hq1] at h1
  have h2 := hasPrefix_any s ⟨#[92, 120]⟩
  rw [show (⟨#[92, 120]⟩ : ByteArray).data.toList = [92, 120] from rfl, hq2] at h2
  have h3 := hasPrefix_any s ⟨#[92, 117]⟩
  rw [show (⟨#[92, 117]⟩ : ByteArray).data.toList = [92, 117] from rfl, hq3] at h3
  clear h92 hq1 hq2 hq3
  go_enter Tryd.func15, Tryd.ntmps15
  go_wp2_with fail
  refine (h1 _).mono ?_
  rintro e w1 ⟨rfl, hw⟩
  subst hw
  go_wp2_with fail
  refine (h2 _).mono ?_
  rintro e w1 ⟨rfl, hw⟩
  subst hw
  cases q2 with
  | false =>
    go_wp2_with fail
    refine (h3 _).mono ?_
    rintro e w1 ⟨rfl, hw⟩
    subst hw
    go_wp2
    go_ret3
    exact ⟨rfl, Below.refl _ _⟩
  | true =>
    have h4' : ((s.size : Nat) : Int) < 4 := by have := h4 rfl; omega
    go_wp2_with fail
    refine (h3 _).mono ?_
    rintro e w1 ⟨rfl, hw⟩
    subst hw
    go_wp2
    go_ret3
    exact ⟨rfl, Below.refl _ _⟩
end Go.Proofs.YtobecfeelamlmaaDoor
