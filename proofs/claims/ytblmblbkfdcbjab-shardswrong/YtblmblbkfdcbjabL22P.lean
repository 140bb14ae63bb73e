/- field.Unit and field.Cauchy at any sizes. -/
import Derived.Test.YtblmblbkfdcbjabF13
import Derived.Test.YtblmblbkfdcbjabM4
namespace Go.Proofs.Ytblmblbkfdcbjab
open Go.RowKit
set_option linter.unusedSimpArgs false
set_option linter.unusedVariables false
/-- The texts of a unit, of Cauchy's matrix; the errors. -/
def unX (n : Int) : List ByteArray := if 1 ≤ n ∧ n ≤ 64 then txtL n.toNat (unL n.toNat) else []
def unE (n : Int) : Nat := if 1 ≤ n ∧ n ≤ 64 then 0 else 1
def caX (r c : Int) : List ByteArray := if (1 ≤ r ∧ r ≤ 64) ∧ (1 ≤ c ∧ c ≤ 64) then txtL c.toNat (caL r.toNat c.toNat) else []
def caE (r c : Int) : Nat := if (1 ≤ r ∧ r ≤ 64) ∧ (1 ≤ c ∧ c ≤ 64) then 0 else 1
theorem unX_len (n : Int) : (unX n).length ≤ 64 := by
  unfold unX
  split
  · rw [txtL_len, unL_len]; omega
  · simp
theorem caX_len (r c : Int) : (caX r c).length ≤ 64 := by
  unfold caX
  split
  · rw [txtL_len, caL_len]; omega
  · simp
theorem fu_any (n : Int) (w : World) :
    Calls Try.prog 22 #[.int .i64 n] w fun e w' => ∃ ao, e = .returned (.tuple #[.slice ao (unX n).length (unX n).length, .int .i64 (unE n)]) ∧ Mad w ao (unX n) w' ∧ Below w.heap.size w w' := by
  by_cases h : 1 ≤ n ∧ n ≤ 64
  · obtain ⟨m, rfl⟩ : ∃ m : Nat, n = m := ⟨n.toNat, by omega⟩
    have e1 : unX (m : Int) = txtL m (unL m) := by unfold unX; rw [if_pos h, Int.toNat_natCast]
    have e2 : unE (m : Int) = 0 := if_pos h
    rw [e1, e2, txtL_len, unL_len]
    refine (unitP_yes m w (by omega) (by omega)).mono ?_
    rintro e w' ⟨g, rfl, hg, hB, hb⟩
    exact ⟨_, rfl, .inr ⟨g, rfl, hg, hB⟩, hb⟩
  · have e1 : unX n = [] := if_neg h
    have e2 : unE n = 1 := if_neg h
    rw [e1, e2]
    refine (unitP_no n w h).mono ?_
    rintro e w' ⟨rfl, rfl⟩
    exact ⟨none, rfl, .inl ⟨rfl, rfl⟩, Below.refl _ _⟩
theorem fc_any (r c : Int) (w : World) :
    Calls Try.prog 21 #[.int .i64 r, .int .i64 c] w fun e w' => ∃ ao, e = .returned (.tuple #[.slice ao (caX r c).length (caX r c).length, .int .i64 (caE r c)]) ∧ Mad w ao (caX r c) w' ∧ Below w.heap.size w w' := by
  by_cases h : (1 ≤ r ∧ r ≤ 64) ∧ (1 ≤ c ∧ c ≤ 64)
  · obtain ⟨m, rfl⟩ : ∃ m : Nat, r = m := ⟨r.toNat, by omega⟩
    obtain ⟨k, rfl⟩ : ∃ k : Nat, c = k := ⟨c.toNat, by omega⟩
    have e1 : caX (m : Int) (k : Int) = txtL k (caL m k) := by unfold caX; rw [if_pos h, Int.toNat_natCast, Int.toNat_natCast]
    have e2 : caE (m : Int) (k : Int) = 0 := if_pos h
    rw [e1, e2, txtL_len, caL_len]
    refine (cauchyP_yes m k w (by omega) (by omega) (by omega) (by omega)).mono ?_
    rintro e w' ⟨g, rfl, hg, hB, hb⟩
    exact ⟨_, rfl, .inr ⟨g, rfl, hg, hB⟩, hb⟩
  · have e1 : caX r c = [] := if_neg h
    have e2 : caE r c = 1 := if_neg h
    rw [e1, e2]
    refine (cauchyP_no r c w h).mono ?_
    rintro e w' ⟨rfl, rfl⟩
    exact ⟨none, rfl, .inl ⟨rfl, rfl⟩, Below.refl _ _⟩
end Go.Proofs.Ytblmblbkfdcbjab
