/- The walks of package split: within, Plan.Check, begun, cutter.cut. -/
import Derived.Test.YthfggejdeodinaaK21
import Derived.Test.YthfggejdeodinaaV2A
namespace Go.Proofs.Ythfggejdeodinaa
open Go.RowKit
set_option linter.unusedSimpArgs false
set_option linter.unusedVariables false
/-- A number from least to most. -/
def wtn (n a b : Int) : Bool := decide (a ≤ n) && decide (n ≤ b)
theorem wtn_yes {n a b : Int} (h1 : a ≤ n) (h2 : n ≤ b) : wtn n a b = true := by simp [wtn, h1, h2]
theorem wtn_low {n a b : Int} (h1 : ¬ a ≤ n) : wtn n a b = false := by simp [wtn, h1]
theorem wtn_high {n a b : Int} (h1 : ¬ n ≤ b) : wtn n a b = false := by simp [wtn, h1]
set_option maxHeartbeats 1000000 in
theorem within_any (n a b : Int) (w : World) : Calls Try.prog 7 #[.int .i64 n, .int .i64 a, .int .i64 b] w fun e w' => e = .returned (.bool (wtn n a b)) ∧ w' = w := by
  by_cases h1 : a ≤ n
  · by_cases h2 : n ≤ b
    · rw [wtn_yes h1 h2]
      go_enter Try.func7, Try.ntmps7
      go_wp2
      go_ret
      exact ⟨rfl, rfl⟩
    · rw [wtn_high h2]
      go_enter Try.func7, Try.ntmps7
      go_wp2
      go_ret
      exact ⟨rfl, rfl⟩
  · rw [wtn_low h1]
    go_enter Try.func7, Try.ntmps7
    go_wp2
    go_ret
    exact ⟨rfl, rfl⟩
/-- A plan that may be. -/
def plB (b f m : Int) : Bool := wtn b 4 16 && (wtn f 1 8 && wtn m 64 65536)
def plE (b f m : Int) : Int := if plB b f m = true then 0 else 90
abbrev plV (b f m : Int) : Value := .agg #[.int .i64 b, .int .i64 f, .int .i64 m]
/-- A cutter's cells. -/
abbrev cuV (p : Pl) (r : Nat) (n : Nat) : Array Value := #[.int .i64 p.B, .int .i64 p.F, .int .i64 p.M, .pointer (some ⟨r, 0, none⟩), .int .i64 n]
/-- What cut tells. -/
def cuL (p : Pl) (l : List UInt8) : Nat := (ctA p l).getD 0
end Go.Proofs.Ythfggejdeodinaa
