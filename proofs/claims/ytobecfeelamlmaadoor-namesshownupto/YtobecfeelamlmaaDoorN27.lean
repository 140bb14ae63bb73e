/- The document's digit; appends of one byte and of a rune. -/
import Derived.Test.YtobecfeelamlmaaDoorN26
import Derived.Test.YtobecfeelamlmaaDoorP21
import Derived.Shelf.Utf8.AppendRunePlain
namespace Go.Proofs.YtobecfeelamlmaaDoor
open Go.RowKit
set_option linter.unusedSimpArgs false
set_option linter.unusedVariables false
theorem rdig_any (c : UInt8) (w : World) : Calls Tryd.prog 18 #[.int .u8 (c.toNat : Int)] w fun e w' => e = .returned (.int .i64 (dgt c.toNat : Nat)) ∧ w' = w := by
  have hlt := c.toNat_lt
  generalize c.toNat = n at hlt
  by_cases h1 : 48 ≤ n ∧ n ≤ 57
  · have e : dgt n = n - 48 := by unfold dgt; rw [if_pos h1]
    have q1 : (48 : Int) ≤ (n : Int) := by omega
    have q2 : (n : Int) ≤ 57 := by omega
    have q3 : IntKind.u8.wrap ((n : Int) - 48) = (n : Int) - 48 := by rw [IntKind.wrap_u8']; omega
    rw [e]
    go_enter Tryd.func18, Tryd.ntmps18
    go_wp2
    go_ret
    exact ⟨by rw [show ((n - 48 : Nat) : Int) = (n : Int) - 48 from by omega]; rfl, rfl⟩
  · by_cases h2 : 97 ≤ n ∧ n ≤ 102
    · have e : dgt n = n - 87 := by unfold dgt; rw [if_neg h1, if_pos h2]
      have q1 : (97 : Int) ≤ (n : Int) := by omega
      have q2 : (n : Int) ≤ 102 := by omega
      have q3 : IntKind.u8.wrap ((n : Int) - 97) = (n : Int) - 97 := by rw [IntKind.wrap_u8']; omega
      have q5 : (48 : Int) ≤ (n : Int) := by omega
      have q6 : ¬ (n : Int) ≤ 57 := by omega
      rw [e]
      go_enter Tryd.func18, Tryd.ntmps18
      go_wp2
      go_ret
      exact ⟨by rw [show ((n - 87 : Nat) : Int) = (n : Int) - 97 + 10 from by omega]; rfl, rfl⟩
    · have e : dgt n = 16 := by unfold dgt; rw [if_neg h1, if_neg h2]
      rw [e]
      by_cases q1 : (48 : Int) ≤ (n : Int)
      · have q2 : ¬ (n : Int) ≤ 57 := by omega
        by_cases q3 : (97 : Int) ≤ (n : Int)
        · have q4 : ¬ (n : Int) ≤ 102 := by omega
          go_enter Tryd.func18, Tryd.ntmps18
          go_wp2
          go_ret
          exact ⟨rfl, rfl⟩
        · have q3' : (n : Int) < 97 := by omega
          go_enter Tryd.func18, Tryd.ntmps18
          go_wp2
          go_ret
          exact ⟨rfl, rfl⟩
      · have q1' : (n : Int) < 48 := by omega
        have q3' : (n : Int) < 97 := by omega
        go_enter Tryd.func18, Tryd.ntmps18
        go_wp2
        go_ret
        exact ⟨rfl, rfl⟩
theorem appRune (B : Nat) (v : Value) (pre : List UInt8) (r : Nat) (hr : r ≤ 17825791) (w : World) (hown : w.ownsRow B 5 1 v pre.length (bcl pre)) (hlen : pre.length + 4 ≤ 140737488355328) (hBw : B ≤ w.heap.size) :
    Calls Tryd.prog 19 #[v, .int .i32 (r : Int)] w fun e w' => ∃ v', e = .returned v' ∧ w'.ownsRow B 5 1 v' (pre ++ encR r).length (bcl (pre ++ encR r)) ∧ ∃ o, (w.alloc o).grownBy w' v.ownBlock := by
  have h := Any.utf8_AppendRune_plain (P := Tryd.prog) lays242 inf_u8 B v pre.length (bcl pre) (r : Int) (by omega) (by omega) w hown hlen hBw
  refine h.mono ?_
  rintro e w' ⟨v', rfl, ho, hg⟩
  refine ⟨v', rfl, ?_, hg⟩
  have e1 : Lib.runeCells (r : Int) = bcl (encR r) := (Lib.byteCells_encodeRune (r : Int)).symm
  have e2 : (Lib.runeCells (r : Int)).length = (encR r).length := by rw [e1]; exact Lib.byteCells_length _
  rw [List.length_append, bcl_app, ← e1, ← e2]
  exact ho
end Go.Proofs.YtobecfeelamlmaaDoor
