/- field.Product at all. -/
import Derived.Test.YtblmblbkfdcbjabF24P
import Derived.Test.YtblmblbkfdcbjabF11
import Derived.Test.YtblmblbkfdcbjabF19H
import Derived.Test.YtblmblbkfdcbjabM4
import Derived.Test.YtblmblbkfdcbjabK12P
namespace Go.Proofs.Ytblmblbkfdcbjab
open Go.RowKit
set_option linter.unusedSimpArgs false
set_option linter.unusedVariables false
def pdE (xs ys : List ByteArray) : Nat := if isM xs = true ∧ isM ys = true ∧ wid xs = ys.length then 0 else 1
theorem pdX_len (xs ys : List ByteArray) : (pdX xs ys).length ≤ 64 := by
  unfold pdX
  split
  · rename_i h
    rw [txtL_len, prodL_len, arrL, List.length_map]
    exact (isM_small xs h.1).1
  · simp
theorem fp_any (a b : Option Addr) (ca cb : Nat) (xs ys : List ByteArray) (w : World) (hx : TxL w a xs) (hy : TxL w b ys) (nx : xs.length ≤ 4611686018427387904) (sx : ∀ x ∈ xs, x.size ≤ 4611686018427387904) (ny : ys.length ≤ 4611686018427387904) (sy : ∀ x ∈ ys, x.size ≤ 4611686018427387904) :
    Calls Try.prog 24 #[.slice a xs.length ca, .slice b ys.length cb] w fun e w' => ∃ ao, e = .returned (.tuple #[.slice ao (pdX xs ys).length (pdX xs ys).length, .int .i64 (pdE xs ys)]) ∧ Mad w ao (pdX xs ys) w' ∧ Below w.heap.size w w' := by
  by_cases h : isM xs = true ∧ isM ys = true ∧ wid xs = ys.length
  · have e1 : pdX xs ys = txtL (wid ys) (prodL (arrL xs) (arrL ys)) := if_pos h
    have e2 : pdE xs ys = 0 := if_pos h
    have e3 : (txtL (wid ys) (prodL (arrL xs) (arrL ys))).length = xs.length := by rw [txtL_len, prodL_len, arrL, List.length_map]
    rw [e1, e2, e3]
    refine (product_yes a b ca cb xs ys w hx hy h.1 h.2.1 h.2.2).mono ?_
    rintro e w' ⟨g, rfl, hg, hB, hb⟩
    exact ⟨_, rfl, .inr ⟨g, rfl, hg, hB⟩, hb⟩
  · have e1 : pdX xs ys = [] := if_neg h
    have e2 : pdE xs ys = 1 := if_neg h
    rw [e1, e2]
    refine (product_no a b ca cb xs ys w hx hy nx sx ny sy h).mono ?_
    rintro e w' ⟨rfl, hb⟩
    exact ⟨none, rfl, .inl ⟨rfl, rfl⟩, hb⟩
end Go.Proofs.Ytblmblbkfdcbjab
