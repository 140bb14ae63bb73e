/- The walk of package split's cutter.take. -/
import Derived.Test.YthfggejdeodinaaU2
namespace Go.Proofs.Ythfggejdeodinaa
open Go.RowKit
set_option linter.unusedSimpArgs false
set_option linter.unusedVariables false
theorem bk_apart_ty {w : World} {a : Nat} {C D : Array Value} {T U : TypeId} (h1 : Bk w a C T) (h2 : Bk w a D U) : T = U := by
  unfold Bk at h1 h2
  rw [h1] at h2
  cases h2
  rfl
theorem lf_no {p : Pl} {s h0 l : List UInt8} {i : Nat} {x : UInt8} (hx : s[i]? = some x) (hl : lft (ctA p) h0 (s.take i) = l) (h : ctA p (l ++ [x]) = none) : lft (ctA p) h0 (s.take (i + 1)) = l ++ [x] := by
  rw [List.take_add_one, hx, Option.toList_some, lft_no (by rw [hl]; exact h), hl]
theorem lf_yes {p : Pl} {s h0 l : List UInt8} {i v : Nat} {x : UInt8} (hx : s[i]? = some x) (hl : lft (ctA p) h0 (s.take i) = l) (h : ctA p (l ++ [x]) = some v) : lft (ctA p) h0 (s.take (i + 1)) = [] := by
  rw [List.take_add_one, hx, Option.toList_some, lft_yes (v := v) (by rw [hl]; exact h)]
theorem pc_no {p : Pl} {s h0 l : List UInt8} {i : Nat} {x : UInt8} (hx : s[i]? = some x) (hl : lft (ctA p) h0 (s.take i) = l) (h : ctA p (l ++ [x]) = none) : pcs (ctA p) h0 (s.take (i + 1)) = pcs (ctA p) h0 (s.take i) := by
  rw [List.take_add_one, hx, Option.toList_some, pcs_no (by rw [hl]; exact h)]
theorem pc_yes {p : Pl} {s h0 l : List UInt8} {i v : Nat} {x : UInt8} (hx : s[i]? = some x) (hl : lft (ctA p) h0 (s.take i) = l) (h : ctA p (l ++ [x]) = some v) : pcs (ctA p) h0 (s.take (i + 1)) = pcs (ctA p) h0 (s.take i) ++ [(l ++ [x], v)] := by
  rw [List.take_add_one, hx, Option.toList_some, pcs_yes (v := v) (by rw [hl]; exact h), hl]
end Go.Proofs.Ythfggejdeodinaa
