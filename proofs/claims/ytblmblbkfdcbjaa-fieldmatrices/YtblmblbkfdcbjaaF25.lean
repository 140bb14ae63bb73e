/- The document's Product. -/
import Derived.Test.YtblmblbkfdcbjaaK12
import Derived.Test.YtblmblbkfdcbjaaF24
import Derived.Test.YtblmblbkfdcbjaaF14
import Derived.Test.YtblmblbkfdcbjaaS0L
namespace Go.Proofs.Ytblmblbkfdcbjaa
open Go.RowKit
set_option linter.unusedSimpArgs false
set_option linter.unusedVariables false
/-- One term of a product's byte. -/
def trm (r : List UInt8) (B : List (List UInt8)) (j l : Nat) : UInt8 := mul (r.getD l 0) ((B.getD l zr).getD j 0)
/-- The first j bytes of a row of a product. -/
def prB (r : List UInt8) (B : List (List UInt8)) (c n j : Nat) : List UInt8 := (List.range n).map fun t => if t < j then Sx c (trm r B t) else 0
theorem prB_len (r : List UInt8) (B : List (List UInt8)) (c n j : Nat) : (prB r B c n j).length = n := by simp [prB]
theorem prB_at (r : List UInt8) (B : List (List UInt8)) (c n j t : Nat) (h : t < n) : (prB r B c n j)[t]? = some (if t < j then Sx c (trm r B t) else 0) := by
  rw [prB, List.getElem?_map, List.getElem?_range h]; rfl
theorem prB_zero (r : List UInt8) (B : List (List UInt8)) (c n : Nat) : prB r B c n 0 = List.replicate n 0 := by
  apply List.ext_getElem?
  intro t
  by_cases h : t < n
  · rw [prB_at _ _ _ _ _ _ h, List.getElem?_replicate, if_pos h]; simp
  · rw [List.getElem?_eq_none (by rw [prB_len]; omega), List.getElem?_eq_none (by simp; omega)]
theorem prB_self (r : List UInt8) (B : List (List UInt8)) (c n j : Nat) : (prB r B c n j).set j 0 = prB r B c n j := by
  apply List.ext_getElem?
  intro t
  rw [List.getElem?_set]
  by_cases e : j = t
  · subst e
    rw [if_pos rfl, prB_len]
    by_cases h : j < n
    · rw [if_pos h, prB_at _ _ _ _ _ _ h]; simp
    · rw [if_neg h, List.getElem?_eq_none (by rw [prB_len]; omega)]
  · rw [if_neg e]
theorem prB_next (r : List UInt8) (B : List (List UInt8)) (c n j : Nat) : (prB r B c n j).set j (Sx c (trm r B j)) = prB r B c n (j + 1) := by
  apply List.ext_getElem?
  intro t
  rw [List.getElem?_set]
  by_cases h : t < n
  · rw [prB_at _ _ _ _ _ _ h, prB_at _ _ _ _ _ _ h, prB_len]
    by_cases e : j = t
    · subst e; simp [h]
    · rw [if_neg e]
      have : (t < j + 1) = (t < j) := by apply propext; omega
      simp only [this]
  · rw [List.getElem?_eq_none (l := prB r B c n j) (by rw [prB_len]; omega), List.getElem?_eq_none (l := prB r B c n (j + 1)) (by rw [prB_len]; omega), prB_len]
    by_cases e : j = t
    · rw [if_pos e, if_neg (by omega)]
    · rw [if_neg e]
theorem prB_all (r : List UInt8) (B : List (List UInt8)) (n : Nat) (hn : n ≤ 64) (hB : ∀ r ∈ B, r.length = 64) : prB r B B.length n n = (prodR B r).take n := by
  apply List.ext_getElem?
  intro t
  by_cases h : t < n
  · rw [prB_at _ _ _ _ _ _ h, if_pos h, List.getElem?_take, if_pos h]
    have hl : (prodR B r).length = 64 := prodK_len r B hB _
    have e := prodK_getD r B hB t (by omega) B.length
    rw [List.getElem?_eq_getElem (by omega)]
    have e2 : (prodR B r).getD t 0 = (prodR B r)[t]'(by omega) := by rw [List.getD, List.getElem?_eq_getElem (by omega)]; rfl
    rw [← e2]
    show some (Sx B.length (trm r B t)) = some ((prodK r B B.length).getD t 0)
    rw [e]; rfl
  · rw [List.getElem?_eq_none (by rw [prB_len]; omega), List.getElem?_eq_none (by rw [List.length_take]; omega)]
end Go.Proofs.Ytblmblbkfdcbjaa
