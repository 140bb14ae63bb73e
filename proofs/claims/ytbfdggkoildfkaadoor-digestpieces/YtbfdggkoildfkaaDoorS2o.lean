/- The bytes of the eight numbers, one after another. -/
import Derived.Test.YtbfdggkoildfkaaDoorS2
namespace Go.Proofs.YtbfdggkoildfkaaDoor
open Go.RowKit
set_option linter.unusedSimpArgs false
set_option linter.unusedVariables false
/-- k of the bytes are laid. -/
structure Oq (w : World) (D : Nat) (v : V8) (k : Nat) (C : Array Value) (wr : World) : Prop where
  blk : Blk wr D C 23
  grown : w.grownBy wr (some D)
  csz : C.size = 32
  got : ∀ j, j < k → C[j]? = some (.int .u8 ((outB v).getD j 0 : Nat))
  all : ∀ j, j < 32 → ∃ x : Int, C[j]? = some (.int .u8 x)
theorem Oq.put {w : World} {D : Nat} {v : V8} {k : Nat} {C : Array Value} {wr : World} (h : Oq w D v k C wr) (hk : k < 32) (x : Int) (hx : x = ((outB v).getD k 0 : Nat)) :
    Oq w D v (k + 1) (C.setIfInBounds k (.int .u8 x)) (wr.setCell ⟨D, k, none⟩ (.int .u8 x)) where
  blk := h.blk.set k _
  grown := Lib.grownBy_setB h.grown k _
  csz := by rw [Array.size_setIfInBounds]; exact h.csz
  got := fun j hj => by
    rw [Array.getElem?_setIfInBounds]
    split
    · rename_i e; subst e; rw [if_pos (by rw [h.csz]; exact hk), hx]
    · exact h.got j (by omega)
  all := fun j hj => by
    rw [Array.getElem?_setIfInBounds]
    split
    · exact ⟨x, by rw [if_pos (by rw [h.csz]; omega)]⟩
    · exact h.all j hj
theorem Oq.whole {w : World} {D : Nat} {v : V8} {C : Array Value} {wr : World} (h : Oq w D v 32 C wr) : C = (bvc (outB v)).toArray := by
  apply Array.ext_getElem?
  intro i
  by_cases hi : i < 32
  · rw [h.got i hi, List.getElem?_toArray, bvc, List.getElem?_map, List.getD, List.getElem?_eq_getElem (by rw [outB_length]; exact hi)]
    rfl
  · rw [Array.getElem?_eq_none (by rw [h.csz]; omega), Array.getElem?_eq_none (by simp [bvc, outB_length]; omega)]
theorem byte_at (x : BitVec 32) (k : Nat) : ((x.toNat : Int) / 2 ^ (24 - 8 * (k % 4)) % 256) = (((by4 x).getD (k % 4) 0 : Nat) : Int) := by
  have hx := x.isLt
  have h : k % 4 = 0 ∨ k % 4 = 1 ∨ k % 4 = 2 ∨ k % 4 = 3 := by omega
  rcases h with h | h | h | h <;> rw [h]
  · show (x.toNat : Int) / 16777216 % 256 = ((x.toNat / 16777216 : Nat) : Int)
    omega
  · show (x.toNat : Int) / 65536 % 256 = ((x.toNat / 65536 % 256 : Nat) : Int)
    omega
  · show (x.toNat : Int) / 256 % 256 = ((x.toNat / 256 % 256 : Nat) : Int)
    omega
  · show (x.toNat : Int) / 1 % 256 = ((x.toNat % 256 : Nat) : Int)
    omega
end Go.Proofs.YtbfdggkoildfkaaDoor
