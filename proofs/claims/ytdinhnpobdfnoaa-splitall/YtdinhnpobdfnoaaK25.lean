/- The mathematics of SplitAll: a text handed on in portions. -/
import Derived.Test.YtdinhnpobdfnoaaK24
namespace Go.Proofs.Ytdinhnpobdfnoaa
open Go.RowKit
set_option linter.unusedSimpArgs false
set_option linter.unusedVariables false
/-- All pieces of a text. -/
def pal (ct : List UInt8 → Option Nat) (s : List UInt8) : List (List UInt8 × Nat) := pcs ct [] s ++ if lft ct [] s = [] then [] else [(lft ct [] s, 0)]
theorem pal_sz (ct : List UInt8 → Option Nat) (s : List UInt8) : (pal ct s).map (fun x => (x.1.length, x.2)) = chk ct s := by
  unfold pal chk
  rw [List.map_append]
  congr 1
  split <;> rfl
theorem pal_flat (ct : List UInt8 → Option Nat) (s : List UInt8) : (pal ct s).flatMap (·.1) = s := by
  have h := pcs_flat ct s []
  rw [List.nil_append] at h
  unfold pal
  rw [List.flatMap_append]
  by_cases e : lft ct [] s = []
  · rw [if_pos e]
    rw [e] at h
    simpa using h
  · rw [if_neg e]
    simpa using h
theorem pal_at {ct : List UInt8 → Option Nat} {s : List UInt8} {i n q v : Nat} (h : ((pal ct s).take i).flatMap (·.1) = s.take n) (hn : n ≤ s.length) (hi : (chk ct s)[i]? = some (q, v)) : (pal ct s)[i]? = some ((s.take (n + q)).drop n, v) ∧ ((pal ct s).take (i + 1)).flatMap (·.1) = s.take (n + q) ∧ n + q ≤ s.length := by
  rw [← pal_sz, List.getElem?_map] at hi
  obtain ⟨x, hx, he⟩ := Option.map_eq_some_iff.1 hi
  have e1 : x.1.length = q := congrArg Prod.fst he
  have e2 : x.2 = v := congrArg Prod.snd he
  have hlt : i < (pal ct s).length := (List.getElem?_eq_some_iff.1 hx).1
  have hxe : (pal ct s)[i] = x := by rw [List.getElem?_eq_getElem hlt] at hx; injection hx
  have hf := pal_flat ct s
  have hs : s = s.take n ++ (x.1 ++ ((pal ct s).drop (i + 1)).flatMap (·.1)) := by
    conv => lhs; rw [← hf, ← List.take_append_drop i (pal ct s), List.drop_eq_getElem_cons hlt, hxe, List.flatMap_append, List.flatMap_cons, h]
  have hd : s.drop n = x.1 ++ ((pal ct s).drop (i + 1)).flatMap (·.1) := by
    conv => lhs; rw [hs]
    rw [List.drop_append_of_le_length (by rw [List.length_take]; omega), List.drop_eq_nil_of_le (by rw [List.length_take]; omega), List.nil_append]
  have hx1 : (s.take (n + q)).drop n = x.1 := by rw [List.drop_take, hd, show n + q - n = q from by omega, ← e1, List.take_left]
  refine ⟨?_, ?_, ?_⟩
  · rw [hx, hx1, ← e2]
  · rw [List.take_add_one, hx, Option.toList_some, List.flatMap_append, h]
    have : s.take (n + q) = s.take n ++ (s.take (n + q)).drop n := by
      conv => lhs; rw [← List.take_append_drop n (s.take (n + q))]
      rw [List.take_take, show min n (n + q) = n from by omega]
    rw [this, hx1]; simp
  · have := congrArg List.length hd
    rw [List.length_drop, List.length_append, e1] at this
    omega
end Go.Proofs.Ytdinhnpobdfnoaa
