/- The mathematics of the document's Tiers: the levels of all numbers in a list that grows with the nodes. No program is named here. -/
import Derived.Test.YthfggejdeodinaaK23
namespace Go.Proofs.Ythfggejdeodinaa
open Go.RowKit
set_option linter.unusedSimpArgs false
set_option linter.unusedVariables false
/-- The levels of all numbers behind so many items of a tier. -/
def gsl (n0 t m : Nat) (items : List Itm) (nodes : List (List Nat)) (lv : List Nat) : Nat → List Nat
  | 0 => lv
  | i + 1 => if cuG t m items.length i ((gst n0 t m items nodes i).h ++ [items.getD i (0, 0)]) (items.getD i (0, 0)) = true ∧ 2 ≤ ((gst n0 t m items nodes i).h ++ [items.getD i (0, 0)]).length then gsl n0 t m items nodes lv i ++ [(items.getD i (0, 0)).2] else gsl n0 t m items nodes lv i
/-- Each item's level stands at its number. -/
def LvO (lv : List Nat) (its : List Itm) : Prop := ∀ x ∈ its, lv[x.1]? = some x.2
theorem gsl_len (n0 t m : Nat) (items : List Itm) (nodes : List (List Nat)) (lv : List Nat) (h : lv.length = n0 + nodes.length) : ∀ i, (gsl n0 t m items nodes lv i).length = n0 + (gst n0 t m items nodes i).nodes.length
  | 0 => h
  | i + 1 => by
    have ih := gsl_len n0 t m items nodes lv h i
    rw [gsl, gst, stG]
    by_cases h1 : cuG t m items.length i ((gst n0 t m items nodes i).h ++ [items.getD i (0, 0)]) (items.getD i (0, 0)) = true
    · by_cases h2 : 2 ≤ ((gst n0 t m items nodes i).h ++ [items.getD i (0, 0)]).length
      · rw [if_pos ⟨h1, h2⟩, if_pos h1]
        simp only [nd_len]
        rw [if_neg (by omega), List.length_append, ih, List.length_singleton]; omega
      · rw [if_neg (fun c => h2 c.2), if_pos h1]
        simp only [nd_len]
        rw [if_pos (by omega), ih]; rfl
    · rw [if_neg (fun c => h1 c.1), if_neg h1]; exact ih
theorem gsl_keep (n0 t m : Nat) (items : List Itm) (nodes : List (List Nat)) (lv : List Nat) (j y : Nat) (h : lv[j]? = some y) : ∀ i, (gsl n0 t m items nodes lv i)[j]? = some y
  | 0 => h
  | i + 1 => by
    have ih := gsl_keep n0 t m items nodes lv j y h i
    rw [gsl]
    split
    · rw [List.getElem?_append_left (List.getElem?_eq_some_iff.1 ih).1]; exact ih
    · exact ih
theorem gsl_ok (n0 t m : Nat) (items : List Itm) (nodes : List (List Nat)) (lv : List Nat) (hl : lv.length = n0 + nodes.length) (ho : LvO lv items) : ∀ i, i ≤ items.length → LvO (gsl n0 t m items nodes lv i) (gst n0 t m items nodes i).next ∧ LvO (gsl n0 t m items nodes lv i) (gst n0 t m items nodes i).h
  | 0, _ => ⟨fun x hx => (by cases hx), fun x hx => (by cases hx)⟩
  | i + 1, hi => by
    obtain ⟨ih1, ih2⟩ := gsl_ok n0 t m items nodes lv hl ho i (by omega)
    have hlen := gsl_len n0 t m items nodes lv hl i
    have hmem : items.getD i (0, 0) ∈ items := by
      rw [List.getD, List.getElem?_eq_getElem (by omega : i < items.length)]
      exact List.getElem_mem _
    have hx := gsl_keep n0 t m items nodes lv _ _ (ho _ hmem) i
    have hgrp : LvO (gsl n0 t m items nodes lv i) ((gst n0 t m items nodes i).h ++ [items.getD i (0, 0)]) := fun y hy => by
      simp only [List.mem_append, List.mem_singleton] at hy
      rcases hy with hy | rfl
      · exact ih2 y hy
      · exact hx
    rw [gsl, gst, stG]
    by_cases h1 : cuG t m items.length i ((gst n0 t m items nodes i).h ++ [items.getD i (0, 0)]) (items.getD i (0, 0)) = true
    · by_cases h2 : 2 ≤ ((gst n0 t m items nodes i).h ++ [items.getD i (0, 0)]).length
      · rw [if_pos ⟨h1, h2⟩, if_pos h1]
        refine ⟨fun y hy => ?_, fun y hy => by cases hy⟩
        simp only [List.mem_append, List.mem_singleton] at hy
        rcases hy with hy | rfl
        · have := ih1 y hy
          rw [List.getElem?_append_left (List.getElem?_eq_some_iff.1 this).1]; exact this
        · unfold jn
          rw [if_neg (by omega)]
          simp only
          rw [← hlen, List.getElem?_append_right (Nat.le_refl _), Nat.sub_self]
          simp
      · rw [if_neg (fun c => h2 c.2), if_pos h1]
        refine ⟨fun y hy => ?_, fun y hy => by cases hy⟩
        simp only [List.mem_append, List.mem_singleton] at hy
        rcases hy with hy | rfl
        · exact ih1 y hy
        · unfold jn
          rw [if_pos (by omega)]
          have hlast : ((gst n0 t m items nodes i).h ++ [items.getD i (0, 0)]).getLastD (0, 0) = items.getD i (0, 0) := by simp
          rw [hlast]; exact hx
    · rw [if_neg (fun c => h1 c.1), if_neg h1]
      exact ⟨ih1, hgrp⟩
end Go.Proofs.Ythfggejdeodinaa
