/- The mathematics of split's tiers: items gathered into groups. No program is named here. -/
import Derived.WalkKit
namespace Go.Proofs.Ythfggejdeodinaa
open Go.RowKit
set_option linter.unusedSimpArgs false
set_option linter.unusedVariables false
/-- An item: its number, its level. -/
abbrev Itm := Nat × Nat
/-- What a group is in the next tier. -/
def jn (n0 : Nat) (nodes : List (List Nat)) (g : List Itm) : Itm := if g.length < 2 then g.getLastD (0, 0) else (n0 + nodes.length, (g.getLastD (0, 0)).2)
/-- The nodes behind a group. -/
def nd (nodes : List (List Nat)) (g : List Itm) : List (List Nat) := if g.length < 2 then nodes else nodes ++ [g.map (·.1)]
/-- A tier under way: the next tier's items, the nodes, the group. -/
structure GS where
  next : List Itm
  nodes : List (List Nat)
  h : List Itm
/-- Whether a group ends. -/
def cuG (t m len i : Nat) (g : List Itm) (x : Itm) : Bool := decide (t ≤ x.2) || (decide (g.length = m) || decide (i + 1 = len))
def stG (n0 t m len i : Nat) (s : GS) (x : Itm) : GS := if cuG t m len i (s.h ++ [x]) x = true then ⟨s.next ++ [jn n0 s.nodes (s.h ++ [x])], nd s.nodes (s.h ++ [x]), []⟩ else ⟨s.next, s.nodes, s.h ++ [x]⟩
/-- A tier behind so many items. -/
def gst (n0 t m : Nat) (items : List Itm) (nodes : List (List Nat)) : Nat → GS
  | 0 => ⟨[], nodes, []⟩
  | i + 1 => stG n0 t m items.length i (gst n0 t m items nodes i) (items.getD i (0, 0))
theorem nd_len (nodes : List (List Nat)) (g : List Itm) : (nd nodes g).length = nodes.length + (if g.length < 2 then 0 else 1) := by
  unfold nd; split <;> simp
theorem nd_flat (nodes : List (List Nat)) (g : List Itm) : (nd nodes g).flatten.length = nodes.flatten.length + (if g.length < 2 then 0 else g.length) := by
  unfold nd; split <;> simp
/-- Where the group lies. -/
theorem gst_h (n0 t m : Nat) (items : List Itm) (nodes : List (List Nat)) : ∀ i, i ≤ items.length → ∃ f, f ≤ i ∧ (gst n0 t m items nodes i).h = (items.take i).drop f ∧ (gst n0 t m items nodes i).next.length ≤ f
  | 0, _ => ⟨0, Nat.le_refl _, by simp [gst], by simp [gst]⟩
  | i + 1, hi => by
    obtain ⟨f, h1, h2, h3⟩ := gst_h n0 t m items nodes i (by omega)
    rw [gst, stG]
    have e : (items.take (i + 1)).drop f = (items.take i).drop f ++ [items.getD i (0, 0)] := by
      rw [List.take_add_one, List.getD, List.getElem?_eq_getElem (by omega : i < items.length), Option.toList_some, List.drop_append_of_le_length (by rw [List.length_take]; omega)]; rfl
    split
    · refine ⟨i + 1, Nat.le_refl _, ?_, ?_⟩
      · rw [List.drop_eq_nil_of_le (by rw [List.length_take]; omega)]
      · simp; omega
    · exact ⟨f, by omega, by rw [e, h2], h3⟩
/-- The last group has ended. -/
theorem gst_end (n0 t m : Nat) (items : List Itm) (nodes : List (List Nat)) : (gst n0 t m items nodes items.length).h = [] := by
  cases e : items.length with
  | zero => rfl
  | succ i =>
    rw [gst, stG, e]
    have : cuG t m (i + 1) i ((gst n0 t m items nodes i).h ++ [items.getD i (0, 0)]) (items.getD i (0, 0)) = true := by simp [cuG]
    rw [if_pos this]
/-- The counts. -/
theorem gst_cnt (n0 t m : Nat) (items : List Itm) (nodes : List (List Nat)) : ∀ i, i ≤ items.length → (gst n0 t m items nodes i).nodes.length + (gst n0 t m items nodes i).next.length + (gst n0 t m items nodes i).h.length ≤ nodes.length + i ∧ (gst n0 t m items nodes i).nodes.flatten.length + (gst n0 t m items nodes i).next.length + (gst n0 t m items nodes i).h.length + nodes.length = nodes.flatten.length + (gst n0 t m items nodes i).nodes.length + i
  | 0, _ => by simp [gst]
  | i + 1, hi => by
    obtain ⟨h1, h2⟩ := gst_cnt n0 t m items nodes i (by omega)
    rw [gst, stG]
    split
    · simp only [nd_len, nd_flat, List.length_append, List.length_singleton, List.length_nil]
      split <;> omega
    · simp only [List.length_append, List.length_singleton]
      omega
/-- The levels. -/
theorem jn_lev (n0 : Nat) (nodes : List (List Nat)) (g : List Itm) : (jn n0 nodes g).2 = (g.getLastD (0, 0)).2 := by unfold jn; split <;> rfl
theorem gst_lev (n0 t m : Nat) (items : List Itm) (nodes : List (List Nat)) (hl : ∀ x ∈ items, x.2 ≤ 32) : ∀ i, i ≤ items.length → ∀ x ∈ (gst n0 t m items nodes i).next, x.2 ≤ 32
  | 0, _ => by simp [gst]
  | i + 1, hi => by
    have ih := gst_lev n0 t m items nodes hl i (by omega)
    rw [gst, stG]
    split
    · intro x hx
      simp only [List.mem_append, List.mem_singleton] at hx
      rcases hx with hx | rfl
      · exact ih x hx
      · rw [jn_lev, List.getLastD_concat, List.getD, List.getElem?_eq_getElem (by omega : i < items.length)]
        exact hl _ (List.getElem_mem _)
    · exact ih
/-- The numbers. -/
theorem gst_num (n0 t m : Nat) (items : List Itm) (nodes : List (List Nat)) (hl : ∀ x ∈ items, x.1 < n0 + nodes.length) : ∀ i, i ≤ items.length → (nodes.length ≤ (gst n0 t m items nodes i).nodes.length) ∧ ∀ x ∈ (gst n0 t m items nodes i).next, x.1 < n0 + (gst n0 t m items nodes i).nodes.length
  | 0, _ => by simp [gst]
  | i + 1, hi => by
    obtain ⟨ih1, ih2⟩ := gst_num n0 t m items nodes hl i (by omega)
    rw [gst, stG]
    split
    · simp only [nd_len]
      refine ⟨by omega, fun x hx => ?_⟩
      simp only [List.mem_append, List.mem_singleton] at hx
      rcases hx with hx | rfl
      · have := ih2 x hx; omega
      · unfold jn
        split
        · rw [List.getLastD_concat, List.getD, List.getElem?_eq_getElem (by omega : i < items.length)]
          have := hl _ (List.getElem_mem (by omega : i < items.length))
          simp only [Option.getD_some]
          omega
        · simp only; omega
    · exact ⟨ih1, ih2⟩
/-- A tier. -/
def gat (n0 t m : Nat) (s : List Itm × List (List Nat)) : List Itm × List (List Nat) := ((gst n0 t m s.1 s.2 s.1.length).next, (gst n0 t m s.1 s.2 s.1.length).nodes)
/-- Above all levels groups have two or more, but for the last one. -/
theorem gst_few (n0 t m : Nat) (items : List Itm) (nodes : List (List Nat)) (ht : 32 < t) (hm : 2 ≤ m) (hl : ∀ x ∈ items, x.2 ≤ 32) : ∀ i, i < items.length → (gst n0 t m items nodes i).next.length * 2 + (gst n0 t m items nodes i).h.length ≤ i ∧ (gst n0 t m items nodes i).h.length < m
  | 0, _ => by simp [gst]; omega
  | i + 1, hi => by
    obtain ⟨h1, h2⟩ := gst_few n0 t m items nodes ht hm hl i (by omega)
    rw [gst, stG]
    have hx : (items.getD i (0, 0)).2 ≤ 32 := by
      rw [List.getD, List.getElem?_eq_getElem (by omega : i < items.length)]
      exact hl _ (List.getElem_mem _)
    by_cases c : (gst n0 t m items nodes i).h.length + 1 = m
    · have : cuG t m items.length i ((gst n0 t m items nodes i).h ++ [items.getD i (0, 0)]) (items.getD i (0, 0)) = true := by simp [cuG, c]
      rw [if_pos this]
      simp only [List.length_append, List.length_singleton, List.length_nil]
      omega
    · have : cuG t m items.length i ((gst n0 t m items nodes i).h ++ [items.getD i (0, 0)]) (items.getD i (0, 0)) = false := by
        simp only [cuG, List.length_append, List.length_singleton, Bool.or_eq_false_iff, decide_eq_false_iff_not]
        omega
      rw [if_neg (by rw [this]; simp)]
      simp only [List.length_append, List.length_singleton]
      omega
theorem gat_few (n0 t m : Nat) (s : List Itm × List (List Nat)) (ht : 32 < t) (hm : 2 ≤ m) (hl : ∀ x ∈ s.1, x.2 ≤ 32) : (gat n0 t m s).1.length * 2 ≤ s.1.length + 1 := by
  unfold gat
  simp only
  cases e : s.1.length with
  | zero => simp [gst]
  | succ i =>
    obtain ⟨h1, h2⟩ := gst_few n0 t m s.1 s.2 ht hm hl i (by omega)
    rw [gst, stG]
    split
    · simp only [List.length_append, List.length_singleton]; omega
    · rename_i c; exact absurd (by simp [cuG, e]) c
theorem gat_le (n0 t m : Nat) (s : List Itm × List (List Nat)) : (gat n0 t m s).1.length ≤ s.1.length := by
  obtain ⟨f, h1, _, h3⟩ := gst_h n0 t m s.1 s.2 s.1.length (Nat.le_refl _)
  unfold gat
  simp only
  omega
/-- The tiers: behind so many. -/
def tir (n0 m : Nat) (items : List Itm) : Nat → List Itm × List (List Nat)
  | 0 => (items, [])
  | k + 1 => if (tir n0 m items k).1.length ≤ 1 then tir n0 m items k else gat n0 (k + 1) m (tir n0 m items k)
theorem tir_more {n0 m : Nat} {items : List Itm} {k : Nat} (h : (tir n0 m items k).1.length ≤ 1) : ∀ j, tir n0 m items (k + j) = tir n0 m items k
  | 0 => rfl
  | j + 1 => by
    rw [← Nat.add_assoc, tir, tir_more h j, if_pos h]
/-- What the counts and levels are. -/
structure TOk (n0 : Nat) (s : List Itm × List (List Nat)) : Prop where
  lev : ∀ x ∈ s.1, x.2 ≤ 32
  num : ∀ x ∈ s.1, x.1 < n0 + s.2.length
  cnt : s.2.length + s.1.length ≤ n0
  kid : s.2.flatten.length + s.1.length = n0 + s.2.length
theorem TOk.gat {n0 t m : Nat} {s : List Itm × List (List Nat)} (h : TOk n0 s) : TOk n0 (gat n0 t m s) := by
  obtain ⟨c1, c2⟩ := gst_cnt n0 t m s.1 s.2 s.1.length (Nat.le_refl _)
  have c3 := gst_end n0 t m s.1 s.2
  rw [c3] at c1 c2
  simp only [List.length_nil] at c1 c2
  have h3 := h.cnt
  have h4 := h.kid
  have h5 := (gst_num n0 t m s.1 s.2 h.num s.1.length (Nat.le_refl _)).1
  unfold Proofs.Ythfggejdeodinaa.gat
  exact ⟨gst_lev n0 t m s.1 s.2 h.lev _ (Nat.le_refl _), (gst_num n0 t m s.1 s.2 h.num _ (Nat.le_refl _)).2, by simp only; omega, by simp only; omega⟩
/-- The items handed in. -/
def itm (levels : List Nat) : List Itm := (List.range levels.length).map fun i => (i, levels.getD i 0)
theorem itm_len (l : List Nat) : (itm l).length = l.length := by simp [itm]
theorem itm_ok (l : List Nat) (hl : ∀ x ∈ l, x ≤ 32) : TOk l.length (itm l, []) := by
  refine ⟨fun x hx => ?_, fun x hx => ?_, by simp [itm_len], by simp [itm_len]⟩
  · simp only [itm, List.mem_map, List.mem_range] at hx
    obtain ⟨i, hi, rfl⟩ := hx
    simp only [List.getD, List.getElem?_eq_getElem hi, Option.getD_some]
    exact hl _ (List.getElem_mem _)
  · simp only [itm, List.mem_map, List.mem_range] at hx
    obtain ⟨i, hi, rfl⟩ := hx
    simp only [List.length_nil]; omega
theorem tir_ok {n0 m : Nat} {items : List Itm} (h : TOk n0 (items, [])) : ∀ k, TOk n0 (tir n0 m items k)
  | 0 => h
  | k + 1 => by
    rw [tir]
    split
    · exact tir_ok h k
    · exact (tir_ok h k).gat
/-- It ends. -/
theorem tir_ends {n0 m : Nat} {items : List Itm} (h : TOk n0 (items, [])) (hm : 2 ≤ m) : ∀ k, (tir n0 m items (32 + k)).1.length ≤ 1 ∨ (tir n0 m items (32 + k)).1.length + k ≤ items.length
  | 0 => by
    have : ∀ k, (tir n0 m items k).1.length ≤ items.length := fun k => by
      induction k with
      | zero => exact Nat.le_refl _
      | succ k ih =>
        rw [tir]
        split
        · exact ih
        · exact Nat.le_trans (gat_le _ _ _ _) ih
    exact .inr (Nat.le_trans (Nat.le_of_eq (Nat.add_zero _)) (this _))
  | k + 1 => by
    rcases tir_ends h hm k with q | q
    · rw [← Nat.add_assoc, tir, if_pos q]; exact .inl q
    · rw [← Nat.add_assoc, tir]
      split
      · rename_i c; exact .inl c
      · rename_i c
        have := gat_few n0 (32 + k + 1) m (tir n0 m items (32 + k)) (by omega) hm (tir_ok h (32 + k)).lev
        right; omega
/-- The nodes. -/
def tnd (m : Nat) (levels : List Nat) : List (List Nat) := (tir levels.length m (itm levels) (33 + levels.length)).2
theorem tnd_at {m : Nat} {levels : List Nat} {k : Nat} (hk : k ≤ 33 + levels.length) (h : (tir levels.length m (itm levels) k).1.length ≤ 1) : (tir levels.length m (itm levels) k).2 = tnd m levels := by
  obtain ⟨j, hj⟩ : ∃ j, 33 + levels.length = k + j := ⟨33 + levels.length - k, by omega⟩
  unfold tnd
  rw [hj, tir_more h j]
end Go.Proofs.Ythfggejdeodinaa
