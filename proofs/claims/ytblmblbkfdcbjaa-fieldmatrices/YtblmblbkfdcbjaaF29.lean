/- The document's rows. -/
import Derived.Test.YtblmblbkfdcbjaaF28
import Derived.Test.YtblmblbkfdcbjaaF24
namespace Go.Proofs.Ytblmblbkfdcbjaa
open Go.RowKit
set_option linter.unusedSimpArgs false
set_option linter.unusedVariables false
theorem inf_slc : (Try.prog.info? 44).map (fun i => (i.zero, i.size, i.bytes)) = some (some (.slice none 0 0), 1, 24) := by kernel_rfl
abbrev Cvr (w : World) (g : Nat) (C : Array Value) : Prop := w.heap[g]? = some (.cells C 5 (C.size, C.size + 1))
theorem Cvr.cell {w : World} {g : Nat} {C : Array Value} (h : Cvr w g C) (j : Nat) : w.cell? ⟨g, j, none⟩ = C[j]? := cell_of_row w g j C _ _ h
theorem Cvr.frozen {w : World} {g : Nat} {C : Array Value} (h : Cvr w g C) (j : Nat) (hj : j < C.size) : w.frozen? ⟨g, j, none⟩ = false := by
  have h' : w.heap[g]? = some (.cells C 5 (C.size, C.size + 1)) := h
  simp only [World.frozen?, h']
  simp; omega
theorem Cvr.set {w : World} {g : Nat} {C : Array Value} (h : Cvr w g C) (i : Nat) (v : Value) : Cvr (w.setCell ⟨g, i, none⟩ v) g (C.setIfInBounds i v) := by
  have := Joins.block_setCell (i := i) h v
  unfold Cvr
  rw [this]; simp
theorem conv_row (s : ByteArray) (u : World) : ∃ (cap : Nat) (W : World) (C : Array Value), (convert 9 44 (.string s)).run Try.prog u = .ok (.slice (some ⟨u.heap.size, 0, none⟩) s.size cap) W ∧
    Below u.heap.size u W ∧ W.heap.size = u.heap.size + 1 ∧ Cvr W u.heap.size C ∧ C.size = cap ∧ s.size ≤ cap ∧ ∀ j (hj : j < s.size), C[j]? = some (.int .u8 (s[j].toNat : Int)) := by
  refine ⟨grownCap u s.size 0 5, Lib.bytesWorld u 5 s, Lib.bytesCells u 5 s, Lib.run_convert_string_bytes u _ _ _ s Try.underlying9 Try.underlying44 Try.underlying5, ?_, Lib.bytesWorld_size _ _ _, Lib.bytesWorld_at_new _ _ _, ?_, ?_, ?_⟩
  · refine ⟨?_, ?_, ?_, by rw [Lib.bytesWorld_size]; omega, fun k hk => Lib.bytesWorld_at_old _ _ _ _ hk⟩
    all_goals simp [Lib.bytesWorld, World.freeze, World.alloc, World.drew, -World.alloc_eq, -World.drew_eq]
  · have hge := grownCap_ge u s.size 0 5
    have : s.data.size = s.size := rfl
    simp [Lib.bytesCells]; omega
  · exact grownCap_ge _ _ _ _
  · intro j hj
    have hj' : j < s.data.size := hj
    rw [Lib.bytesCells, Array.getElem?_append_left (by simpa using hj)]
    simp only [Array.getElem?_map, Array.getElem?_eq_getElem hj', Option.map_some]
    rfl
/-- The rows of a matrix, so many made. -/
structure Rb (B n : Nat) (A : Nat → Nat → UInt8) (h : Nat → Nat × Nat) (i : Nat) (W : World) : Prop where
  row : ∀ k, k < i → ∃ C, Cvr W (h k).1 C ∧ (C.size = (h k).2 ∧ n ≤ (h k).2) ∧ ∀ j, j < n → C[j]? = some (.int .u8 ((A k j).toNat : Int))
  lo : ∀ k, k < i → B ≤ (h k).1
  ap : ∀ k l, k < i → l < i → k ≠ l → (h k).1 ≠ (h l).1
def hv (n : Nat) (h : Nat → Nat × Nat) (i : Nat) : List Value := (List.range i).map fun k => .slice (some ⟨(h k).1, 0, none⟩) n (h k).2
theorem hv_next (n : Nat) (h : Nat → Nat × Nat) (i g c : Nat) : hv n (fun k => if k = i then (g, c) else h k) (i + 1) = hv n h i ++ [.slice (some ⟨g, 0, none⟩) n c] := by
  rw [hv, List.range_succ, List.map_append, List.map_singleton, if_pos rfl]
  congr 1
  apply List.map_congr_left
  intro k hk
  have : k < i := List.mem_range.1 hk
  rw [if_neg (by omega)]
theorem Cvr.lt {w : World} {g : Nat} {C : Array Value} (h : Cvr w g C) : g < w.heap.size := (Array.getElem?_eq_some_iff.1 h).1
theorem own_apart {W : World} {B n g : Nat} {v : Value} {xs : List Value} {C : Array Value} (h : W.ownsRow B 44 1 v n xs) (hc : Cvr W g C) : v.ownBlock ≠ some g := by
  rcases h.2 with ⟨rfl, h0⟩ | ⟨g2, cap, cur, rfl, hle, hg, hn, _, hc2, ht⟩
  · intro e; cases e
  · intro e
    obtain rfl : g2 = g := by simpa [Value.ownBlock] using e
    have hc' : W.heap[g2]? = some (.cells C 5 (C.size, C.size + 1)) := hc
    rw [hg] at hc'
    simp at hc'
theorem Rb.grown {B n i : Nat} {A : Nat → Nat → UInt8} {h : Nat → Nat × Nat} {W W' : World} {r : Option Nat} (hr : Rb B n A h i W) (hg : W.grownBy W' r) (hne : ∀ k, k < i → r ≠ some (h k).1) : Rb B n A h i W' := by
  refine ⟨fun k hk => ?_, hr.lo, hr.ap⟩
  obtain ⟨C, hc, h2⟩ := hr.row k hk
  have hlt := hc.lt
  exact ⟨C, by show W'.heap[(h k).1]? = _; rw [hg.block _ hlt (fun e => hne k hk e.symm)]; exact hc, h2⟩
theorem Rb.next {B n i cap : Nat} {A : Nat → Nat → UInt8} {h : Nat → Nat × Nat} {W W' : World} {C : Array Value} (hr : Rb B n A h i W) (hb : Below W.heap.size W W') (hc : Cvr W' W.heap.size C) (hn : C.size = cap ∧ n ≤ cap) (hC : ∀ j, j < n → C[j]? = some (.int .u8 ((A i j).toNat : Int))) (hB : B ≤ W.heap.size) :
    Rb B n A (fun k => if k = i then (W.heap.size, cap) else h k) (i + 1) W' := by
  have hr2 := hr.grown (gr_of_below hb none) (by simp)
  have hlt : ∀ k, k < i → (h k).1 < W.heap.size := fun k hk => by
    obtain ⟨C, hc, _⟩ := hr.row k hk
    exact hc.lt
  refine ⟨fun k hk => ?_, fun k hk => ?_, fun k l hk hl hkl => ?_⟩
  · by_cases e : k = i
    · subst e
      simp only [if_pos]
      exact ⟨C, hc, hn, hC⟩
    · simp only [if_neg e]; exact hr2.row k (by omega)
  · by_cases e : k = i
    · simp only [if_pos e]; exact hB
    · simp only [if_neg e]; exact hr.lo k (by omega)
  · by_cases e : k = i
    · simp only [if_pos e, if_neg (show ¬ l = i by omega)]
      have := hlt l (by omega); omega
    · simp only [if_neg e]
      by_cases e2 : l = i
      · simp only [if_pos e2]; have := hlt k (by omega); omega
      · simp only [if_neg e2]; exact hr.ap k l (by omega) (by omega) hkl
theorem Rb.done {B n R gm cm : Nat} {A : Nat → Nat → UInt8} {h : Nat → Nat × Nat} {W : World} (hr : Rb B n A h R W) (ho : W.ownsRow B 44 1 (.slice (some ⟨gm, 0, none⟩) R cm) R (hv n h R)) (h1 : 1 ≤ R) : Rws B gm R h n A W := by
  rcases ho.2 with ⟨e, h0⟩ | ⟨g, cap, cur, e, hle, hg, hn, _, hc, ht⟩
  · cases e
  · obtain ⟨rfl, rfl⟩ : gm = g ∧ cm = cap := by simpa using e
    have hB : Bk W gm cur 44 := hg
    have hcell : ∀ i, i < R → W.cell? ⟨gm, i, none⟩ = some (.slice (some ⟨(h i).1, 0, none⟩) n (h i).2) := by
      intro i hi
      rw [hB.cell]
      have e := congrArg (·[i]?) ht
      rw [Nat.mul_one] at e
      simp only [List.getElem?_take, if_pos hi, hv, List.getElem?_map, List.getElem?_range hi, Option.map_some] at e
      rw [← Array.getElem?_toList]; exact e
    refine ⟨hcell, fun i hi => hB.frozen i, fun i k hi hk => ?_, fun i k hi hk => ?_, hr.ap, fun i hi => ?_, ⟨hle, hB.lt⟩, fun i hi => ?_, fun i hi => ?_⟩
    · obtain ⟨C, h1, h2, h3⟩ := hr.row i hi
      rw [h1.cell, h3 k hk]
    · obtain ⟨C, h1, h2, h3⟩ := hr.row i hi
      exact h1.frozen k (by omega)
    · obtain ⟨C, h1, h2, h3⟩ := hr.row i hi
      intro e
      exact own_apart ho h1 (by show some gm = some (h i).1; rw [e])
    · obtain ⟨C, h1, h2, h3⟩ := hr.row i hi
      exact ⟨hr.lo i hi, h1.lt⟩
    · obtain ⟨C, h1, h2, h3⟩ := hr.row i hi
      exact h2.2
end Go.Proofs.Ytblmblbkfdcbjaa
