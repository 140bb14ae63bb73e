/- A list of texts appended to a row of texts of the call's own; such a row as a block. -/
import Derived.Test.YtplfjfhpdfbpeaaDoorM4
import Derived.Deep.Upon
import Derived.ArgAppend
namespace Go.Proofs.YtplfjfhpdfbpeaaDoor
open Go.RowKit Go.Deep
set_option linter.unusedSimpArgs false
set_option linter.unusedVariables false
theorem one_sv (l : List ByteArray) : ∀ u ∈ sv l, u.oneCell' = true := by
  intro u hu
  obtain ⟨x, _, rfl⟩ := List.mem_map.1 hu
  rfl
theorem gr_refl (w : World) (r : Option Nat) : w.grownBy w r := ⟨rfl, rfl, rfl, Nat.le_refl _, fun _ _ _ => rfl⟩
theorem app_txts (w : World) (B : Nat) (v : Value) (ks xs : List ByteArray) (k n c : Nat) (hk : ks.length = k) (hn : xs.length = n) (hown : w.ownsRow B 9 1 v k (sv ks)) (hB : B ≤ w.heap.size)
    (ad : Option Addr) (ht : TxL w ad xs) (hb : (k + n) * 16 ≤ 140737488355328) (ty : TypeId) :
    ∃ v' w', (Builtin.append_ #[61, 61] ty #[v, .slice ad n c]).run Tryd.prog w = .ok v' w' ∧ w'.ownsRow B 9 1 v' (k + n) (sv (ks ++ xs)) ∧ w.grownBy w' v.ownBlock := by
  obtain ⟨i0, hi, hz0, hz1, hz2⟩ := info_parts inf_str
  cases xs with
  | nil =>
    obtain rfl : n = 0 := by simpa using hn.symm
    obtain ⟨a, cp, rfl, hle⟩ : ∃ a cp, v = .slice a k cp ∧ k ≤ cp := by
      rcases hown.2 with ⟨rfl, h0⟩ | ⟨g, cap, cur, rfl, _, _, h, _⟩
      · exact ⟨none, 0, by rw [h0], by omega⟩
      · exact ⟨_, _, rfl, h⟩
    have hsrc : Src Tryd.prog i0.size 61 (.slice ad 0 c) 0 [] w := by
      cases ad with
      | none => exact Src.ofNil w Tryd.underlying61 c
      | some q => exact Src.ofSlice w Tryd.underlying61 q 0 c [] (by simp) (fun j u h => by simp at h) (fun _ h => by cases h)
    have h := run_append_nothing (P := Tryd.prog) w 61 61 ty 9 i0 Tryd.underlying61 hi a k cp hle (.slice ad 0 c) hsrc
    exact ⟨_, _, h, by rw [List.append_nil]; exact hown, gr_refl _ _⟩
  | cons x0 xs0 =>
    obtain ⟨g, o, rfl, hlt, _⟩ := ht 0 x0 rfl
    have hnews : ∀ j u, (sv (x0 :: xs0))[j]? = some u → w.cell? ((⟨g, o, none⟩ : Addr).add j) = some u := by
      intro j u hj
      rw [sv, List.getElem?_map] at hj
      obtain ⟨x, hx, rfl⟩ := Option.map_eq_some_iff.1 hj
      obtain ⟨g', o', e, _, hc⟩ := ht j x hx
      cases e
      rw [WideShapes.add_plain]
      exact hc
    obtain ⟨v', w', h1, h2, h3, _⟩ := run_append_own (P := Tryd.prog) (w := w) B 61 ty 9 i0 (.string ⟨#[]⟩) 1 16 Tryd.underlying61 hi hz0 hz1 hz2 rfl (by decide) v k (sv ks) hown ⟨g, o, none⟩ n c (sv (x0 :: xs0)) (by rw [sv, List.length_map, hn, Nat.mul_one]) hnews (one_sv _) (by unfold maxLen; omega) hb hB
    exact ⟨v', w', h1, by rw [sv_append]; exact h2, h3⟩
theorem wpList_append_txts {ops : Array Oper} {rest : List Oper} {o : Oper} {a : Act} {Q : Exit → Act → World → Prop} (w : World)
    (hg : o.guard = none) (s x : Operand) (hop : o.op = Op.call { callee := Callee.builtin Builtin.append, args := #[s, x], argTypes := #[61, 61] })
    (B : Nat) (v : Value) (ks xs : List ByteArray) (k n c : Nat) (hs : a.eval s = v) (hk : ks.length = k) (hn : xs.length = n) (hown : w.ownsRow B 9 1 v k (sv ks)) (hB : B ≤ w.heap.size)
    (ad : Option Addr) (hx : a.eval x = .slice ad n c) (ht : TxL w ad xs) (hb : (k + n) * 16 ≤ 140737488355328)
    (hK : ∀ v' w', w'.ownsRow B 9 1 v' (k + n) (sv (ks ++ xs)) → w.grownBy w' v.ownBlock → wpList Tryd.prog ops Q rest (a.put o.dst v') w') :
    wpList Tryd.prog ops Q (o :: rest) a w := by
  refine wpList_plain hg fun K hK' => ?_
  obtain ⟨v', w', hrun, r1, r2⟩ := app_txts w B v ks xs k n c hk hn hown hB ad ht hb o.type
  unfold Oper.wp
  simp [execOp, hop, resolve, invoke, builtin, hs, hx, hrun, Result.andThen]
  exact hK' _ _ (hK v' w' r1 r2)
/-- A row of texts of the call's own, once one lies in it. -/
theorem own_block_at {w : World} {B k : Nat} {v : Value} {xs : List ByteArray} (h : w.ownsRow B 9 1 v (k + 1) (sv xs)) :
    ∃ g cap cur, v = .slice (some ⟨g, 0, none⟩) (k + 1) cap ∧ B ≤ g ∧ Bk w g cur 9 ∧ k + 1 ≤ cap ∧ cap ≤ maxLen ∧ ∀ (j : Nat) (x : ByteArray), xs[j]? = some x → cur[j]? = some (.string x) := by
  rcases h.2 with ⟨_, h0⟩ | ⟨g, cap, cur, rfl, hle, hgc, h1, h2, h3, h4⟩
  · omega
  · refine ⟨g, cap, cur, rfl, hle, hgc, h1, h2, fun j x hx => ?_⟩
    have hl := h.1
    rw [sv, List.length_map] at hl
    have hj : j < k + 1 := by have := (List.getElem?_eq_some_iff.1 hx).1; omega
    have e := congrArg (·[j]?) h4
    rw [Nat.mul_one] at e
    simp only [List.getElem?_take, if_pos hj, sv, List.getElem?_map, hx, Option.map_some] at e
    rw [← Array.getElem?_toList]; exact e
end Go.Proofs.YtplfjfhpdfbpeaaDoor
