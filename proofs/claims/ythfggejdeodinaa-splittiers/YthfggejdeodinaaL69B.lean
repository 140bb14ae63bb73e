/- Law 9, SplitTiers: the row that is handed on, its copies; lists apart from what is spoilt. -/
import Derived.Test.YthfggejdeodinaaL69A
namespace Go.Proofs.Ythfggejdeodinaa
open Go.RowKit
set_option linter.unusedSimpArgs false
set_option linter.unusedVariables false
def ivI (l : List Int) : List Value := l.map fun x => Value.int .i64 x
theorem ivI_len (l : List Int) : (ivI l).length = l.length := by simp [ivI]
theorem ivI_one (l : List Int) : ∀ u ∈ ivI l, u.oneCell' = true := fun u hu => by
  obtain ⟨x, _, rfl⟩ := List.mem_map.1 hu
  rfl
/-- Numbers in a block. -/
def BkI (W : World) (g : Nat) (X : List Int) : Prop := ∃ C : Array Value, Bk W g C 3 ∧ ∀ (j : Nat) (y : Int), X[j]? = some y → C[j]? = some (.int .i64 y)
theorem BkI.below {W W' : World} {g : Nat} {X : List Int} (h : BkI W g X) (hb : Below W.heap.size W W') : BkI W' g X := by
  obtain ⟨C, h1, h2⟩ := h
  exact ⟨C, h1.below hb h1.lt, h2⟩
theorem BkI.inl {W : World} {g : Nat} {X Y : List Int} (h : BkI W g (X ++ Y)) : InL W (some ⟨g, 0, none⟩) X := fun i x hx => by
  obtain ⟨C, h1, h2⟩ := h
  refine ⟨g, 0, rfl, h1.lt, ?_⟩
  rw [Nat.zero_add, h1.cell]
  exact h2 i x (by rw [List.getElem?_append_left (List.getElem?_eq_some_iff.1 hx).1]; exact hx)
theorem BkI.get {W : World} {g : Nat} {X : List Int} (h : BkI W g X) {i : Nat} {y : Int} (hy : X[i]? = some y) : W.cell? ⟨g, i, none⟩ = some (.int .i64 y) ∧ W.frozen? ⟨g, i, none⟩ = false := by
  obtain ⟨C, h1, h2⟩ := h
  exact ⟨by rw [h1.cell]; exact h2 i y hy, h1.frozen i⟩
theorem BkI.set {W : World} {g i : Nat} {X : List Int} {v : Int} (h : BkI W g X) (hi : i < X.length) : BkI (W.setCell ⟨g, i, none⟩ (.int .i64 v)) g (X.set i v) := by
  obtain ⟨C, h1, h2⟩ := h
  refine ⟨_, h1.set i _, fun j y hj => ?_⟩
  have hC : i < C.size := by
    obtain ⟨y0, h0⟩ : ∃ y, X[i]? = some y := ⟨_, List.getElem?_eq_getElem hi⟩
    exact (Array.getElem?_eq_some_iff.1 (h2 i y0 h0)).1
  rw [Array.getElem?_setIfInBounds]
  rw [List.getElem?_set] at hj
  by_cases e : i = j
  · subst e
    rw [if_pos rfl, if_pos hC]
    rw [if_pos rfl, if_pos hi] at hj
    rw [Option.some.inj hj]
  · rw [if_neg e]
    rw [if_neg e] at hj
    exact h2 j y hj
/-- All numbers copied behind nothing; of none. -/
theorem copyI (g0 o0 n c : Nat) (X : List Int) (w : World) (ha : InL w (some ⟨g0, o0, none⟩) X) (hn : X.length = n) (hnb : n * 8 ≤ 140737488355328) :
    ∃ g2 c2 W2, (Builtin.append_ #[22, 22] 22 #[.slice (some ⟨w.heap.size, 0, none⟩) 0 0, .slice (some ⟨g0, o0, none⟩) n c]).run Try.prog (w.alloc (.cells #[] 3)) = .ok (.slice (some ⟨g2, 0, none⟩) n c2) W2 ∧
      W2.ownsRow w.heap.size 3 1 (.slice (some ⟨g2, 0, none⟩) n c2) n (ivI X) ∧ Below w.heap.size w W2 := by
  obtain ⟨i0, hi, hz0, hz1, hz2⟩ := info_parts inf_int
  have hal : Below w.heap.size w (w.alloc (.cells #[] 3)) := (Below.refl _ _).alloc (Nat.le_refl _) _
  have own0 : (w.alloc (.cells #[] 3)).ownsRow w.heap.size 3 1 (.slice (some ⟨w.heap.size, 0, none⟩) 0 0) 0 [] :=
    ⟨rfl, .inr ⟨w.heap.size, 0, #[], rfl, Nat.le_refl _, bk_new _ _ _, Nat.le_refl _, by unfold maxLen; omega, rfl, rfl⟩⟩
  obtain ⟨v', w7, hrun, hown, hgrow, hnil, hat⟩ := run_append_own_at (P := Try.prog) (w := w.alloc (.cells #[] 3)) w.heap.size 22 22 3 i0 (.int .i64 0) 1 8 Try.underlying22 hi hz0 hz1 hz2 rfl (by decide) (.slice (some ⟨w.heap.size, 0, none⟩) 0 0) 0 [] own0 ⟨g0, o0, none⟩ n c (ivI X) (by rw [ivI_len, hn, Nat.mul_one])
    (fun j u hu => by
      rw [ivI, List.getElem?_map] at hu
      cases hj : X[j]? with
      | none => rw [hj] at hu; cases hu
      | some x =>
        rw [hj] at hu
        have e : Value.int .i64 x = u := Option.some.inj hu
        obtain ⟨g, o, h1, h2, h3⟩ := ha j x hj
        injection h1 with h1
        injection h1 with h1 h4
        subst h1
        subst h4
        rw [WideShapes.add_plain, hal.cell h2, h3, e]) (ivI_one X) (by unfold maxLen; omega) (by omega) hal.size
  rw [Nat.zero_add, List.nil_append] at hown
  rcases hown.2 with ⟨e, _⟩ | ⟨g, cap, cur, e, _⟩
  · have := (hnil.1 e).1
    simp at this
  · subst e
    exact ⟨g, cap, w7, hrun, hown, hal.grown hgrow hal.size (fun b hb => by have e : w.heap.size = b := Option.some.inj hb; omega)⟩
theorem copyN (w : World) : (Builtin.append_ #[22, 22] 22 #[.slice (some ⟨w.heap.size, 0, none⟩) 0 0, .slice none 0 0]).run Try.prog (w.alloc (.cells #[] 3)) = .ok (.slice (some ⟨w.heap.size, 0, none⟩) 0 0) (w.alloc (.cells #[] 3)) ∧
    (w.alloc (.cells #[] 3)).ownsRow w.heap.size 3 1 (.slice (some ⟨w.heap.size, 0, none⟩) 0 0) 0 (ivI []) := by
  obtain ⟨i0, hi, hz0, hz1, hz2⟩ := info_parts inf_int
  have own0 : (w.alloc (.cells #[] 3)).ownsRow w.heap.size 3 1 (.slice (some ⟨w.heap.size, 0, none⟩) 0 0) 0 (ivI []) :=
    ⟨rfl, .inr ⟨w.heap.size, 0, #[], rfl, Nat.le_refl _, bk_new _ _ _, Nat.le_refl _, by unfold maxLen; omega, rfl, rfl⟩⟩
  exact ⟨run_append_owned_none _ w.heap.size _ _ _ i0 1 Try.underlying22 hi _ 0 _ own0, own0⟩
/-- One number more. -/
theorem oneI {B n g c : Nat} {X : List Int} {x : Int} {W : World} (h : W.ownsRow B 3 1 (.slice (some ⟨g, 0, none⟩) n c) n (ivI X)) (hB : B ≤ W.heap.size) (hnb : (n + 1) * 8 ≤ 140737488355328) :
    ∃ g2 c2 W2, (Builtin.append_ #[22, 22] 22 #[.slice (some ⟨g, 0, none⟩) n c, .slice (some ⟨W.heap.size, 0, none⟩) 1 1]).run Try.prog (W.alloc (.cells #[.int .i64 x] 3)) = .ok (.slice (some ⟨g2, 0, none⟩) (n + 1) c2) W2 ∧
      W2.ownsRow B 3 1 (.slice (some ⟨g2, 0, none⟩) (n + 1) c2) (n + 1) (ivI (X ++ [x])) ∧ Below B W W2 ∧ n + 1 ≤ c2 := by
  obtain ⟨i0, hi, hz0, hz1, hz2⟩ := info_parts inf_int
  obtain ⟨v', w7, hrun, hown, hgrow, _, hat⟩ := run_append_own_at (P := Try.prog) (w := W.alloc (.cells #[.int .i64 x] 3)) B 22 22 3 i0 (.int .i64 0) 1 8 Try.underlying22 hi hz0 hz1 hz2 rfl (by decide) (.slice (some ⟨g, 0, none⟩) n c) n (ivI X) (h.alloc _) ⟨W.heap.size, 0, none⟩ 1 1 [.int .i64 x] rfl (news_1 W _ _) (one_1 _) (by unfold maxLen; omega) (by omega) (by simp; omega)
  rcases hown.2 with ⟨_, h0⟩ | ⟨g2, cap, cur, e, _, _, hc, _⟩
  · omega
  · subst e
    have hgB : B ≤ g := (own_lt2 h rfl).2
    refine ⟨g2, cap, w7, hrun, ?_, ?_, hc⟩
    · have e2 : ivI (X ++ [x]) = ivI X ++ [.int .i64 x] := by simp [ivI]
      rw [e2]; exact hown
    · exact ((Below.refl _ _).alloc hB _).grown hgrow (by simp; omega) (fun b hb => by have e : g = b := Option.some.inj hb; omega)
theorem own_bkI {W : World} {B n g c : Nat} {X : List Int} (h : W.ownsRow B 3 1 (.slice (some ⟨g, 0, none⟩) n c) n (ivI X)) : BkI W g X ∧ B ≤ g := by
  rcases h.2 with ⟨e, _⟩ | ⟨g', cap, cur, e, h1, h2, _, _, _, h3⟩
  · cases e
  · have eg := congrArg Addr.block (Option.some.inj (Value.slice.inj e).1)
    simp only at eg
    subst eg
    refine ⟨⟨cur, h2, fun j y hy => ?_⟩, h1⟩
    have hq : (ivI X)[j]? = some (.int .i64 y) := by rw [ivI, List.getElem?_map, hy]; rfl
    rw [← h3, List.getElem?_take] at hq
    split at hq
    · rw [← Array.getElem?_toList]; exact hq
    · cases hq
/-- Lists in blocks of a kind. -/
def NdP (w : World) (a : Option Addr) (nodes : List (List Nat)) (P : Nat → Prop) : Prop := ∀ i ns, nodes[i]? = some ns → ∃ g o gk ok ck, a = some ⟨g, o, none⟩ ∧ g < w.heap.size ∧ P g ∧ w.cell? ⟨g, o + i, none⟩ = some (.slice (some ⟨gk, ok, none⟩) ns.length ck) ∧ gk < w.heap.size ∧ P gk ∧ ∀ j x, ns[j]? = some x → w.cell? ⟨gk, ok + j, none⟩ = some (.int .i64 ((x : Nat) : Int))
theorem NdP.nda {w : World} {a : Option Addr} {nodes : List (List Nat)} {P : Nat → Prop} (h : NdP w a nodes P) : NdA w a nodes := fun i ns hi => by
  obtain ⟨g, o, k, q, c, h1, h2, _, h3, h4, _, h5⟩ := h i ns hi
  exact ⟨g, o, k, q, c, h1, h2, h3, h4, h5⟩
theorem NdA.lt {w : World} {a : Option Addr} {nodes : List (List Nat)} (h : NdA w a nodes) : NdP w a nodes (fun k => k < w.heap.size) := fun i ns hi => by
  obtain ⟨g, o, k, q, c, h1, h2, h3, h4, h5⟩ := h i ns hi
  exact ⟨g, o, k, q, c, h1, h2, h2, h3, h4, h4, h5⟩
theorem NdP.below {w w' : World} {a : Option Addr} {nodes : List (List Nat)} {P : Nat → Prop} (h : NdP w a nodes P) (hb : Below w.heap.size w w') : NdP w' a nodes P := fun i ns hi => by
  obtain ⟨g, o, k, q, c, h1, h2, p1, h3, h4, p2, h5⟩ := h i ns hi
  exact ⟨g, o, k, q, c, h1, Nat.lt_of_lt_of_le h2 hb.size, p1, by rw [hb.cell h2]; exact h3, Nat.lt_of_lt_of_le h4 hb.size, p2, fun j x hx => by rw [hb.cell h4]; exact h5 j x hx⟩
theorem NdP.kept {w w' : World} {a : Option Addr} {nodes : List (List Nat)} {P : Nat → Prop} (h : NdP w a nodes P) (hs : w.heap.size ≤ w'.heap.size) (hf : ∀ k, k < w.heap.size → P k → w'.heap[k]? = w.heap[k]?) : NdP w' a nodes P := fun i ns hi => by
  obtain ⟨g, o, k, q, c, h1, h2, p1, h3, h4, p2, h5⟩ := h i ns hi
  exact ⟨g, o, k, q, c, h1, Nat.lt_of_lt_of_le h2 hs, p1, by rw [(cell_blk9 (j := o + i) (hf g h2 p1)).1]; exact h3, Nat.lt_of_lt_of_le h4 hs, p2, fun j x hx => by rw [(cell_blk9 (j := q + j) (hf k h4 p2)).1]; exact h5 j x hx⟩
theorem PkR.ndp {W : World} {B gn gk : Nat} {a : Option Addr} {nodes : List (List Nat)} (h : PkR W B a gn gk nodes) : NdP W a nodes (fun k => B ≤ k) := fun i ns hi => by
  have hl := (List.getElem?_eq_some_iff.1 hi).1
  have hne : nodes ≠ [] := fun e => by rw [e] at hl; simp at hl
  obtain ⟨K, k1, k2, k3⟩ := h.kd hne
  obtain ⟨b1, b2⟩ := h.bn hne
  refine ⟨gn, 0, gk, stt nodes i, ns.length, h.ad hne, b1.lt, b2, ?_, k1.lt, k3, fun j x hx => ?_⟩
  · rw [Nat.zero_add, b1.cell, ndc_get gk nodes nodes.length i hl, if_pos hl, ndv, kid_at hi]
  · rw [k1.cell]; exact k2 _ x (stt_get nodes i ns hi j x hx)
/-- What is spoilt: the lists behind it. -/
theorem TW.nda {w W0 W : World} {gn gk i : Nat} {nodes : List (List Nat)} (h : TW w W0 gk nodes i W) (hb : Bk W0 gn (ndc gk nodes nodes.length) 32) (hne : gn ≠ gk) : NdA W (some ⟨gn, i, none⟩) (nodes.drop i) := fun q ns hq => by
  rw [List.getElem?_drop] at hq
  have hl := (List.getElem?_eq_some_iff.1 hq).1
  obtain ⟨K, k1, k2, k3⟩ := h.kd
  have hlt := hb.lt
  have hbw : Bk W gn (ndc gk nodes nodes.length) 32 := by unfold Bk; rw [h.fr gn hlt hne]; exact hb
  refine ⟨gn, i, gk, stt nodes (i + q), ns.length, rfl, hbw.lt, ?_, k1.lt, fun j x hx => ?_⟩
  · rw [hbw.cell, ndc_get gk nodes nodes.length (i + q) hl, if_pos hl, ndv, kid_at hq]
  · rw [k1.cell]
    refine k3 _ x ?_ (stt_get nodes (i + q) ns hq j x hx)
    have hm : ∀ d, stt nodes i ≤ stt nodes (i + d) := fun d => by
      unfold stt
      have : nodes.take (i + d) = nodes.take i ++ (nodes.drop i).take d := List.take_add ..
      rw [this, List.flatten_append, List.length_append]
      omega
    have := hm q
    omega
/-- A piece of the kids, or a row of its own. -/
def Lq (W0 : World) (gk : Nat) (m : Nat) (v : Value) (W : World) : Prop :=
  (∃ p K, v = .slice (some ⟨gk, p, none⟩) m m ∧ Bk W gk K 3 ∧ p + m ≤ K.size) ∨ ∃ xs, W.ownsRow W0.heap.size 3 1 v m xs
theorem Lq.app {w W0 W : World} {gk i m : Nat} {nodes : List (List Nat)} {v : Value} {x : Int} (h : Lq W0 gk m v W) (ht : TW w W0 gk nodes i W) (hm : (m + 1) * 8 ≤ 140737488355328) :
    ∃ g2 c2 W2, (Builtin.append_ #[22, 22] 22 #[v, .slice (some ⟨W.heap.size, 0, none⟩) 1 1]).run Try.prog (W.alloc (.cells #[.int .i64 x] 3)) = .ok (.slice (some ⟨g2, 0, none⟩) (m + 1) c2) W2 ∧ Lq W0 gk (m + 1) (.slice (some ⟨g2, 0, none⟩) (m + 1) c2) W2 ∧ TW w W0 gk nodes i W2 := by
  obtain ⟨i0, hi, hz0, hz1, hz2⟩ := info_parts inf_int
  have hal : Below W.heap.size W (W.alloc (.cells #[.int .i64 x] 3)) := (Below.refl _ _).alloc (Nat.le_refl _) _
  have hsz := ht.sz
  rcases h with ⟨p, K, rfl, hK, hp⟩ | ⟨xs, ho⟩
  · have hK' := hK.below hal hK.lt
    obtain ⟨v', w7, hrun, hown, hgrow⟩ := run_append_arg_grows (P := Try.prog) (W.alloc (.cells #[.int .i64 x] 3)) 22 22 3 i0 (.int .i64 0) 1 8 Try.underlying22 hi hz0 hz1 hz2 rfl (by decide) ⟨gk, p, none⟩ m m ((K.toList.drop p).take m) (by rw [List.length_take, List.length_drop, Array.length_toList]; omega)
      (fun j u hu => by
        rw [WideShapes.add_plain, hK'.cell, ← Array.getElem?_toList]
        rw [List.getElem?_take] at hu
        split at hu
        · rw [List.getElem?_drop] at hu; exact hu
        · cases hu) ⟨W.heap.size, 0, none⟩ 1 1 [.int .i64 x] rfl (news_1 W _ _) (by omega) (by unfold maxLen; omega) (by omega)
    rcases hown.2 with ⟨_, h0⟩ | ⟨g2, cap, cur, e, h1, h2, h3, h4, h5, h6⟩
    · omega
    · subst e
      have hb : Below W.heap.size W w7 := hal.grown hgrow hal.size (fun b hb => by cases hb)
      exact ⟨g2, cap, w7, hrun, .inr ⟨_, hown.1, .inr ⟨g2, cap, cur, rfl, by simp at h1; omega, h2, h3, h4, h5, h6⟩⟩, ht.next hb⟩
  · obtain ⟨v', w7, hrun, hown, hgrow, _, hat⟩ := run_append_own_at (P := Try.prog) (w := W.alloc (.cells #[.int .i64 x] 3)) W0.heap.size 22 22 3 i0 (.int .i64 0) 1 8 Try.underlying22 hi hz0 hz1 hz2 rfl (by decide) v m xs (ho.alloc _) ⟨W.heap.size, 0, none⟩ 1 1 [.int .i64 x] rfl (news_1 W _ _) (one_1 _) (by unfold maxLen; omega) (by omega) (by simp; omega)
    rcases hown.2 with ⟨_, h0⟩ | ⟨g2, cap, cur, e, h1, h2, h3, h4, h5, h6⟩
    · omega
    · have hown' := hown
      subst e
      refine ⟨g2, cap, w7, hrun, .inr ⟨_, hown⟩, ?_⟩
      have h1 := ht.next hal
      cases hv : v.ownBlock with
      | none =>
        rw [hv] at hgrow
        exact h1.next ⟨hgrow.os, hgrow.tape, hgrow.output, hgrow.size, fun k hk => hgrow.block k hk (by simp)⟩
      | some b =>
        rw [hv] at hgrow
        exact h1.other hgrow (own_lt2 ho hv).2
end Go.Proofs.Ythfggejdeodinaa
