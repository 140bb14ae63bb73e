/- Groups in memory; the walk of groups.joined. -/
import Derived.Test.YthfggejdeodinaaU4
import Derived.Test.YthfggejdeodinaaK23
import Derived.Test.YthfggejdeodinaaS0A
import Derived.Maps.AppendAt
import Derived.Deep.RegionLaw
import Derived.Deep.RegionHeld3
namespace Go.Proofs.Ythfggejdeodinaa
open Go.RowKit
set_option linter.unusedSimpArgs false
set_option linter.unusedVariables false
/-- Numbers as cells. -/
def inv (l : List Nat) : List Value := l.map fun x : Nat => Value.int .i64 (x : Int)
theorem inv_app (a b : List Nat) : inv (a ++ b) = inv a ++ inv b := by simp [inv]
theorem inv_len (a : List Nat) : (inv a).length = a.length := by simp [inv]
theorem inf_int : (Try.prog.info? 3).map (fun i => (i.zero, i.size, i.bytes)) = some (some (.int .i64 0), 1, 8) := by kernel_rfl
theorem news_1 (w : World) (p : Value) (T : TypeId) : ∀ (j : Nat) (u : Value), [p][j]? = some u → (w.alloc (.cells #[p] T)).cell? ((⟨w.heap.size, 0, none⟩ : Addr).add j) = some u := by
  intro j u h
  rw [WideShapes.add_plain, Nat.zero_add, World.cell?_alloc_new]
  simpa using h
theorem one_1 (a : Int) : ∀ u ∈ [Value.int .i64 a], u.oneCell' = true := by
  intro u hu
  simp at hu
  subst hu; rfl
/-- Where each node ends. -/
def ensU (nodes : List (List Nat)) : List Nat := (List.range nodes.length).map fun i => (nodes.take (i + 1)).flatten.length
theorem ens_len (l : List (List Nat)) : (ensU l).length = l.length := by simp [ensU]
theorem ens_app (l : List (List Nat)) (x : List Nat) : ensU (l ++ [x]) = ensU l ++ [(l ++ [x]).flatten.length] := by
  unfold ensU
  rw [List.length_append, List.length_singleton, List.range_succ, List.map_append, List.map_singleton]
  congr 1
  · apply List.map_congr_left
    intro i hi
    rw [List.mem_range] at hi
    rw [List.take_append_of_le_length (by omega)]
  · rw [List.take_of_length_le (by simp)]
/-- The groups made so far; ks are kids of one that is not yet shut. -/
structure Gr (w : World) (B gg n0 m : Nat) (nodes : List (List Nat)) (ks : List Nat) (vk ve : Value) : Prop where
  bk : Bk w gg #[.int .i64 (n0 : Int), .int .i64 (m : Int), vk, ve] 39
  ok : w.ownsRow B 3 1 vk (nodes.flatten ++ ks).length (inv (nodes.flatten ++ ks))
  oe : w.ownsRow B 3 1 ve nodes.length (inv (ensU nodes))
  ap : ∀ b, vk.ownBlock = some b → ve.ownBlock ≠ some b
  lo : B ≤ gg
theorem own_grown {w w' : World} {B n k : Nat} {e : TypeId} {v : Value} {xs : List Value} {r : Option Nat} (h : w.ownsRow B e k v n xs) (hg : w.grownBy w' r) (hr : ∀ b, r = some b → v.ownBlock ≠ some b) : w'.ownsRow B e k v n xs := by
  refine ⟨h.1, ?_⟩
  rcases h.2 with q | ⟨g, cap, cur, q1, q2, q3, q4⟩
  · exact .inl q
  · exact .inr ⟨g, cap, cur, q1, q2, Bk.grown (show Bk w g cur e from q3) hg (fun e => hr g e (by rw [q1]; rfl)), q4⟩
theorem own_lt2 {w : World} {B n k : Nat} {e : TypeId} {v : Value} {xs : List Value} (h : w.ownsRow B e k v n xs) {b : Nat} (hb : v.ownBlock = some b) : b < w.heap.size ∧ B ≤ b := by
  rcases h.2 with ⟨rfl, _⟩ | ⟨g, cap, cur, rfl, hle, hc, _⟩
  · cases hb
  · simp [Value.ownBlock] at hb; subst hb
    exact ⟨(Array.getElem?_eq_some_iff.1 hc).1, hle⟩
theorem Gr.next {w w' : World} {B gg n0 m : Nat} {nodes : List (List Nat)} {ks : List Nat} {vk ve : Value} (h : Gr w B gg n0 m nodes ks vk ve) (hb : Below w.heap.size w w') : Gr w' B gg n0 m nodes ks vk ve :=
  ⟨h.bk.below hb h.bk.lt, own_kp h.ok (ts := []) (by simp) (kp_below _ hb), own_kp h.oe (ts := []) (by simp) (kp_below _ hb), h.ap, h.lo⟩
theorem sl_of {w : World} {B n k : Nat} {e : TypeId} {v : Value} {xs : List Value} (h : w.ownsRow B e k v n xs) : ∃ a c, v = .slice a n c := by
  rcases h.2 with ⟨h1, h0⟩ | ⟨g, c, cur, h1, _⟩
  · exact ⟨none, 0, by rw [h1, h0]⟩
  · exact ⟨_, _, h1⟩
/-- A number put behind one of the two lists (place 2: the kids, 3: the ends). -/
theorem Gr.run (w : World) (B n : Nat) (v : Value) (l : List Nat) (x : Nat) (o : w.ownsRow B 3 1 v n (inv l)) (hn : n ≤ 8388608) (hB : B ≤ w.heap.size) :
    ∃ a c w7, (Builtin.append_ #[22, 22] 22 #[v, .slice (some ⟨w.heap.size, 0, none⟩) 1 1]).run Try.prog (w.alloc (.cells #[.int .i64 (x : Int)] 3)) = .ok (.slice a (n + 1) c) w7 ∧ w7.ownsRow B 3 1 (.slice a (n + 1) c) (n + 1) (inv (l ++ [x])) ∧ w.grownBy w7 v.ownBlock ∧ ((Value.slice a (n + 1) c).ownBlock = v.ownBlock ∨ ∃ b, (Value.slice a (n + 1) c).ownBlock = some b ∧ w.heap.size ≤ b) := by
  obtain ⟨i0, hi, hz0, hz1, hz2⟩ := info_parts inf_int
  obtain ⟨v', w7, hrun, hown, hgrow, _, hat⟩ := run_append_own_at (P := Try.prog) (w := w.alloc (.cells #[.int .i64 (x : Int)] 3)) B 22 22 3 i0 (.int .i64 0) 1 8 Try.underlying22 hi hz0 hz1 hz2 rfl (by decide) v n (inv l) (o.alloc _) ⟨w.heap.size, 0, none⟩ 1 1 [.int .i64 (x : Int)] rfl (news_1 w _ _) (one_1 _) (by unfold maxLen; omega) (by omega) (by simp; omega)
  obtain ⟨a, c, rfl⟩ := sl_of hown
  refine ⟨a, c, w7, hrun, by rw [inv_app]; exact hown, (World.grownBy_alloc w _ _).trans hgrow, hat.imp id (fun e => ⟨_, e, by simp⟩)⟩
/-- What a call leaves of the groups and of all else. -/
structure GdU (w : World) (B gg n0 m : Nat) (nodes : List (List Nat)) (ks : List Nat) (vk ve : Value) (w' : World) : Prop where
  gr : Gr w' B gg n0 m nodes ks vk ve
  kp : Kp [39, 3] w w'
  bel : Below B w w'
  sz : B ≤ w.heap.size
/-- A kid more. -/
theorem GdU.kid {w w1 w2 w7 : World} {B gg n0 m : Nat} {nodes : List (List Nat)} {ks : List Nat} {vk ve : Value} (h : GdU w B gg n0 m nodes ks vk ve w1) (hb : Below w1.heap.size w1 w2) {x n : Nat} {a : Option Addr} {c : Nat}
    (hn : (nodes.flatten ++ ks).length = n) (ho : w7.ownsRow B 3 1 (.slice a (n + 1) c) (n + 1) (inv ((nodes.flatten ++ ks) ++ [x]))) (hg : w2.grownBy w7 vk.ownBlock) (hat : (Value.slice a (n + 1) c).ownBlock = vk.ownBlock ∨ ∃ b, (Value.slice a (n + 1) c).ownBlock = some b ∧ w2.heap.size ≤ b) :
    Bk w7 gg #[.int .i64 (n0 : Int), .int .i64 (m : Int), vk, ve] 39 ∧ GdU w B gg n0 m nodes (ks ++ [x]) (.slice a (n + 1) c) ve (w7.setCell ⟨gg, 2, none⟩ (.slice a (n + 1) c)) := by
  have h2 := h.gr.next hb
  have hb2 : Bk w7 gg #[.int .i64 (n0 : Int), .int .i64 (m : Int), vk, ve] 39 := kp_own (ts := [3]) h2.ok (by decide) hg _ _ _ (by decide) h2.bk
  have hs := kp_set (ts := [39]) hb2 (by decide) 2 (.slice a (n + 1) c)
  have hB2 : Below B w w2 := h.bel.trans (hb.mono (Nat.le_trans h.sz h.bel.size))
  refine ⟨hb2, ⟨hb2.set 2 _, ?_, ?_, ?_, h.gr.lo⟩, ?_, ?_, h.sz⟩
  · rw [← List.append_assoc, List.length_append, hn]; exact own_kp ho (by decide) hs
  · exact own_kp (own_grown h2.oe hg (fun b e => h2.ap b e)) (by decide) hs
  · intro b hb
    rcases hat with e | ⟨b', e, hz⟩
    · rw [e] at hb; exact h2.ap b hb
    · rw [e] at hb; cases hb
      intro e2
      have := (own_lt2 h2.oe e2).1
      omega
  · exact ((h.kp.trans (kp_below _ hb)).trans (kp_own h2.ok (by decide) hg)).trans (hs.mono (by simp))
  · exact below_own (own_bel hB2 (Nat.le_trans h.sz hB2.size) h2.ok hg) (Nat.le_trans (Nat.le_trans h.sz hB2.size) hg.size) (Lib.grownBy_setB (World.grownBy.refl _ _) 2 _) h.gr.lo
/-- The group is shut. -/
theorem GdU.shut {w w1 w2 w7 : World} {B gg n0 m : Nat} {nodes : List (List Nat)} {ks : List Nat} {vk ve : Value} (h : GdU w B gg n0 m nodes ks vk ve w1) (hb : Below w1.heap.size w1 w2) {n : Nat} {a : Option Addr} {c : Nat}
    (hn : nodes.length = n) (ho : w7.ownsRow B 3 1 (.slice a (n + 1) c) (n + 1) (inv (ensU nodes ++ [(nodes.flatten ++ ks).length]))) (hg : w2.grownBy w7 ve.ownBlock) (hat : (Value.slice a (n + 1) c).ownBlock = ve.ownBlock ∨ ∃ b, (Value.slice a (n + 1) c).ownBlock = some b ∧ w2.heap.size ≤ b) :
    Bk w7 gg #[.int .i64 (n0 : Int), .int .i64 (m : Int), vk, ve] 39 ∧ GdU w B gg n0 m (nodes ++ [ks]) [] vk (.slice a (n + 1) c) (w7.setCell ⟨gg, 3, none⟩ (.slice a (n + 1) c)) := by
  have h2 := h.gr.next hb
  have hb2 : Bk w7 gg #[.int .i64 (n0 : Int), .int .i64 (m : Int), vk, ve] 39 := kp_own (ts := [3]) h2.oe (by decide) hg _ _ _ (by decide) h2.bk
  have hs := kp_set (ts := [39]) hb2 (by decide) 3 (.slice a (n + 1) c)
  have hB2 : Below B w w2 := h.bel.trans (hb.mono (Nat.le_trans h.sz h.bel.size))
  have hf : (nodes ++ [ks]).flatten = nodes.flatten ++ ks := by simp
  refine ⟨hb2, ⟨hb2.set 3 _, ?_, ?_, ?_, h.gr.lo⟩, ?_, ?_, h.sz⟩
  · rw [List.append_nil, hf]
    exact own_kp (own_grown h2.ok hg (fun b e e2 => h2.ap b e2 e)) (by decide) hs
  · rw [ens_app, List.length_append, hn, hf]; exact own_kp ho (by decide) hs
  · intro b hb
    rcases hat with e | ⟨b', e, hz⟩
    · rw [e]; exact h2.ap b hb
    · rw [e]; intro e2; cases e2
      have := (own_lt2 h2.ok hb).1
      omega
  · exact ((h.kp.trans (kp_below _ hb)).trans (kp_own h2.oe (by decide) hg)).trans (hs.mono (by simp))
  · exact below_own (own_bel hB2 (Nat.le_trans h.sz hB2.size) h2.oe hg) (Nat.le_trans (Nat.le_trans h.sz hB2.size) hg.size) (Lib.grownBy_setB (World.grownBy.refl _ _) 3 _) h.gr.lo
theorem inf_item : (Try.prog.info? 37).map (·.size) = some 2 := by kernel_rfl
/-- Items of a slice. -/
def ItL (w : World) (gi off : Nat) (l : List Itm) : Prop := ∀ j x, l[j]? = some x → w.cell? ⟨gi, off + j * 2, none⟩ = some (.int .i64 (x.1 : Int)) ∧ w.cell? ⟨gi, off + j * 2 + 1, none⟩ = some (.int .i64 (x.2 : Int))
theorem ItL.keep {w w' : World} {gi off : Nat} {l : List Itm} {I : Array Value} {T : TypeId} (h : ItL w gi off l) (b1 : Bk w gi I T) (b2 : Bk w' gi I T) : ItL w' gi off l := fun j x hx => by
  obtain ⟨h1, h2⟩ := h j x hx
  exact ⟨by rw [b2.cell, ← b1.cell]; exact h1, by rw [b2.cell, ← b1.cell]; exact h2⟩
end Go.Proofs.Ythfggejdeodinaa
