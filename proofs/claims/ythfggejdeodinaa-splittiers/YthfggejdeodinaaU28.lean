/- The document's Tiers: five rows that grow, and the nodes' rows, apart from one another. -/
import Derived.Test.YthfggejdeodinaaU18
import Derived.Test.YthfggejdeodinaaU27
import Derived.Test.YthfggejdeodinaaK27
import Derived.Test.YthfggejdeodinaaM16
namespace Go.Proofs.Ythfggejdeodinaa
open Go.RowKit
set_option linter.unusedSimpArgs false
set_option linter.unusedVariables false
def ApB (v u : Value) : Prop := v.ownBlock = none ∨ v.ownBlock ≠ u.ownBlock
theorem ApB.symm {v u : Value} (h : ApB v u) : ApB u v := by
  unfold ApB at *
  rcases h with h | h
  · cases hu : u.ownBlock with
    | none => exact .inl rfl
    | some b => right; rw [h]; simp
  · exact .inr (Ne.symm h)
/-- Rows of numbers of the call's own, apart from one another. -/
def Rws (W : World) (B : Nat) (rs : List (Value × List Nat)) : Prop := (∀ r ∈ rs, W.ownsRow B 3 1 r.1 r.2.length (inv r.2)) ∧ rs.Pairwise (fun r s => ApB r.1 s.1)
theorem Rws.perm {W : World} {B : Nat} {rs rs' : List (Value × List Nat)} (h : Rws W B rs) (hp : rs.Perm rs') : Rws W B rs' :=
  ⟨fun r hr => h.1 r (hp.mem_iff.2 hr), (hp.pairwise_iff (fun h => ApB.symm h)).1 h.2⟩
theorem Rws.tail {W : World} {B : Nat} {r : Value × List Nat} {rs : List (Value × List Nat)} (h : Rws W B (r :: rs)) : Rws W B rs := ⟨fun s hs => h.1 s (List.mem_cons_of_mem _ hs), (List.pairwise_cons.1 h.2).2⟩
theorem Rws.zero {W : World} {B : Nat} {rs : List (Value × List Nat)} (h : Rws W B rs) : Rws W B ((.slice none 0 0, []) :: rs) :=
  ⟨fun s hs => by
    rcases List.mem_cons.1 hs with rfl | hs
    · exact ⟨rfl, .inl ⟨rfl, rfl⟩⟩
    · exact h.1 s hs, List.pairwise_cons.2 ⟨fun _ _ => .inl rfl, h.2⟩⟩
theorem Rws.grown {W W' : World} {B : Nat} {rs : List (Value × List Nat)} {o : Option Nat} (h : Rws W B rs) (hg : W.grownBy W' o) (ho : ∀ r ∈ rs, ∀ b, o = some b → r.1.ownBlock ≠ some b) : Rws W' B rs :=
  ⟨fun r hr => own_grown (h.1 r hr) hg (ho r hr), h.2⟩
theorem Rws.next {W W' : World} {B : Nat} {rs : List (Value × List Nat)} (h : Rws W B rs) (hb : Below W.heap.size W W') : Rws W' B rs :=
  h.grown (o := none) ⟨hb.os, hb.tape, hb.output, hb.size, fun i hi _ => hb.block i hi⟩ (fun r _ b e => by cases e)
/-- The first grows. -/
theorem Rws.app {W : World} {B x : Nat} {v : Value} {l : List Nat} {rs : List (Value × List Nat)} (h : Rws W B ((v, l) :: rs)) (hB : B ≤ W.heap.size) (hn : l.length ≤ 8388608) :
    ∃ a c w7, (Builtin.append_ #[22, 22] 22 #[v, .slice (some ⟨W.heap.size, 0, none⟩) 1 1]).run Try.prog (W.alloc (.cells #[.int .i64 (x : Int)] 3)) = .ok (.slice a (l.length + 1) c) w7 ∧
      Rws w7 B ((.slice a (l.length + 1) c, l ++ [x]) :: rs) ∧ W.grownBy w7 v.ownBlock := by
  obtain ⟨a, c, w7, h1, h2, h3, h4⟩ := Gr.run W B l.length v l x (h.1 (v, l) (List.mem_cons_self ..)) hn hB
  have hp := List.pairwise_cons.1 h.2
  refine ⟨a, c, w7, h1, ⟨fun r hr => ?_, List.pairwise_cons.2 ⟨fun r hr => ?_, hp.2⟩⟩, h3⟩
  · rcases List.mem_cons.1 hr with rfl | hr
    · rw [List.length_append]; exact h2
    · refine own_grown (h.1 r (List.mem_cons_of_mem _ hr)) h3 (fun b hb e => ?_)
      rcases hp.1 r hr with q | q
      · rw [q] at hb; cases hb
      · exact q (by rw [hb, e])
  · show ApB _ _
    rcases h4 with e | ⟨b, e, hb⟩
    · unfold ApB; rw [e]; exact hp.1 r hr
    · refine .inr (fun q => ?_)
      rw [e] at q
      have := (own_lt2 (h.1 r (List.mem_cons_of_mem _ hr)) q.symm).1
      omega
theorem own_types {W : World} {B n m k k' : Nat} {e e' : TypeId} {v u : Value} {xs ys : List Value} (h : W.ownsRow B e k v n xs) (h' : W.ownsRow B e' k' u m ys) (he : e ≠ e') : ∀ b, v.ownBlock = some b → u.ownBlock ≠ some b := fun b hb hu => by
  rcases h.2 with ⟨rfl, _⟩ | ⟨g, cap, cur, rfl, _, h1, _⟩
  · cases hb
  · rcases h'.2 with ⟨rfl, _⟩ | ⟨g', cap', cur', rfl, _, h1', _⟩
    · cases hu
    · have e1 : g = b := Option.some.inj hb
      have e2 : g' = b := Option.some.inj hu
      rw [e1] at h1
      rw [e2, h1] at h1'
      injection h1' with h1'
      injection h1' with _ q
      exact he q
theorem ty_ne : 3 ≠ 22 := by decide
theorem inf_sli : (Try.prog.info? 22).map (fun i => (i.zero, i.size, i.bytes)) = some (some (.slice none 0 0), 1, 24) := by kernel_rfl
theorem bsI (x : Int) (w : World) : (Instr.buildSlice 22 1 #[(0, .int .i64 x)]).run Try.prog w = .ok (.slice (some ⟨w.heap.size, 0, none⟩) 1 1) (w.alloc (.cells #[.int .i64 x] 3)) := by kernel_rfl
theorem bsS (a : Option Addr) (n c : Nat) (w : World) : (Instr.buildSlice 23 1 #[(0, .slice a n c)]).run Try.prog w = .ok (.slice (some ⟨w.heap.size, 0, none⟩) 1 1) (w.alloc (.cells #[.slice a n c] 22)) := by kernel_rfl
theorem bs0I (w : World) : (Instr.buildSlice 22 0 #[]).run Try.prog w = .ok (.slice (some ⟨w.heap.size, 0, none⟩) 0 0) (w.alloc (.cells #[] 3)) := by kernel_rfl
/-- The document's state. -/
structure TS (w : World) (vl vn vx vg vo : Value) (lv ns xs gs : List Nat) (rows : List (Value × List Nat)) (W : World) : Prop where
  r : Rws W w.heap.size ((vl, lv) :: (vn, ns) :: (vx, xs) :: (vg, gs) :: rows)
  o : W.ownsRow w.heap.size 22 1 vo rows.length (rows.map Prod.fst)
  bel : Below w.heap.size w W
/-- A row of numbers grew: what is left of the rest. -/
theorem TS.kept {w W W' : World} {vl vn vx vg vo v : Value} {lv ns xs gs l : List Nat} {rows : List (Value × List Nat)} (h : TS w vl vn vx vg vo lv ns xs gs rows W) (hv : W.ownsRow w.heap.size 3 1 v l.length (inv l)) (hg : W.grownBy W' v.ownBlock) :
    W'.ownsRow w.heap.size 22 1 vo rows.length (rows.map Prod.fst) ∧ Below w.heap.size w W' :=
  ⟨own_grown h.o hg (fun b hb => own_types hv h.o ty_ne b hb), h.bel.grown hg h.bel.size (fun b hb => (own_lt2 hv hb).2)⟩
theorem TS.appG {w W : World} {x : Nat} {vl vn vx vg vo : Value} {lv ns xs gs : List Nat} {rows : List (Value × List Nat)} (h : TS w vl vn vx vg vo lv ns xs gs rows W) (hn : gs.length ≤ 8388608) :
    ∃ a c w7, (Builtin.append_ #[22, 22] 22 #[vg, .slice (some ⟨W.heap.size, 0, none⟩) 1 1]).run Try.prog (W.alloc (.cells #[.int .i64 (x : Int)] 3)) = .ok (.slice a (gs.length + 1) c) w7 ∧ TS w vl vn vx (.slice a (gs.length + 1) c) vo lv ns xs (gs ++ [x]) rows w7 := by
  have hp : ∀ (p : Value × List Nat), ((vl, lv) :: (vn, ns) :: (vx, xs) :: p :: rows).Perm (p :: (vl, lv) :: (vn, ns) :: (vx, xs) :: rows) := fun p => by
    have := (List.perm_middle (a := p) (l₁ := [(vl, lv), (vn, ns), (vx, xs)]) (l₂ := rows))
    simpa using this
  obtain ⟨a, c, w7, h1, h2, h3⟩ := (h.r.perm (hp _)).app (x := x) h.bel.size hn
  have hk := h.kept (h.r.1 (vg, gs) (by simp)) h3
  exact ⟨a, c, w7, h1, h2.perm (hp _).symm, hk.1, hk.2⟩
theorem TS.appX {w W : World} {x : Nat} {vl vn vx vg vo : Value} {lv ns xs gs : List Nat} {rows : List (Value × List Nat)} (h : TS w vl vn vx vg vo lv ns xs gs rows W) (hn : xs.length ≤ 8388608) :
    ∃ a c w7, (Builtin.append_ #[22, 22] 22 #[vx, .slice (some ⟨W.heap.size, 0, none⟩) 1 1]).run Try.prog (W.alloc (.cells #[.int .i64 (x : Int)] 3)) = .ok (.slice a (xs.length + 1) c) w7 ∧ TS w vl vn (.slice a (xs.length + 1) c) vg vo lv ns (xs ++ [x]) gs rows w7 := by
  have hp : ∀ (p : Value × List Nat), ((vl, lv) :: (vn, ns) :: p :: (vg, gs) :: rows).Perm (p :: (vl, lv) :: (vn, ns) :: (vg, gs) :: rows) := fun p => by
    have := (List.perm_middle (a := p) (l₁ := [(vl, lv), (vn, ns)]) (l₂ := (vg, gs) :: rows))
    simpa using this
  obtain ⟨a, c, w7, h1, h2, h3⟩ := (h.r.perm (hp _)).app (x := x) h.bel.size hn
  have hk := h.kept (h.r.1 (vx, xs) (by simp)) h3
  exact ⟨a, c, w7, h1, h2.perm (hp _).symm, hk.1, hk.2⟩
theorem TS.appN {w W : World} {x : Nat} {vl vn vx vg vo : Value} {lv ns xs gs : List Nat} {rows : List (Value × List Nat)} (h : TS w vl vn vx vg vo lv ns xs gs rows W) (hn : ns.length ≤ 8388608) :
    ∃ a c w7, (Builtin.append_ #[22, 22] 22 #[vn, .slice (some ⟨W.heap.size, 0, none⟩) 1 1]).run Try.prog (W.alloc (.cells #[.int .i64 (x : Int)] 3)) = .ok (.slice a (ns.length + 1) c) w7 ∧ TS w vl (.slice a (ns.length + 1) c) vx vg vo lv (ns ++ [x]) xs gs rows w7 := by
  have hp : ∀ (p : Value × List Nat), ((vl, lv) :: p :: (vx, xs) :: (vg, gs) :: rows).Perm (p :: (vl, lv) :: (vx, xs) :: (vg, gs) :: rows) := fun p => List.Perm.swap _ _ _
  obtain ⟨a, c, w7, h1, h2, h3⟩ := (h.r.perm (hp _)).app (x := x) h.bel.size hn
  have hk := h.kept (h.r.1 (vn, ns) (by simp)) h3
  exact ⟨a, c, w7, h1, h2.perm (hp _).symm, hk.1, hk.2⟩
theorem TS.appL {w W : World} {x : Nat} {vl vn vx vg vo : Value} {lv ns xs gs : List Nat} {rows : List (Value × List Nat)} (h : TS w vl vn vx vg vo lv ns xs gs rows W) (hn : lv.length ≤ 8388608) :
    ∃ a c w7, (Builtin.append_ #[22, 22] 22 #[vl, .slice (some ⟨W.heap.size, 0, none⟩) 1 1]).run Try.prog (W.alloc (.cells #[.int .i64 (x : Int)] 3)) = .ok (.slice a (lv.length + 1) c) w7 ∧ TS w (.slice a (lv.length + 1) c) vn vx vg vo (lv ++ [x]) ns xs gs rows w7 := by
  obtain ⟨a, c, w7, h1, h2, h3⟩ := h.r.app (x := x) h.bel.size hn
  have hk := h.kept (h.r.1 (vl, lv) (by simp)) h3
  exact ⟨a, c, w7, h1, h2, hk.1, hk.2⟩
/-- The group becomes a node; the group is nothing then. -/
theorem TS.appO {w W : World} {vl vn vx vg vo : Value} {lv ns xs gs : List Nat} {rows : List (Value × List Nat)} (h : TS w vl vn vx vg vo lv ns xs gs rows W) (hn : rows.length ≤ 4194304) :
    ∃ a c w7, (Builtin.append_ #[23, 23] 23 #[vo, .slice (some ⟨W.heap.size, 0, none⟩) 1 1]).run Try.prog (W.alloc (.cells #[vg] 22)) = .ok (.slice a (rows.length + 1) c) w7 ∧ TS w vl vn vx (.slice none 0 0) (.slice a (rows.length + 1) c) lv ns xs [] (rows ++ [(vg, gs)]) w7 := by
  obtain ⟨i0, hi, hz0, hz1, hz2⟩ := info_parts inf_sli
  have hone : vg.oneCell' = true := by
    obtain ⟨a, c, e⟩ := sl_of (h.r.1 (vg, gs) (by simp))
    have e' : vg = _ := e
    rw [e']; rfl
  obtain ⟨v', w7, hrun, hown, hgrow, _, hat⟩ := run_append_own_at (P := Try.prog) (w := W.alloc (.cells #[vg] 22)) w.heap.size 23 23 22 i0 (.slice none 0 0) 1 24 Try.underlying23 hi hz0 hz1 hz2 rfl (by decide) vo rows.length (rows.map Prod.fst) (h.o.alloc _) ⟨W.heap.size, 0, none⟩ 1 1 [vg] rfl (news_1 W _ _) (fun u hu => by rw [List.mem_singleton.1 hu]; exact hone) (by unfold maxLen; omega) (by omega) (by have := h.bel.size; simp; omega)
  obtain ⟨a, c, rfl⟩ := sl_of hown
  have hg : W.grownBy w7 vo.ownBlock := (World.grownBy_alloc W _ _).trans hgrow
  have hr := h.r.grown hg (fun r hr b hb e => own_types (h.r.1 r hr) h.o ty_ne b e hb)
  refine ⟨a, c, w7, hrun, ?_, ?_, h.bel.grown hg h.bel.size (fun b hb => (own_lt2 h.o hb).2)⟩
  · have hp : ((vl, lv) :: (vn, ns) :: (vx, xs) :: (vg, gs) :: rows).Perm ((vl, lv) :: (vn, ns) :: (vx, xs) :: (rows ++ [(vg, gs)])) := by
      refine .cons _ (.cons _ (.cons _ ?_))
      exact (List.perm_append_comm (l₁ := [(vg, gs)]) (l₂ := rows))
    have hq := (hr.perm hp).zero
    refine hq.perm ?_
    have := (List.perm_middle (a := ((.slice none 0 0, []) : Value × List Nat)) (l₁ := [(vl, lv), (vn, ns), (vx, xs)]) (l₂ := rows ++ [(vg, gs)]))
    exact this.symm
  · rw [List.length_append, List.map_append]
    exact hown
/-- The group is nothing. -/
theorem TS.noG {w W : World} {vl vn vx vg vo : Value} {lv ns xs gs : List Nat} {rows : List (Value × List Nat)} (h : TS w vl vn vx vg vo lv ns xs gs rows W) : TS w vl vn vx (.slice none 0 0) vo lv ns xs [] rows W := by
  have hp : ∀ (p : Value × List Nat), ((vl, lv) :: (vn, ns) :: (vx, xs) :: p :: rows).Perm (p :: (vl, lv) :: (vn, ns) :: (vx, xs) :: rows) := fun p => by
    have := (List.perm_middle (a := p) (l₁ := [(vl, lv), (vn, ns), (vx, xs)]) (l₂ := rows))
    simpa using this
  exact ⟨((h.r.perm (hp _)).tail.zero).perm (hp _).symm, h.o, h.bel⟩
/-- The next tier. -/
theorem TS.turn {w W : World} {vl vn vx vg vo : Value} {lv ns xs gs : List Nat} {rows : List (Value × List Nat)} (h : TS w vl vn vx vg vo lv ns xs gs rows W) : TS w vl vx (.slice none 0 0) (.slice none 0 0) vo lv xs [] [] rows W := by
  have h1 := h.noG
  have hp : ((vl, lv) :: (vn, ns) :: (vx, xs) :: (.slice none 0 0, []) :: rows).Perm ((vn, ns) :: (vl, lv) :: (vx, xs) :: (.slice none 0 0, []) :: rows) := List.Perm.swap _ _ _
  have h2 := (h1.r.perm hp).tail.zero
  refine ⟨h2.perm ?_, h.o, h.bel⟩
  have := (List.perm_middle (a := ((.slice none 0 0, []) : Value × List Nat)) (l₁ := [(vl, lv), (vx, xs)]) (l₂ := (.slice none 0 0, []) :: rows))
  exact this.symm
theorem TS.next {w W W' : World} {vl vn vx vg vo : Value} {lv ns xs gs : List Nat} {rows : List (Value × List Nat)} (h : TS w vl vn vx vg vo lv ns xs gs rows W) (hb : Below W.heap.size W W') : TS w vl vn vx vg vo lv ns xs gs rows W' :=
  ⟨h.r.next hb, own_grown (r := none) h.o ⟨hb.os, hb.tape, hb.output, hb.size, fun i hi _ => hb.block i hi⟩ (fun b e => by cases e), h.bel.trans (hb.mono h.bel.size)⟩
/-- A number of a row. -/
theorem Rws.get {W : World} {B : Nat} {rs : List (Value × List Nat)} (h : Rws W B rs) {v : Value} {l : List Nat} (hm : (v, l) ∈ rs) {i x : Nat} (hx : l[i]? = some x) : ∃ g c, v = .slice (some ⟨g, 0, none⟩) l.length c ∧ W.cell? ⟨g, i, none⟩ = some (.int .i64 (x : Int)) ∧ l.length ≤ c := by
  rcases (h.1 _ hm).2 with ⟨_, h0⟩ | ⟨g, cap, cur, h1, _, h2, h3, h4, h5, h6⟩
  · have h0' : l.length = 0 := h0
    have := (List.getElem?_eq_some_iff.1 hx).1; omega
  · refine ⟨g, cap, h1, ?_, h3⟩
    have hb : Bk W g cur 3 := h2
    rw [hb.cell, ← Array.getElem?_toList]
    have hl : (inv l)[i]? = some (.int .i64 (x : Int)) := by rw [inv, List.getElem?_map, hx]; rfl
    rw [← h6, List.getElem?_take] at hl
    split at hl
    · exact hl
    · cases hl
end Go.Proofs.Ythfggejdeodinaa
