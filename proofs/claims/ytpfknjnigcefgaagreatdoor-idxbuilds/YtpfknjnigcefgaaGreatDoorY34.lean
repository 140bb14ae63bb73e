import Derived.Test.YtpfknjnigcefgaaGreatDoorY33
/- The document's own Build. -/
namespace Go.Proofs.YtpfknjnigcefgaaGreatDoor
open Go.RowKit
set_option linter.unusedSimpArgs false
set_option linter.unusedVariables false
def isI (v : Value) : Prop := ∃ n : Int, v = .int .i64 n
/-- The document's pack under way. -/
structure RbS (w0 : World) (m : Nat) (d : List Ob) (w : World) : Prop where
  st : St isI w m (d.map nmO)
  mlb : w0.heap.size ≤ m
  bel : Below w0.heap.size w0 w
theorem RbS.keep {w0 w w' : World} {m : Nat} {d : List Ob} (h : RbS w0 m d w) (hb : Below w.heap.size w w') : RbS w0 m d w' :=
  ⟨h.st.below hb, h.mlb, h.bel.trans (hb.mono h.bel.size)⟩
theorem zero_int11 (w : World) : (zeroValue 3).run Tryz.prog w = .ok (.int .i64 0) w := by kernel_rfl
theorem RbS.look {w0 w : World} {m : Nat} {d : List Ob} (h : RbS w0 m d w) (x : ByteArray) (hx : x.size = 32) : ∃ n : Int, (Instr.lookup 66 (.map (some m)) (.agg (idc x)) true).run Tryz.prog w = .ok (.tuple #[.int .i64 n, .bool (hasN d x)]) w := by
  obtain ⟨v, h1, n, rfl⟩ := h.st.look Tryz.underlying66 (zero_int11 _) ⟨0, rfl⟩ x hx
  rw [onL_nm] at h1
  exact ⟨n, h1⟩
theorem RbS.put {w0 w : World} {m : Nat} {d : List Ob} (h : RbS w0 m d w) (hn : d.length < 1048576) (o : Ob) (n : Int) :
    ∃ w', (Instr.mapUpdate 66 (.map (some m)) (.agg (idc (nmO o))) (.int .i64 n)).run Tryz.prog w = .ok () w' ∧ RbS w0 m (d ++ [o]) w' := by
  obtain ⟨w', h1, h2, h3⟩ := h.st.put Tryz.underlying66 (by rw [List.length_map]; exact hn) (nmO o) (nmO_size o) (.int .i64 n) ⟨n, rfl⟩
  exact ⟨w', h1, by rw [List.map_append]; exact h2, h.mlb, below_own h.bel h.bel.size h3 h.mlb⟩
theorem grownBy_setRow11 (w : World) (g : Nat) (cs : Array Value) : w.grownBy (w.setRow g cs) (some g) := by
  refine ⟨rfl, rfl, rfl, by simp [World.setRow], fun k hk hne => ?_⟩
  have : g ≠ k := fun e => hne (by rw [e])
  simp [World.setRow, Array.getElem?_modify, this]
theorem step_store_row {P : Program} {ops : Array Oper} {o : Oper} {a : Act} {w : World} {K : Act → World → Prop} {Q : Exit → Act → World → Prop} {E : Prop} (hgd : o.guard = none) (ty : TypeId) (x y : Operand) (ho : o.op = .store ty x y)
    (g : Nat) (cells : Array Value) (hx : a.eval x = .pointer (some ⟨g, 0, none⟩)) (hy : a.eval y = .agg cells) (t : TypeId) (old : Array Value) (hg : Bk w g old t) (hi : (P.info? ty).map (·.size) = some cells.size)
    (hold : old.size = cells.size) (h1 : cells.all (·.oneCell') = true) (h : ∀ w', Hid (Bk w' g cells t) → Hid (w.grownBy w' (some g)) → K (a.put o.dst undef) w') :
    if Region.wanted o (yielded ops a.tmps) = true then Oper.wp P o a w K Q else E := by
  have hw : Region.wanted o (yielded ops a.tmps) = true := by simp [Region.wanted, hgd]
  rw [if_pos hw]
  refine wp_store_row ty x y ho g cells hx hy t old hg hi hold h1 (h _ (setRow_heap _ _ _ _ _ _ hg) ?_)
  exact grownBy_setRow11 _ _ _
/-- The string so far. -/
def rbT (d : List Ob) : ByteArray := ⟨(mk4 ++ recL d).toArray⟩
theorem rbT_size (d : List Ob) : (rbT d).size = 4 + lenL d := by rw [← bl_length, show bl (rbT d) = mk4 ++ recL d from rfl, List.length_append, recL_length]; rfl
theorem rbT_snoc (d : List Ob) (o : Ob) : rbT d ++ recO o = rbT (d ++ [o]) := by
  apply bl_inj
  rw [bl_append, show bl (rbT d) = mk4 ++ recL d from rfl, show bl (rbT (d ++ [o])) = mk4 ++ recL (d ++ [o]) from rfl, recL_snoc, List.append_assoc]
end Go.Proofs.YtpfknjnigcefgaaGreatDoor
