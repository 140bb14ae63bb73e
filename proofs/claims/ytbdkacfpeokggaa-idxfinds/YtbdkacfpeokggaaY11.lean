import Derived.Test.YtbdkacfpeokggaaY10
/- IdxFinds: the entries turned about. -/
namespace Go.Proofs.Ytbdkacfpeokggaa
open Go.RowKit
set_option linter.unusedSimpArgs false
set_option linter.unusedVariables false
theorem xvs_append (a b : List Xe) : xvs (a ++ b) = xvs a ++ xvs b := by simp [xvs]
theorem bs_none (w : World) : (Instr.buildSlice 24 0 #[]).run Try.prog w = .ok (.slice (some ⟨w.heap.size, 0, none⟩) 0 0) (w.alloc (.cells #[] 38)) := by kernel_rfl
/-- The cells of some entries of a slice. -/
theorem XeL.cells {w : World} {g : Nat} {l m r : List Xe} (h : XeL w (some ⟨g, 0, none⟩) (l ++ (m ++ r))) : ∀ j u, (xvs m)[j]? = some u → w.cell? ((⟨g, l.length * 35, none⟩ : Addr).add j) = some u := by
  intro j u hu
  have hids : ∀ e ∈ m, e.id.size = 32 := fun e he => h.ids e (by simp [he])
  have hj : j < m.length * 35 := by rw [← xvs_len hids]; exact (List.getElem?_eq_some_iff.1 hu).1
  obtain ⟨e, he⟩ : ∃ e, m[j / 35]? = some e := ⟨_, List.getElem?_eq_getElem (by omega)⟩
  have hx := xvs_get hids he (j % 35) (by omega)
  rw [show j / 35 * 35 + j % 35 = j by omega, hu] at hx
  have hl : (l ++ (m ++ r))[l.length + j / 35]? = some e := by
    rw [List.getElem?_append_right (by omega), List.getElem?_append_left (by have := (List.getElem?_eq_some_iff.1 he).1; omega), show l.length + j / 35 - l.length = j / 35 by omega]; exact he
  obtain ⟨_, g', o', q1, q2, q3⟩ := h _ _ hl
  injection q1 with q1
  injection q1 with q4 q5 _
  subst q4
  subst q5
  have := q3 (j % 35) u hx.symm
  rw [WideShapes.add_plain]
  rw [show l.length * 35 + j = 0 + (l.length + j / 35) * 35 + j % 35 by omega]
  exact this
/-- The two appends. -/
theorem rot_run (W : World) (g n cp kk : Nat) (l : List Xe) (hx : XeL W (some ⟨g, 0, none⟩) l) (hl : l.length = n) (hk : kk ≤ n) (hn : n ≤ 65536) (c1 c2 : Nat) :
    ∃ a1 k1 w7 a8 k8 w8, (Builtin.append_ #[24, 24] 24 #[.slice (some ⟨W.heap.size, 0, none⟩) 0 0, .slice (some ⟨g, kk * 35, none⟩) (n - kk) c1]).run Try.prog (W.alloc (.cells #[] 38)) = .ok (.slice a1 (n - kk) k1) w7 ∧
      (Builtin.append_ #[24, 24] 24 #[.slice a1 (n - kk) k1, .slice (some ⟨g, 0, none⟩) kk c2]).run Try.prog w7 = .ok (.slice a8 n k8) w8 ∧
      XeL w8 a8 (l.drop kk ++ l.take kk) ∧ AdS a8 ∧ Below W.heap.size W w8 := by
  obtain ⟨i0, hi, hz0, hz1, hz2⟩ := info_parts inf_xe
  have hids := hx.ids
  have hsplit : l = l.take kk ++ (l.drop kk ++ []) := by rw [List.append_nil, List.take_append_drop]
  have htl : (l.take kk).length = kk := by rw [List.length_take, hl]; omega
  have hdl : (l.drop kk).length = n - kk := by rw [List.length_drop, hl]
  have hb0 : Below W.heap.size W (W.alloc (.cells #[] 38)) := (Below.refl _ _).alloc (Nat.le_refl _) _
  have hx0 := hx.below hb0
  have hown0 : (W.alloc (.cells #[] 38)).ownsRow W.heap.size 38 35 (.slice (some ⟨W.heap.size, 0, none⟩) 0 0) 0 [] := by
    refine ⟨rfl, .inr ⟨W.heap.size, 0, #[], rfl, Nat.le_refl _, bk_new W #[] 38, Nat.le_refl _, by unfold maxLen; omega, rfl, rfl⟩⟩
  have hc1 := hx0
  rw [hsplit] at hc1
  have hcell1 := hc1.cells
  rw [htl] at hcell1
  obtain ⟨v1, w7, hrun1, hown1, hg1, _, _⟩ := run_append_own_at (P := Try.prog) (w := W.alloc (.cells #[] 38)) W.heap.size 24 24 38 i0 (.agg z35X) 35 56 Try.underlying24 hi hz0 hz1 hz2 rfl (by decide) (.slice (some ⟨W.heap.size, 0, none⟩) 0 0) 0 [] hown0 ⟨g, kk * 35, none⟩ (n - kk) c1 (xvs (l.drop kk))
    (by rw [xvs_len (fun e he => hids e (List.mem_of_mem_drop he)), hdl]) hcell1 (xvs_one _) (by unfold maxLen; omega) (by omega) (by rw [al_size]; omega)
  rw [List.nil_append, Nat.zero_add] at hown1
  have hb7 : Below W.heap.size W w7 := rows_bel hb0 (by rw [al_size]; omega) hown0 (Nat.le_refl _) hg1
  have hx7 := hx.below hb7
  have hsplit2 : l = [] ++ (l.take kk ++ l.drop kk) := by rw [List.nil_append, List.take_append_drop]
  rw [hsplit2] at hx7
  have hcell2 := hx7.cells
  rw [List.length_nil, Nat.zero_mul] at hcell2
  obtain ⟨v2, w8, hrun2, hown2, hg2, _, _⟩ := run_append_own_at (P := Try.prog) (w := w7) W.heap.size 24 24 38 i0 (.agg z35X) 35 56 Try.underlying24 hi hz0 hz1 hz2 rfl (by decide) v1 (n - kk) (xvs (l.drop kk)) hown1 ⟨g, 0, none⟩ kk c2 (xvs (l.take kk))
    (by rw [xvs_len (fun e he => hids e (List.mem_of_mem_take he)), htl]) hcell2 (xvs_one _) (by unfold maxLen; omega) (by omega) hb7.size
  rw [← xvs_append, show n - kk + kk = n by omega] at hown2
  have hids2 : ∀ e ∈ l.drop kk ++ l.take kk, e.id.size = 32 := fun e he => by
    rcases List.mem_append.1 he with he | he
    · exact hids e (List.mem_of_mem_drop he)
    · exact hids e (List.mem_of_mem_take he)
  obtain ⟨a1, k1, hv1⟩ : ∃ a1 k1, v1 = .slice a1 (n - kk) k1 := by
    rcases hown1.2 with ⟨h1, h0⟩ | ⟨q1, q2, q3, h1, _⟩
    · exact ⟨none, 0, by rw [h1, h0]⟩
    · exact ⟨_, _, h1⟩
  obtain ⟨a8, k8, hv2, hX8, _, hA8⟩ := own_xel hown2 (by rw [List.length_append, hdl, htl]; omega) hids2
  subst hv1
  subst hv2
  exact ⟨a1, k1, w7, a8, k8, w8, hrun1, hrun2, hX8, (by rcases hA8 with ⟨q, _⟩ | ⟨q, q5, _⟩; exact .inl q; exact .inr ⟨q, 0, q5⟩), rows_bel hb7 hb7.size hown1 (Nat.le_refl _) hg2⟩
theorem rot_perm (l : List Xe) (kk : Nat) : (l.drop kk ++ l.take kk).Perm l := by
  have := List.perm_append_comm (l₁ := l.drop kk) (l₂ := l.take kk)
  rwa [List.take_append_drop] at this
theorem step_call13 {P : Program} {ops : Array Oper} {o : Oper} {a : Act} {w : World} {K : Act → World → Prop} {Q : Exit → Act → World → Prop} {E : Prop} (hgd : o.guard = none) (f : FuncId) (args : Array Value) (v : Value) (R : World → Prop)
    (he : (execOp a.eval o).run P w = .ok (.enter f args) w) (hc : Calls P f args w (fun e w' => e = .returned v ∧ R w')) (h : ∀ w', R w' → K (a.put o.dst v) w') :
    if Region.wanted o (yielded ops a.tmps) = true then Oper.wp P o a w K Q else E := by
  have hw : Region.wanted o (yielded ops a.tmps) = true := by simp [Region.wanted, hgd]
  rw [if_pos hw]
  unfold Oper.wp
  rw [he]
  refine hc.mono ?_
  rintro e w' ⟨rfl, hr⟩
  exact h w' hr
end Go.Proofs.Ytbdkacfpeokggaa
