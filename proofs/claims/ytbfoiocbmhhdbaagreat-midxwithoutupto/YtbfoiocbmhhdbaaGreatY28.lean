import Derived.Test.YtbfoiocbmhhdbaaGreatY25
import Derived.Test.YtbfoiocbmhhdbaaGreatY27
import Derived.Test.YtbfoiocbmhhdbaaGreatY4
import Derived.Laws.StructEq
/- MidxFound and MidxWithout: two lists of texts that grow; names; what the indexes of unlike packs are. -/
namespace Go.Proofs.YtbfoiocbmhhdbaaGreat
open Go.RowKit
set_option linter.unusedSimpArgs false
set_option linter.unusedVariables false
theorem append_txt {B : Nat} {w : World} {v : Value} {xs : List ByteArray} (h : w.ownsRow B 9 1 v xs.length (sv xs)) (hB : B ≤ w.heap.size) (a : Addr) (c : Nat) (ys : List ByteArray) (hy : ∀ (j : Nat) u, (sv ys)[j]? = some u → w.cell? (a.add j) = some u) (hn : xs.length + ys.length ≤ 4000000) (hz : ys ≠ []) :
    ∃ g cp w7, (Builtin.append_ #[23, 23] 23 #[v, .slice (some a) ys.length c]).run Tryz.prog w = .ok (.slice (some ⟨g, 0, none⟩) (xs.length + ys.length) cp) w7 ∧
      w7.ownsRow B 9 1 (.slice (some ⟨g, 0, none⟩) (xs.length + ys.length) cp) (xs ++ ys).length (sv (xs ++ ys)) ∧ w.grownBy w7 v.ownBlock ∧ (some g = v.ownBlock ∨ g = w.heap.size) := by
  obtain ⟨i0, hi, hz0, hz1, hz2⟩ := info_parts inf_str
  obtain ⟨v', w7, hrun, hown, hgrow, _, hat⟩ := run_append_own_at (P := Tryz.prog) (w := w) B 23 23 9 i0 (.string ⟨#[]⟩) 1 16 Tryz.underlying23 hi hz0 hz1 hz2 rfl (by decide) v xs.length (sv xs) h a ys.length c (sv ys) (by simp [sv]) hy (by
      intro u hu
      simp only [sv, List.mem_map] at hu
      obtain ⟨x, _, rfl⟩ := hu
      rfl) (by unfold maxLen; omega) (by omega) hB
  rw [← sv_append] at hown
  have hpos : 0 < ys.length := List.length_pos_iff.2 hz
  rcases hown.2 with ⟨_, h0⟩ | ⟨g7, c7, cur, h1, _⟩
  · omega
  · subst h1
    refine ⟨g7, c7, w7, hrun, by rw [List.length_append]; exact hown, hgrow, ?_⟩
    rcases hat with q | q
    · exact .inl (by rw [← q]; rfl)
    · exact .inr (by simpa [Value.ownBlock] using q)
theorem one_cells (w : World) (T : ByteArray) : ∀ (j : Nat) u, (sv [T])[j]? = some u → (w.alloc (.cells #[.string T] 9)).cell? ((⟨w.heap.size, 0, none⟩ : Addr).add j) = some u := by
  intro j u hu
  exact news_one w (.string T) 9 j u hu
theorem bs_str (w : World) (T : ByteArray) : (Instr.buildSlice 23 1 #[(0, .string T)]).run Tryz.prog w = .ok (.slice (some ⟨w.heap.size, 0, none⟩) 1 1) (w.alloc (.cells #[.string T] 9)) := by kernel_rfl
theorem bs_str0 (w : World) : (Instr.buildSlice 23 0 #[]).run Tryz.prog w = .ok (.slice (some ⟨w.heap.size, 0, none⟩) 0 0) (w.alloc (.cells #[] 9)) := by kernel_rfl
/-- Two lists of texts, apart. -/
structure TwT (w0 : World) (R S : List ByteArray) (v u : Value) (W : World) : Prop where
  t : W.ownsRow w0.heap.size 9 1 v R.length (sv R)
  r : W.ownsRow w0.heap.size 9 1 u S.length (sv S)
  ap : Apt v u ∧ Apt u v
  bel : Below w0.heap.size w0 W
theorem TwT.nil (w : World) : TwT w [] [] (.slice none 0 0) (.slice none 0 0) w := ⟨rows_none, rows_none, ⟨.inl rfl, .inl rfl⟩, Below.refl _ _⟩
theorem TwT.next {w0 W W' : World} {R S : List ByteArray} {v u : Value} (h : TwT w0 R S v u W) (hb : Below W.heap.size W W') : TwT w0 R S v u W' :=
  ⟨own_kept h.t hb, own_kept h.r hb, h.ap, h.bel.trans (hb.mono h.bel.size)⟩
theorem own_lt {B n : Nat} {w : World} {v : Value} {xs : List Value} {e : TypeId} {k : Nat} (ho : w.ownsRow B e k v n xs) {g : Nat} (hg : v.ownBlock = some g) : B ≤ g ∧ g < w.heap.size := rows_blk ho hg
theorem own_apart {B n : Nat} {w w' : World} {u v : Value} {xs : List Value} {e : TypeId} (h : w.ownsRow B e 1 u n xs) (hg : w.grownBy w' v.ownBlock) (ha : Apt u v) : w'.ownsRow B e 1 u n xs := by
  refine h.kept hg ?_
  rcases ha with q | q
  · exact .inl q
  · exact .inr q
theorem TwT.app {w0 W : World} {R S : List ByteArray} {v u : Value} (h : TwT w0 R S v u W) (T : ByteArray) (hn : R.length ≤ 1000) :
    ∃ g cp W', (Builtin.append_ #[23, 23] 23 #[v, .slice (some ⟨W.heap.size, 0, none⟩) 1 1]).run Tryz.prog (W.alloc (.cells #[.string T] 9)) = .ok (.slice (some ⟨g, 0, none⟩) (R.length + 1) cp) W' ∧
      TwT w0 (R ++ [T]) S (.slice (some ⟨g, 0, none⟩) (R.length + 1) cp) u W' := by
  have hz := h.bel.size
  have h0 : w0.heap.size ≤ (W.alloc (.cells #[.string T] 9)).heap.size := by rw [al_size]; omega
  obtain ⟨g, cp, w7, k1, k2, k3, k4⟩ := append_txt (h.t.alloc (.cells #[.string T] 9)) h0 ⟨W.heap.size, 0, none⟩ 1 [T] (one_cells W T) (by simp; omega) (by simp)
  refine ⟨g, cp, w7, k1, k2, own_apart (h.r.alloc _) k3 h.ap.2, ?_, ?_⟩
  · rcases k4 with q | q
    · have : (Value.slice (some ⟨g, 0, none⟩) (R.length + 1) cp).ownBlock = v.ownBlock := q
      unfold Apt
      rw [this]
      exact h.ap
    · unfold Apt
      cases hu : u.ownBlock with
      | none => exact ⟨.inr (by simp [Value.ownBlock]), .inl rfl⟩
      | some b =>
        have := (own_lt h.r hu).2
        rw [al_size] at q
        exact ⟨.inr (by simp [Value.ownBlock]; omega), .inr (by simp [Value.ownBlock]; omega)⟩
  · exact rows_bel (h.bel.alloc hz _) h0 (h.t.alloc _) (Nat.le_refl _) k3
theorem TwT.pre {w0 W : World} {R S : List ByteArray} {v u : Value} (h : TwT w0 R S v u W) (T : ByteArray) (hn : S.length ≤ 1000) :
    ∃ g cp W', (Builtin.append_ #[23, 23] 23 #[.slice (some ⟨W.heap.size, 0, none⟩) 1 1, u]).run Tryz.prog (W.alloc (.cells #[.string T] 9)) = .ok (.slice (some ⟨g, 0, none⟩) (S.length + 1) cp) W' ∧
      TwT w0 R (T :: S) v (.slice (some ⟨g, 0, none⟩) (S.length + 1) cp) W' := by
  have hz := h.bel.size
  have hb0 : Below w0.heap.size w0 (W.alloc (.cells #[.string T] 9)) := h.bel.alloc hz _
  have h0 : w0.heap.size ≤ (W.alloc (.cells #[.string T] 9)).heap.size := by rw [al_size]; omega
  have hown : (W.alloc (.cells #[.string T] 9)).ownsRow w0.heap.size 9 1 (.slice (some ⟨W.heap.size, 0, none⟩) 1 1) [T].length (sv [T]) :=
    ⟨rfl, .inr ⟨W.heap.size, 1, #[.string T], rfl, hz, bk_new _ _ _, Nat.le_refl _, by unfold maxLen; omega, rfl, rfl⟩⟩
  have hvl : ∀ b, v.ownBlock = some b → b < W.heap.size := fun b hb => (own_lt h.t hb).2
  have hapN : ∀ g cp k, (g = W.heap.size ∨ g = (W.alloc (.cells #[.string T] 9)).heap.size) → Apt v (.slice (some ⟨g, 0, none⟩) k cp) ∧ Apt (.slice (some ⟨g, 0, none⟩) k cp) v := fun g cp k hg => by
    unfold Apt
    rw [al_size] at hg
    cases hv : v.ownBlock with
    | none => exact ⟨.inl rfl, .inr (by simp [Value.ownBlock])⟩
    | some b =>
      have := hvl b hv
      exact ⟨.inr (by simp [Value.ownBlock]; omega), .inr (by simp [Value.ownBlock]; omega)⟩
  rcases h.r.2 with ⟨hu, hs0⟩ | ⟨gu, cap, cur, hu, hle, hg, hnc, _⟩
  · subst hu
    obtain rfl : S = [] := List.length_eq_zero_iff.1 hs0
    obtain ⟨i0, hi0, hz0, hz1, hz2⟩ := info_parts inf_str
    refine ⟨W.heap.size, 1, W.alloc (.cells #[.string T] 9), run_append_owned_none (w := W.alloc (.cells #[.string T] 9)) w0.heap.size _ _ _ i0 1 Tryz.underlying23 hi0 _ 1 (sv [T]) hown, h.t.alloc _, hown, hapN _ _ _ (.inl rfl), hb0⟩
  · have hS : S ≠ [] ∨ S = [] := by cases S <;> simp
    obtain ⟨a, c, e, htx, _⟩ := own_txl h.r
    rw [hu] at e
    simp only [Value.slice.injEq] at e
    obtain ⟨rfl, _, rfl⟩ := e
    have hcell : ∀ (j : Nat) x, (sv S)[j]? = some x → (W.alloc (.cells #[.string T] 9)).cell? ((⟨gu, 0, none⟩ : Addr).add j) = some x := by
      intro j x hx
      have hlt : gu < W.heap.size := (Array.getElem?_eq_some_iff.1 hg).1
      simp only [sv, List.getElem?_map, Option.map_eq_some_iff] at hx
      obtain ⟨s, hs, rfl⟩ := hx
      obtain ⟨b, o, e, h1, h2⟩ := htx j s hs
      simp only [Option.some.injEq, Addr.mk.injEq] at e
      obtain ⟨rfl, rfl, _⟩ := e
      rw [WideShapes.add_plain, ((Below.refl W.heap.size W).alloc (Nat.le_refl _) _).cell (p := ⟨gu, 0 + j, none⟩) h1]
      exact h2
    rcases hS with hS | rfl
    · obtain ⟨g, cp, w7, k1, k2, k3, k4⟩ := append_txt hown h0 ⟨gu, 0, none⟩ cap S hcell (by simp; omega) hS
      have hlen : [T].length + S.length = S.length + 1 := by simp; omega
      rw [hlen] at k1 k2
      refine ⟨g, cp, w7, by rw [hu]; exact k1, own_apart (h.t.alloc _) k3 (hapN W.heap.size 1 1 (.inl rfl)).1, k2, hapN _ _ _ ?_, rows_bel hb0 h0 hown (Nat.le_refl _) k3⟩
      rcases k4 with q | q
      · exact .inl (by simpa [Value.ownBlock] using q)
      · exact .inr q
    · obtain ⟨i0, hi, hz0, hz1, hz2⟩ := info_parts inf_str
      obtain ⟨v', w7, hrun, hown7, hgrow, _, hat⟩ := run_append_own_at (P := Tryz.prog) (w := W.alloc (.cells #[.string T] 9)) w0.heap.size 23 23 9 i0 (.string ⟨#[]⟩) 1 16 Tryz.underlying23 hi hz0 hz1 hz2 rfl (by decide) _ 1 (sv [T]) hown ⟨gu, 0, none⟩ 0 cap (sv []) (by rfl) hcell (by simp [sv]) (by unfold maxLen; omega) (by omega) h0
      rcases hown7.2 with ⟨_, h9⟩ | ⟨g7, c7, cur7, h1, _⟩
      · omega
      · subst h1
        have hs1 : sv [T] ++ sv [] = sv [T] := by simp [sv]
        rw [hs1] at hown7
        refine ⟨g7, c7, w7, by rw [hu]; exact hrun, own_apart (h.t.alloc _) hgrow (hapN W.heap.size 1 1 (.inl rfl)).1, hown7, hapN _ _ _ ?_, rows_bel hb0 h0 hown (Nat.le_refl _) hgrow⟩
        rcases hat with q | q
        · exact .inl (by simpa [Value.ownBlock] using q)
        · exact .inr (by simpa [Value.ownBlock] using q)
end Go.Proofs.YtbfoiocbmhhdbaaGreat
/- MidxFound and MidxWithout: names that grow; the indexes of unlike packs; the names that were found. -/
namespace Go.Proofs.YtbfoiocbmhhdbaaGreat
open Go.RowKit
set_option linter.unusedSimpArgs false
set_option linter.unusedVariables false
theorem append_txts {B : Nat} {w : World} {v : Value} {xs : List ByteArray} (h : w.ownsRow B 9 1 v xs.length (sv xs)) (hB : B ≤ w.heap.size) (a : Addr) (c : Nat) (ys : List ByteArray) (hy : ∀ (j : Nat) u, (sv ys)[j]? = some u → w.cell? (a.add j) = some u) (hn : xs.length + ys.length ≤ 4000000) :
    ∃ v' w7, (Builtin.append_ #[23, 23] 23 #[v, .slice (some a) ys.length c]).run Tryz.prog w = .ok v' w7 ∧ w7.ownsRow B 9 1 v' (xs ++ ys).length (sv (xs ++ ys)) ∧ w.grownBy w7 v.ownBlock := by
  obtain ⟨i0, hi, hz0, hz1, hz2⟩ := info_parts inf_str
  obtain ⟨v', w7, hrun, hown, hgrow, _, hat⟩ := run_append_own_at (P := Tryz.prog) (w := w) B 23 23 9 i0 (.string ⟨#[]⟩) 1 16 Tryz.underlying23 hi hz0 hz1 hz2 rfl (by decide) v xs.length (sv xs) h a ys.length c (sv ys) (by simp [sv]) hy (by
      intro u hu
      simp only [sv, List.mem_map] at hu
      obtain ⟨x, _, rfl⟩ := hu
      rfl) (by unfold maxLen; omega) (by omega) hB
  rw [← sv_append] at hown
  exact ⟨v', w7, hrun, by rw [List.length_append]; exact hown, hgrow⟩
/-- A list of names that grows. -/
structure NmT (w0 : World) (N : List ByteArray) (v : Value) (W : World) : Prop where
  ow : W.ownsRow w0.heap.size 9 1 v N.length (sv N)
  bel : Below w0.heap.size w0 W
theorem NmT.next {w0 W W' : World} {N : List ByteArray} {v : Value} (h : NmT w0 N v W) (hb : Below W.heap.size W W') : NmT w0 N v W' := ⟨own_kept h.ow hb, h.bel.trans (hb.mono h.bel.size)⟩
theorem NmT.app {w0 W : World} {N : List ByteArray} {v : Value} (h : NmT w0 N v W) (T : ByteArray) (hn : N.length ≤ 3000000) :
    ∃ g cp W', (Builtin.append_ #[23, 23] 23 #[v, .slice (some ⟨W.heap.size, 0, none⟩) 1 1]).run Tryz.prog (W.alloc (.cells #[.string T] 9)) = .ok (.slice (some ⟨g, 0, none⟩) (N.length + 1) cp) W' ∧
      NmT w0 (N ++ [T]) (.slice (some ⟨g, 0, none⟩) (N.length + 1) cp) W' := by
  have hz := h.bel.size
  have h0 : w0.heap.size ≤ (W.alloc (.cells #[.string T] 9)).heap.size := by rw [al_size]; omega
  obtain ⟨g, cp, w7, k1, k2, k3, k4⟩ := append_txt (h.ow.alloc (.cells #[.string T] 9)) h0 ⟨W.heap.size, 0, none⟩ 1 [T] (one_cells W T) (by simp; omega) (by simp)
  exact ⟨g, cp, w7, k1, k2, rows_bel (h.bel.alloc hz _) h0 (h.ow.alloc _) (Nat.le_refl _) k3⟩
theorem NmT.start (w : World) (a : Option Addr) (c : Nat) (qs : List ByteArray) (ht : TxL w a qs) (ha : a = none → qs = [] ∧ c = 0) (hn : qs.length ≤ 2000000) :
    ∃ v W', (Builtin.append_ #[23, 23] 23 #[.slice (some ⟨w.heap.size, 0, none⟩) 0 0, .slice a qs.length c]).run Tryz.prog (w.alloc (.cells #[] 9)) = .ok v W' ∧ NmT w qs v W' := by
  have hb0 : Below w.heap.size w (w.alloc (.cells #[] 9)) := (Below.refl _ _).alloc (Nat.le_refl _) _
  have h0 : w.heap.size ≤ (w.alloc (.cells #[] 9)).heap.size := by rw [al_size]; omega
  have hown : (w.alloc (.cells #[] 9)).ownsRow w.heap.size 9 1 (.slice (some ⟨w.heap.size, 0, none⟩) 0 0) ([] : List ByteArray).length (sv []) :=
    ⟨rfl, .inr ⟨w.heap.size, 0, #[], rfl, Nat.le_refl _, bk_new _ _ _, Nat.le_refl _, by unfold maxLen; omega, rfl, rfl⟩⟩
  cases a with
  | none =>
    obtain ⟨rfl, rfl⟩ := ha rfl
    obtain ⟨i0, hi0, hz0, hz1, hz2⟩ := info_parts inf_str
    exact ⟨_, _, run_append_owned_none (w := w.alloc (.cells #[] 9)) w.heap.size _ _ _ i0 1 Tryz.underlying23 hi0 _ 0 (sv []) hown, hown, hb0⟩
  | some p =>
    obtain ⟨v', w7, k1, k2, k3⟩ := append_txts hown h0 p c qs (fun j x hx => by
      simp only [sv, List.getElem?_map, Option.map_eq_some_iff] at hx
      obtain ⟨s, hs, rfl⟩ := hx
      obtain ⟨b, o, e, h1, h2⟩ := ht j s hs
      simp only [Option.some.injEq] at e
      subst e
      rw [WideShapes.add_plain, hb0.cell (p := ⟨b, o + j, none⟩) h1]
      exact h2) (by simp; omega)
    exact ⟨v', w7, k1, k2, rows_bel hb0 h0 hown (Nat.le_refl _) k3⟩
/-! Items that fit. -/
theorem fitS_mem {l : List Xe} {e x : Xe} (h : x ∈ fitS l e) : x ∈ l ∨ x = e := by
  unfold fitS at h
  split at h
  · rcases List.mem_append.1 h with k | k
    · exact .inl k
    · exact .inr (List.mem_singleton.1 k)
  · exact .inl h
theorem foldl_fit_mem : ∀ (m l : List Xe) {x : Xe}, x ∈ m.foldl fitS l → x ∈ l ∨ x ∈ m
  | [], l, x, h => .inl h
  | e :: m, l, x, h => by
    rcases foldl_fit_mem m (fitS l e) h with k | k
    · rcases fitS_mem k with j | j
      · exact .inl j
      · exact .inr (by rw [j]; exact List.mem_cons_self ..)
    · exact .inr (List.mem_cons_of_mem _ k)
theorem foldl_fit_len : ∀ (m l : List Xe), (m.foldl fitS l).length ≤ l.length + m.length
  | [], l => by simp
  | e :: m, l => by
    have h := foldl_fit_len m (fitS l e)
    have h2 : (fitS l e).length ≤ l.length + 1 := by unfold fitS; split <;> simp
    rw [List.foldl_cons, List.length_cons]
    omega
theorem fitX_len (L : List Xe) : (fitX L).length ≤ L.length := by
  have := foldl_fit_len (L.map xeF) []
  rw [List.length_map] at this
  simpa [fitX] using this
theorem fitX_mem {L : List Xe} {x : Xe} (h : x ∈ fitX L) : ∃ y ∈ L, x.id = idF y.id := by
  rcases foldl_fit_mem _ _ h with k | k
  · cases k
  · obtain ⟨y, hy, rfl⟩ := List.mem_map.1 k
    exact ⟨y, hy, rfl⟩
/-- The indexes of these packs. -/
structure IxU (us : List Pk) (R : List ByteArray) (xs : List (ByteArray × List Xe)) : Prop where
  ix : Ixs R xs
  nm : xs.map (·.1) = us.map (fun p => idF p.s)
  ln : (rwA xs).length ≤ (us.map (fun p => p.L.length)).sum
  sub : ∀ q ∈ xs, ∀ e ∈ q.2, ∃ p ∈ us, ∃ y ∈ p.L, e.id = idF y.id
theorem IxU.nil : IxU [] [] [] := ⟨Ixs.nil, rfl, Nat.le_refl _, fun q h => (by cases h)⟩
theorem IxU.snoc {us : List Pk} {R : List ByteArray} {xs : List (ByteArray × List Xe)} (h : IxU us R xs) {p : Pk} {T : ByteArray} (hT : InR p.s ⟨#[]⟩ p.L T) : ∃ M, IxU (us ++ [p]) (R ++ [T]) (xs ++ [(idF p.s, M)]) := by
  obtain ⟨M, m1, m2⟩ := hT.2 rfl
  have h1 := h.ln
  refine ⟨M, h.ix.snoc (q := (idF p.s, M)) m2, by rw [List.map_append, List.map_append, h.nm]; rfl, ?_, fun q hq e he => ?_⟩
  · have : (rwA (xs ++ [(idF p.s, M)])).length = (rwA xs).length + M.length := by simp [rwA]
    rw [this, m1.length_eq, List.map_append, List.sum_append]
    have := fitX_len p.L
    simp
    omega
  · rcases List.mem_append.1 hq with k | k
    · obtain ⟨p', a, b⟩ := h.sub q k e he
      exact ⟨p', List.mem_append_left _ a, b⟩
    · rw [List.mem_singleton] at k
      subst k
      obtain ⟨y, a, b⟩ := fitX_mem (m1.mem_iff.1 he)
      exact ⟨p, by simp, y, a, b⟩
theorem IxU.len {us : List Pk} {R : List ByteArray} {xs : List (ByteArray × List Xe)} (h : IxU us R xs) : xs.length = us.length ∧ R.length = us.length := by
  have := congrArg List.length h.nm
  rw [List.length_map, List.length_map] at this
  exact ⟨this, by rw [h.ix.len, this]⟩
theorem IxU.unl {us : List Pk} {R : List ByteArray} {xs : List (ByteArray × List Xe)} (h : IxU us R xs) (ha : us.Pairwise (fun a b => idF a.s ≠ idF b.s)) : Unl xs := by
  have h1 : (us.map (fun p => idF p.s)).Pairwise (· ≠ ·) := by rw [List.pairwise_map]; exact ha
  rw [← h.nm, List.pairwise_map] at h1
  exact h1
theorem Ixs.ok {R : List ByteArray} {xs : List (ByteArray × List Xe)} (h : Ixs R xs) : ∀ q ∈ xs, OkL q.2 := fun q hq => by
  obtain ⟨i, hi⟩ := List.getElem?_of_mem hq
  have hl : i < xs.length := (List.getElem?_eq_some_iff.1 hi).1
  obtain ⟨t, hr⟩ : ∃ t, R[i]? = some t := ⟨_, List.getElem?_eq_getElem (by rw [h.len]; exact hl)⟩
  exact (h.ix i _ q hr hi).2.1
theorem Ixs.rev {R : List ByteArray} {xs : List (ByteArray × List Xe)} (h : Ixs R xs) : Ixs R.reverse xs.reverse := by
  refine ⟨by simp [h.len], fun i t q ht hq => ?_⟩
  have hi : i < R.length := by
    have := (List.getElem?_eq_some_iff.1 ht).1
    simpa using this
  rw [List.getElem?_reverse hi] at ht
  rw [List.getElem?_reverse (by rw [← h.len]; exact hi), ← h.len] at hq
  exact h.ix _ t q ht hq
theorem Unl.rev {xs : List (ByteArray × List Xe)} (h : Unl xs) : Unl xs.reverse := by
  unfold Unl
  rw [List.pairwise_reverse]
  exact h.imp (fun {a b} q e => q e.symm)
theorem rwA_rev (xs : List (ByteArray × List Xe)) : (rwA xs.reverse).length = (rwA xs).length := by
  unfold rwA
  rw [List.length_flatMap, List.length_flatMap]
  exact ((List.reverse_perm xs).map _).sum_nat
theorem Mgd.rev {xs : List (ByteArray × List Xe)} {ps : List ByteArray} {l : List Mr} (h : Mgd xs.reverse ps l) : Mgd xs ps l :=
  ⟨fun p => (h.sums p).trans (by simp), h.pri, h.ri, fun r hr => by
    obtain ⟨q, a, b⟩ := h.src r hr
    exact ⟨q, List.mem_reverse.1 a, b⟩, fun q hq => h.all q (List.mem_reverse.2 hq)⟩
theorem Mgd.len {xs : List (ByteArray × List Xe)} (hu : Unl xs) {ps : List ByteArray} {l : List Mr} (h : Mgd xs ps l) : ps.length = xs.length := by
  have hn : (xs.map (·.1)).Nodup := by
    rw [List.Nodup, List.pairwise_map]
    exact hu
  have := (perm_of_mem h.pri.nodup hn (fun p => by rw [h.sums p]; simp [eq_comm])).length_eq
  rwa [List.length_map] at this
/-- The names found among these. -/
def FdN (xs : List (ByteArray × List Xe)) (N : List ByteArray) (d : List ByteArray) : Prop := ∀ x, x ∈ d ↔ (∃ n ∈ N, idF n = x) ∧ ¬ NoN xs x
theorem FdN.nil (xs : List (ByteArray × List Xe)) : FdN xs [] [] := fun x => by simp
theorem Bst.no_iff {xs : List (ByteArray × List Xe)} {x : ByteArray} {b : Option Mr} (h : Bst xs x b) : b = none ↔ NoN xs x := by
  cases h with
  | no h => exact ⟨fun _ => h, fun _ => rfl⟩
  | yes r h =>
    refine ⟨fun e => (by cases e), fun k => ?_⟩
    obtain ⟨q, h1, _, h3⟩ := h.src
    exact absurd h.id (k q h1 r.e h3)
theorem FdN.skip {xs : List (ByteArray × List Xe)} {N d : List ByteArray} (h : FdN xs N d) {n : ByteArray} (hb : Bst xs (idF n) none) : FdN xs (N ++ [n]) d := fun x => by
  have hn := hb.no_iff.1 rfl
  rw [h x]
  constructor
  · rintro ⟨⟨m, a, b⟩, c⟩
    exact ⟨⟨m, List.mem_append_left _ a, b⟩, c⟩
  · rintro ⟨⟨m, a, b⟩, c⟩
    rcases List.mem_append.1 a with k | k
    · exact ⟨⟨m, k, b⟩, c⟩
    · rw [List.mem_singleton] at k
      subst k
      rw [← b] at c
      exact absurd hn c
theorem FdN.add {xs : List (ByteArray × List Xe)} {N d : List ByteArray} (h : FdN xs N d) (hd : d.Pairwise (fun a b => id a ≠ id b)) {n : ByteArray} {r : Mr} (hb : Bst xs (idF n) (some r)) : FdN xs (N ++ [n]) (ptK id d (idF n)) := fun x => by
  have hn : ¬ NoN xs (idF n) := fun k => by cases hb.no_iff.2 k
  rw [ptK_iff hd, h x]
  constructor
  · rintro (k | ⟨⟨⟨m, a, b⟩, c⟩, _⟩)
    · rw [k]; exact ⟨⟨n, by simp, rfl⟩, hn⟩
    · exact ⟨⟨m, List.mem_append_left _ a, b⟩, c⟩
  · rintro ⟨⟨m, a, b⟩, c⟩
    by_cases e : x = idF n
    · exact .inl e
    · rcases List.mem_append.1 a with k | k
      · exact .inr ⟨⟨⟨m, k, b⟩, c⟩, e⟩
      · rw [List.mem_singleton] at k
        subst k
        exact absurd b.symm e
theorem FdN.count {us : List Pk} {R : List ByteArray} {xs : List (ByteArray × List Xe)} {ps : List ByteArray} {l : List Mr} {N d : List ByteArray} (h : FdN xs N d) (hd : d.Pairwise (fun a b => id a ≠ id b)) (hx : IxU us R xs) (hm : Mgd xs ps l)
    (hN : ∀ p ∈ us, ∀ y ∈ p.L, y.id ∈ N) : l.length = d.length := by
  refine mgd_count hm (hd.imp (fun {a b} q => q)) (fun x => ?_)
  rw [h x, mgd_names hm x]
  constructor
  · exact fun q => q.2
  · intro k
    refine ⟨?_, k⟩
    refine Classical.byContradiction fun hne => k (fun q hq e he hxe => hne ?_)
    obtain ⟨p, hp, y, hy, e2⟩ := hx.sub q hq e he
    exact ⟨y.id, hN p hp y hy, by rw [← e2]; exact hxe⟩
end Go.Proofs.YtbfoiocbmhhdbaaGreat
/- Two entries compared. -/
namespace Go.Proofs.YtbfoiocbmhhdbaaGreat
open Go.RowKit
set_option linter.unusedSimpArgs false
set_option linter.unusedVariables false
theorem eqItems_idsQ (d : Nat) (a b : ByteArray) (ha : a.size = 32) (hb : b.size = 32) (w : World) : ∀ is : List Nat, (∀ i ∈ is, i < 32) →
    (Op.eqItems (d + 1) 5 1 (idc a) (idc b) is).run Tryz.prog w = .ok (is.all fun i => (byl a).getD i 0 == (byl b).getD i 0) w
  | [], _ => by simp [Op.eqItems]
  | i :: is, h => by
    have hi : i < 32 := h i (List.mem_cons_self ..)
    have ih := eqItems_idsQ d a b ha hb w is (fun j hj => h j (List.mem_cons_of_mem _ hj))
    have e1 : (byl a).getD i 0 = a[i].toNat := by rw [List.getD, byl_getD a i (by omega)]; rfl
    have e2 : (byl b).getD i 0 = b[i].toNat := by rw [List.getD, byl_getD b i (by omega)]; rfl
    have e3 := run_equalIn_int (P := Tryz.prog) w d 5 .u8 .u8 (a[i].toNat : Int) (b[i].toNat : Int) Tryz.underlying5
    simp only [Op.eqItems, Sem.run_bind, Nat.mul_one, part_id a i (by omega), part_id b i (by omega), Result.andThen_ok, e3, List.all_cons, e1, e2]
    by_cases e : a[i].toNat = b[i].toNat
    · have e4 : ((a[i].toNat : Int) == (b[i].toNat : Int)) = true := by rw [e]; simp
      simp only [e4, Bool.not_true, Bool.false_eq_true, if_false, ih, e, beq_self_eq_true, Bool.true_and]
    · have e4 : ((a[i].toNat : Int) == (b[i].toNat : Int)) = false := by rw [beq_eq_false_iff_ne]; omega
      have e5 : (a[i].toNat == b[i].toNat) = false := by rw [beq_eq_false_iff_ne]; exact e
      simp only [e4, Bool.not_false, if_true, Sem.run_pure, e5, Bool.false_and]
theorem equalIn_idsQ (d : Nat) (a b : ByteArray) (ha : a.size = 32) (hb : b.size = 32) (w : World) : (Op.equalIn (d + 2) 48 (.agg (idc a)) (.agg (idc b))).run Tryz.prog w = .ok (decide (a = b)) w := by
  have hc : Tryz.prog.cellsOf 5 = 1 := by kernel_rfl
  obtain ⟨i0, hi⟩ := info_of_underlying Tryz.underlying5
  have hu : Tryz.prog.underlying 48 = some (.array 32 5) := Tryz.underlying48
  rw [run_equalIn_array w (d + 1) (idc a) (idc b) hu hi, hc, eqItems_idsQ d a b ha hb w _ (fun i hi => by simpa using hi), ids_all a b ha hb]
/-- Whether two entries are the same. -/
def xeQ (e f : Xe) : Bool := decide (e.id = f.id) && (((e.k.toNat : Int) == (f.k.toNat : Int)) && (((e.off : Int) == (f.off : Int)) && ((e.sz : Int) == (f.sz : Int))))
theorem xeQ_self (e : Xe) : xeQ e e = true := by simp [xeQ]
theorem xeQ_iff (e f : Xe) : xeQ e f = true ↔ e = f := by
  constructor
  · intro h
    simp only [xeQ, Bool.and_eq_true, decide_eq_true_eq, beq_iff_eq] at h
    obtain ⟨h1, h2, h3, h4⟩ := h
    obtain ⟨a, b, c, d⟩ := e
    obtain ⟨a', b', c', d'⟩ := f
    simp only at h1 h2 h3 h4
    subst h1
    have h2' : b = b' := UInt8.toNat.inj (by omega)
    subst h2'
    have h3' : c = c' := by omega
    have h4' : d = d' := by omega
    subst h3' h4'
    rfl
  · rintro rfl; exact xeQ_self e
theorem part_idQ (e : Xe) (h : e.id.size = 32) (w : World) : (part 48 (xeC e) 0).run Tryz.prog w = .ok (.agg (idc e.id)) w := by
  have ha : (isAgg 48).run Tryz.prog w = .ok true w := by kernel_rfl
  have hs : (sizeOf 48).run Tryz.prog w = .ok 32 w := by kernel_rfl
  have hx : (xeC e).extract 0 32 = idc e.id := by
    apply Array.ext'
    rw [Array.toList_extract, xeC]
    have hl : (idc e.id).toList.length = 32 := by rw [Array.length_toList, idc_size, h]
    simp only [List.extract_eq_take_drop, List.drop_zero, Nat.sub_zero]
    rw [List.take_append_of_le_length (by omega), List.take_of_length_le (by omega)]
  simp [part, ha, hs, hx]
theorem part_cellQ {t : TypeId} (C : Array Value) (j : Nat) (v : Value) (w : World) (ha : (isAgg t).run Tryz.prog w = .ok false w) (h : C[j]? = some v) : (part t C j).run Tryz.prog w = .ok v w := by
  simp [part, ha, h]
set_option maxRecDepth 100000 in
theorem equalIn_xe (e f : Xe) (he : e.id.size = 32) (hf : f.id.size = 32) (w : World) : (Op.equalIn 10000 50 (.agg (xeC e)) (.agg (xeC f))).run Tryz.prog w = .ok (xeQ e f) w := by
  have hu : Tryz.prog.underlying 50 = some (.struct (Tryz.prog.fieldsOf 50)) := by kernel_rfl
  have hst : Tryz.prog.stoodInHeld 50 = false := by kernel_rfl
  have hfs : (Tryz.prog.fieldsOf 50).toList.map (fun q => (q.name != "_", q.type, q.offset)) = [(true, 48, 0), (true, 5, 32), (true, 3, 33), (true, 3, 34)] := by kernel_rfl
  rw [run_equalIn_struct w 9999 50 (xeC e) (xeC f) hu hst]
  generalize (Tryz.prog.fieldsOf 50).toList = fs at hfs
  have hlen : fs.length = 4 := by have := congrArg List.length hfs; simpa using this
  match fs, hlen, hfs with
  | [f0, f1, f2, f3], _, hfs =>
    simp only [List.map_cons, List.map_nil, List.cons.injEq, Prod.mk.injEq, and_true, bne_iff_ne] at hfs
    obtain ⟨⟨n0, t0, o0⟩, ⟨n1, t1, o1⟩, ⟨n2, t2, o2⟩, n3, t3, o3⟩ := hfs
    obtain ⟨a1, a2, a3⟩ := xeC_at e he
    obtain ⟨b1, b2, b3⟩ := xeC_at f hf
    have u8a : (isAgg 5).run Tryz.prog w = .ok false w := by kernel_rfl
    have i64a : (isAgg 3).run Tryz.prog w = .ok false w := by kernel_rfl
    have q0 := equalIn_idsQ 9997 e.id f.id he hf w
    have q1 := run_equalIn_int (P := Tryz.prog) w 9998 5 .u8 .u8 (e.k.toNat : Int) (f.k.toNat : Int) Tryz.underlying5
    have q2 := run_equalIn_int (P := Tryz.prog) w 9998 3 .i64 .i64 (e.off : Int) (f.off : Int) Tryz.underlying3
    have q3 := run_equalIn_int (P := Tryz.prog) w 9998 3 .i64 .i64 (e.sz : Int) (f.sz : Int) Tryz.underlying3
    simp only [Op.eqFields, n0, n1, n2, n3, t0, t1, t2, t3, o0, o1, o2, o3, ne_eq, not_false_eq_true, if_true, Sem.run_bind, part_idQ e he, part_idQ f hf, part_cellQ _ _ _ w u8a a1, part_cellQ _ _ _ w u8a b1, part_cellQ _ _ _ w i64a a2, part_cellQ _ _ _ w i64a b2, part_cellQ _ _ _ w i64a a3, part_cellQ _ _ _ w i64a b3, Result.andThen_ok]
    rw [q0, Result.andThen_ok, xeQ]
    cases decide (e.id = f.id) with
    | false => rfl
    | true =>
      simp only [Bool.not_true, Bool.false_eq_true, if_false, Bool.true_and, Sem.run_bind, part_cellQ _ _ _ w u8a a1, part_cellQ _ _ _ w u8a b1, Result.andThen_ok, q1]
      cases ((e.k.toNat : Int) == (f.k.toNat : Int)) with
      | false => rfl
      | true =>
        simp only [Bool.not_true, Bool.false_eq_true, if_false, Bool.true_and, Sem.run_bind, part_cellQ _ _ _ w i64a a2, part_cellQ _ _ _ w i64a b2, Result.andThen_ok, q2]
        cases ((e.off : Int) == (f.off : Int)) with
        | false => rfl
        | true =>
          simp only [Bool.not_true, Bool.false_eq_true, if_false, Bool.true_and, Sem.run_bind, part_cellQ _ _ _ w i64a a3, part_cellQ _ _ _ w i64a b3, Result.andThen_ok, q3]
          cases ((e.sz : Int) == (f.sz : Int)) with
          | false => rfl
          | true => rfl
theorem neq_xe (e f : Xe) (he : e.id.size = 32) (hf : f.id.size = 32) (w : World) : (binOp .neq 50 (.agg (xeC e)) (.agg (xeC f))).run Tryz.prog w = .ok (.bool (!xeQ e f)) w := by
  rw [run_neq_struct, equalIn_xe e f he hf]; rfl
end Go.Proofs.YtbfoiocbmhhdbaaGreat
