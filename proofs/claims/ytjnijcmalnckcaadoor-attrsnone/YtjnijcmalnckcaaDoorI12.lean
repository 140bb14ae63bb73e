/- attrs.ReadStream. -/
import Derived.Test.YtjnijcmalnckcaaDoorI11
import Derived.Laws.MakeOwn
namespace Go.Proofs.YtjnijcmalnckcaaDoor
open Go.RowKit
set_option linter.unusedSimpArgs false
set_option linter.unusedVariables false
/-- Attributes as cells, with the values of their lists. -/
def acl (p : At × Value) : List Value := [.int .u8 (p.1.nd : Int), .int .u32 (p.1.md : Int), .int .u32 (p.1.ui : Int), .int .u32 (p.1.gi : Int), .int .i64 p.1.mt, .string p.1.tg, p.2]
def atv (P : List (At × Value)) : List Value := P.flatMap acl
theorem atv_app (a b : List (At × Value)) : atv (a ++ b) = atv a ++ atv b := by simp [atv]
theorem atv_one (p : At × Value) : atv [p] = acl p := by simp [atv]
theorem atv_len : ∀ a : List (At × Value), (atv a).length = a.length * 7
  | [] => rfl
  | p :: r => by
    have : atv (p :: r) = acl p ++ atv r := rfl
    rw [this, List.length_append, atv_len r]; simp [acl]; omega
theorem atv_get : ∀ (P : List (At × Value)) (i : Nat) (p : At × Value), P[i]? = some p → ∀ j, j < 7 → (atv P)[i * 7 + j]? = (acl p)[j]?
  | [], i, p, h, j, hj => by simp at h
  | q :: r, 0, p, h, j, hj => by
    simp at h
    subst h
    have : atv (q :: r) = acl q ++ atv r := rfl
    rw [this, Nat.zero_mul, Nat.zero_add, List.getElem?_append_left (by simp [acl]; exact hj)]
  | q :: r, i + 1, p, h, j, hj => by
    have e : atv (q :: r) = acl q ++ atv r := rfl
    have hl : (acl q).length = 7 := rfl
    have ih := atv_get r i p (by simpa using h) j hj
    rw [e, List.getElem?_append_right (by omega), hl, show (i + 1) * 7 + j - 7 = i * 7 + j from by omega]
    exact ih
theorem inf_attr3 : (Tryd.prog.info? 28).map (fun i => (i.zero, i.size, i.bytes)) = some (some (.agg z7), 7, 64) := by kernel_rfl
theorem news_list (w : World) (C : Array Value) (T : TypeId) : ∀ (j : Nat) (u : Value), C.toList[j]? = some u → (w.alloc (.cells C T)).cell? ((⟨w.heap.size, 0, none⟩ : Addr).add j) = some u := by
  intro j u h
  rw [WideShapes.add_plain, Nat.zero_add, World.cell?_alloc_new]
  simpa using h
theorem one_acl (nd md ui gi : Nat) (mt : Int) (tg : ByteArray) (o : Option Addr) (n c : Nat) : ∀ u ∈ (c7 nd md ui gi mt tg (.slice o n c)).toList, u.oneCell' = true := by
  intro u hu
  simp at hu
  rcases hu with rfl | rfl | rfl | rfl | rfl | rfl | rfl <;> rfl
/-- Rows of another type stay where a row grows. -/
theorem own_ty {w w' : World} {B B' n k m k' : Nat} {e e' : TypeId} {x v : Value} {xs ys : List Value} (h : w.ownsRow B e k x n xs) (hv : w.ownsRow B' e' k' v m ys) (he : e ≠ e') (hg : w.grownBy w' v.ownBlock) : w'.ownsRow B e k x n xs := by
  refine ⟨h.1, ?_⟩
  rcases h.2 with h1 | ⟨g, cap, cur, h1, h2, hc, h3⟩
  · exact .inl h1
  · refine .inr ⟨g, cap, cur, h1, h2, ?_, h3⟩
    rw [hg.block g (Array.getElem?_eq_some_iff.1 hc).1 ?_]
    · exact hc
    · intro e2
      rcases hv.2 with ⟨rfl, _⟩ | ⟨g', cap', cur', rfl, _, hc', _⟩
      · cases e2
      · simp [Value.ownBlock] at e2
        subst e2
        rw [hc] at hc'
        cases hc'
        exact he rfl
/-- The lists of these lie in rows of the call's own. -/
def XrO (w : World) (B : Nat) (P : List (At × Value)) : Prop := ∀ p ∈ P, AtOk p.1 ∧ w.ownsRow B 57 2 p.2 p.1.xs.length (xav p.1.xs) ∧ ∀ x ∈ p.1.xs, x.1.size ≤ 255 ∧ x.2.size ≤ 4096
theorem XrO.keep {w w' : World} {B : Nat} {P : List (At × Value)} (h : XrO w B P) (hk : ∀ g, B ≤ g → g < w.heap.size → w'.heap[g]? = w.heap[g]?) : XrO w' B P := fun p hp => ⟨(h p hp).1, rows_keep (h p hp).2.1 hk, (h p hp).2.2⟩
theorem XrO.grow {w w' : World} {B B' m : Nat} {P : List (At × Value)} {v : Value} {ys : List Value} (h : XrO w B P) (hv : w.ownsRow B' 28 7 v m ys) (hg : w.grownBy w' v.ownBlock) : XrO w' B P := fun p hp => ⟨(h p hp).1, own_ty (h p hp).2.1 hv (by decide) hg, (h p hp).2.2⟩
/-- Where the attributes of a row of the call's own lie. -/
theorem own_atl {w : World} {B n : Nat} {e : TypeId} {v : Value} {P : List (At × Value)} (h : w.ownsRow B e 7 v n (atv P)) (hn : P.length = n) (hx : XrO w B P) : ∃ a c, v = .slice a n c ∧ AtL w a (P.map Prod.fst) := by
  rcases h.2 with ⟨rfl, h0⟩ | ⟨g, cap, cur, rfl, hle, hg, hnc, _, hc, ht⟩
  · subst h0
    have : P = [] := List.eq_nil_of_length_eq_zero hn
    subst this
    exact ⟨none, 0, rfl, fun i x hx => by simp at hx⟩
  · refine ⟨some ⟨g, 0, none⟩, cap, rfl, fun i a ha => ?_⟩
    rw [List.getElem?_map] at ha
    obtain ⟨p, hp, rfl⟩ := Option.map_eq_some_iff.1 ha
    obtain ⟨h1, h2, h3⟩ := hx p (List.mem_of_getElem? hp)
    obtain ⟨ad, c, hv, hX⟩ := own_xal h2 rfl (fun x hx => by have := h3 x hx; omega)
    have hb : Bk w g cur e := hg
    have hl : i < P.length := (List.getElem?_eq_some_iff.1 hp).1
    have q : ∀ j, j < 7 → w.cell? ⟨g, 0 + i * 7 + j, none⟩ = (acl p)[j]? := fun j hj => by
      have := atv_get P i p hp j hj
      rw [← ht, List.getElem?_take, if_pos (by omega), Array.getElem?_toList] at this
      rw [hb.cell, Nat.zero_add]
      exact this
    have q0 := q 0 (by omega)
    rw [Nat.add_zero] at q0
    refine ⟨h1, g, 0, ad, c, rfl, (Array.getElem?_eq_some_iff.1 hg).1, q0, q 1 (by omega), q 2 (by omega), q 3 (by omega), q 4 (by omega), q 5 (by omega), ?_, hX⟩
    rw [q 6 (by omega), ← hv]; rfl
/-- What ReadStream tells. -/
def SrS (S : ByteArray) (l : List At) (e : Int) : Prop := (e = 0 ∧ stB l = true ∧ stL l = bl S) ∨ (e = 4 ∧ l = [] ∧ ∀ l', GdL l' → stL l' ≠ bl S)
theorem Prl.fin {S : ByteArray} {n : Nat} {ls : List At} {s : ByteArray} {u : Bool} (hy : ls.length = n) (hn : n ≤ 257) (hok : ∀ a ∈ ls, okA a = true) (h : Prl S (e8 n ++ stF ls) (fun l => stF (l.drop n)) (fun l => l.length = n ∧ l.take n = ls) s u) :
    ((n ≠ 0 ∧ u = false ∧ s.size = 0) → SrS S ls 0) ∧ (¬ (n ≠ 0 ∧ u = false ∧ s.size = 0) → SrS S [] 4) := by
  constructor
  · rintro ⟨h0, h1, h2⟩
    refine .inl ⟨rfl, ?_, ?_⟩
    · unfold stB
      rw [decide_eq_true (by omega), Bool.true_and, List.all_eq_true]
      exact hok
    · have h4 := h.yes h1
      have h5 : bl s = [] := List.eq_nil_of_length_eq_zero (by rw [bl_length]; exact h2)
      rw [h5, List.append_nil] at h4
      rw [h4, stL, hy]
  · intro hno
    refine .inr ⟨rfl, rfl, fun l hl he => hno ?_⟩
    obtain ⟨q1, ⟨q2, q3⟩, q4⟩ := h.no l hl he
    have := hl.len
    rw [List.drop_eq_nil_of_le (by omega)] at q4
    exact ⟨by omega, q1, by rw [← bl_length, q4]; rfl⟩
theorem make_at (n : Nat) (hn : n ≤ 257) (B : Nat) (w : World) (hB : B ≤ w.heap.size) : ∃ w', (Instr.makeSlice 48 (.int .i64 0) (.int .u64 (n : Int))).run Tryd.prog w = .ok (.slice (some ⟨w.heap.size, 0, none⟩) 0 n) w' ∧
    w'.ownsRow B 28 7 (.slice (some ⟨w.heap.size, 0, none⟩) 0 n) 0 [] ∧ w.grownBy w' none := by
  obtain ⟨i0, hi, hz0, hz1, hz2⟩ := info_parts inf_attr3
  exact run_makeSlice_owned w B 48 28 i0 (.agg z7) 7 Tryd.underlying48 hi hz0 hz1 .i64 .u64 n (by omega) (by rw [hz2]; omega) (by unfold maxLen; omega) hB
theorem TS.start10 (w0 : World) (S : ByteArray) : TS (w0.heap.size + 1) w0.heap.size S false ((w0.alloc (.cells #[.string S] 108)).alloc (.cells #[.pointer (some ⟨w0.heap.size, 0, none⟩), .bool false] 78)) := by
  have b1 := (bk_new w0 #[.string S] 108).alloc (.cells #[.pointer (some ⟨w0.heap.size, 0, none⟩), .bool false] 78)
  have b2 := bk_new (w0.alloc (.cells #[.string S] 108)) #[.pointer (some ⟨w0.heap.size, 0, none⟩), .bool false] 78
  rw [al_size] at b2
  exact ⟨b2, by rw [b1.cell]; rfl, b1.frozen 0, b1.lt, by omega⟩
set_option maxHeartbeats 16000000 in
set_option maxRecDepth 100000 in
theorem readst (S : ByteArray) (w : World) (hs : S.size ≤ 140737488351232) (hT : U8 w) :
    Calls Tryd.prog 23 #[.string S] w fun e w' => ∃ (P : List (At × Value)) (v : Value) (er : Int), e = .returned (.tuple #[v, .int .i64 er]) ∧ SrS S (P.map Prod.fst) er ∧ w'.ownsRow w.heap.size 28 7 v P.length (atv P) ∧ XrO w' w.heap.size P ∧ P.length ≤ 257 ∧ Below w.heap.size w w' := by
  have HT : Hid (U8 w) := hT
  have T0 : Hid (TS (w.heap.size + 1) w.heap.size S false ((w.alloc (.cells #[.string S] 108)).alloc (.cells #[.pointer (some ⟨w.heap.size, 0, none⟩), .bool false] 78))) := TS.start10 w S
  have B0 : Hid (Below w.heap.size w ((w.alloc (.cells #[.string S] 108)).alloc (.cells #[.pointer (some ⟨w.heap.size, 0, none⟩), .bool false] 78))) := ((Below.refl _ w).alloc (Nat.le_refl _) _).alloc (by simp) _
  clear hT
  go_enter Tryd.func23, Tryd.ntmps23
  go_wp2_with fail
  refine (new_any S _).mono ?_
  rintro e w1 ⟨rfl, hw1⟩
  rw [hw1]
  clear hw1
  go_wp2_with fail
  refine (number_any (w.heap.size + 1) w.heap.size S false 257 _ T0.out hs (by omega)).mono ?_
  rintro e w2 ⟨n, s2, u2, rfl, ht, hk, hN⟩
  have hb := hN.bd
  have T2 : Hid (TS (w.heap.size + 1) w.heap.size s2 u2 w2) := ht
  have B2 : Hid (Below w.heap.size w w2) := hk.below B0.out B0.out.size (by omega) (by omega)
  have P2 : Hid (Prl S (e8 n ++ stF []) (fun l => stF (l.drop 0)) (fun l => l.length = n ∧ l.take 0 = []) s2 u2) := Prl.start hN
  have z2 := ht.tk.lt
  obtain ⟨w3, hmk, ho3, hg3⟩ := make_at n hb (w.heap.size + 1 + 1) w2 (by omega)
  have T3 : Hid (TS (w.heap.size + 1) w.heap.size s2 u2 w3) := ht.keep (below_of_gr hg3)
  have B3 : Hid (Below w.heap.size w w3) := B2.out.trans ((below_of_gr hg3).mono (by omega))
  have O3 : Hid (w3.ownsRow (w.heap.size + 1 + 1) 28 7 (.slice (some ⟨w2.heap.size, 0, none⟩) 0 n) 0 (atv [])) := ho3
  clear ht hk hN hg3 ho3 T2 B2 T0 B0
  go_wp2
  go_loopw [6, 16] (fun q x wr => ∃ (k : Nat) (P : List (At × Value)) (g cp : Nat) (s : ByteArray) (u : Bool), q = .slice (some ⟨g, 0, none⟩) k cp ∧ x = .int .u64 (k : Int) ∧ k ≤ n ∧ Hid (P.length = k) ∧ Hid (TS (w.heap.size + 1) w.heap.size s u wr) ∧ Hid (Below w.heap.size w wr) ∧ Hid (wr.ownsRow (w.heap.size + 1 + 1) 28 7 (.slice (some ⟨g, 0, none⟩) k cp) k (atv P)) ∧ Hid (XrO wr (w.heap.size + 1 + 1) P) ∧ Hid (Prl S (e8 n ++ stF (P.map Prod.fst)) (fun l => stF (l.drop k)) (fun l => l.length = n ∧ l.take k = P.map Prod.fst) s u) ∧ Hid (∀ a ∈ P.map Prod.fst, okA a = true)) (fun _ x _ => n - (intOf x).toNat)
  case atStart => exact ⟨0, [], _, n, s2, u2, rfl, rfl, Nat.zero_le _, rfl, T3.out, B3.out, O3.out, (fun p hp => nomatch hp), P2.out, (fun a ha => nomatch ha)⟩
  case round =>
    clear T3 B3 O3 P2 hmk
    obtain ⟨k, P, g, cp, s, u, rfl, rfl, hk, HY, HTS, HB, HO, HXR, HL, HOK⟩ := hrel
    have zr : s.size ≤ 140737488351232 := Nat.le_trans HL.out.sz hs
    have zt := HTS.out.tk.lt
    by_cases hlt : k < n
    · have hkz : (k : Int) < (n : Nat) := by omega
      go_wp2_with fail
      refine (ttext_any (w.heap.size + 1) w.heap.size s u S.size _ HTS.out zr hs).mono ?_
      rintro e w4 ⟨x, s4, u4, rfl, ht, hk4, hN4⟩
      have N4 : Hid (TxtS s u S.size x s4 u4) := hN4
      have hxs : x.size ≤ 140737488351232 := Nat.le_trans hN4.bd hs
      have T4 : Hid (TS (w.heap.size + 1) w.heap.size s4 u4 w4) := ht
      have B4 : Hid (Below w.heap.size w w4) := hk4.below HB.out HB.out.size (by omega) (by omega)
      have O4 : Hid (w4.ownsRow (w.heap.size + 1 + 1) 28 7 (.slice (some ⟨g, 0, none⟩) k cp) k (atv P)) := own_kt HO.out hk4 (by omega) (by omega)
      have X4 : Hid (XrO w4 (w.heap.size + 1 + 1) P) := HXR.out.keep (fun g h1 h2 => hk4.block g h2 (by omega) (by omega))
      have zt4 := ht.tk.lt
      clear ht hk4 hN4 HTS HB HO HXR
      go_wp2_with fail
      refine (read10 x _ hxs (HT.out.below B4.out)).mono ?_
      rintro e w5 ⟨a, va, er, rfl, hrd, hao, hao2, hxs2, hb5⟩
      obtain ⟨hp1, hp2⟩ := HL.out.txt hlt N4.out (Nat.le_refl _) (by omega)
      have T5 : Hid (TS (w.heap.size + 1) w.heap.size s4 u4 w5) := T4.out.keep hb5
      have B5 : Hid (Below w.heap.size w w5) := B4.out.trans (hb5.mono (by omega))
      have O5 : Hid (w5.ownsRow (w.heap.size + 1 + 1) 28 7 (.slice (some ⟨g, 0, none⟩) k cp) k (atv P)) := rows_keep O4.out (fun g _ h2 => hb5.block g h2)
      have X5 : Hid (XrO w5 (w.heap.size + 1 + 1) P) := X4.out.keep (fun g _ h2 => hb5.block g h2)
      have A5 : Hid (w5.ownsRow (w.heap.size + 1 + 1) 57 2 va a.xs.length (xav a.xs)) := rows_low hao2 (by omega)
      have hz5 := hb5.size
      obtain ⟨oa, na, ca, hva⟩ : ∃ o n c, va = .slice o n c := by
        rcases hao2.2 with ⟨h1, _⟩ | ⟨_, _, _, h1, _⟩
        · exact ⟨_, _, _, h1⟩
        · exact ⟨_, _, _, h1⟩
      subst hva
      rcases hrd with ⟨rfl, hr1, hr2⟩ | ⟨rfl, _, hr2⟩
      · have L5 : Hid (Prl S (e8 n ++ stF (P.map Prod.fst ++ [a])) (fun l => stF (l.drop (k + 1))) (fun l => l.length = n ∧ l.take (k + 1) = P.map Prod.fst ++ [a]) s4 u4) := hp1 a hao (.inl ⟨rfl, hr1, hr2⟩)
        have HAO : Hid (AtOk a ∧ (∀ x ∈ a.xs, x.1.size ≤ 255 ∧ x.2.size ≤ 4096) ∧ okA a = true) := ⟨hao, hxs2, hr1⟩
        obtain ⟨nd, md, ui, gi, mt, tg, xs⟩ := a
        clear hp1 hp2 hr1 hr2 hao hao2 hxs2 hb5 T4 B4 O4 X4
        dsimp only
        obtain ⟨i0, hi, hz0, hz1, hz2⟩ := info_parts inf_attr3
        have O6 : Hid (((w5.alloc (.cells (c7 nd md ui gi mt tg (.slice oa na ca)) 28)).alloc (.cells (c7 nd md ui gi mt tg (.slice oa na ca)) 28)).ownsRow (w.heap.size + 1 + 1) 28 7 (.slice (some ⟨g, 0, none⟩) k cp) k (atv P)) := (O5.out.alloc _).alloc _
        go_wp2_with (at_builtin; refine wpList_append_own _ rfl _ _ 48 rfl (w.heap.size + 1 + 1) 28 i0 (.agg z7) 7 64 Tryd.underlying48 hi hz0 hz1 hz2 rfl (by decide) _ _ _ rfl O6.out ⟨w5.heap.size + 1, 0, none⟩ 1 1 (c7 nd md ui gi mt tg (.slice oa na ca)).toList rfl rfl (by have := news_list (w5.alloc (.cells (c7 nd md ui gi mt tg (.slice oa na ca)) 28)) (c7 nd md ui gi mt tg (.slice oa na ca)) 28; rw [al_size] at this; exact this) (one_acl _ _ _ _ _ _ _ _ _) (by unfold maxLen; omega) (by omega) (by simp; omega) ?_)
        intro v' w7 hown hgrow _
        have hblk : ∀ b, (Value.slice (some ⟨g, 0, none⟩) k cp).ownBlock = some b → w.heap.size + 1 + 1 ≤ b := fun b hb => (rows_blk O5.out hb).1
        have hbA : Below w5.heap.size w5 ((w5.alloc (.cells (c7 nd md ui gi mt tg (.slice oa na ca)) 28)).alloc (.cells (c7 nd md ui gi mt tg (.slice oa na ca)) 28)) := ((Below.refl _ _).alloc (Nat.le_refl _) _).alloc (by simp) _
        have T7 : Hid (TS (w.heap.size + 1) w.heap.size s4 u4 w7) := (T5.out.keep hbA).grown hgrow (fun e => by have := hblk _ e; omega) (fun e => by have := hblk _ e; omega)
        have B7 : Hid (Below w.heap.size w w7) := rows_bel (B5.out.trans (hbA.mono (by omega))) (by simp; omega) O6.out (by omega) hgrow
        have X7 : Hid (XrO w7 (w.heap.size + 1 + 1) (P ++ [(⟨nd, md, ui, gi, mt, tg, xs⟩, .slice oa na ca)])) := by
          intro p hp
          rcases List.mem_append.1 hp with h | h
          · exact (((X5.out.keep (fun g _ h2 => hbA.block g h2)).grow O6.out hgrow)) p h
          · rw [List.mem_singleton] at h
            subst h
            exact ⟨HAO.out.1, own_ty (rows_keep A5.out (fun g _ h2 => hbA.block g h2)) O6.out (by decide) hgrow, HAO.out.2.1⟩
        have O7 : Hid (w7.ownsRow (w.heap.size + 1 + 1) 28 7 v' (k + 1) (atv (P ++ [(⟨nd, md, ui, gi, mt, tg, xs⟩, .slice oa na ca)]))) := by
          show World.ownsRow _ _ _ _ _ _ _
          rw [atv_app, atv_one]; exact hown
        have L7 : Hid (Prl S (e8 n ++ stF ((P ++ [((⟨nd, md, ui, gi, mt, tg, xs⟩ : At), Value.slice oa na ca)]).map Prod.fst)) (fun l => stF (l.drop (k + 1))) (fun l => l.length = n ∧ l.take (k + 1) = (P ++ [((⟨nd, md, ui, gi, mt, tg, xs⟩ : At), Value.slice oa na ca)]).map Prod.fst) s4 u4) := by
          rw [List.map_append]; exact L5.out
        have K7 : Hid (∀ a ∈ (P ++ [((⟨nd, md, ui, gi, mt, tg, xs⟩ : At), Value.slice oa na ca)]).map Prod.fst, okA a = true) := by
          intro a ha
          rw [List.map_append] at ha
          rcases List.mem_append.1 ha with h | h
          · exact HOK.out a h
          · simp at h
            subst h
            exact HAO.out.2.2
        obtain ⟨g7, cp7, hv⟩ : ∃ g7 c7, v' = .slice (some ⟨g7, 0, none⟩) (k + 1) c7 := by
          rcases hown.2 with ⟨_, h0⟩ | ⟨g7, c7, cur, h1, _⟩
          · omega
          · exact ⟨g7, c7, h1⟩
        subst hv
        clear hown hgrow hblk hbA T5 B5 O5 X5 A5 L5 O6 HAO HOK HL
        go_wp2
        go_roundw
        case rel => exact ⟨k + 1, _, g7, cp7, s4, u4, rfl, by go_num, by omega, by (show _ = _; rw [List.length_append, HY.out]; rfl), T7.out, B7.out, O7.out, X7.out, L7.out, K7.out⟩
        case measure => simp [intOf]; omega
      · have HNO : Hid (∀ l, GdL l → stL l ≠ bl S) := hp2 hr2
        obtain ⟨nd, md, ui, gi, mt, tg, xs⟩ := a
        clear hp1 hp2 hr2 hao hao2 hxs2 hb5 T4 B4 O4 X4
        dsimp only
        go_wp2
        go_ret2
        exact ⟨[], _, 4, rfl, .inr ⟨rfl, rfl, HNO.out⟩, rows_none, (fun p hp => nomatch hp), Nat.zero_le _, B5.out.trans (((Below.refl _ _).alloc (Nat.le_refl _) _).mono (by omega))⟩
    · have hkz : ¬ (k : Int) < (n : Nat) := by omega
      obtain rfl : k = n := by omega
      obtain ⟨G1, G2⟩ := Prl.fin (ls := P.map Prod.fst) (by rw [List.length_map]; exact HY.out) hb HOK.out HL.out
      have HFT : Hid (∀ q, (!u && decide (s.size = 0)) = q → Calls Tryd.prog 34 #[.pointer (some ⟨w.heap.size + 1, 0, none⟩)] wr fun e w' => e = .returned (.bool q) ∧ w' = wr) := fun q hq => hq ▸ fits_any10 (w.heap.size + 1) w.heap.size s u wr HTS.out zr
      by_cases hn0 : k = 0
      · have hnz : ((k : Int) == 0) = true := by simp [hn0]
        have HG : Hid (SrS S [] 4) := G2 (fun h => h.1 hn0)
        clear G1 G2 hn0 HL HFT
        go_wp2
        go_ret2
        exact ⟨[], _, 4, rfl, HG.out, rows_none, (fun p hp => nomatch hp), Nat.zero_le _, HB.out⟩
      · have hnz : ((k : Int) == 0) = false := by simp; omega
        by_cases hf : u = false ∧ s.size = 0
        · have hq : (!u && decide (s.size = 0)) = true := by rw [hf.1, hf.2]; rfl
          have HF2 : Hid _ := HFT.out true hq
          have HG : Hid (SrS S (P.map Prod.fst) 0) := G1 ⟨hn0, hf⟩
          clear G1 G2 hn0 HL HFT hf hq
          go_wp2_with fail
          refine Calls.mono HF2.out ?_
          rintro e w8 ⟨rfl, hw⟩
          rw [hw]
          clear hw
          go_wp2
          go_ret2
          refine ⟨P, _, 0, rfl, HG.out, ?_, (fun p hp => ⟨(HXR.out p hp).1, rows_low (HXR.out p hp).2.1 (by omega), (HXR.out p hp).2.2⟩), by rw [HY.out]; exact hb, HB.out⟩
          rw [HY.out]
          exact rows_low HO.out (by omega)
        · have hq : (!u && decide (s.size = 0)) = false := by
            cases u
            · have : s.size ≠ 0 := fun h => hf ⟨rfl, h⟩
              simp [this]
            · rfl
          have HF2 : Hid _ := HFT.out false hq
          have HG : Hid (SrS S [] 4) := G2 (fun h => hf h.2)
          clear G1 G2 hn0 HL HFT hf hq
          go_wp2_with fail
          refine Calls.mono HF2.out ?_
          rintro e w8 ⟨rfl, hw⟩
          rw [hw]
          clear hw
          go_wp2
          go_ret2
          exact ⟨[], _, 4, rfl, HG.out, rows_none, (fun p hp => nomatch hp), Nat.zero_le _, HB.out⟩
end Go.Proofs.YtjnijcmalnckcaaDoor
