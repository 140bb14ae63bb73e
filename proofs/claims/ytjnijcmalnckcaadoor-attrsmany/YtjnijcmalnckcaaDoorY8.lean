import Derived.Test.YtjnijcmalnckcaaDoorY7
import Derived.Laws.MakeOwn
import Derived.Test.YtjnijcmalnckcaaDoorY6
import Derived.BigQuiet
/- What is read of a stream. -/
namespace Go.Proofs.YtjnijcmalnckcaaDoor
open Go.RowKit
set_option linter.unusedSimpArgs false
set_option linter.unusedVariables false
theorem e8_inj {m n : Nat} {r r' : List UInt8} (hm : m < 2 ^ 64) (hn : n < 2 ^ 64) (h : e8 m ++ r = e8 n ++ r') : m = n ∧ r = r' := by
  have h1 := num_front (s := ⟨(e8 m ++ r).toArray⟩) hm rfl
  have h2 := num_front (s := ⟨(e8 m ++ r).toArray⟩) (m := n) (r := r') hn h
  exact ⟨h1.2.1.symm.trans h2.2.1, h1.2.2.symm.trans h2.2.2⟩
theorem tx_inj {x y : ByteArray} {r r' : List UInt8} (hx : x.size < 2 ^ 64) (hy : y.size < 2 ^ 64) (h : tx x ++ r = tx y ++ r') : x = y ∧ r = r' := by
  unfold tx at h
  rw [List.append_assoc, List.append_assoc] at h
  obtain ⟨h1, h2⟩ := e8_inj hx hy h
  obtain ⟨h3, h4⟩ := List.append_inj h2 (by rw [bl_length, bl_length]; exact h1)
  exact ⟨bl_inj h3, h4⟩
theorem xsL_inj : ∀ (xs ys : List (ByteArray × ByteArray)), (∀ x ∈ xs, x.1.size ≤ 255 ∧ x.2.size ≤ 4096) → (∀ x ∈ ys, x.1.size ≤ 255 ∧ x.2.size ≤ 4096) → xs.length = ys.length → xsL xs = xsL ys → xs = ys
  | [], [], _, _, _, _ => rfl
  | [], _ :: _, _, _, h, _ => by simp at h
  | _ :: _, [], _, _, h, _ => by simp at h
  | x :: xs, y :: ys, hx, hy, hl, h => by
    simp only [xsL, List.append_assoc] at h
    have q1 := hx x (by simp)
    have q2 := hy y (by simp)
    obtain ⟨h1, h2⟩ := tx_inj (by omega) (by omega) h
    obtain ⟨h3, h4⟩ := tx_inj (by omega) (by omega) h2
    have ih := xsL_inj xs ys (fun z hz => hx z (by simp [hz])) (fun z hz => hy z (by simp [hz])) (by simpa using hl) h4
    rw [ih, Prod.ext h1 h3]
/-- Unlike ones have unlike bytes. -/
theorem lay_inj {a b : At} (ha : Gd a) (hb : Gd b) (h : lay a = lay b) : a = b := by
  rw [lay_r1, lay_r1] at h
  obtain ⟨a1, a2, a3, a4, a5⟩ := okA_out ha.ok
  obtain ⟨b1, b2, b3, b4, b5⟩ := okA_out hb.ok
  have au := ha.ui; have ag := ha.gi; have bu := hb.ui; have bg := hb.gi
  have h0 : UInt8.ofNat a.nd = UInt8.ofNat b.nd ∧ r1 a = r1 b := by
    simp only [List.cons_append, List.nil_append, List.cons.injEq] at h
    exact h
  have e0 := ofNat_inj8 (by omega) (by omega) h0.1
  obtain ⟨e1, h1⟩ := e8_inj (by omega) (by omega) h0.2
  obtain ⟨e2, h2⟩ := e8_inj (by omega) (by omega) h1
  obtain ⟨e3, h3⟩ := e8_inj (by omega) (by omega) h2
  obtain ⟨e4, h4⟩ := e8_inj (by omega) (by omega) h3
  have h5 : a.tg = b.tg ∧ r6 a = r6 b := by
    unfold r5 ltg at h4
    by_cases h3 : a.nd = 3
    · rw [if_pos h3, if_pos (by omega)] at h4
      have := tg_small a4
      have := tg_small b4
      exact tx_inj (by omega) (by omega) h4
    · rw [if_neg h3, if_neg (by omega)] at h4
      exact ⟨(tg_none a4 h3).trans (tg_none b4 (by omega)).symm, h4⟩
  have la := (xsB_out a5).1
  have lb := (xsB_out b5).1
  obtain ⟨e6, h6⟩ := e8_inj (by omega) (by omega) h5.2
  have e7 := xsL_inj a.xs b.xs (xs_small a5) (xs_small b5) e6 h6
  have e8' : a.mt = b.mt := by omega
  cases a; cases b
  simp only at e0 e1 e2 e3 e7 e8' h5
  rw [e0, e1, e2, e3, e8', h5.1, e7]
/-- Streams that may be read. -/
structure GdL (l : List At) : Prop where
  ok : stB l = true
  bd : ∀ a ∈ l, a.ui < 4294967296 ∧ a.gi < 4294967296
theorem GdL.get {l : List At} (h : GdL l) {a : At} (ha : a ∈ l) : Gd a := by
  have := h.ok
  unfold stB at this
  rw [Bool.and_eq_true] at this
  exact ⟨List.all_eq_true.1 this.2 a ha, (h.bd a ha).1, (h.bd a ha).2⟩
theorem GdL.len {l : List At} (h : GdL l) : 1 ≤ l.length ∧ l.length ≤ 257 := by
  have := h.ok
  unfold stB at this
  rw [Bool.and_eq_true] at this
  exact of_decide_eq_true this.1
theorem stF_cons (a : At) (l : List At) : stF (a :: l) = tx ⟨(lay a).toArray⟩ ++ stF l := by simp [stF]
/-- Where a reader of a stream stands: behind so many. -/
structure Prl (S : ByteArray) (pre : List UInt8) (nx : List At → List UInt8) (F : List At → Prop) (s : ByteArray) (u : Bool) : Prop where
  yes : u = false → bl S = pre ++ bl s
  no : ∀ l, GdL l → stL l = bl S → u = false ∧ F l ∧ bl s = nx l
  sz : s.size ≤ S.size
theorem Prl.start {S : ByteArray} {n : Nat} {s' : ByteArray} {u' : Bool} (hn : NumS S false 257 n s' u') : Prl S (e8 n ++ stF []) (fun l => stF (l.drop 0)) (fun l => l.length = n ∧ l.take 0 = []) s' u' := by
  refine ⟨fun hu => ?_, fun l hl he => ?_, hn.sz⟩
  · rw [(hn.yes hu).2]; simp [stF]
  · obtain ⟨p1, p2, p3⟩ := hn.no rfl l.length (stF l) hl.len.2 (by have := hl.len.2; omega) he.symm
    exact ⟨p1, ⟨p2.symm, rfl⟩, p3⟩
theorem bl_arr (l : List UInt8) : bl ⟨l.toArray⟩ = l := rfl
/-- A text that is read. -/
theorem Prl.txt {S : ByteArray} {pre : List UInt8} {k n most : Nat} {ls : List At} {s : ByteArray} {u : Bool} {x s' : ByteArray} {u' : Bool} (h : Prl S (pre ++ stF ls) (fun l => stF (l.drop k)) (fun l => l.length = n ∧ l.take k = ls) s u) (hk : k < n) (hn : TxtS s u most x s' u') (hm : S.size ≤ most) (hm2 : most < 2 ^ 64) :
    (∀ a, AtOk a → RdS x a 0 → Prl S (pre ++ stF (ls ++ [a])) (fun l => stF (l.drop (k + 1))) (fun l => l.length = n ∧ l.take (k + 1) = ls ++ [a]) s' u') ∧ ((∀ a, Gd a → lay a ≠ bl x) → ∀ l, GdL l → stL l ≠ bl S) := by
  have key : ∀ l, GdL l → stL l = bl S → u' = false ∧ ∃ b, b ∈ l ∧ l.take (k + 1) = ls ++ [b] ∧ l.length = n ∧ lay b = bl x ∧ bl s' = stF (l.drop (k + 1)) := by
    intro l hl he
    obtain ⟨q1, ⟨q2, q3⟩, q4⟩ := h.no l hl he
    have hkl : k < l.length := by omega
    rw [List.drop_eq_getElem_cons hkl, stF_cons] at q4
    have hsz : (⟨(lay l[k]).toArray⟩ : ByteArray).size ≤ most := by
      have h1 := congrArg List.length q4
      rw [List.length_append, bl_length] at h1
      unfold tx at h1
      rw [List.length_append, bl_length] at h1
      have := h.sz
      omega
    obtain ⟨p1, p2, p3⟩ := hn.no q1 _ _ hsz (by omega) q4
    refine ⟨p1, l[k], List.getElem_mem hkl, ?_, q2, ?_, p3⟩
    · rw [List.take_add_one, List.getElem?_eq_getElem hkl, Option.toList_some, q3]
    · rw [p2]; rfl
  constructor
  · intro a hao ha
    rcases ha with ⟨_, ha1, ha2⟩ | ⟨h4, _⟩
    · refine ⟨fun hu => ?_, fun l hl he => ?_, Nat.le_trans hn.sz h.sz⟩
      · obtain ⟨q1, q2⟩ := hn.yes hu
        rw [h.yes q1, q2]
        have e : stF (ls ++ [a]) = stF ls ++ tx x := by
          rw [stF_snoc]
          have : (⟨(lay a).toArray⟩ : ByteArray) = x := bl_inj ha2
          rw [this]
        rw [e]; simp
      · obtain ⟨p1, b, hb, p2, p3, p4, p5⟩ := key l hl he
        have : b = a := lay_inj (hl.get hb) ⟨ha1, hao.ui, hao.gi⟩ (p4.trans ha2.symm)
        rw [this] at p2
        exact ⟨p1, ⟨p3, p2⟩, p5⟩
    · cases h4
  · intro hno l hl he
    obtain ⟨p1, b, hb, p2, p3, p4, p5⟩ := key l hl he
    exact hno b (hl.get hb) p4
end Go.Proofs.YtjnijcmalnckcaaDoor
/- attrs.ReadStream. -/
namespace Go.Proofs.YtjnijcmalnckcaaDoor
open Go.RowKit
set_option linter.unusedSimpArgs false
set_option linter.unusedVariables false
/-- Attributes as cells, with the values of their lists. -/
def acl (p : At × Value) : List Value := [.int .u8 (p.1.nd : Int), .int .u32 (p.1.md : Int), .int .u32 (p.1.ui : Int), .int .u32 (p.1.gi : Int), .int .i64 p.1.mt, .string p.1.tg, p.2]
def atv (P : List (At × Value)) : List Value := P.flatMap acl
theorem atv_app (a b : List (At × Value)) : atv (a ++ b) = atv a ++ atv b := by simp [atv]
theorem atv_one (p : At × Value) : atv [p] = acl p := by simp [atv]
theorem atv_len : ∀ a : List (At × Value), (atv a).length = a.length * 7
  | [] => rfl
  | p :: r => by
    have : atv (p :: r) = acl p ++ atv r := rfl
    rw [this, List.length_append, atv_len r]; simp [acl]; omega
theorem atv_get : ∀ (P : List (At × Value)) (i : Nat) (p : At × Value), P[i]? = some p → ∀ j, j < 7 → (atv P)[i * 7 + j]? = (acl p)[j]?
  | [], i, p, h, j, hj => by simp at h
  | q :: r, 0, p, h, j, hj => by
    simp at h
    subst h
    have : atv (q :: r) = acl q ++ atv r := rfl
    rw [this, Nat.zero_mul, Nat.zero_add, List.getElem?_append_left (by simp [acl]; exact hj)]
  | q :: r, i + 1, p, h, j, hj => by
    have e : atv (q :: r) = acl q ++ atv r := rfl
    have hl : (acl q).length = 7 := rfl
    have ih := atv_get r i p (by simpa using h) j hj
    rw [e, List.getElem?_append_right (by omega), hl, show (i + 1) * 7 + j - 7 = i * 7 + j from by omega]
    exact ih
theorem inf_attr3 : (Tryd.prog.info? 28).map (fun i => (i.zero, i.size, i.bytes)) = some (some (.agg z7), 7, 64) := by kernel_rfl
theorem news_list (w : World) (C : Array Value) (T : TypeId) : ∀ (j : Nat) (u : Value), C.toList[j]? = some u → (w.alloc (.cells C T)).cell? ((⟨w.heap.size, 0, none⟩ : Addr).add j) = some u := by
  intro j u h
  rw [WideShapes.add_plain, Nat.zero_add, World.cell?_alloc_new]
  simpa using h
theorem one_acl (nd md ui gi : Nat) (mt : Int) (tg : ByteArray) (o : Option Addr) (n c : Nat) : ∀ u ∈ (c7 nd md ui gi mt tg (.slice o n c)).toList, u.oneCell' = true := by
  intro u hu
  simp at hu
  rcases hu with rfl | rfl | rfl | rfl | rfl | rfl | rfl <;> rfl
/-- Rows of another type stay where a row grows. -/
theorem own_ty {w w' : World} {B B' n k m k' : Nat} {e e' : TypeId} {x v : Value} {xs ys : List Value} (h : w.ownsRow B e k x n xs) (hv : w.ownsRow B' e' k' v m ys) (he : e ≠ e') (hg : w.grownBy w' v.ownBlock) : w'.ownsRow B e k x n xs := by
  refine ⟨h.1, ?_⟩
  rcases h.2 with h1 | ⟨g, cap, cur, h1, h2, hc, h3⟩
  · exact .inl h1
  · refine .inr ⟨g, cap, cur, h1, h2, ?_, h3⟩
    rw [hg.block g (Array.getElem?_eq_some_iff.1 hc).1 ?_]
    · exact hc
    · intro e2
      rcases hv.2 with ⟨rfl, _⟩ | ⟨g', cap', cur', rfl, _, hc', _⟩
      · cases e2
      · simp [Value.ownBlock] at e2
        subst e2
        rw [hc] at hc'
        cases hc'
        exact he rfl
/-- The lists of these lie in rows of the call's own. -/
def XrO (w : World) (B : Nat) (P : List (At × Value)) : Prop := ∀ p ∈ P, AtOk p.1 ∧ w.ownsRow B 57 2 p.2 p.1.xs.length (xav p.1.xs) ∧ ∀ x ∈ p.1.xs, x.1.size ≤ 255 ∧ x.2.size ≤ 4096
theorem XrO.keep {w w' : World} {B : Nat} {P : List (At × Value)} (h : XrO w B P) (hk : ∀ g, B ≤ g → g < w.heap.size → w'.heap[g]? = w.heap[g]?) : XrO w' B P := fun p hp => ⟨(h p hp).1, rows_keep (h p hp).2.1 hk, (h p hp).2.2⟩
theorem XrO.grow {w w' : World} {B B' m : Nat} {P : List (At × Value)} {v : Value} {ys : List Value} (h : XrO w B P) (hv : w.ownsRow B' 28 7 v m ys) (hg : w.grownBy w' v.ownBlock) : XrO w' B P := fun p hp => ⟨(h p hp).1, own_ty (h p hp).2.1 hv (by decide) hg, (h p hp).2.2⟩
/-- Where the attributes of a row of the call's own lie. -/
theorem own_atl {w : World} {B n : Nat} {e : TypeId} {v : Value} {P : List (At × Value)} (h : w.ownsRow B e 7 v n (atv P)) (hn : P.length = n) (hx : XrO w B P) : ∃ a c, v = .slice a n c ∧ AtL w a (P.map Prod.fst) := by
  rcases h.2 with ⟨rfl, h0⟩ | ⟨g, cap, cur, rfl, hle, hg, hnc, _, hc, ht⟩
  · subst h0
    have : P = [] := List.eq_nil_of_length_eq_zero hn
    subst this
    exact ⟨none, 0, rfl, fun i x hx => by simp at hx⟩
  · refine ⟨some ⟨g, 0, none⟩, cap, rfl, fun i a ha => ?_⟩
    rw [List.getElem?_map] at ha
    obtain ⟨p, hp, rfl⟩ := Option.map_eq_some_iff.1 ha
    obtain ⟨h1, h2, h3⟩ := hx p (List.mem_of_getElem? hp)
    obtain ⟨ad, c, hv, hX⟩ := own_xal h2 rfl (fun x hx => by have := h3 x hx; omega)
    have hb : Bk w g cur e := hg
    have hl : i < P.length := (List.getElem?_eq_some_iff.1 hp).1
    have q : ∀ j, j < 7 → w.cell? ⟨g, 0 + i * 7 + j, none⟩ = (acl p)[j]? := fun j hj => by
      have := atv_get P i p hp j hj
      rw [← ht, List.getElem?_take, if_pos (by omega), Array.getElem?_toList] at this
      rw [hb.cell, Nat.zero_add]
      exact this
    have q0 := q 0 (by omega)
    rw [Nat.add_zero] at q0
    refine ⟨h1, g, 0, ad, c, rfl, (Array.getElem?_eq_some_iff.1 hg).1, q0, q 1 (by omega), q 2 (by omega), q 3 (by omega), q 4 (by omega), q 5 (by omega), ?_, hX⟩
    rw [q 6 (by omega), ← hv]; rfl
/-- What ReadStream tells. -/
def SrS (S : ByteArray) (l : List At) (e : Int) : Prop := (e = 0 ∧ stB l = true ∧ stL l = bl S) ∨ (e = 4 ∧ l = [] ∧ ∀ l', GdL l' → stL l' ≠ bl S)
theorem Prl.fin {S : ByteArray} {n : Nat} {ls : List At} {s : ByteArray} {u : Bool} (hy : ls.length = n) (hn : n ≤ 257) (hok : ∀ a ∈ ls, okA a = true) (h : Prl S (e8 n ++ stF ls) (fun l => stF (l.drop n)) (fun l => l.length = n ∧ l.take n = ls) s u) :
    ((n ≠ 0 ∧ u = false ∧ s.size = 0) → SrS S ls 0) ∧ (¬ (n ≠ 0 ∧ u = false ∧ s.size = 0) → SrS S [] 4) := by
  constructor
  · rintro ⟨h0, h1, h2⟩
    refine .inl ⟨rfl, ?_, ?_⟩
    · unfold stB
      rw [decide_eq_true (by omega), Bool.true_and, List.all_eq_true]
      exact hok
    · have h4 := h.yes h1
      have h5 : bl s = [] := List.eq_nil_of_length_eq_zero (by rw [bl_length]; exact h2)
      rw [h5, List.append_nil] at h4
      rw [h4, stL, hy]
  · intro hno
    refine .inr ⟨rfl, rfl, fun l hl he => hno ?_⟩
    obtain ⟨q1, ⟨q2, q3⟩, q4⟩ := h.no l hl he
    have := hl.len
    rw [List.drop_eq_nil_of_le (by omega)] at q4
    exact ⟨by omega, q1, by rw [← bl_length, q4]; rfl⟩
theorem make_at (n : Nat) (hn : n ≤ 257) (B : Nat) (w : World) (hB : B ≤ w.heap.size) : ∃ w', (Instr.makeSlice 48 (.int .i64 0) (.int .u64 (n : Int))).run Tryd.prog w = .ok (.slice (some ⟨w.heap.size, 0, none⟩) 0 n) w' ∧
    w'.ownsRow B 28 7 (.slice (some ⟨w.heap.size, 0, none⟩) 0 n) 0 [] ∧ w.grownBy w' none := by
  obtain ⟨i0, hi, hz0, hz1, hz2⟩ := info_parts inf_attr3
  exact run_makeSlice_owned w B 48 28 i0 (.agg z7) 7 Tryd.underlying48 hi hz0 hz1 .i64 .u64 n (by omega) (by rw [hz2]; omega) (by unfold maxLen; omega) hB
theorem TS.start10 (w0 : World) (S : ByteArray) : TS (w0.heap.size + 1) w0.heap.size S false ((w0.alloc (.cells #[.string S] 108)).alloc (.cells #[.pointer (some ⟨w0.heap.size, 0, none⟩), .bool false] 78)) := by
  have b1 := (bk_new w0 #[.string S] 108).alloc (.cells #[.pointer (some ⟨w0.heap.size, 0, none⟩), .bool false] 78)
  have b2 := bk_new (w0.alloc (.cells #[.string S] 108)) #[.pointer (some ⟨w0.heap.size, 0, none⟩), .bool false] 78
  rw [al_size] at b2
  exact ⟨b2, by rw [b1.cell]; rfl, b1.frozen 0, b1.lt, by omega⟩
set_option maxHeartbeats 16000000 in
set_option maxRecDepth 100000 in
theorem readst (S : ByteArray) (w : World) (hs : S.size ≤ 140737488351232) (hT : U8 w) :
    Calls Tryd.prog 23 #[.string S] w fun e w' => ∃ (P : List (At × Value)) (v : Value) (er : Int), e = .returned (.tuple #[v, .int .i64 er]) ∧ SrS S (P.map Prod.fst) er ∧ w'.ownsRow w.heap.size 28 7 v P.length (atv P) ∧ XrO w' w.heap.size P ∧ P.length ≤ 257 ∧ Below w.heap.size w w' := by
  have HT : Hid (U8 w) := hT
  have T0 : Hid (TS (w.heap.size + 1) w.heap.size S false ((w.alloc (.cells #[.string S] 108)).alloc (.cells #[.pointer (some ⟨w.heap.size, 0, none⟩), .bool false] 78))) := TS.start10 w S
  have B0 : Hid (Below w.heap.size w ((w.alloc (.cells #[.string S] 108)).alloc (.cells #[.pointer (some ⟨w.heap.size, 0, none⟩), .bool false] 78))) := ((Below.refl _ w).alloc (Nat.le_refl _) _).alloc (by simp) _
  clear hT
  go_enter Tryd.func23, Tryd.ntmps23
  go_wp2_with fail
  refine (new_any S _).mono ?_
  rintro e w1 ⟨rfl, hw1⟩
  rw [hw1]
  clear hw1
  go_wp2_with fail
  refine (number_any (w.heap.size + 1) w.heap.size S false 257 _ T0.out hs (by omega)).mono ?_
  rintro e w2 ⟨n, s2, u2, rfl, ht, hk, hN⟩
  have hb := hN.bd
  have T2 : Hid (TS (w.heap.size + 1) w.heap.size s2 u2 w2) := ht
  have B2 : Hid (Below w.heap.size w w2) := hk.below B0.out B0.out.size (by omega) (by omega)
  have P2 : Hid (Prl S (e8 n ++ stF []) (fun l => stF (l.drop 0)) (fun l => l.length = n ∧ l.take 0 = []) s2 u2) := Prl.start hN
  have z2 := ht.tk.lt
  obtain ⟨w3, hmk, ho3, hg3⟩ := make_at n hb (w.heap.size + 1 + 1) w2 (by omega)
  have T3 : Hid (TS (w.heap.size + 1) w.heap.size s2 u2 w3) := ht.keep (below_of_gr hg3)
  have B3 : Hid (Below w.heap.size w w3) := B2.out.trans ((below_of_gr hg3).mono (by omega))
  have O3 : Hid (w3.ownsRow (w.heap.size + 1 + 1) 28 7 (.slice (some ⟨w2.heap.size, 0, none⟩) 0 n) 0 (atv [])) := ho3
  clear ht hk hN hg3 ho3 T2 B2 T0 B0
  go_wp2
  go_loopw [6, 16] (fun q x wr => ∃ (k : Nat) (P : List (At × Value)) (g cp : Nat) (s : ByteArray) (u : Bool), q = .slice (some ⟨g, 0, none⟩) k cp ∧ x = .int .u64 (k : Int) ∧ k ≤ n ∧ Hid (P.length = k) ∧ Hid (TS (w.heap.size + 1) w.heap.size s u wr) ∧ Hid (Below w.heap.size w wr) ∧ Hid (wr.ownsRow (w.heap.size + 1 + 1) 28 7 (.slice (some ⟨g, 0, none⟩) k cp) k (atv P)) ∧ Hid (XrO wr (w.heap.size + 1 + 1) P) ∧ Hid (Prl S (e8 n ++ stF (P.map Prod.fst)) (fun l => stF (l.drop k)) (fun l => l.length = n ∧ l.take k = P.map Prod.fst) s u) ∧ Hid (∀ a ∈ P.map Prod.fst, okA a = true)) (fun _ x _ => n - (intOf x).toNat)
  case atStart => exact ⟨0, [], _, n, s2, u2, rfl, rfl, Nat.zero_le _, rfl, T3.out, B3.out, O3.out, (fun p hp => nomatch hp), P2.out, (fun a ha => nomatch ha)⟩
  case round =>
    clear T3 B3 O3 P2 hmk
    obtain ⟨k, P, g, cp, s, u, rfl, rfl, hk, HY, HTS, HB, HO, HXR, HL, HOK⟩ := hrel
    have zr : s.size ≤ 140737488351232 := Nat.le_trans HL.out.sz hs
    have zt := HTS.out.tk.lt
    by_cases hlt : k < n
    · have hkz : (k : Int) < (n : Nat) := by omega
      go_wp2_with fail
      refine (ttext_any (w.heap.size + 1) w.heap.size s u S.size _ HTS.out zr hs).mono ?_
      rintro e w4 ⟨x, s4, u4, rfl, ht, hk4, hN4⟩
      have N4 : Hid (TxtS s u S.size x s4 u4) := hN4
      have hxs : x.size ≤ 140737488351232 := Nat.le_trans hN4.bd hs
      have T4 : Hid (TS (w.heap.size + 1) w.heap.size s4 u4 w4) := ht
      have B4 : Hid (Below w.heap.size w w4) := hk4.below HB.out HB.out.size (by omega) (by omega)
      have O4 : Hid (w4.ownsRow (w.heap.size + 1 + 1) 28 7 (.slice (some ⟨g, 0, none⟩) k cp) k (atv P)) := own_kt HO.out hk4 (by omega) (by omega)
      have X4 : Hid (XrO w4 (w.heap.size + 1 + 1) P) := HXR.out.keep (fun g h1 h2 => hk4.block g h2 (by omega) (by omega))
      have zt4 := ht.tk.lt
      clear ht hk4 hN4 HTS HB HO HXR
      go_wp2_with fail
      refine (read10 x _ hxs (HT.out.below B4.out)).mono ?_
      rintro e w5 ⟨a, va, er, rfl, hrd, hao, hao2, hxs2, hb5⟩
      obtain ⟨hp1, hp2⟩ := HL.out.txt hlt N4.out (Nat.le_refl _) (by omega)
      have T5 : Hid (TS (w.heap.size + 1) w.heap.size s4 u4 w5) := T4.out.keep hb5
      have B5 : Hid (Below w.heap.size w w5) := B4.out.trans (hb5.mono (by omega))
      have O5 : Hid (w5.ownsRow (w.heap.size + 1 + 1) 28 7 (.slice (some ⟨g, 0, none⟩) k cp) k (atv P)) := rows_keep O4.out (fun g _ h2 => hb5.block g h2)
      have X5 : Hid (XrO w5 (w.heap.size + 1 + 1) P) := X4.out.keep (fun g _ h2 => hb5.block g h2)
      have A5 : Hid (w5.ownsRow (w.heap.size + 1 + 1) 57 2 va a.xs.length (xav a.xs)) := rows_low hao2 (by omega)
      have hz5 := hb5.size
      obtain ⟨oa, na, ca, hva⟩ : ∃ o n c, va = .slice o n c := by
        rcases hao2.2 with ⟨h1, _⟩ | ⟨_, _, _, h1, _⟩
        · exact ⟨_, _, _, h1⟩
        · exact ⟨_, _, _, h1⟩
      subst hva
      rcases hrd with ⟨rfl, hr1, hr2⟩ | ⟨rfl, _, hr2⟩
      · have L5 : Hid (Prl S (e8 n ++ stF (P.map Prod.fst ++ [a])) (fun l => stF (l.drop (k + 1))) (fun l => l.length = n ∧ l.take (k + 1) = P.map Prod.fst ++ [a]) s4 u4) := hp1 a hao (.inl ⟨rfl, hr1, hr2⟩)
        have HAO : Hid (AtOk a ∧ (∀ x ∈ a.xs, x.1.size ≤ 255 ∧ x.2.size ≤ 4096) ∧ okA a = true) := ⟨hao, hxs2, hr1⟩
        obtain ⟨nd, md, ui, gi, mt, tg, xs⟩ := a
        clear hp1 hp2 hr1 hr2 hao hao2 hxs2 hb5 T4 B4 O4 X4
        dsimp only
        obtain ⟨i0, hi, hz0, hz1, hz2⟩ := info_parts inf_attr3
        have O6 : Hid (((w5.alloc (.cells (c7 nd md ui gi mt tg (.slice oa na ca)) 28)).alloc (.cells (c7 nd md ui gi mt tg (.slice oa na ca)) 28)).ownsRow (w.heap.size + 1 + 1) 28 7 (.slice (some ⟨g, 0, none⟩) k cp) k (atv P)) := (O5.out.alloc _).alloc _
        go_wp2_with (at_builtin; refine wpList_append_own _ rfl _ _ 48 rfl (w.heap.size + 1 + 1) 28 i0 (.agg z7) 7 64 Tryd.underlying48 hi hz0 hz1 hz2 rfl (by decide) _ _ _ rfl O6.out ⟨w5.heap.size + 1, 0, none⟩ 1 1 (c7 nd md ui gi mt tg (.slice oa na ca)).toList rfl rfl (by have := news_list (w5.alloc (.cells (c7 nd md ui gi mt tg (.slice oa na ca)) 28)) (c7 nd md ui gi mt tg (.slice oa na ca)) 28; rw [al_size] at this; exact this) (one_acl _ _ _ _ _ _ _ _ _) (by unfold maxLen; omega) (by omega) (by simp; omega) ?_)
        intro v' w7 hown hgrow _
        have hblk : ∀ b, (Value.slice (some ⟨g, 0, none⟩) k cp).ownBlock = some b → w.heap.size + 1 + 1 ≤ b := fun b hb => (rows_blk O5.out hb).1
        have hbA : Below w5.heap.size w5 ((w5.alloc (.cells (c7 nd md ui gi mt tg (.slice oa na ca)) 28)).alloc (.cells (c7 nd md ui gi mt tg (.slice oa na ca)) 28)) := ((Below.refl _ _).alloc (Nat.le_refl _) _).alloc (by simp) _
        have T7 : Hid (TS (w.heap.size + 1) w.heap.size s4 u4 w7) := (T5.out.keep hbA).grown hgrow (fun e => by have := hblk _ e; omega) (fun e => by have := hblk _ e; omega)
        have B7 : Hid (Below w.heap.size w w7) := rows_bel (B5.out.trans (hbA.mono (by omega))) (by simp; omega) O6.out (by omega) hgrow
        have X7 : Hid (XrO w7 (w.heap.size + 1 + 1) (P ++ [(⟨nd, md, ui, gi, mt, tg, xs⟩, .slice oa na ca)])) := by
          intro p hp
          rcases List.mem_append.1 hp with h | h
          · exact (((X5.out.keep (fun g _ h2 => hbA.block g h2)).grow O6.out hgrow)) p h
          · rw [List.mem_singleton] at h
            subst h
            exact ⟨HAO.out.1, own_ty (rows_keep A5.out (fun g _ h2 => hbA.block g h2)) O6.out (by decide) hgrow, HAO.out.2.1⟩
        have O7 : Hid (w7.ownsRow (w.heap.size + 1 + 1) 28 7 v' (k + 1) (atv (P ++ [(⟨nd, md, ui, gi, mt, tg, xs⟩, .slice oa na ca)]))) := by
          show World.ownsRow _ _ _ _ _ _ _
          rw [atv_app, atv_one]; exact hown
        have L7 : Hid (Prl S (e8 n ++ stF ((P ++ [((⟨nd, md, ui, gi, mt, tg, xs⟩ : At), Value.slice oa na ca)]).map Prod.fst)) (fun l => stF (l.drop (k + 1))) (fun l => l.length = n ∧ l.take (k + 1) = (P ++ [((⟨nd, md, ui, gi, mt, tg, xs⟩ : At), Value.slice oa na ca)]).map Prod.fst) s4 u4) := by
          rw [List.map_append]; exact L5.out
        have K7 : Hid (∀ a ∈ (P ++ [((⟨nd, md, ui, gi, mt, tg, xs⟩ : At), Value.slice oa na ca)]).map Prod.fst, okA a = true) := by
          intro a ha
          rw [List.map_append] at ha
          rcases List.mem_append.1 ha with h | h
          · exact HOK.out a h
          · simp at h
            subst h
            exact HAO.out.2.2
        obtain ⟨g7, cp7, hv⟩ : ∃ g7 c7, v' = .slice (some ⟨g7, 0, none⟩) (k + 1) c7 := by
          rcases hown.2 with ⟨_, h0⟩ | ⟨g7, c7, cur, h1, _⟩
          · omega
          · exact ⟨g7, c7, h1⟩
        subst hv
        clear hown hgrow hblk hbA T5 B5 O5 X5 A5 L5 O6 HAO HOK HL
        go_wp2
        go_roundw
        case rel => exact ⟨k + 1, _, g7, cp7, s4, u4, rfl, by go_num, by omega, by (show _ = _; rw [List.length_append, HY.out]; rfl), T7.out, B7.out, O7.out, X7.out, L7.out, K7.out⟩
        case measure => simp [intOf]; omega
      · have HNO : Hid (∀ l, GdL l → stL l ≠ bl S) := hp2 hr2
        obtain ⟨nd, md, ui, gi, mt, tg, xs⟩ := a
        clear hp1 hp2 hr2 hao hao2 hxs2 hb5 T4 B4 O4 X4
        dsimp only
        go_wp2
        go_ret2
        exact ⟨[], _, 4, rfl, .inr ⟨rfl, rfl, HNO.out⟩, rows_none, (fun p hp => nomatch hp), Nat.zero_le _, B5.out.trans (((Below.refl _ _).alloc (Nat.le_refl _) _).mono (by omega))⟩
    · have hkz : ¬ (k : Int) < (n : Nat) := by omega
      obtain rfl : k = n := by omega
      obtain ⟨G1, G2⟩ := Prl.fin (ls := P.map Prod.fst) (by rw [List.length_map]; exact HY.out) hb HOK.out HL.out
      have HFT : Hid (∀ q, (!u && decide (s.size = 0)) = q → Calls Tryd.prog 34 #[.pointer (some ⟨w.heap.size + 1, 0, none⟩)] wr fun e w' => e = .returned (.bool q) ∧ w' = wr) := fun q hq => hq ▸ fits_any10 (w.heap.size + 1) w.heap.size s u wr HTS.out zr
      by_cases hn0 : k = 0
      · have hnz : ((k : Int) == 0) = true := by simp [hn0]
        have HG : Hid (SrS S [] 4) := G2 (fun h => h.1 hn0)
        clear G1 G2 hn0 HL HFT
        go_wp2
        go_ret2
        exact ⟨[], _, 4, rfl, HG.out, rows_none, (fun p hp => nomatch hp), Nat.zero_le _, HB.out⟩
      · have hnz : ((k : Int) == 0) = false := by simp; omega
        by_cases hf : u = false ∧ s.size = 0
        · have hq : (!u && decide (s.size = 0)) = true := by rw [hf.1, hf.2]; rfl
          have HF2 : Hid _ := HFT.out true hq
          have HG : Hid (SrS S (P.map Prod.fst) 0) := G1 ⟨hn0, hf⟩
          clear G1 G2 hn0 HL HFT hf hq
          go_wp2_with fail
          refine Calls.mono HF2.out ?_
          rintro e w8 ⟨rfl, hw⟩
          rw [hw]
          clear hw
          go_wp2
          go_ret2
          refine ⟨P, _, 0, rfl, HG.out, ?_, (fun p hp => ⟨(HXR.out p hp).1, rows_low (HXR.out p hp).2.1 (by omega), (HXR.out p hp).2.2⟩), by rw [HY.out]; exact hb, HB.out⟩
          rw [HY.out]
          exact rows_low HO.out (by omega)
        · have hq : (!u && decide (s.size = 0)) = false := by
            cases u
            · have : s.size ≠ 0 := fun h => hf ⟨rfl, h⟩
              simp [this]
            · rfl
          have HF2 : Hid _ := HFT.out false hq
          have HG : Hid (SrS S [] 4) := G2 (fun h => hf h.2)
          clear G1 G2 hn0 HL HFT hf hq
          go_wp2_with fail
          refine Calls.mono HF2.out ?_
          rintro e w8 ⟨rfl, hw⟩
          rw [hw]
          clear hw
          go_wp2
          go_ret2
          exact ⟨[], _, 4, rfl, HG.out, rows_none, (fun p hp => nomatch hp), Nat.zero_le _, HB.out⟩
end Go.Proofs.YtjnijcmalnckcaaDoor
/- slices.Equal of extended attributes; attrs.Same. -/
namespace Go.Proofs.YtjnijcmalnckcaaDoor
open Go.RowKit
set_option linter.unusedSimpArgs false
set_option linter.unusedVariables false
theorem toL_eq (x y : ByteArray) : (x.toList == y.toList) = decide (x = y) := by
  rw [Lib.toList_data, Lib.toList_data]
  by_cases h : x = y
  · subst h; simp
  · rw [decide_eq_false h]
    simp only [beq_eq_false_iff_ne, ne_eq]
    intro e
    exact h (bl_inj e)
set_option maxHeartbeats 2000000 in
set_option maxRecDepth 100000 in
theorem equal10 (a b : Option Addr) (ca cb : Nat) (xs ys : List (ByteArray × ByteArray)) (w : World) (hx : XaL w a xs) (hy : XaL w b ys) (nx : xs.length ≤ 4611686018427387904) (ny : ys.length ≤ 4611686018427387904) :
    Calls Tryd.prog 45 #[.slice a xs.length ca, .slice b ys.length cb] w fun e w' => e = .returned (.bool (decide (xs = ys))) ∧ Below w.heap.size w w' := by
  have HX : Hid (XaL w a xs) := hx
  have HY : Hid (XaL w b ys) := hy
  clear hx hy
  by_cases hl : xs.length = ys.length
  · obtain ⟨n, hn⟩ : ∃ n, xs.length = n := ⟨_, rfl⟩
    have hn2 : ys.length = n := by omega
    have HL : Hid (xs.length = n ∧ ys.length = n) := ⟨hn, hn2⟩
    rw [hn, hn2]
    have hnn : n ≤ 4611686018427387904 := by omega
    clear hn hn2 hl nx ny
    go_enter Tryd.func45, Tryd.ntmps45
    go_wp2
    go_loopw [13] (fun v wr => ∃ k : Nat, v = .int .i64 k ∧ k ≤ n ∧ Hid (Below w.heap.size w wr) ∧ Hid (∀ i, i < k → xs[i]? = ys[i]?)) (fun v _ => n - (intOf v).toNat)
    case atStart => exact ⟨0, rfl, Nat.zero_le _, Below.refl _ _, fun i hi => by omega⟩
    case round =>
      obtain ⟨k, rfl, hk, HB, HE⟩ := hrel
      by_cases hlt : k < n
      · obtain ⟨x, hx⟩ : ∃ x, xs[k]? = some x := ⟨xs[k]'(by rw [HL.out.1]; exact hlt), List.getElem?_eq_getElem _⟩
        obtain ⟨y, hy⟩ : ∃ y, ys[k]? = some y := ⟨ys[k]'(by rw [HL.out.2]; exact hlt), List.getElem?_eq_getElem _⟩
        obtain ⟨g, o, rfl, hg, hc1, hc2, _, _⟩ := HX.out.below HB.out k x hx
        obtain ⟨g2, o2, rfl, hg2, hd1, hd2, _, _⟩ := HY.out.below HB.out k y hy
        obtain ⟨x1, x2⟩ := x
        obtain ⟨y1, y2⟩ := y
        simp only at hc1 hc2 hd1 hd2
        have H1 : Hid (xs[k]? = some (x1, x2) ∧ ys[k]? = some (y1, y2)) := ⟨hx, hy⟩
        clear hx hy
        have hkz : (k : Int) < (n : Nat) := by omega
        have t1 := toL_eq x1 y1
        have t2 := toL_eq x2 y2
        by_cases he : x1 = y1 ∧ x2 = y2
        · obtain ⟨rfl, rfl⟩ := he
          simp only [decide_true] at t1 t2
          go_wp2
          go_quiet (fail)
          go_wp2
          go_roundw
          case rel =>
            refine ⟨k + 1, by go_num, by omega, below_drewN HB.out _, fun i hi => ?_⟩
            by_cases hik : i < k
            · exact HE.out i hik
            · obtain rfl : i = k := by omega
              rw [H1.out.1, H1.out.2]
          case measure => simp [intOf]; omega
        · have hfin : Hid (decide (xs = ys) = false) := decide_eq_false fun e => he (by
            have := H1.out
            rw [e] at this
            have q := Option.some.inj (this.1.symm.trans this.2)
            exact ⟨congrArg Prod.fst q, congrArg Prod.snd q⟩)
          by_cases h1 : x1 = y1
          · subst h1
            have h2 : ¬ x2 = y2 := fun h => he ⟨rfl, h⟩
            simp only [decide_true] at t1
            simp only [h2, decide_false] at t2
            clear he
            go_wp2
            go_quiet (fail)
            go_wp2
            go_ret
            exact ⟨retB hfin.out.symm, below_drewN HB.out _⟩
          · simp only [h1, decide_false] at t1
            clear he
            go_wp2
            go_quiet (fail)
            go_wp2
            go_ret
            exact ⟨retB hfin.out.symm, below_drewN HB.out _⟩
      · have hkz : ¬ (k : Int) < (n : Nat) := by omega
        go_wp2
        go_ret
        refine ⟨retB (Eq.symm (decide_eq_true (List.ext_getElem? fun i => ?_))), HB.out⟩
        by_cases hi : i < n
        · exact HE.out i (by omega)
        · rw [List.getElem?_eq_none (by rw [HL.out.1]; omega), List.getElem?_eq_none (by rw [HL.out.2]; omega)]
  · have hz : ((xs.length : Int) != (ys.length : Int)) = true := by simp; omega
    have hd : decide (xs = ys) = false := decide_eq_false fun e => hl (by rw [e])
    rw [hd]
    clear hd HX HY
    go_enter Tryd.func45, Tryd.ntmps45
    go_wp2
    go_ret
    exact ⟨rfl, Below.refl _ _⟩
/-- Are two the same? -/
def smB (a b : At) : Bool := decide (a.nd = b.nd) && (decide (a.md = b.md) && (decide (a.ui = b.ui) && (decide (a.gi = b.gi) && (decide (a.mt = b.mt) && (decide (a.tg = b.tg) && decide (a.xs = b.xs))))))
theorem smB_iff (a b : At) : smB a b = true ↔ a = b := by
  unfold smB
  simp only [Bool.and_eq_true, decide_eq_true_eq]
  cases a; cases b
  simp
theorem smB_eq (a b : At) [Decidable (a = b)] : smB a b = decide (a = b) := by
  cases h : smB a b with
  | true => rw [decide_eq_true ((smB_iff a b).1 h)]
  | false =>
    rw [decide_eq_false fun e => ?_]
    have := (smB_iff a b).2 e
    rw [h] at this; cases this
set_option maxHeartbeats 8000000 in
set_option maxRecDepth 100000 in
theorem same10 (nd md ui gi : Nat) (mt : Int) (tg : ByteArray) (xs : List (ByteArray × ByteArray)) (ad : Option Addr) (c : Nat) (nd' md' ui' gi' : Nat) (mt' : Int) (tg' : ByteArray) (ys : List (ByteArray × ByteArray)) (bd : Option Addr) (d : Nat) (w : World)
    (hx : XaL w ad xs) (hy : XaL w bd ys) (nx : xs.length ≤ 4611686018427387904) (ny : ys.length ≤ 4611686018427387904) :
    Calls Tryd.prog 18 #[atV nd md ui gi mt tg (.slice ad xs.length c), atV nd' md' ui' gi' mt' tg' (.slice bd ys.length d)] w fun e w' => e = .returned (.bool (smB ⟨nd, md, ui, gi, mt, tg, xs⟩ ⟨nd', md', ui', gi', mt', tg', ys⟩)) ∧ Below w.heap.size w w' := by
  obtain ⟨b1, h1⟩ : ∃ q, decide (nd = nd') = q := ⟨_, rfl⟩
  obtain ⟨b2, h2⟩ : ∃ q, decide (md = md') = q := ⟨_, rfl⟩
  obtain ⟨b3, h3⟩ : ∃ q, decide (ui = ui') = q := ⟨_, rfl⟩
  obtain ⟨b4, h4⟩ : ∃ q, decide (gi = gi') = q := ⟨_, rfl⟩
  obtain ⟨b5, h5⟩ : ∃ q, decide (mt = mt') = q := ⟨_, rfl⟩
  obtain ⟨b6, h6⟩ : ∃ q, decide (tg = tg') = q := ⟨_, rfl⟩
  obtain ⟨b7, h7⟩ : ∃ q, decide (xs = ys) = q := ⟨_, rfl⟩
  have hE : smB ⟨nd, md, ui, gi, mt, tg, xs⟩ ⟨nd', md', ui', gi', mt', tg', ys⟩ = (b1 && (b2 && (b3 && (b4 && (b5 && (b6 && b7)))))) := by unfold smB; rw [h1, h2, h3, h4, h5, h6, h7]
  have z1 : ((nd : Int) == nd') = b1 := by rw [← h1]; rw [Bool.eq_iff_iff]; simp; omega
  have z2 : ((md : Int) == md') = b2 := by rw [← h2]; rw [Bool.eq_iff_iff]; simp; omega
  have z3 : ((ui : Int) == ui') = b3 := by rw [← h3]; rw [Bool.eq_iff_iff]; simp; omega
  have z4 : ((gi : Int) == gi') = b4 := by rw [← h4]; rw [Bool.eq_iff_iff]; simp; omega
  have z5 : (mt == mt') = b5 := by rw [← h5]; rw [Bool.eq_iff_iff]; simp
  have z6 : (tg.toList == tg'.toList) = b6 := by rw [toL_eq, h6]
  have C1 : Hid (∀ u, Below w.heap.size w u → Calls Tryd.prog 45 #[.slice ad xs.length c, .slice bd ys.length d] u fun e w' => e = .returned (.bool b7) ∧ Below u.heap.size u w') := fun u hu => h7 ▸ equal10 ad bd c d xs ys u (hx.below hu) (hy.below hu) nx ny
  rw [hE]
  clear hE h1 h2 h3 h4 h5 h6 h7 hx hy
  cases b1
  · go_enter Tryd.func18, Tryd.ntmps18
    go_wp2
    go_ret
    exact ⟨rfl, ((Below.refl _ _).alloc (Nat.le_refl _) _).alloc (by simp) _⟩
  cases b2
  · go_enter Tryd.func18, Tryd.ntmps18
    go_wp2
    go_ret
    exact ⟨rfl, ((Below.refl _ _).alloc (Nat.le_refl _) _).alloc (by simp) _⟩
  cases b3
  · go_enter Tryd.func18, Tryd.ntmps18
    go_wp2
    go_ret
    exact ⟨rfl, ((Below.refl _ _).alloc (Nat.le_refl _) _).alloc (by simp) _⟩
  cases b4
  · go_enter Tryd.func18, Tryd.ntmps18
    go_wp2
    go_ret
    exact ⟨rfl, ((Below.refl _ _).alloc (Nat.le_refl _) _).alloc (by simp) _⟩
  cases b5
  · go_enter Tryd.func18, Tryd.ntmps18
    go_wp2
    go_ret
    exact ⟨rfl, ((Below.refl _ _).alloc (Nat.le_refl _) _).alloc (by simp) _⟩
  cases b6
  · go_enter Tryd.func18, Tryd.ntmps18
    go_wp2
    go_ret
    exact ⟨rfl, ((Below.refl _ _).alloc (Nat.le_refl _) _).alloc (by simp) _⟩
  · go_enter Tryd.func18, Tryd.ntmps18
    go_wp2_with fail
    refine (C1.out _ (((Below.refl _ _).alloc (Nat.le_refl _) _).alloc (by simp) _)).mono ?_
    rintro e w1 ⟨rfl, hb⟩
    have HB : Hid (Below w.heap.size w w1) := (((Below.refl _ _).alloc (Nat.le_refl _) _).alloc (by simp) _).trans (hb.mono (by simp; omega))
    clear hb
    go_wp2
    go_ret
    exact ⟨rfl, HB.out⟩
end Go.Proofs.YtjnijcmalnckcaaDoor
