import Derived.Test.YtcfniaknbbgheaaDoorY7
import Derived.Laws.MakeOwn
import Derived.WalkKit
import Derived.WalkSpells
import Derived.WalkLawsBesides
import Derived.Handy
import Derived.RegionTactic
import Derived.Maps.AppendAt
import Derived.Deep.RegionHeld3
import Derived.Test.YtcfniaknbbgheaaDoorY1
import Derived.Lib.LaidU8
import Derived.Test.YtcfniaknbbgheaaDoorChecked
import Derived.BigQuiet
import Derived.Deep.QuietTactic
/- What is read of a stream. -/
namespace Go.Proofs.YtcfniaknbbgheaaDoor
open Go.RowKit
set_option linter.unusedSimpArgs false
set_option linter.unusedVariables false
theorem e8_inj {m n : Nat} {r r' : List UInt8} (hm : m < 2 ^ 64) (hn : n < 2 ^ 64) (h : e8 m ++ r = e8 n ++ r') : m = n ∧ r = r' := by
  have h1 := num_front (s := ⟨(e8 m ++ r).toArray⟩) hm rfl
  have h2 := num_front (s := ⟨(e8 m ++ r).toArray⟩) (m := n) (r := r') hn h
  exact ⟨h1.2.1.symm.trans h2.2.1, h1.2.2.symm.trans h2.2.2⟩
theorem tx_inj {x y : ByteArray} {r r' : List UInt8} (hx : x.size < 2 ^ 64) (hy : y.size < 2 ^ 64) (h : tx x ++ r = tx y ++ r') : x = y ∧ r = r' := by
  unfold tx at h
  rw [List.append_assoc, List.append_assoc] at h
  obtain ⟨h1, h2⟩ := e8_inj hx hy h
  obtain ⟨h3, h4⟩ := List.append_inj h2 (by rw [bl_length, bl_length]; exact h1)
  exact ⟨bl_inj h3, h4⟩
theorem xsL_inj : ∀ (xs ys : List (ByteArray × ByteArray)), (∀ x ∈ xs, x.1.size ≤ 255 ∧ x.2.size ≤ 4096) → (∀ x ∈ ys, x.1.size ≤ 255 ∧ x.2.size ≤ 4096) → xs.length = ys.length → xsL xs = xsL ys → xs = ys
  | [], [], _, _, _, _ => rfl
  | [], _ :: _, _, _, h, _ => by simp at h
  | _ :: _, [], _, _, h, _ => by simp at h
  | x :: xs, y :: ys, hx, hy, hl, h => by
    simp only [xsL, List.append_assoc] at h
    have q1 := hx x (by simp)
    have q2 := hy y (by simp)
    obtain ⟨h1, h2⟩ := tx_inj (by omega) (by omega) h
    obtain ⟨h3, h4⟩ := tx_inj (by omega) (by omega) h2
    have ih := xsL_inj xs ys (fun z hz => hx z (by simp [hz])) (fun z hz => hy z (by simp [hz])) (by simpa using hl) h4
    rw [ih, Prod.ext h1 h3]
/-- Unlike ones have unlike bytes. -/
theorem lay_inj {a b : At} (ha : Gd a) (hb : Gd b) (h : lay a = lay b) : a = b := by
  rw [lay_r1, lay_r1] at h
  obtain ⟨a1, a2, a3, a4, a5⟩ := okA_out ha.ok
  obtain ⟨b1, b2, b3, b4, b5⟩ := okA_out hb.ok
  have au := ha.ui; have ag := ha.gi; have bu := hb.ui; have bg := hb.gi
  have h0 : UInt8.ofNat a.nd = UInt8.ofNat b.nd ∧ r1 a = r1 b := by
    simp only [List.cons_append, List.nil_append, List.cons.injEq] at h
    exact h
  have e0 := ofNat_inj8 (by omega) (by omega) h0.1
  obtain ⟨e1, h1⟩ := e8_inj (by omega) (by omega) h0.2
  obtain ⟨e2, h2⟩ := e8_inj (by omega) (by omega) h1
  obtain ⟨e3, h3⟩ := e8_inj (by omega) (by omega) h2
  obtain ⟨e4, h4⟩ := e8_inj (by omega) (by omega) h3
  have h5 : a.tg = b.tg ∧ r6 a = r6 b := by
    unfold r5 ltg at h4
    by_cases h3 : a.nd = 3
    · rw [if_pos h3, if_pos (by omega)] at h4
      have := tg_small a4
      have := tg_small b4
      exact tx_inj (by omega) (by omega) h4
    · rw [if_neg h3, if_neg (by omega)] at h4
      exact ⟨(tg_none a4 h3).trans (tg_none b4 (by omega)).symm, h4⟩
  have la := (xsB_out a5).1
  have lb := (xsB_out b5).1
  obtain ⟨e6, h6⟩ := e8_inj (by omega) (by omega) h5.2
  have e7 := xsL_inj a.xs b.xs (xs_small a5) (xs_small b5) e6 h6
  have e8' : a.mt = b.mt := by omega
  cases a; cases b
  simp only at e0 e1 e2 e3 e7 e8' h5
  rw [e0, e1, e2, e3, e8', h5.1, e7]
/-- Streams that may be read. -/
structure GdL (l : List At) : Prop where
  ok : stB l = true
  bd : ∀ a ∈ l, a.ui < 4294967296 ∧ a.gi < 4294967296
theorem GdL.get {l : List At} (h : GdL l) {a : At} (ha : a ∈ l) : Gd a := by
  have := h.ok
  unfold stB at this
  rw [Bool.and_eq_true] at this
  exact ⟨List.all_eq_true.1 this.2 a ha, (h.bd a ha).1, (h.bd a ha).2⟩
theorem GdL.len {l : List At} (h : GdL l) : 1 ≤ l.length ∧ l.length ≤ 257 := by
  have := h.ok
  unfold stB at this
  rw [Bool.and_eq_true] at this
  exact of_decide_eq_true this.1
theorem stF_cons (a : At) (l : List At) : stF (a :: l) = tx ⟨(lay a).toArray⟩ ++ stF l := by simp [stF]
/-- Where a reader of a stream stands: behind so many. -/
structure Prl (S : ByteArray) (pre : List UInt8) (nx : List At → List UInt8) (F : List At → Prop) (s : ByteArray) (u : Bool) : Prop where
  yes : u = false → bl S = pre ++ bl s
  no : ∀ l, GdL l → stL l = bl S → u = false ∧ F l ∧ bl s = nx l
  sz : s.size ≤ S.size
theorem Prl.start {S : ByteArray} {n : Nat} {s' : ByteArray} {u' : Bool} (hn : NumS S false 257 n s' u') : Prl S (e8 n ++ stF []) (fun l => stF (l.drop 0)) (fun l => l.length = n ∧ l.take 0 = []) s' u' := by
  refine ⟨fun hu => ?_, fun l hl he => ?_, hn.sz⟩
  · rw [(hn.yes hu).2]; simp [stF]
  · obtain ⟨p1, p2, p3⟩ := hn.no rfl l.length (stF l) hl.len.2 (by have := hl.len.2; omega) he.symm
    exact ⟨p1, ⟨p2.symm, rfl⟩, p3⟩
theorem bl_arr (l : List UInt8) : bl ⟨l.toArray⟩ = l := rfl
/-- A text that is read. -/
theorem Prl.txt {S : ByteArray} {pre : List UInt8} {k n most : Nat} {ls : List At} {s : ByteArray} {u : Bool} {x s' : ByteArray} {u' : Bool} (h : Prl S (pre ++ stF ls) (fun l => stF (l.drop k)) (fun l => l.length = n ∧ l.take k = ls) s u) (hk : k < n) (hn : TxtS s u most x s' u') (hm : S.size ≤ most) (hm2 : most < 2 ^ 64) :
    (∀ a, AtOk a → RdS x a 0 → Prl S (pre ++ stF (ls ++ [a])) (fun l => stF (l.drop (k + 1))) (fun l => l.length = n ∧ l.take (k + 1) = ls ++ [a]) s' u') ∧ ((∀ a, Gd a → lay a ≠ bl x) → ∀ l, GdL l → stL l ≠ bl S) := by
  have key : ∀ l, GdL l → stL l = bl S → u' = false ∧ ∃ b, b ∈ l ∧ l.take (k + 1) = ls ++ [b] ∧ l.length = n ∧ lay b = bl x ∧ bl s' = stF (l.drop (k + 1)) := by
    intro l hl he
    obtain ⟨q1, ⟨q2, q3⟩, q4⟩ := h.no l hl he
    have hkl : k < l.length := by omega
    rw [List.drop_eq_getElem_cons hkl, stF_cons] at q4
    have hsz : (⟨(lay l[k]).toArray⟩ : ByteArray).size ≤ most := by
      have h1 := congrArg List.length q4
      rw [List.length_append, bl_length] at h1
      unfold tx at h1
      rw [List.length_append, bl_length] at h1
      have := h.sz
      omega
    obtain ⟨p1, p2, p3⟩ := hn.no q1 _ _ hsz (by omega) q4
    refine ⟨p1, l[k], List.getElem_mem hkl, ?_, q2, ?_, p3⟩
    · rw [List.take_add_one, List.getElem?_eq_getElem hkl, Option.toList_some, q3]
    · rw [p2]; rfl
  constructor
  · intro a hao ha
    rcases ha with ⟨_, ha1, ha2⟩ | ⟨h4, _⟩
    · refine ⟨fun hu => ?_, fun l hl he => ?_, Nat.le_trans hn.sz h.sz⟩
      · obtain ⟨q1, q2⟩ := hn.yes hu
        rw [h.yes q1, q2]
        have e : stF (ls ++ [a]) = stF ls ++ tx x := by
          rw [stF_snoc]
          have : (⟨(lay a).toArray⟩ : ByteArray) = x := bl_inj ha2
          rw [this]
        rw [e]; simp
      · obtain ⟨p1, b, hb, p2, p3, p4, p5⟩ := key l hl he
        have : b = a := lay_inj (hl.get hb) ⟨ha1, hao.ui, hao.gi⟩ (p4.trans ha2.symm)
        rw [this] at p2
        exact ⟨p1, ⟨p3, p2⟩, p5⟩
    · cases h4
  · intro hno l hl he
    obtain ⟨p1, b, hb, p2, p3, p4, p5⟩ := key l hl he
    exact hno b (hl.get hb) p4
end Go.Proofs.YtcfniaknbbgheaaDoor
/- attrs.ReadStream. -/
namespace Go.Proofs.YtcfniaknbbgheaaDoor
open Go.RowKit
set_option linter.unusedSimpArgs false
set_option linter.unusedVariables false
/-- Attributes as cells, with the values of their lists. -/
def acl (p : At × Value) : List Value := [.int .u8 (p.1.nd : Int), .int .u32 (p.1.md : Int), .int .u32 (p.1.ui : Int), .int .u32 (p.1.gi : Int), .int .i64 p.1.mt, .string p.1.tg, p.2]
def atv (P : List (At × Value)) : List Value := P.flatMap acl
theorem atv_app (a b : List (At × Value)) : atv (a ++ b) = atv a ++ atv b := by simp [atv]
theorem atv_one (p : At × Value) : atv [p] = acl p := by simp [atv]
theorem atv_len : ∀ a : List (At × Value), (atv a).length = a.length * 7
  | [] => rfl
  | p :: r => by
    have : atv (p :: r) = acl p ++ atv r := rfl
    rw [this, List.length_append, atv_len r]; simp [acl]; omega
theorem atv_get : ∀ (P : List (At × Value)) (i : Nat) (p : At × Value), P[i]? = some p → ∀ j, j < 7 → (atv P)[i * 7 + j]? = (acl p)[j]?
  | [], i, p, h, j, hj => by simp at h
  | q :: r, 0, p, h, j, hj => by
    simp at h
    subst h
    have : atv (q :: r) = acl q ++ atv r := rfl
    rw [this, Nat.zero_mul, Nat.zero_add, List.getElem?_append_left (by simp [acl]; exact hj)]
  | q :: r, i + 1, p, h, j, hj => by
    have e : atv (q :: r) = acl q ++ atv r := rfl
    have hl : (acl q).length = 7 := rfl
    have ih := atv_get r i p (by simpa using h) j hj
    rw [e, List.getElem?_append_right (by omega), hl, show (i + 1) * 7 + j - 7 = i * 7 + j from by omega]
    exact ih
theorem inf_attr3 : (Tryd.prog.info? 28).map (fun i => (i.zero, i.size, i.bytes)) = some (some (.agg z7), 7, 64) := by kernel_rfl
theorem news_list (w : World) (C : Array Value) (T : TypeId) : ∀ (j : Nat) (u : Value), C.toList[j]? = some u → (w.alloc (.cells C T)).cell? ((⟨w.heap.size, 0, none⟩ : Addr).add j) = some u := by
  intro j u h
  rw [WideShapes.add_plain, Nat.zero_add, World.cell?_alloc_new]
  simpa using h
theorem one_acl (nd md ui gi : Nat) (mt : Int) (tg : ByteArray) (o : Option Addr) (n c : Nat) : ∀ u ∈ (c7 nd md ui gi mt tg (.slice o n c)).toList, u.oneCell' = true := by
  intro u hu
  simp at hu
  rcases hu with rfl | rfl | rfl | rfl | rfl | rfl | rfl <;> rfl
/-- Rows of another type stay where a row grows. -/
theorem own_ty {w w' : World} {B B' n k m k' : Nat} {e e' : TypeId} {x v : Value} {xs ys : List Value} (h : w.ownsRow B e k x n xs) (hv : w.ownsRow B' e' k' v m ys) (he : e ≠ e') (hg : w.grownBy w' v.ownBlock) : w'.ownsRow B e k x n xs := by
  refine ⟨h.1, ?_⟩
  rcases h.2 with h1 | ⟨g, cap, cur, h1, h2, hc, h3⟩
  · exact .inl h1
  · refine .inr ⟨g, cap, cur, h1, h2, ?_, h3⟩
    rw [hg.block g (Array.getElem?_eq_some_iff.1 hc).1 ?_]
    · exact hc
    · intro e2
      rcases hv.2 with ⟨rfl, _⟩ | ⟨g', cap', cur', rfl, _, hc', _⟩
      · cases e2
      · simp [Value.ownBlock] at e2
        subst e2
        rw [hc] at hc'
        cases hc'
        exact he rfl
/-- The lists of these lie in rows of the call's own. -/
def XrO (w : World) (B : Nat) (P : List (At × Value)) : Prop := ∀ p ∈ P, AtOk p.1 ∧ w.ownsRow B 56 2 p.2 p.1.xs.length (xav p.1.xs) ∧ ∀ x ∈ p.1.xs, x.1.size ≤ 255 ∧ x.2.size ≤ 4096
theorem XrO.keep {w w' : World} {B : Nat} {P : List (At × Value)} (h : XrO w B P) (hk : ∀ g, B ≤ g → g < w.heap.size → w'.heap[g]? = w.heap[g]?) : XrO w' B P := fun p hp => ⟨(h p hp).1, rows_keep (h p hp).2.1 hk, (h p hp).2.2⟩
theorem XrO.grow {w w' : World} {B B' m : Nat} {P : List (At × Value)} {v : Value} {ys : List Value} (h : XrO w B P) (hv : w.ownsRow B' 28 7 v m ys) (hg : w.grownBy w' v.ownBlock) : XrO w' B P := fun p hp => ⟨(h p hp).1, own_ty (h p hp).2.1 hv (by decide) hg, (h p hp).2.2⟩
/-- Where the attributes of a row of the call's own lie. -/
theorem own_atl {w : World} {B n : Nat} {e : TypeId} {v : Value} {P : List (At × Value)} (h : w.ownsRow B e 7 v n (atv P)) (hn : P.length = n) (hx : XrO w B P) : ∃ a c, v = .slice a n c ∧ AtL w a (P.map Prod.fst) := by
  rcases h.2 with ⟨rfl, h0⟩ | ⟨g, cap, cur, rfl, hle, hg, hnc, _, hc, ht⟩
  · subst h0
    have : P = [] := List.eq_nil_of_length_eq_zero hn
    subst this
    exact ⟨none, 0, rfl, fun i x hx => by simp at hx⟩
  · refine ⟨some ⟨g, 0, none⟩, cap, rfl, fun i a ha => ?_⟩
    rw [List.getElem?_map] at ha
    obtain ⟨p, hp, rfl⟩ := Option.map_eq_some_iff.1 ha
    obtain ⟨h1, h2, h3⟩ := hx p (List.mem_of_getElem? hp)
    obtain ⟨ad, c, hv, hX⟩ := own_xal h2 rfl (fun x hx => by have := h3 x hx; omega)
    have hb : Bk w g cur e := hg
    have hl : i < P.length := (List.getElem?_eq_some_iff.1 hp).1
    have q : ∀ j, j < 7 → w.cell? ⟨g, 0 + i * 7 + j, none⟩ = (acl p)[j]? := fun j hj => by
      have := atv_get P i p hp j hj
      rw [← ht, List.getElem?_take, if_pos (by omega), Array.getElem?_toList] at this
      rw [hb.cell, Nat.zero_add]
      exact this
    have q0 := q 0 (by omega)
    rw [Nat.add_zero] at q0
    refine ⟨h1, g, 0, ad, c, rfl, (Array.getElem?_eq_some_iff.1 hg).1, q0, q 1 (by omega), q 2 (by omega), q 3 (by omega), q 4 (by omega), q 5 (by omega), ?_, hX⟩
    rw [q 6 (by omega), ← hv]; rfl
/-- What ReadStream tells. -/
def SrS (S : ByteArray) (l : List At) (e : Int) : Prop := (e = 0 ∧ stB l = true ∧ stL l = bl S) ∨ (e = 4 ∧ l = [] ∧ ∀ l', GdL l' → stL l' ≠ bl S)
theorem Prl.fin {S : ByteArray} {n : Nat} {ls : List At} {s : ByteArray} {u : Bool} (hy : ls.length = n) (hn : n ≤ 257) (hok : ∀ a ∈ ls, okA a = true) (h : Prl S (e8 n ++ stF ls) (fun l => stF (l.drop n)) (fun l => l.length = n ∧ l.take n = ls) s u) :
    ((n ≠ 0 ∧ u = false ∧ s.size = 0) → SrS S ls 0) ∧ (¬ (n ≠ 0 ∧ u = false ∧ s.size = 0) → SrS S [] 4) := by
  constructor
  · rintro ⟨h0, h1, h2⟩
    refine .inl ⟨rfl, ?_, ?_⟩
    · unfold stB
      rw [decide_eq_true (by omega), Bool.true_and, List.all_eq_true]
      exact hok
    · have h4 := h.yes h1
      have h5 : bl s = [] := List.eq_nil_of_length_eq_zero (by rw [bl_length]; exact h2)
      rw [h5, List.append_nil] at h4
      rw [h4, stL, hy]
  · intro hno
    refine .inr ⟨rfl, rfl, fun l hl he => hno ?_⟩
    obtain ⟨q1, ⟨q2, q3⟩, q4⟩ := h.no l hl he
    have := hl.len
    rw [List.drop_eq_nil_of_le (by omega)] at q4
    exact ⟨by omega, q1, by rw [← bl_length, q4]; rfl⟩
theorem make_at (n : Nat) (hn : n ≤ 257) (B : Nat) (w : World) (hB : B ≤ w.heap.size) : ∃ w', (Instr.makeSlice 48 (.int .i64 0) (.int .u64 (n : Int))).run Tryd.prog w = .ok (.slice (some ⟨w.heap.size, 0, none⟩) 0 n) w' ∧
    w'.ownsRow B 28 7 (.slice (some ⟨w.heap.size, 0, none⟩) 0 n) 0 [] ∧ w.grownBy w' none := by
  obtain ⟨i0, hi, hz0, hz1, hz2⟩ := info_parts inf_attr3
  exact run_makeSlice_owned w B 48 28 i0 (.agg z7) 7 Tryd.underlying48 hi hz0 hz1 .i64 .u64 n (by omega) (by rw [hz2]; omega) (by unfold maxLen; omega) hB
theorem TS.start10 (w0 : World) (S : ByteArray) : TS (w0.heap.size + 1) w0.heap.size S false ((w0.alloc (.cells #[.string S] 103)).alloc (.cells #[.pointer (some ⟨w0.heap.size, 0, none⟩), .bool false] 74)) := by
  have b1 := (bk_new w0 #[.string S] 103).alloc (.cells #[.pointer (some ⟨w0.heap.size, 0, none⟩), .bool false] 74)
  have b2 := bk_new (w0.alloc (.cells #[.string S] 103)) #[.pointer (some ⟨w0.heap.size, 0, none⟩), .bool false] 74
  rw [al_size] at b2
  exact ⟨b2, by rw [b1.cell]; rfl, b1.frozen 0, b1.lt, by omega⟩
set_option maxHeartbeats 16000000 in
set_option maxRecDepth 100000 in
theorem readst (S : ByteArray) (w : World) (hs : S.size ≤ 140737488351232) (hT : U8 w) :
    Calls Tryd.prog 20 #[.string S] w fun e w' => ∃ (P : List (At × Value)) (v : Value) (er : Int), e = .returned (.tuple #[v, .int .i64 er]) ∧ SrS S (P.map Prod.fst) er ∧ w'.ownsRow w.heap.size 28 7 v P.length (atv P) ∧ XrO w' w.heap.size P ∧ P.length ≤ 257 ∧ Below w.heap.size w w' := by
  have HT : Hid (U8 w) := hT
  have T0 : Hid (TS (w.heap.size + 1) w.heap.size S false ((w.alloc (.cells #[.string S] 103)).alloc (.cells #[.pointer (some ⟨w.heap.size, 0, none⟩), .bool false] 74))) := TS.start10 w S
  have B0 : Hid (Below w.heap.size w ((w.alloc (.cells #[.string S] 103)).alloc (.cells #[.pointer (some ⟨w.heap.size, 0, none⟩), .bool false] 74))) := ((Below.refl _ w).alloc (Nat.le_refl _) _).alloc (by simp) _
  clear hT
  go_enter Tryd.func20, Tryd.ntmps20
  go_wp2_with fail
  refine (new_any S _).mono ?_
  rintro e w1 ⟨rfl, hw1⟩
  rw [hw1]
  clear hw1
  go_wp2_with fail
  refine (number_any (w.heap.size + 1) w.heap.size S false 257 _ T0.out hs (by omega)).mono ?_
  rintro e w2 ⟨n, s2, u2, rfl, ht, hk, hN⟩
  have hb := hN.bd
  have T2 : Hid (TS (w.heap.size + 1) w.heap.size s2 u2 w2) := ht
  have B2 : Hid (Below w.heap.size w w2) := hk.below B0.out B0.out.size (by omega) (by omega)
  have P2 : Hid (Prl S (e8 n ++ stF []) (fun l => stF (l.drop 0)) (fun l => l.length = n ∧ l.take 0 = []) s2 u2) := Prl.start hN
  have z2 := ht.tk.lt
  obtain ⟨w3, hmk, ho3, hg3⟩ := make_at n hb (w.heap.size + 1 + 1) w2 (by omega)
  have T3 : Hid (TS (w.heap.size + 1) w.heap.size s2 u2 w3) := ht.keep (below_of_gr hg3)
  have B3 : Hid (Below w.heap.size w w3) := B2.out.trans ((below_of_gr hg3).mono (by omega))
  have O3 : Hid (w3.ownsRow (w.heap.size + 1 + 1) 28 7 (.slice (some ⟨w2.heap.size, 0, none⟩) 0 n) 0 (atv [])) := ho3
  clear ht hk hN hg3 ho3 T2 B2 T0 B0
  go_wp2
  go_loopw [6, 16] (fun q x wr => ∃ (k : Nat) (P : List (At × Value)) (g cp : Nat) (s : ByteArray) (u : Bool), q = .slice (some ⟨g, 0, none⟩) k cp ∧ x = .int .u64 (k : Int) ∧ k ≤ n ∧ Hid (P.length = k) ∧ Hid (TS (w.heap.size + 1) w.heap.size s u wr) ∧ Hid (Below w.heap.size w wr) ∧ Hid (wr.ownsRow (w.heap.size + 1 + 1) 28 7 (.slice (some ⟨g, 0, none⟩) k cp) k (atv P)) ∧ Hid (XrO wr (w.heap.size + 1 + 1) P) ∧ Hid (Prl S (e8 n ++ stF (P.map Prod.fst)) (fun l => stF (l.drop k)) (fun l => l.length = n ∧ l.take k = P.map Prod.fst) s u) ∧ Hid (∀ a ∈ P.map Prod.fst, okA a = true)) (fun _ x _ => n - (intOf x).toNat)
  case atStart => exact ⟨0, [], _, n, s2, u2, rfl, rfl, Nat.zero_le _, rfl, T3.out, B3.out, O3.out, (fun p hp => nomatch hp), P2.out, (fun a ha => nomatch ha)⟩
  case round =>
    clear T3 B3 O3 P2 hmk
    obtain ⟨k, P, g, cp, s, u, rfl, rfl, hk, HY, HTS, HB, HO, HXR, HL, HOK⟩ := hrel
    have zr : s.size ≤ 140737488351232 := Nat.le_trans HL.out.sz hs
    have zt := HTS.out.tk.lt
    by_cases hlt : k < n
    · have hkz : (k : Int) < (n : Nat) := by omega
      go_wp2_with fail
      refine (ttext_any (w.heap.size + 1) w.heap.size s u S.size _ HTS.out zr hs).mono ?_
      rintro e w4 ⟨x, s4, u4, rfl, ht, hk4, hN4⟩
      have N4 : Hid (TxtS s u S.size x s4 u4) := hN4
      have hxs : x.size ≤ 140737488351232 := Nat.le_trans hN4.bd hs
      have T4 : Hid (TS (w.heap.size + 1) w.heap.size s4 u4 w4) := ht
      have B4 : Hid (Below w.heap.size w w4) := hk4.below HB.out HB.out.size (by omega) (by omega)
      have O4 : Hid (w4.ownsRow (w.heap.size + 1 + 1) 28 7 (.slice (some ⟨g, 0, none⟩) k cp) k (atv P)) := own_kt HO.out hk4 (by omega) (by omega)
      have X4 : Hid (XrO w4 (w.heap.size + 1 + 1) P) := HXR.out.keep (fun g h1 h2 => hk4.block g h2 (by omega) (by omega))
      have zt4 := ht.tk.lt
      clear ht hk4 hN4 HTS HB HO HXR
      go_wp2_with fail
      refine (read10 x _ hxs (HT.out.below B4.out)).mono ?_
      rintro e w5 ⟨a, va, er, rfl, hrd, hao, hao2, hxs2, hb5⟩
      obtain ⟨hp1, hp2⟩ := HL.out.txt hlt N4.out (Nat.le_refl _) (by omega)
      have T5 : Hid (TS (w.heap.size + 1) w.heap.size s4 u4 w5) := T4.out.keep hb5
      have B5 : Hid (Below w.heap.size w w5) := B4.out.trans (hb5.mono (by omega))
      have O5 : Hid (w5.ownsRow (w.heap.size + 1 + 1) 28 7 (.slice (some ⟨g, 0, none⟩) k cp) k (atv P)) := rows_keep O4.out (fun g _ h2 => hb5.block g h2)
      have X5 : Hid (XrO w5 (w.heap.size + 1 + 1) P) := X4.out.keep (fun g _ h2 => hb5.block g h2)
      have A5 : Hid (w5.ownsRow (w.heap.size + 1 + 1) 56 2 va a.xs.length (xav a.xs)) := rows_low hao2 (by omega)
      have hz5 := hb5.size
      obtain ⟨oa, na, ca, hva⟩ : ∃ o n c, va = .slice o n c := by
        rcases hao2.2 with ⟨h1, _⟩ | ⟨_, _, _, h1, _⟩
        · exact ⟨_, _, _, h1⟩
        · exact ⟨_, _, _, h1⟩
      subst hva
      rcases hrd with ⟨rfl, hr1, hr2⟩ | ⟨rfl, _, hr2⟩
      · have L5 : Hid (Prl S (e8 n ++ stF (P.map Prod.fst ++ [a])) (fun l => stF (l.drop (k + 1))) (fun l => l.length = n ∧ l.take (k + 1) = P.map Prod.fst ++ [a]) s4 u4) := hp1 a hao (.inl ⟨rfl, hr1, hr2⟩)
        have HAO : Hid (AtOk a ∧ (∀ x ∈ a.xs, x.1.size ≤ 255 ∧ x.2.size ≤ 4096) ∧ okA a = true) := ⟨hao, hxs2, hr1⟩
        obtain ⟨nd, md, ui, gi, mt, tg, xs⟩ := a
        clear hp1 hp2 hr1 hr2 hao hao2 hxs2 hb5 T4 B4 O4 X4
        dsimp only
        obtain ⟨i0, hi, hz0, hz1, hz2⟩ := info_parts inf_attr3
        have O6 : Hid (((w5.alloc (.cells (c7 nd md ui gi mt tg (.slice oa na ca)) 28)).alloc (.cells (c7 nd md ui gi mt tg (.slice oa na ca)) 28)).ownsRow (w.heap.size + 1 + 1) 28 7 (.slice (some ⟨g, 0, none⟩) k cp) k (atv P)) := (O5.out.alloc _).alloc _
        go_wp2_with (at_builtin; refine wpList_append_own _ rfl _ _ 48 rfl (w.heap.size + 1 + 1) 28 i0 (.agg z7) 7 64 Tryd.underlying48 hi hz0 hz1 hz2 rfl (by decide) _ _ _ rfl O6.out ⟨w5.heap.size + 1, 0, none⟩ 1 1 (c7 nd md ui gi mt tg (.slice oa na ca)).toList rfl rfl (by have := news_list (w5.alloc (.cells (c7 nd md ui gi mt tg (.slice oa na ca)) 28)) (c7 nd md ui gi mt tg (.slice oa na ca)) 28; rw [al_size] at this; exact this) (one_acl _ _ _ _ _ _ _ _ _) (by unfold maxLen; omega) (by omega) (by simp; omega) ?_)
        intro v' w7 hown hgrow _
        have hblk : ∀ b, (Value.slice (some ⟨g, 0, none⟩) k cp).ownBlock = some b → w.heap.size + 1 + 1 ≤ b := fun b hb => (rows_blk O5.out hb).1
        have hbA : Below w5.heap.size w5 ((w5.alloc (.cells (c7 nd md ui gi mt tg (.slice oa na ca)) 28)).alloc (.cells (c7 nd md ui gi mt tg (.slice oa na ca)) 28)) := ((Below.refl _ _).alloc (Nat.le_refl _) _).alloc (by simp) _
        have T7 : Hid (TS (w.heap.size + 1) w.heap.size s4 u4 w7) := (T5.out.keep hbA).grown hgrow (fun e => by have := hblk _ e; omega) (fun e => by have := hblk _ e; omega)
        have B7 : Hid (Below w.heap.size w w7) := rows_bel (B5.out.trans (hbA.mono (by omega))) (by simp; omega) O6.out (by omega) hgrow
        have X7 : Hid (XrO w7 (w.heap.size + 1 + 1) (P ++ [(⟨nd, md, ui, gi, mt, tg, xs⟩, .slice oa na ca)])) := by
          intro p hp
          rcases List.mem_append.1 hp with h | h
          · exact (((X5.out.keep (fun g _ h2 => hbA.block g h2)).grow O6.out hgrow)) p h
          · rw [List.mem_singleton] at h
            subst h
            exact ⟨HAO.out.1, own_ty (rows_keep A5.out (fun g _ h2 => hbA.block g h2)) O6.out (by decide) hgrow, HAO.out.2.1⟩
        have O7 : Hid (w7.ownsRow (w.heap.size + 1 + 1) 28 7 v' (k + 1) (atv (P ++ [(⟨nd, md, ui, gi, mt, tg, xs⟩, .slice oa na ca)]))) := by
          show World.ownsRow _ _ _ _ _ _ _
          rw [atv_app, atv_one]; exact hown
        have L7 : Hid (Prl S (e8 n ++ stF ((P ++ [((⟨nd, md, ui, gi, mt, tg, xs⟩ : At), Value.slice oa na ca)]).map Prod.fst)) (fun l => stF (l.drop (k + 1))) (fun l => l.length = n ∧ l.take (k + 1) = (P ++ [((⟨nd, md, ui, gi, mt, tg, xs⟩ : At), Value.slice oa na ca)]).map Prod.fst) s4 u4) := by
          rw [List.map_append]; exact L5.out
        have K7 : Hid (∀ a ∈ (P ++ [((⟨nd, md, ui, gi, mt, tg, xs⟩ : At), Value.slice oa na ca)]).map Prod.fst, okA a = true) := by
          intro a ha
          rw [List.map_append] at ha
          rcases List.mem_append.1 ha with h | h
          · exact HOK.out a h
          · simp at h
            subst h
            exact HAO.out.2.2
        obtain ⟨g7, cp7, hv⟩ : ∃ g7 c7, v' = .slice (some ⟨g7, 0, none⟩) (k + 1) c7 := by
          rcases hown.2 with ⟨_, h0⟩ | ⟨g7, c7, cur, h1, _⟩
          · omega
          · exact ⟨g7, c7, h1⟩
        subst hv
        clear hown hgrow hblk hbA T5 B5 O5 X5 A5 L5 O6 HAO HOK HL
        go_wp2
        go_roundw
        case rel => exact ⟨k + 1, _, g7, cp7, s4, u4, rfl, by go_num, by omega, by (show _ = _; rw [List.length_append, HY.out]; rfl), T7.out, B7.out, O7.out, X7.out, L7.out, K7.out⟩
        case measure => simp [intOf]; omega
      · have HNO : Hid (∀ l, GdL l → stL l ≠ bl S) := hp2 hr2
        obtain ⟨nd, md, ui, gi, mt, tg, xs⟩ := a
        clear hp1 hp2 hr2 hao hao2 hxs2 hb5 T4 B4 O4 X4
        dsimp only
        go_wp2
        go_ret2
        exact ⟨[], _, 4, rfl, .inr ⟨rfl, rfl, HNO.out⟩, rows_none, (fun p hp => nomatch hp), Nat.zero_le _, B5.out.trans (((Below.refl _ _).alloc (Nat.le_refl _) _).mono (by omega))⟩
    · have hkz : ¬ (k : Int) < (n : Nat) := by omega
      obtain rfl : k = n := by omega
      obtain ⟨G1, G2⟩ := Prl.fin (ls := P.map Prod.fst) (by rw [List.length_map]; exact HY.out) hb HOK.out HL.out
      have HFT : Hid (∀ q, (!u && decide (s.size = 0)) = q → Calls Tryd.prog 29 #[.pointer (some ⟨w.heap.size + 1, 0, none⟩)] wr fun e w' => e = .returned (.bool q) ∧ w' = wr) := fun q hq => hq ▸ fits_any10 (w.heap.size + 1) w.heap.size s u wr HTS.out zr
      by_cases hn0 : k = 0
      · have hnz : ((k : Int) == 0) = true := by simp [hn0]
        have HG : Hid (SrS S [] 4) := G2 (fun h => h.1 hn0)
        clear G1 G2 hn0 HL HFT
        go_wp2
        go_ret2
        exact ⟨[], _, 4, rfl, HG.out, rows_none, (fun p hp => nomatch hp), Nat.zero_le _, HB.out⟩
      · have hnz : ((k : Int) == 0) = false := by simp; omega
        by_cases hf : u = false ∧ s.size = 0
        · have hq : (!u && decide (s.size = 0)) = true := by rw [hf.1, hf.2]; rfl
          have HF2 : Hid _ := HFT.out true hq
          have HG : Hid (SrS S (P.map Prod.fst) 0) := G1 ⟨hn0, hf⟩
          clear G1 G2 hn0 HL HFT hf hq
          go_wp2_with fail
          refine Calls.mono HF2.out ?_
          rintro e w8 ⟨rfl, hw⟩
          rw [hw]
          clear hw
          go_wp2
          go_ret2
          refine ⟨P, _, 0, rfl, HG.out, ?_, (fun p hp => ⟨(HXR.out p hp).1, rows_low (HXR.out p hp).2.1 (by omega), (HXR.out p hp).2.2⟩), by rw [HY.out]; exact hb, HB.out⟩
          rw [HY.out]
          exact rows_low HO.out (by omega)
        · have hq : (!u && decide (s.size = 0)) = false := by
            cases u
            · have : s.size ≠ 0 := fun h => hf ⟨rfl, h⟩
              simp [this]
            · rfl
          have HF2 : Hid _ := HFT.out false hq
          have HG : Hid (SrS S [] 4) := G2 (fun h => hf h.2)
          clear G1 G2 hn0 HL HFT hf hq
          go_wp2_with fail
          refine Calls.mono HF2.out ?_
          rintro e w8 ⟨rfl, hw⟩
          rw [hw]
          clear hw
          go_wp2
          go_ret2
          exact ⟨[], _, 4, rfl, HG.out, rows_none, (fun p hp => nomatch hp), Nat.zero_le _, HB.out⟩
end Go.Proofs.YtcfniaknbbgheaaDoor
/- A drawn append whose run is known. -/
namespace Go.Proofs.YtcfniaknbbgheaaDoor
open Go.RowKit
set_option linter.unusedSimpArgs false
set_option linter.unusedVariables false
theorem step_app_run {P : Program} {ops : Array Oper} {o : Oper} {a : Act} {w : World} {K : Act → World → Prop} {Q : Exit → Act → World → Prop} {E : Prop} (hgd : o.guard = none) (s x : Operand) (t u : TypeId)
    (ho : o.op = .call { callee := .builtin .append, args := #[s, x], argTypes := #[t, u] }) (v y v' : Value) (w' : World) (hs : a.eval s = v) (hx : a.eval x = y) (hr : (Builtin.append_ #[t, u] o.type #[v, y]).run P w = .ok v' w') (h : K (a.put o.dst v') w') :
    if Region.wanted o (yielded ops a.tmps) = true then Oper.wp P o a w K Q else E := by
  have hw : Region.wanted o (yielded ops a.tmps) = true := by simp [Region.wanted, hgd]
  rw [if_pos hw]
  unfold Oper.wp execOp
  simp only [ho, resolve, invoke, builtin, Sem.run_bind, Sem.run_pure, Result.andThen_ok, List.map_toArray, List.map_cons, List.map_nil, hs, hx, hr]
  exact h
end Go.Proofs.YtcfniaknbbgheaaDoor
/- attrs.Modes: its closure, a node that is none, letters appended. -/
namespace Go.Proofs.YtcfniaknbbgheaaDoor
open Go.RowKit
set_option linter.unusedSimpArgs false
set_option linter.unusedVariables false
set_option maxHeartbeats 4000000 in
theorem bit_lo (k : Int) (b : Nat) (w : World) (h0 : 0 ≤ k) (h9 : k ≤ 9) (hc : w.cell? ⟨b, 0, none⟩ = some (.int .u32 1023)) : Calls Tryd.prog 35 #[.int .i64 k, .pointer (some ⟨b, 0, none⟩)] w fun e w' => e = .returned (.int .u32 1) ∧ w' = w := by
  have hk : k = 0 ∨ k = 1 ∨ k = 2 ∨ k = 3 ∨ k = 4 ∨ k = 5 ∨ k = 6 ∨ k = 7 ∨ k = 8 ∨ k = 9 := by omega
  rcases hk with rfl | rfl | rfl | rfl | rfl | rfl | rfl | rfl | rfl | rfl
  all_goals
    go_enter Tryd.func35, Tryd.ntmps35
    go_wp2
    go_ret
    exact ⟨rfl, rfl⟩
set_option maxHeartbeats 4000000 in
theorem bit_hi (k : Int) (b : Nat) (w : World) (h0 : 10 ≤ k) (h9 : k ≤ 11) (hc : w.cell? ⟨b, 0, none⟩ = some (.int .u32 1023)) : Calls Tryd.prog 35 #[.int .i64 k, .pointer (some ⟨b, 0, none⟩)] w fun e w' => e = .returned (.int .u32 0) ∧ w' = w := by
  have hk : k = 10 ∨ k = 11 := by omega
  rcases hk with rfl | rfl
  all_goals
    go_enter Tryd.func35, Tryd.ntmps35
    go_wp2
    go_ret
    exact ⟨rfl, rfl⟩
set_option maxRecDepth 100000 in
theorem modes_no (w : World) : Calls Tryd.prog 10 #[.int .u8 4, .int .u32 0] w fun e w' => e = .returned (.tuple #[.string ⟨#[]⟩, .int .i64 1]) ∧ Below w.heap.size w w' := by
  have h := isNode_any 4
  rw [show ndB 4 = false from rfl] at h
  go_enter Tryd.func10, Tryd.ntmps10
  go_wp2_with fail
  refine (h _).mono ?_
  rintro e w1 ⟨rfl, rfl⟩
  go_wp2
  go_ret2
  exact ⟨rfl, (Below.refl _ _).alloc (Nat.le_refl _) _⟩
/-- The listed variable threes. -/
def thc : List Value := [.int .i64 8, .int .i64 7, .int .i64 6, .int .i64 11, .string ⟨#[45, 120, 83, 115]⟩, .int .i64 5, .int .i64 4, .int .i64 3, .int .i64 10, .string ⟨#[45, 120, 83, 115]⟩, .int .i64 2, .int .i64 1, .int .i64 0, .int .i64 9, .string ⟨#[45, 120, 84, 116]⟩]
def Th (w : World) : Prop := 0 < w.heap.size ∧ ∀ j v, thc[j]? = some v → w.cell? ⟨0, j, none⟩ = some v
theorem Th.below {w w' : World} (h : Th w) (hb : Below w.heap.size w w') : Th w' := ⟨Nat.lt_of_lt_of_le h.1 hb.size, fun j v hv => by rw [hb.cell (p := ⟨0, j, none⟩) h.1]; exact h.2 j v hv⟩
theorem inf_u8_10 : (Tryd.prog.info? 5).map (fun i => (i.zero, i.size, i.bytes)) = some (some (.int .u8 0), 1, 1) := by kernel_rfl
/-- Letters as cells. -/
def u8c (l : List UInt8) : List Value := l.map fun x => Value.int .u8 (x.toNat : Int)
theorem tix0 (u : World) : (Instr.index 90 (.agg #[.int .i64 8, .int .i64 7, .int .i64 6, .int .i64 11, .string ⟨#[45, 120, 83, 115]⟩, .int .i64 5, .int .i64 4, .int .i64 3, .int .i64 10, .string ⟨#[45, 120, 83, 115]⟩, .int .i64 2, .int .i64 1, .int .i64 0, .int .i64 9, .string ⟨#[45, 120, 84, 116]⟩]) (.int .i64 0)).run Tryd.prog u = .ok (.agg #[.int .i64 8, .int .i64 7, .int .i64 6, .int .i64 11, .string ⟨#[45, 120, 83, 115]⟩]) u := by kernel_rfl
theorem tix1 (u : World) : (Instr.index 90 (.agg #[.int .i64 8, .int .i64 7, .int .i64 6, .int .i64 11, .string ⟨#[45, 120, 83, 115]⟩, .int .i64 5, .int .i64 4, .int .i64 3, .int .i64 10, .string ⟨#[45, 120, 83, 115]⟩, .int .i64 2, .int .i64 1, .int .i64 0, .int .i64 9, .string ⟨#[45, 120, 84, 116]⟩]) (.int .i64 1)).run Tryd.prog u = .ok (.agg #[.int .i64 5, .int .i64 4, .int .i64 3, .int .i64 10, .string ⟨#[45, 120, 83, 115]⟩]) u := by kernel_rfl
theorem tix2 (u : World) : (Instr.index 90 (.agg #[.int .i64 8, .int .i64 7, .int .i64 6, .int .i64 11, .string ⟨#[45, 120, 83, 115]⟩, .int .i64 5, .int .i64 4, .int .i64 3, .int .i64 10, .string ⟨#[45, 120, 83, 115]⟩, .int .i64 2, .int .i64 1, .int .i64 0, .int .i64 9, .string ⟨#[45, 120, 84, 116]⟩]) (.int .i64 2)).run Tryd.prog u = .ok (.agg #[.int .i64 2, .int .i64 1, .int .i64 0, .int .i64 9, .string ⟨#[45, 120, 84, 116]⟩]) u := by kernel_rfl
def mls (i : Nat) : List UInt8 := [100, 114, 119, 120, 114, 119, 120, 114, 119, 116].take (1 + 3 * i)
theorem mapp (w wr : World) (g cp n : Nat) (l : List UInt8) (c1 c2 c3 : UInt8) (z1 z2 z3 : Int) (y1 : (c1.toNat : Int) = z1) (y2 : (c2.toNat : Int) = z2) (y3 : (c3.toNat : Int) = z3) (hb : Below w.heap.size w wr) (hc : wr.cell? ⟨w.heap.size, 0, none⟩ = some (.int .u32 1023)) (ho : wr.ownsRow (w.heap.size + 1) 5 1 (.slice (some ⟨g, 0, none⟩) n cp) n (u8c l)) (hz : w.heap.size + 1 ≤ wr.heap.size) (hn : n ≤ 100) :
    ∃ g' cp' w7, (Builtin.append_ #[58, 58] 58 #[.slice (some ⟨g, 0, none⟩) n cp, .slice (some ⟨wr.heap.size, 0, none⟩) 3 3]).run Tryd.prog (wr.alloc (.cells #[.int .u8 z1, .int .u8 z2, .int .u8 z3] 5)) = .ok (.slice (some ⟨g', 0, none⟩) (n + 3) cp') w7 ∧
      w7.ownsRow (w.heap.size + 1) 5 1 (.slice (some ⟨g', 0, none⟩) (n + 3) cp') (n + 3) (u8c (l ++ [c1, c2, c3])) ∧ w7.cell? ⟨w.heap.size, 0, none⟩ = some (.int .u32 1023) ∧ Below w.heap.size w w7 ∧ w.heap.size + 1 ≤ w7.heap.size ∧ ∀ b C T, Bk wr b C T → T ≠ 5 → Bk w7 b C T := by
  subst y1 y2 y3
  obtain ⟨i0, hi, hz0, hz1, hz2⟩ := info_parts inf_u8_10
  obtain ⟨v', w7, hrun, hown, hgrow, _, hat⟩ := run_append_own_at (P := Tryd.prog) (w := wr.alloc (.cells #[.int .u8 (c1.toNat : Int), .int .u8 (c2.toNat : Int), .int .u8 (c3.toNat : Int)] 5)) (w.heap.size + 1) 58 58 5 i0 (.int .u8 0) 1 1 Tryd.underlying58 hi hz0 hz1 hz2 rfl (by decide) (.slice (some ⟨g, 0, none⟩) n cp) n (u8c l) (ho.alloc _) ⟨wr.heap.size, 0, none⟩ 3 3 [.int .u8 (c1.toNat : Int), .int .u8 (c2.toNat : Int), .int .u8 (c3.toNat : Int)] rfl (news_list wr #[.int .u8 (c1.toNat : Int), .int .u8 (c2.toNat : Int), .int .u8 (c3.toNat : Int)] _) (by
    intro u hu
    simp at hu
    rcases hu with rfl | rfl | rfl <;> rfl) (by unfold maxLen; omega) (by omega) (by rw [al_size]; omega)
  obtain ⟨g', cp', hv⟩ : ∃ g7 c7, v' = .slice (some ⟨g7, 0, none⟩) (n + 3) c7 := by
    rcases hown.2 with ⟨_, h0⟩ | ⟨g7, c7, cur, h1, _⟩
    · omega
    · exact ⟨g7, c7, h1⟩
  subst hv
  have hblk : ∀ b, (Value.slice (some ⟨g, 0, none⟩) n cp).ownBlock = some b → w.heap.size + 1 ≤ b := fun b hb => (rows_blk ho hb).1
  have hbA : Below w.heap.size w (wr.alloc (.cells #[.int .u8 (c1.toNat : Int), .int .u8 (c2.toNat : Int), .int .u8 (c3.toNat : Int)] 5)) := hb.alloc (by omega) _
  refine ⟨g', cp', w7, hrun, ?_, ?_, rows_bel hbA (by rw [al_size]; omega) (ho.alloc _) (by omega) hgrow, by have := hgrow.size; rw [al_size] at this; omega, fun b C T hb hT => ?_⟩
  · have e : u8c (l ++ [c1, c2, c3]) = u8c l ++ [.int .u8 (c1.toNat : Int), .int .u8 (c2.toNat : Int), .int .u8 (c3.toNat : Int)] := by simp [u8c]
    rw [e]; exact hown
  · have q := cell_blk (j := 0) (hgrow.block w.heap.size (by rw [al_size]; omega) (fun e => by have := hblk _ e.symm; omega))
    rw [q.1, World.cell?_alloc_past _ _ _ (by show w.heap.size < _; omega)]
    exact hc
  · refine (hb.alloc _).grown hgrow (fun e => hT ?_)
    rcases (ho.alloc (.cells #[.int .u8 (c1.toNat : Int), .int .u8 (c2.toNat : Int), .int .u8 (c3.toNat : Int)] 5)).2 with ⟨h1, _⟩ | ⟨g', cap', cur', h1, _, hc', _⟩
    · cases h1
    · cases h1
      simp [Value.ownBlock] at e
      subst e
      have := hb.alloc (.cells #[.int .u8 (c1.toNat : Int), .int .u8 (c2.toNat : Int), .int .u8 (c3.toNat : Int)] 5)
      unfold Bk at this
      rw [hc'] at this
      cases this
      rfl
theorem nums10 (l : List UInt8) : strOfNums (l.map fun b => (b.toNat : Int)) = ⟨l.toArray⟩ := by
  unfold strOfNums
  rw [List.map_map]
  congr 2
  conv => rhs; rw [← List.map_id l]
  apply List.map_congr_left
  intro x _
  simp
theorem conv10 {w : World} {base n : Nat} {v : Value} {l : List UInt8} (h : w.ownsRow base 5 1 v n (u8c l)) :
    (convert 58 9 v).run Tryd.prog w = .ok (.string ⟨l.toArray⟩) w := by
  obtain ⟨hl, h⟩ := h
  have hll : l.length = n := by simpa [u8c] using hl
  rcases h with ⟨rfl, rfl⟩ | ⟨g, cap, cur, rfl, _, hg, hn, _, hc, ht⟩
  · have : l = [] := List.eq_nil_of_length_eq_zero hll
    subst this
    exact run_convert_bytes_nil w 58 5 Tryd.underlying58 Tryd.underlying5 0 0 9 Tryd.underlying9
  · have hbk : Bk w g cur 5 := hg
    have hr := run_convert_bytes_arg w 58 5 Tryd.underlying58 Tryd.underlying5 g 0 n cap (l.map fun x : UInt8 => (x.toNat : Int)) (by simp [hll]) (fun i hi => by
      have q : (u8c l)[i]? = some (.int .u8 ((l.map fun x : UInt8 => (x.toNat : Int)).getD i 0)) := by
        unfold u8c
        rw [List.getElem?_map, List.getD_eq_getElem?_getD, List.getElem?_map, List.getElem?_eq_getElem (by omega)]
        rfl
      rw [← ht, List.getElem?_take, if_pos (by omega), Array.getElem?_toList] at q
      rw [hbk.cell, Nat.zero_add]
      exact q) 9 Tryd.underlying9
    rw [hr, nums10]
end Go.Proofs.YtcfniaknbbgheaaDoor
/- The listed variables of AttrsOne's row: the two tables of the Go library and attrs.threes; a world for the witness that holds them. -/
namespace Go.Proofs.YtcfniaknbbgheaaDoor
open Go.ChangeShapes Go.WideShapes Go.ChangeAt Go.RowKit
set_option linter.unusedSimpArgs false
set_option linter.unusedVariables false
noncomputable def laidW3 (os : Os) : World := { World.holding Tryd.prog os ⟨#[], #[], []⟩ with heap := (((World.holding Tryd.prog os ⟨#[], #[], []⟩).heap.modify 2 (layC (cells2 Rows.laid_unicode_utf8_first))).modify 3 (layC (cells2 Rows.laid_unicode_utf8_acceptRanges))).modify 0 (layC thc.toArray) }
theorem u8_one10 {W : World} (h : laidMet Tryd.prog Rows.attrsOneRow.laid W) : U8 W := by
  have h3 := Lib.laidMet.reads h (.tail _ (.tail _ (.head _)))
  have h4 := Lib.laidMet.reads h (.head _)
  rw [first_eq] at h3
  rw [accept_eq] at h4
  exact utf8Tabs_of_readsT (U8Types.of196 lays196) u8_extra h3 h4
theorem gTh : Tryd.prog.globalNamed "muniment/attrs.threes" = some 0 := by kernel_rfl
theorem tTh : (Tryd.prog.globals[0]?).map (·.type) = some 90 := by kernel_rfl
theorem cThr : Tryd.prog.cellsOf 89 = 5 := by kernel_rfl
theorem cInt : Tryd.prog.cellsOf 3 = 1 := by kernel_rfl
theorem cStr : Tryd.prog.cellsOf 9 = 1 := by kernel_rfl
set_option maxRecDepth 100000 in
theorem three_of {W : World} {fuel : Nat} {cs : List Value} {p : List MemPlace} {a b c d : Int} {L : List UInt8}
    (h : DataW.trod (fun _ => ()) Tryd.prog W 0 (fun _ => true) false fuel 89 cs = some (.agg [.lit (.int .i64 a), .lit (.int .i64 b), .lit (.int .i64 c), .lit (.int .i64 d), .lit (.string L)], p)) : cs = [.int .i64 a, .int .i64 b, .int .i64 c, .int .i64 d, .string ⟨L.toArray⟩] := by
  obtain ⟨xs, n, rfl, hx, hl, hxl, hall⟩ := DataW.trod_struct Tryd.underlying89 h
  rw [cThr] at hl
  match cs, hl with
  | [u0, u1, u2, u3, u4], _ =>
  match xs, hxl with
  | [y0, y1, y2, y3, y4], _ =>
  have e0 := hall 0 _ rfl
  have e1 := hall 1 _ rfl
  have e2 := hall 2 _ rfl
  have e3 := hall 3 _ rfl
  have e4 := hall 4 _ rfl
  simp only [cInt, cStr, List.drop_zero, List.drop_succ_cons, List.take_succ_cons, List.take_zero, List.getElem?_cons_zero, List.getElem?_cons_succ] at e0 e1 e2 e3 e4
  obtain ⟨z0, q0, r0, _⟩ := DataW.trod_int Tryd.underlying3 e0
  obtain ⟨z1, q1, r1, _⟩ := DataW.trod_int Tryd.underlying3 e1
  obtain ⟨z2, q2, r2, _⟩ := DataW.trod_int Tryd.underlying3 e2
  obtain ⟨z3, q3, r3, _⟩ := DataW.trod_int Tryd.underlying3 e3
  obtain ⟨z4, q4, r4, _⟩ := DataW.trod_string Tryd.underlying9 e4
  subst r0 r1 r2 r3 r4
  have hx' := congrArg Prod.fst hx
  simp only [List.map_cons, List.map_nil, DataW.agg.injEq, List.cons.injEq, DataW.lit.injEq, Lit.int.injEq, Lit.string.injEq, true_and, and_true] at hx'
  obtain ⟨rfl, rfl, rfl, rfl, rfl⟩ := hx'
  cases q0; cases q1; cases q2; cases q3; cases q4
  rfl
set_option maxRecDepth 100000 in
theorem th_one10 {W : World} (h : laidMet Tryd.prog Rows.attrsOneRow.laid W) : Th W := by
  obtain ⟨g, t, cs, fuel, p, hg, ht, hv, hd⟩ := Lib.laidMet.reads h (n := "muniment/attrs.threes") (.tail _ (.head _))
  obtain rfl := Option.some.inj (gTh.symm.trans hg)
  obtain rfl := Option.some.inj (tTh.symm.trans ht)
  unfold Rows.laid_muniment_attrs_threes at hd
  obtain ⟨f0, d0, p0, x0, h0⟩ := Lib.array_elem Tryd.underlying90 hd 0 (by decide)
  obtain ⟨f1, d1, p1, x1, h1⟩ := Lib.array_elem Tryd.underlying90 hd 1 (by decide)
  obtain ⟨f2, d2, p2, x2, h2⟩ := Lib.array_elem Tryd.underlying90 hd 2 (by decide)
  simp only [List.getElem?_cons_zero, List.getElem?_cons_succ, Option.some.injEq] at x0 x1 x2
  subst x0 x1 x2
  have k0 := three_of h0
  have k1 := three_of h1
  have k2 := three_of h2
  rw [cThr] at k0 k1 k2
  have key : ∀ j v, thc[j]? = some v → cs.toList[j]? = some v := fun j v hj => by
    have hjl : j < 15 := (List.getElem?_eq_some_iff.1 hj).1
    have q : ∀ i m, m < 5 → ((cs.toList.drop (i * 5)).take 5)[m]? = cs.toList[i * 5 + m]? := fun i m hm => by
      rw [List.getElem?_take, if_pos hm, List.getElem?_drop]
    by_cases a : j < 5
    · have := q 0 j a
      rw [k0] at this
      rw [show j = 0 * 5 + j from by omega, ← this]
      revert hj; revert v
      rcases j with _ | _ | _ | _ | _ | j <;> first | (exact fun v hj => hj) | omega
    · by_cases b : j < 10
      · obtain ⟨m, rfl⟩ : ∃ m, j = 5 + m := ⟨j - 5, by omega⟩
        have := q 1 m (by omega)
        rw [k1] at this
        rw [show 5 + m = 1 * 5 + m from by omega, ← this]
        revert hj; revert v
        rcases m with _ | _ | _ | _ | _ | j <;> first | (exact fun v hj => hj) | omega
      · obtain ⟨m, rfl⟩ : ∃ m, j = 10 + m := ⟨j - 10, by omega⟩
        have := q 2 m (by omega)
        rw [k2] at this
        rw [show 10 + m = 2 * 5 + m from by omega, ← this]
        revert hj; revert v
        rcases m with _ | _ | _ | _ | _ | j <;> first | (exact fun v hj => hj) | omega
  have hc : ∀ j v, thc[j]? = some v → W.cell? ⟨0, j, none⟩ = some v := fun j v hj => by
    rw [World.var?_cell hg hv j, ← Array.getElem?_toList]
    exact key j v hj
  exact ⟨World.block_lt_of_cell? W _ (hc 0 _ rfl), hc⟩
end Go.Proofs.YtcfniaknbbgheaaDoor
/- A region that draws its order, over a class of worlds of one's own: each operation gives the same value in every world of the class. -/
namespace Go.Proofs.YtcfniaknbbgheaaDoor
open Go.RowKit
set_option linter.unusedSimpArgs false
set_option linter.unusedVariables false
theorem region_class10 {P : Program} {id : Nat} {Q : Exit → Act → World → Prop} {a : Act} {w : World} {l : List Oper} (C : World → Prop) (hm : P.follows .mixedOrders = true) (hB : Region.lexB .any l.toArray = true) (hC : C w.drew)
    (h : wpQuiet P l.toArray C (fun a' => ∀ w', C w' → Q .normal a' w') l a) : (Code.region id l.toArray true).wp P Q a w :=
  wp_region_quiet (C := C) hm hB hC (by simpa using h)
theorem quiet_val10 {P : Program} {o : Oper} {a : Act} {C : World → Prop} {K : Act → Prop} (v : Value) (h : ∀ w, C w → (execOp a.eval o).run P w = .ok (.value v) w) (hn : K (a.put o.dst v)) : o.quiet P a C K :=
  ⟨v, fun w hw => by unfold Oper.quietAt; rw [h w hw]; exact ⟨rfl, rfl⟩, hn⟩
theorem quiet_call10 {P : Program} {o : Oper} {a : Act} {C : World → Prop} {K : Act → Prop} (v : Value) (f : FuncId) (args : Array Value) (h : ∀ w, C w → (execOp a.eval o).run P w = .ok (.enter f args) w)
    (hc : ∀ w, C w → Calls P f args w (fun e w'' => e = .returned v ∧ C w'')) (hn : K (a.put o.dst v)) : o.quiet P a C K :=
  ⟨v, fun w hw => by unfold Oper.quietAt; rw [h w hw]; exact ⟨rfl, hc w hw⟩, hn⟩
theorem quiet_str10 {o : Oper} {a : Act} {C : World → Prop} {K : Act → Prop} (x : Operand) (ho : o.op = .load 9 x) (g f : Nat) (s : ByteArray) (hx : a.eval x = .pointer (some ⟨g, f, none⟩))
    (hc : ∀ w, C w → w.cell? ⟨g, f, none⟩ = some (.string s)) (hn : K (a.put o.dst (.string s))) : o.quiet Tryd.prog a C K :=
  quiet_val10 (.string s) (fun w hw => by
    have h := hc w hw
    have ha : (isAgg 9).run Tryd.prog w = .ok false w := by kernel_rfl
    unfold execOp
    simp [ho, hx, Instr.loadAt, Instr.sureAddr, loadVar, ha, h]) hn
end Go.Proofs.YtcfniaknbbgheaaDoor
