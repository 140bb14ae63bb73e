/- What is read of a stream. -/
import Derived.Test.YtjnijcmalnckcaaDoorI9
namespace Go.Proofs.YtjnijcmalnckcaaDoor
open Go.RowKit
set_option linter.unusedSimpArgs false
set_option linter.unusedVariables false
theorem e8_inj {m n : Nat} {r r' : List UInt8} (hm : m < 2 ^ 64) (hn : n < 2 ^ 64) (h : e8 m ++ r = e8 n ++ r') : m = n ∧ r = r' := by
  have h1 := num_front (s := ⟨(e8 m ++ r).toArray⟩) hm rfl
  have h2 := num_front (s := ⟨(e8 m ++ r).toArray⟩) (m := n) (r := r') hn h
  exact ⟨h1.2.1.symm.trans h2.2.1, h1.2.2.symm.trans h2.2.2⟩
theorem tx_inj {x y : ByteArray} {r r' : List UInt8} (hx : x.size < 2 ^ 64) (hy : y.size < 2 ^ 64) (h : tx x ++ r = tx y ++ r') : x = y ∧ r = r' := by
  unfold tx at h
  rw [List.append_assoc, List.append_assoc] at h
  obtain ⟨h1, h2⟩ := e8_inj hx hy h
  obtain ⟨h3, h4⟩ := List.append_inj h2 (by rw [bl_length, bl_length]; exact h1)
  exact ⟨bl_inj h3, h4⟩
theorem xsL_inj : ∀ (xs ys : List (ByteArray × ByteArray)), (∀ x ∈ xs, x.1.size ≤ 255 ∧ x.2.size ≤ 4096) → (∀ x ∈ ys, x.1.size ≤ 255 ∧ x.2.size ≤ 4096) → xs.length = ys.length → xsL xs = xsL ys → xs = ys
  | [], [], _, _, _, _ => rfl
  | [], _ :: _, _, _, h, _ => by simp at h
  | _ :: _, [], _, _, h, _ => by simp at h
  | x :: xs, y :: ys, hx, hy, hl, h => by
    simp only [xsL, List.append_assoc] at h
    have q1 := hx x (by simp)
    have q2 := hy y (by simp)
    obtain ⟨h1, h2⟩ := tx_inj (by omega) (by omega) h
    obtain ⟨h3, h4⟩ := tx_inj (by omega) (by omega) h2
    have ih := xsL_inj xs ys (fun z hz => hx z (by simp [hz])) (fun z hz => hy z (by simp [hz])) (by simpa using hl) h4
    rw [ih, Prod.ext h1 h3]
/-- Unlike ones have unlike bytes. -/
theorem lay_inj {a b : At} (ha : Gd a) (hb : Gd b) (h : lay a = lay b) : a = b := by
  rw [lay_r1, lay_r1] at h
  obtain ⟨a1, a2, a3, a4, a5⟩ := okA_out ha.ok
  obtain ⟨b1, b2, b3, b4, b5⟩ := okA_out hb.ok
  have au := ha.ui; have ag := ha.gi; have bu := hb.ui; have bg := hb.gi
  have h0 : UInt8.ofNat a.nd = UInt8.ofNat b.nd ∧ r1 a = r1 b := by
    simp only [List.cons_append, List.nil_append, List.cons.injEq] at h
    exact h
  have e0 := ofNat_inj8 (by omega) (by omega) h0.1
  obtain ⟨e1, h1⟩ := e8_inj (by omega) (by omega) h0.2
  obtain ⟨e2, h2⟩ := e8_inj (by omega) (by omega) h1
  obtain ⟨e3, h3⟩ := e8_inj (by omega) (by omega) h2
  obtain ⟨e4, h4⟩ := e8_inj (by omega) (by omega) h3
  have h5 : a.tg = b.tg ∧ r6 a = r6 b := by
    unfold r5 ltg at h4
    by_cases h3 : a.nd = 3
    · rw [if_pos h3, if_pos (by omega)] at h4
      have := tg_small a4
      have := tg_small b4
      exact tx_inj (by omega) (by omega) h4
    · rw [if_neg h3, if_neg (by omega)] at h4
      exact ⟨(tg_none a4 h3).trans (tg_none b4 (by omega)).symm, h4⟩
  have la := (xsB_out a5).1
  have lb := (xsB_out b5).1
  obtain ⟨e6, h6⟩ := e8_inj (by omega) (by omega) h5.2
  have e7 := xsL_inj a.xs b.xs (xs_small a5) (xs_small b5) e6 h6
  have e8' : a.mt = b.mt := by omega
  cases a; cases b
  simp only at e0 e1 e2 e3 e7 e8' h5
  rw [e0, e1, e2, e3, e8', h5.1, e7]
/-- Streams that may be read. -/
structure GdL (l : List At) : Prop where
  ok : stB l = true
  bd : ∀ a ∈ l, a.ui < 4294967296 ∧ a.gi < 4294967296
theorem GdL.get {l : List At} (h : GdL l) {a : At} (ha : a ∈ l) : Gd a := by
  have := h.ok
  unfold stB at this
  rw [Bool.and_eq_true] at this
  exact ⟨List.all_eq_true.1 this.2 a ha, (h.bd a ha).1, (h.bd a ha).2⟩
theorem GdL.len {l : List At} (h : GdL l) : 1 ≤ l.length ∧ l.length ≤ 257 := by
  have := h.ok
  unfold stB at this
  rw [Bool.and_eq_true] at this
  exact of_decide_eq_true this.1
theorem stF_cons (a : At) (l : List At) : stF (a :: l) = tx ⟨(lay a).toArray⟩ ++ stF l := by simp [stF]
/-- Where a reader of a stream stands: behind so many. -/
structure Prl (S : ByteArray) (pre : List UInt8) (nx : List At → List UInt8) (F : List At → Prop) (s : ByteArray) (u : Bool) : Prop where
  yes : u = false → bl S = pre ++ bl s
  no : ∀ l, GdL l → stL l = bl S → u = false ∧ F l ∧ bl s = nx l
  sz : s.size ≤ S.size
theorem Prl.start {S : ByteArray} {n : Nat} {s' : ByteArray} {u' : Bool} (hn : NumS S false 257 n s' u') : Prl S (e8 n ++ stF []) (fun l => stF (l.drop 0)) (fun l => l.length = n ∧ l.take 0 = []) s' u' := by
  refine ⟨fun hu => ?_, fun l hl he => ?_, hn.sz⟩
  · rw [(hn.yes hu).2]; simp [stF]
  · obtain ⟨p1, p2, p3⟩ := hn.no rfl l.length (stF l) hl.len.2 (by have := hl.len.2; omega) he.symm
    exact ⟨p1, ⟨p2.symm, rfl⟩, p3⟩
theorem bl_arr (l : List UInt8) : bl ⟨l.toArray⟩ = l := rfl
/-- A text that is read. -/
theorem Prl.txt {S : ByteArray} {pre : List UInt8} {k n most : Nat} {ls : List At} {s : ByteArray} {u : Bool} {x s' : ByteArray} {u' : Bool} (h : Prl S (pre ++ stF ls) (fun l => stF (l.drop k)) (fun l => l.length = n ∧ l.take k = ls) s u) (hk : k < n) (hn : TxtS s u most x s' u') (hm : S.size ≤ most) (hm2 : most < 2 ^ 64) :
    (∀ a, AtOk a → RdS x a 0 → Prl S (pre ++ stF (ls ++ [a])) (fun l => stF (l.drop (k + 1))) (fun l => l.length = n ∧ l.take (k + 1) = ls ++ [a]) s' u') ∧ ((∀ a, Gd a → lay a ≠ bl x) → ∀ l, GdL l → stL l ≠ bl S) := by
  have key : ∀ l, GdL l → stL l = bl S → u' = false ∧ ∃ b, b ∈ l ∧ l.take (k + 1) = ls ++ [b] ∧ l.length = n ∧ lay b = bl x ∧ bl s' = stF (l.drop (k + 1)) := by
    intro l hl he
    obtain ⟨q1, ⟨q2, q3⟩, q4⟩ := h.no l hl he
    have hkl : k < l.length := by omega
    rw [List.drop_eq_getElem_cons hkl, stF_cons] at q4
    have hsz : (⟨(lay l[k]).toArray⟩ : ByteArray).size ≤ most := by
      have h1 := congrArg List.length q4
      rw [List.length_append, bl_length] at h1
      unfold tx at h1
      rw [List.length_append, bl_length] at h1
      have := h.sz
      omega
    obtain ⟨p1, p2, p3⟩ := hn.no q1 _ _ hsz (by omega) q4
    refine ⟨p1, l[k], List.getElem_mem hkl, ?_, q2, ?_, p3⟩
    · rw [List.take_add_one, List.getElem?_eq_getElem hkl, Option.toList_some, q3]
    · rw [p2]; rfl
  constructor
  · intro a hao ha
    rcases ha with ⟨_, ha1, ha2⟩ | ⟨h4, _⟩
    · refine ⟨fun hu => ?_, fun l hl he => ?_, Nat.le_trans hn.sz h.sz⟩
      · obtain ⟨q1, q2⟩ := hn.yes hu
        rw [h.yes q1, q2]
        have e : stF (ls ++ [a]) = stF ls ++ tx x := by
          rw [stF_snoc]
          have : (⟨(lay a).toArray⟩ : ByteArray) = x := bl_inj ha2
          rw [this]
        rw [e]; simp
      · obtain ⟨p1, b, hb, p2, p3, p4, p5⟩ := key l hl he
        have : b = a := lay_inj (hl.get hb) ⟨ha1, hao.ui, hao.gi⟩ (p4.trans ha2.symm)
        rw [this] at p2
        exact ⟨p1, ⟨p3, p2⟩, p5⟩
    · cases h4
  · intro hno l hl he
    obtain ⟨p1, b, hb, p2, p3, p4, p5⟩ := key l hl he
    exact hno b (hl.get hb) p4
end Go.Proofs.YtjnijcmalnckcaaDoor
