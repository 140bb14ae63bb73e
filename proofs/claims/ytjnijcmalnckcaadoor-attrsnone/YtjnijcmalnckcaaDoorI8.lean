/- What is taken of bytes, step by step. -/
import Derived.Test.YtjnijcmalnckcaaDoorI7
import Derived.Test.YtjnijcmalnckcaaDoorI6
import Derived.Test.YtjnijcmalnckcaaDoorM12
namespace Go.Proofs.YtjnijcmalnckcaaDoor
open Go.RowKit
set_option linter.unusedSimpArgs false
set_option linter.unusedVariables false
/-- One whose bytes may be read. -/
structure Gd (a : At) : Prop where
  ok : okA a = true
  ui : a.ui < 4294967296
  gi : a.gi < 4294967296
def r7 (a : At) : List UInt8 := xsL a.xs
def r6 (a : At) : List UInt8 := e8 a.xs.length ++ r7 a
def r5 (a : At) : List UInt8 := ltg a.nd a.tg ++ r6 a
def r4 (a : At) : List UInt8 := e8 a.mt.toNat ++ r5 a
def r3 (a : At) : List UInt8 := e8 a.gi ++ r4 a
def r2 (a : At) : List UInt8 := e8 a.ui ++ r3 a
def r1 (a : At) : List UInt8 := e8 a.md ++ r2 a
theorem lay_r1 (a : At) : lay a = [UInt8.ofNat a.nd] ++ r1 a := by simp [lay, r1, r2, r3, r4, r5, r6, r7]
/-- Where a reader of S stands: behind pre; nx is what stands ahead of it, if S is the bytes of one of which F holds. -/
structure Prs (S : ByteArray) (pre : List UInt8) (nx : At → List UInt8) (F : At → Prop) (s : ByteArray) (u : Bool) : Prop where
  yes : u = false → bl S = pre ++ bl s
  no : ∀ a, Gd a → lay a = bl S → u = false ∧ F a ∧ bl s = nx a
  sz : s.size ≤ S.size
theorem Prs.start (S : ByteArray) : Prs S [] lay (fun _ => True) S false := ⟨fun _ => rfl, fun a _ h => ⟨rfl, trivial, h.symm⟩, Nat.le_refl _⟩
theorem Prs.num {S : ByteArray} {pre : List UInt8} {nx : At → List UInt8} {F : At → Prop} {s : ByteArray} {u : Bool} {most n : Nat} {s' : ByteArray} {u' : Bool} (h : Prs S pre nx F s u) (hn : NumS s u most n s' u') (f : At → Nat) (nx' : At → List UInt8)
    (hf : ∀ a, Gd a → F a → f a ≤ most ∧ f a < 2 ^ 64) (hx : ∀ a, Gd a → F a → nx a = e8 (f a) ++ nx' a) : Prs S (pre ++ e8 n) nx' (fun a => F a ∧ f a = n) s' u' := by
  refine ⟨fun hu => ?_, fun a ha hl => ?_, Nat.le_trans hn.sz h.sz⟩
  · obtain ⟨q1, q2⟩ := hn.yes hu
    rw [h.yes q1, q2, List.append_assoc]
  · obtain ⟨q1, q2, q3⟩ := h.no a ha hl
    rw [hx a ha q2] at q3
    obtain ⟨p1, p2, p3⟩ := hn.no q1 (f a) (nx' a) (hf a ha q2).1 (hf a ha q2).2 q3
    exact ⟨p1, ⟨q2, p2.symm⟩, p3⟩
theorem Prs.txt {S : ByteArray} {pre : List UInt8} {nx : At → List UInt8} {F : At → Prop} {s : ByteArray} {u : Bool} {most : Nat} {x s' : ByteArray} {u' : Bool} (h : Prs S pre nx F s u) (hn : TxtS s u most x s' u') (f : At → ByteArray) (nx' : At → List UInt8)
    (hf : ∀ a, Gd a → F a → (f a).size ≤ most ∧ (f a).size < 2 ^ 64) (hx : ∀ a, Gd a → F a → nx a = tx (f a) ++ nx' a) : Prs S (pre ++ tx x) nx' (fun a => F a ∧ f a = x) s' u' := by
  refine ⟨fun hu => ?_, fun a ha hl => ?_, Nat.le_trans hn.sz h.sz⟩
  · obtain ⟨q1, q2⟩ := hn.yes hu
    rw [h.yes q1, q2, List.append_assoc]
  · obtain ⟨q1, q2, q3⟩ := h.no a ha hl
    rw [hx a ha q2] at q3
    obtain ⟨p1, p2, p3⟩ := hn.no q1 (f a) (nx' a) (hf a ha q2).1 (hf a ha q2).2 q3
    exact ⟨p1, ⟨q2, p2.symm⟩, p3⟩
theorem ofNat_inj8 {a b : Nat} (ha : a < 256) (hb : b < 256) (h : UInt8.ofNat a = UInt8.ofNat b) : a = b := by
  have := congrArg UInt8.toNat h
  rwa [toNat_ofNat8 a ha, toNat_ofNat8 b hb] at this
theorem Prs.nod {S : ByteArray} {n : Nat} {s' : ByteArray} {u' : Bool} (hn : NodS S false n s' u') : Prs S [UInt8.ofNat n] r1 (fun a => a.nd = n) s' u' := by
  refine ⟨fun hu => (hn.yes hu).2, fun a ha hl => ?_, hn.sz⟩
  rw [lay_r1] at hl
  obtain ⟨p1, p2, p3⟩ := hn.no rfl _ _ hl.symm
  have := (okA_out ha.ok).1
  exact ⟨p1, ofNat_inj8 (by omega) hn.bd p2.symm, p3⟩
/-- A step that takes nothing. -/
theorem Prs.same {S : ByteArray} {pre : List UInt8} {nx : At → List UInt8} {F : At → Prop} {s : ByteArray} {u : Bool} (h : Prs S pre nx F s u) (nx' : At → List UInt8) (F' : At → Prop) (hx : ∀ a, Gd a → F a → nx a = nx' a ∧ F' a) : Prs S pre nx' F' s u :=
  ⟨h.yes, fun a ha hl => by
    obtain ⟨q1, q2, q3⟩ := h.no a ha hl
    exact ⟨q1, (hx a ha q2).2, q3.trans (hx a ha q2).1⟩, h.sz⟩
def nth (a : At) (k : Nat) : ByteArray × ByteArray := a.xs.getD k (⟨#[]⟩, ⟨#[]⟩)
theorem drop_nth {a : At} {k : Nat} (h : k < a.xs.length) : a.xs.drop k = nth a k :: a.xs.drop (k + 1) := by
  rw [List.drop_eq_getElem_cons h]
  unfold nth
  rw [List.getD_eq_getElem?_getD, List.getElem?_eq_getElem h, Option.getD_some]
theorem nth_mem {a : At} {k : Nat} (h : k < a.xs.length) : nth a k ∈ a.xs := by
  unfold nth
  rw [List.getD_eq_getElem?_getD, List.getElem?_eq_getElem h, Option.getD_some]
  exact List.getElem_mem h
theorem take_nth {a : At} {k : Nat} (h : k < a.xs.length) : a.xs.take (k + 1) = a.xs.take k ++ [nth a k] := by
  rw [List.take_add_one, List.getElem?_eq_getElem h, Option.toList_some]
  unfold nth
  rw [List.getD_eq_getElem?_getD, List.getElem?_eq_getElem h, Option.getD_some]
/-- An extended attribute more. -/
theorem Prs.xat {S : ByteArray} {pre : List UInt8} {F : At → Prop} {s : ByteArray} {u : Bool} {k n : Nat} {ys : List (ByteArray × ByteArray)} {x y s' s'' : ByteArray} {u' u'' : Bool} (h : Prs S (pre ++ xsL ys) (fun a => xsL (a.xs.drop k)) (fun a => (F a ∧ a.xs.length = n) ∧ a.xs.take k = ys) s u) (hk : k < n)
    (h1 : TxtS s u 255 x s' u') (h2 : TxtS s' u' 4096 y s'' u'') : Prs S (pre ++ xsL (ys ++ [(x, y)])) (fun a => xsL (a.xs.drop (k + 1))) (fun a => (F a ∧ a.xs.length = n) ∧ a.xs.take (k + 1) = ys ++ [(x, y)]) s'' u'' := by
  have p1 := h.txt h1 (fun a => (nth a k).1) (fun a => tx (nth a k).2 ++ xsL (a.xs.drop (k + 1))) (fun a ha hF => by
      have := xs_small (okA_out ha.ok).2.2.2.2 _ (nth_mem (a := a) (k := k) (by omega))
      exact ⟨this.1, by omega⟩) (fun a ha hF => by
      rw [drop_nth (by omega)]
      simp [xsL])
  have p2 := p1.txt h2 (fun a => (nth a k).2) (fun a => xsL (a.xs.drop (k + 1))) (fun a ha hF => by
      have := xs_small (okA_out ha.ok).2.2.2.2 _ (nth_mem (a := a) (k := k) (by omega))
      exact ⟨this.2, by omega⟩) (fun a ha hF => rfl)
  have e : pre ++ xsL ys ++ tx x ++ tx y = pre ++ xsL (ys ++ [(x, y)]) := by rw [xsL_app, xsL_one]; simp
  rw [e] at p2
  exact p2.same _ _ (fun a ha ⟨⟨⟨⟨q1, q2⟩, q3⟩, q4⟩, q5⟩ => ⟨rfl, ⟨q1, q2⟩, by
    rw [take_nth (by omega), q3, ← q4, ← q5]⟩)
/-- What Read tells. -/
def RdS (S : ByteArray) (a : At) (e : Int) : Prop := (e = 0 ∧ okA a = true ∧ lay a = bl S) ∨ (e = 4 ∧ a = ⟨0, 0, 0, 0, 0, ⟨#[]⟩, []⟩ ∧ ∀ a', Gd a' → lay a' ≠ bl S)
theorem tg_none {n : Nat} {t : ByteArray} (h : tgB n t = true) (hn : n ≠ 3) : t = ⟨#[]⟩ := by
  unfold tgB at h
  rw [if_neg hn] at h
  have := of_decide_eq_true h
  apply bl_inj
  have h2 := bl_length t
  rw [this] at h2
  rw [List.eq_nil_of_length_eq_zero h2]
  rfl
theorem Prs.fin {S : ByteArray} {nd md ui gi m : Nat} {tg : ByteArray} {ys : List (ByteArray × ByteArray)} {n : Nat} {s : ByteArray} {u : Bool} (htg : nd ≠ 3 → tg = ⟨#[]⟩) (hy : ys.length = n) (hu : ui < 4294967296) (hg : gi < 4294967296)
    (h : Prs S ([UInt8.ofNat nd] ++ e8 md ++ e8 ui ++ e8 gi ++ e8 m ++ ltg nd tg ++ e8 n ++ xsL ys) (fun a => xsL (a.xs.drop n)) (fun a => ((((((a.nd = nd ∧ a.md = md) ∧ a.ui = ui) ∧ a.gi = gi) ∧ a.mt.toNat = m) ∧ (nd = 3 → a.tg = tg)) ∧ a.xs.length = n) ∧ a.xs.take n = ys) s u) :
    ((u = false ∧ s.size = 0) ∧ okA ⟨nd, md, ui, gi, (m : Int), tg, ys⟩ = true → RdS S ⟨nd, md, ui, gi, (m : Int), tg, ys⟩ 0) ∧ (¬ ((u = false ∧ s.size = 0) ∧ okA ⟨nd, md, ui, gi, (m : Int), tg, ys⟩ = true) → RdS S ⟨0, 0, 0, 0, 0, ⟨#[]⟩, []⟩ 4) := by
  constructor
  · rintro ⟨⟨h1, h2⟩, h3⟩
    refine .inl ⟨rfl, h3, ?_⟩
    have h4 := h.yes h1
    have h5 : bl s = [] := List.eq_nil_of_length_eq_zero (by rw [bl_length]; exact h2)
    rw [h5, List.append_nil] at h4
    rw [h4]
    simp [lay, hy]
  · intro hno
    refine .inr ⟨rfl, rfl, fun a' ha hl => hno ?_⟩
    obtain ⟨q1, ⟨⟨⟨⟨⟨⟨⟨f1, f2⟩, f3⟩, f4⟩, f5⟩, f6⟩, f7⟩, f8⟩, q3⟩ := h.no a' ha hl
    rw [List.drop_eq_nil_of_le (by omega)] at q3
    have h2 : s.size = 0 := by rw [← bl_length, q3]; rfl
    refine ⟨⟨q1, h2⟩, ?_⟩
    obtain ⟨k1, k2, k3, k4, k5⟩ := okA_out ha.ok
    have e : a' = ⟨nd, md, ui, gi, (m : Int), tg, ys⟩ := by
      have e1 : a'.tg = tg := by
        by_cases h3 : nd = 3
        · exact f6 h3
        · rw [htg h3]; exact tg_none k4 (by rw [f1]; exact h3)
      have e2 : a'.xs = ys := by rw [← f8, List.take_of_length_le (by omega)]
      have e3 : a'.mt = (m : Int) := by omega
      cases a'
      simp only at f1 f2 f3 f4 e1 e2 e3
      rw [f1, f2, f3, f4, e1, e2, e3]
    rw [← e]
    exact ha.ok
end Go.Proofs.YtjnijcmalnckcaaDoor
