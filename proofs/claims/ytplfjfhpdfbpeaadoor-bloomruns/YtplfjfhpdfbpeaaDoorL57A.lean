/- BloomRuns: steps, both pairs made. -/
import Derived.Test.YtplfjfhpdfbpeaaDoorBS2
namespace Go.Proofs.YtplfjfhpdfbpeaaDoor
open Go.RowKit
set_option linter.unusedSimpArgs false
set_option linter.unusedVariables false
/-- The steps of a script. -/
def StQ (w : World) (a0 : Option Addr) (len : Nat) (K Wh : Nat → Int) (T : Nat → ByteArray) : Prop :=
  ∀ i, i < len → ∃ b off, a0 = some ⟨b, off, none⟩ ∧ b < w.heap.size ∧ w.cell? ⟨b, off + i * 3, none⟩ = some (.int .i64 (K i)) ∧ w.cell? ⟨b, off + i * 3 + 1, none⟩ = some (.int .i64 (Wh i)) ∧ w.cell? ⟨b, off + i * 3 + 2, none⟩ = some (.string (T i))
theorem StQ.below {w w' : World} {a : Option Addr} {L : Nat} {K Wh : Nat → Int} {T : Nat → ByteArray} (h : StQ w a L K Wh T) (hb : Below w.heap.size w w') : StQ w' a L K Wh T := by
  intro i hi
  obtain ⟨b, off, e, hl, c1, c2, c3⟩ := h i hi
  exact ⟨b, off, e, Nat.lt_of_lt_of_le hl hb.size, by rw [hb.cell (p := ⟨b, off + i * 3, none⟩) hl]; exact c1, by rw [hb.cell (p := ⟨b, off + i * 3 + 1, none⟩) hl]; exact c2, by rw [hb.cell (p := ⟨b, off + i * 3 + 2, none⟩) hl]; exact c3⟩
/-- The pairs say the same. -/
def Alk (ds : Nat → Option Sd) : Prop := ∀ j d, j < 2 → ds j = some d → d.s = d.t
/-- Both pairs while they are made. -/
structure Ro (w : World) (i : Nat) (ds : Nat → Option Sd) (W : World) : Prop where
  rn : Rn w ds W
  alk : Alk ds
  non : ∀ j, i ≤ j → ds j = none
theorem Ro.zero (w : World) : Ro w 0 (fun _ => none) ((w.alloc (.cells #[.pointer none, .pointer none] 24)).alloc (.cells #[.pointer none, .pointer none] 26)) := by
  have h2 := bk_new (w.alloc (.cells #[.pointer none, .pointer none] 24)) #[.pointer none, .pointer none] 26
  rw [al_size] at h2
  exact ⟨⟨(bk_new _ _ _).alloc _, h2, fun j d _ e => (by cases e), fun i j d d' _ _ _ e => (by cases e), ((Below.refl _ _).alloc (Nat.le_refl _) _).alloc (by simp) _⟩, fun j d _ e => (by cases e), fun j _ => rfl⟩
theorem Ro.below {w : World} {i : Nat} {ds : Nat → Option Sd} {W W' : World} (h : Ro w i ds W) (hb : Below W.heap.size W W') : Ro w i ds W' := ⟨h.rn.below hb, h.alk, h.non⟩
/-- Both are none. -/
theorem Ro.nil {w : World} {i : Nat} {ds : Nat → Option Sd} {W : World} (h : Ro w i ds W) (hi : i < 2) : Ro w (i + 1) ds ((W.setCell ⟨w.heap.size, i, none⟩ (.pointer none)).setCell ⟨w.heap.size + 1, i, none⟩ (.pointer none)) := by
  have g1 : W.grownBy (W.setCell ⟨w.heap.size, i, none⟩ (.pointer none)) (some w.heap.size) := Lib.grownBy_setB (World.grownBy.refl W _) i _
  have g2 : (W.setCell ⟨w.heap.size, i, none⟩ (.pointer none)).grownBy ((W.setCell ⟨w.heap.size, i, none⟩ (.pointer none)).setCell ⟨w.heap.size + 1, i, none⟩ (.pointer none)) (some (w.heap.size + 1)) := Lib.grownBy_setB (World.grownBy.refl _ _) i _
  have e0 := h.non i (Nat.le_refl _)
  have b1 := h.rn.bf.set i (.pointer none)
  have b2 := (h.rn.bm.grown g1 (by simp)).set i (.pointer none)
  have hi' : i = 0 ∨ i = 1 := by omega
  have e1 : (#[ptF (ds 0), ptF (ds 1)] : Array Value).setIfInBounds i (.pointer none) = #[ptF (ds 0), ptF (ds 1)] := by rcases hi' with rfl | rfl <;> simp [e0, ptF]
  have e2 : (#[ptM (ds 0), ptM (ds 1)] : Array Value).setIfInBounds i (.pointer none) = #[ptM (ds 0), ptM (ds 1)] := by rcases hi' with rfl | rfl <;> simp [e0, ptM]
  rw [e1] at b1
  rw [e2] at b2
  refine ⟨⟨b1.grown g2 (by simp), b2, fun j x hj ej => ?_, h.rn.apart, below_own (below_own h.rn.bel h.rn.bel.size g1 (Nat.le_refl _)) (Nat.le_trans h.rn.bel.size g1.size) g2 (by omega)⟩, h.alk, fun j hj => h.non j (by omega)⟩
  have hx := h.rn.one j x hj ej
  obtain ⟨c, ht, _⟩ := hx.fil.top
  obtain ⟨c2, ht2, _⟩ := hx.ref.top
  have n1 := bk_ne_row hx.fil.row h.rn.bf (by decide)
  have n2 := bk_ne_row hx.fil.row h.rn.bm (by decide)
  have n3 : x.f ≠ w.heap.size := fun z => by rw [z] at ht; exact absurd (bk_type ht h.rn.bf) (by decide)
  have n4 : x.f ≠ w.heap.size + 1 := fun z => by rw [z] at ht; exact absurd (bk_type ht h.rn.bm) (by decide)
  have n5 : x.o ≠ w.heap.size := fun z => by rw [z] at ht2; exact absurd (bk_type ht2 h.rn.bf) (by decide)
  have n6 : x.o ≠ w.heap.size + 1 := fun z => by rw [z] at ht2; exact absurd (bk_type ht2 h.rn.bm) (by decide)
  have n7 : x.q ≠ w.heap.size := fun z => by have := hx.ref.row; rw [z] at this; exact absurd (bk_type this h.rn.bf) (by decide)
  have n8 : x.q ≠ w.heap.size + 1 := fun z => by have := hx.ref.row; rw [z] at this; exact absurd (bk_type this h.rn.bm) (by decide)
  exact ⟨(hx.fil.grown g1 (by simp; omega) (by simp; omega)).grown g2 (by simp; omega) (by simp; omega), (hx.ref.grown g1 (by simp; omega) (by simp; omega)).grown g2 (by simp; omega) (by simp; omega), hx.len, hx.lg, hx.lq⟩
/-- A pair more. -/
theorem Ro.more {w : World} {i : Nat} {ds : Nat → Option Sd} {W : World} (h : Ro w i ds W) (hi : i < 2) {n k f g o q : Nat} {s : List UInt8} (hf : FlS W f g n k s) (hr : RfS W o q n k s) (lg : w.heap.size ≤ g) (lq : w.heap.size ≤ q) (ng : ∀ j x, j < 2 → ds j = some x → g ≠ x.g ∧ q ≠ x.q) :
    Ro w (i + 1) (upS ds i ⟨n, k, s, s, f, g, o, q⟩) ((W.setCell ⟨w.heap.size, i, none⟩ (.pointer (some ⟨f, 0, none⟩))).setCell ⟨w.heap.size + 1, i, none⟩ (.pointer (some ⟨o, 0, none⟩))) := by
  have g1 : W.grownBy (W.setCell ⟨w.heap.size, i, none⟩ (.pointer (some ⟨f, 0, none⟩))) (some w.heap.size) := Lib.grownBy_setB (World.grownBy.refl W _) i _
  have g2 : (W.setCell ⟨w.heap.size, i, none⟩ (.pointer (some ⟨f, 0, none⟩))).grownBy ((W.setCell ⟨w.heap.size, i, none⟩ (.pointer (some ⟨f, 0, none⟩))).setCell ⟨w.heap.size + 1, i, none⟩ (.pointer (some ⟨o, 0, none⟩))) (some (w.heap.size + 1)) := Lib.grownBy_setB (World.grownBy.refl _ _) i _
  have keep : ∀ x, SdS w x W → SdS w x ((W.setCell ⟨w.heap.size, i, none⟩ (.pointer (some ⟨f, 0, none⟩))).setCell ⟨w.heap.size + 1, i, none⟩ (.pointer (some ⟨o, 0, none⟩))) := fun x hx => by
    obtain ⟨c, ht, _⟩ := hx.fil.top
    obtain ⟨c2, ht2, _⟩ := hx.ref.top
    have n1 := bk_ne_row hx.fil.row h.rn.bf (by decide)
    have n2 := bk_ne_row hx.fil.row h.rn.bm (by decide)
    have n3 : x.f ≠ w.heap.size := fun z => by rw [z] at ht; exact absurd (bk_type ht h.rn.bf) (by decide)
    have n4 : x.f ≠ w.heap.size + 1 := fun z => by rw [z] at ht; exact absurd (bk_type ht h.rn.bm) (by decide)
    have n5 : x.o ≠ w.heap.size := fun z => by rw [z] at ht2; exact absurd (bk_type ht2 h.rn.bf) (by decide)
    have n6 : x.o ≠ w.heap.size + 1 := fun z => by rw [z] at ht2; exact absurd (bk_type ht2 h.rn.bm) (by decide)
    have n7 : x.q ≠ w.heap.size := fun z => by have := hx.ref.row; rw [z] at this; exact absurd (bk_type this h.rn.bf) (by decide)
    have n8 : x.q ≠ w.heap.size + 1 := fun z => by have := hx.ref.row; rw [z] at this; exact absurd (bk_type this h.rn.bm) (by decide)
    exact ⟨(hx.fil.grown g1 (by simp; omega) (by simp; omega)).grown g2 (by simp; omega) (by simp; omega), (hx.ref.grown g1 (by simp; omega) (by simp; omega)).grown g2 (by simp; omega) (by simp; omega), hx.len, hx.lg, hx.lq⟩
  have b1 := h.rn.bf.set i (.pointer (some ⟨f, 0, none⟩))
  have b2 := (h.rn.bm.grown g1 (by simp)).set i (.pointer (some ⟨o, 0, none⟩))
  have hi' : i = 0 ∨ i = 1 := by omega
  have e1 : (#[ptF (ds 0), ptF (ds 1)] : Array Value).setIfInBounds i (.pointer (some ⟨f, 0, none⟩)) = #[ptF (upS ds i ⟨n, k, s, s, f, g, o, q⟩ 0), ptF (upS ds i ⟨n, k, s, s, f, g, o, q⟩ 1)] := by rcases hi' with rfl | rfl <;> simp [upS, ptF]
  have e2 : (#[ptM (ds 0), ptM (ds 1)] : Array Value).setIfInBounds i (.pointer (some ⟨o, 0, none⟩)) = #[ptM (upS ds i ⟨n, k, s, s, f, g, o, q⟩ 0), ptM (upS ds i ⟨n, k, s, s, f, g, o, q⟩ 1)] := by rcases hi' with rfl | rfl <;> simp [upS, ptM]
  rw [e1] at b1
  rw [e2] at b2
  have hnew : SdS w ⟨n, k, s, s, f, g, o, q⟩ W := ⟨hf, hr, hf.len, lg, lq⟩
  refine ⟨⟨b1.grown g2 (by simp), b2, fun j x hj ej => ?_, fun a c x y ha hc hac ea ec => ?_, below_own (below_own h.rn.bel h.rn.bel.size g1 (Nat.le_refl _)) (Nat.le_trans h.rn.bel.size g1.size) g2 (by omega)⟩, fun j x hj ej => ?_, fun j hj => ?_⟩
  · by_cases ev : j = i
    · subst ev
      rw [upS_at] at ej
      cases ej
      exact keep _ hnew
    · rw [upS_ne _ _ _ _ ev] at ej
      exact keep x (h.rn.one j x hj ej)
  · by_cases e1 : a = i
    · subst e1
      rw [upS_at] at ea
      cases ea
      rw [upS_ne _ _ _ _ (fun z => hac z.symm)] at ec
      exact ng c y hc ec
    · rw [upS_ne _ _ _ _ e1] at ea
      by_cases e2 : c = i
      · subst e2
        rw [upS_at] at ec
        cases ec
        have := ng a x ha ea
        exact ⟨fun z => this.1 z.symm, fun z => this.2 z.symm⟩
      · rw [upS_ne _ _ _ _ e2] at ec
        exact h.rn.apart a c x y ha hc hac ea ec
  · by_cases ev : j = i
    · subst ev
      rw [upS_at] at ej
      cases ej
      rfl
    · rw [upS_ne _ _ _ _ ev] at ej
      exact h.alk j x hj ej
  · rw [upS_ne _ _ _ _ (by omega)]
    exact h.non j (by omega)
/-- What both New tell. -/
theorem new_pair (x y : Int) (hx1 : -9223372036854775808 ≤ x) (hx2 : x ≤ 9223372036854775807) (hy1 : -9223372036854775808 ≤ y) (hy2 : y ≤ 9223372036854775807) :
    (∃ n k : Nat, x = n ∧ y = k ∧ okF n k) ∨ ((∀ w, Calls Tryd.prog 8 #[.int .i64 x, .int .i64 y] w fun e w' => e = .returned (.tuple #[.pointer none, .int .i64 1]) ∧ w' = w) ∧ ∀ w, Calls Tryd.prog 9 #[.int .i64 x, .int .i64 y] w fun e w' => e = .returned (.tuple #[.pointer none, .int .i64 1]) ∧ w' = w) := by
  by_cases h : ∃ n k : Nat, x = n ∧ y = k ∧ okF n k
  · exact .inl h
  · exact .inr ⟨fun w => new_no14 x y w (fun n k a b c => h ⟨n, k, a, b, c⟩) hx1 hx2 hy1 hy2, fun w => rnew_no14 x y w (fun n k a b c => h ⟨n, k, a, b, c⟩)⟩
end Go.Proofs.YtplfjfhpdfbpeaaDoor
