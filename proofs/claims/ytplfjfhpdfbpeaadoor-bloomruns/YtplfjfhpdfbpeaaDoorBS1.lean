/- Two pairs of filters, the package's and the document's: what stands while BloomRuns goes on. -/
import Derived.Test.YtplfjfhpdfbpeaaDoorBR5
import Derived.Test.YtplfjfhpdfbpeaaDoorBR6
import Derived.Test.YtplfjfhpdfbpeaaDoorL55
namespace Go.Proofs.YtplfjfhpdfbpeaaDoor
open Go.RowKit
set_option linter.unusedSimpArgs false
set_option linter.unusedVariables false
/-- One filter of each: their size, the package's row and its blocks, the document's places (as a row) and its blocks. -/
structure Sd where
  n : Nat
  k : Nat
  s : List UInt8
  t : List UInt8
  f : Nat
  g : Nat
  o : Nat
  q : Nat
def ptF : Option Sd → Value
  | none => .pointer none
  | some d => .pointer (some ⟨d.f, 0, none⟩)
def ptM : Option Sd → Value
  | none => .pointer none
  | some d => .pointer (some ⟨d.o, 0, none⟩)
structure SdS (w : World) (d : Sd) (W : World) : Prop where
  fil : FlS W d.f d.g d.n d.k d.s
  ref : RfS W d.o d.q d.n d.k d.t
  len : 8 * d.t.length = d.n
  lg : w.heap.size ≤ d.g
  lq : w.heap.size ≤ d.q
theorem SdS.below {w : World} {d : Sd} {W W' : World} (h : SdS w d W) (hb : Below W.heap.size W W') : SdS w d W' := ⟨h.fil.below hb, h.ref.below hb, h.len, h.lg, h.lq⟩
theorem rw_ne_bk {W : World} {g q : Nat} {s : List UInt8} {C : Array Value} {T : TypeId} (h : Rw W g s) (hb : Bk W q C T) (hT : T ≠ 5) : g ≠ q := bk_ne_row h hb hT
/-- The package's row has changed. -/
theorem SdS.own {w : World} {d : Sd} {s' : List UInt8} {W W' : World} (h : SdS w d W) (hg : W.grownBy W' (some d.g)) (hf : FlS W' d.f d.g d.n d.k s') : SdS w { d with s := s' } W' := by
  obtain ⟨c, ht, _⟩ := h.ref.top
  have h1 := bk_ne_row h.fil.row ht (by decide)
  have h2 := bk_ne_row h.fil.row h.ref.row (by decide)
  exact ⟨hf, h.ref.grown hg (by simp; omega) (by simp; omega), h.len, h.lg, h.lq⟩
/-- The document's places have changed. -/
theorem SdS.ownR {w : World} {d : Sd} {t' : List UInt8} {W W' : World} (h : SdS w d W) (hg : W.grownBy W' (some d.q)) (hf : RfS W' d.o d.q d.n d.k t') (hl : 8 * t'.length = d.n) : SdS w { d with t := t' } W' := by
  obtain ⟨c, ht, _⟩ := h.fil.top
  have h2 := bk_ne_row h.fil.row h.ref.row (by decide)
  refine ⟨h.fil.grown hg ?_ (by simp; omega), hf, hl, h.lg, h.lq⟩
  intro e
  injection e with e
  have := h.ref.row
  rw [e] at this
  exact absurd (bk_type ht this) (by decide)
/-- Another one's row has changed. -/
theorem SdS.other {w : World} {d d' : Sd} {W W' : World} (h : SdS w d W) (h' : SdS w d' W) (hg : W.grownBy W' (some d'.g)) (hne : d'.g ≠ d.g) : SdS w d W' := by
  obtain ⟨c, ht, _⟩ := h.ref.top
  have h1 := bk_ne_row h'.fil.row ht (by decide)
  have h2 := bk_ne_row h'.fil.row h.ref.row (by decide)
  exact ⟨h.fil.other h'.fil hg hne, h.ref.grown hg (by simp; omega) (by simp; omega), h.len, h.lg, h.lq⟩
theorem SdS.otherR {w : World} {d d' : Sd} {W W' : World} (h : SdS w d W) (h' : SdS w d' W) (hg : W.grownBy W' (some d'.q)) (hne : d'.q ≠ d.q) : SdS w d W' := by
  obtain ⟨c, ht, _⟩ := h.fil.top
  obtain ⟨c2, ht2, _⟩ := h.ref.top
  have h2 := bk_ne_row h.fil.row h'.ref.row (by decide)
  refine ⟨h.fil.grown hg ?_ (by simp; omega), h.ref.grown hg ?_ (by simp; omega), h.len, h.lg, h.lq⟩
  · intro e
    injection e with e
    have := h'.ref.row
    rw [e] at this
    exact absurd (bk_type ht this) (by decide)
  · intro e
    injection e with e
    have := h'.ref.row
    rw [e] at this
    exact absurd (bk_type ht2 this) (by decide)
def upS (ds : Nat → Option Sd) (v : Nat) (d : Sd) : Nat → Option Sd := fun j => if j = v then some d else ds j
theorem upS_at (ds : Nat → Option Sd) (v : Nat) (d : Sd) : upS ds v d v = some d := by simp [upS]
theorem upS_ne (ds : Nat → Option Sd) (v j : Nat) (d : Sd) (h : j ≠ v) : upS ds v d j = ds j := by simp [upS, h]
/-- Both pairs, and the two arrays that hold them. -/
structure Rn (w : World) (ds : Nat → Option Sd) (W : World) : Prop where
  bf : Bk W w.heap.size #[ptF (ds 0), ptF (ds 1)] 24
  bm : Bk W (w.heap.size + 1) #[ptM (ds 0), ptM (ds 1)] 26
  one : ∀ j d, j < 2 → ds j = some d → SdS w d W
  apart : ∀ i j d d', i < 2 → j < 2 → i ≠ j → ds i = some d → ds j = some d' → d.g ≠ d'.g ∧ d.q ≠ d'.q
  bel : Below w.heap.size w W
theorem Rn.below {w : World} {ds : Nat → Option Sd} {W W' : World} (h : Rn w ds W) (hb : Below W.heap.size W W') : Rn w ds W' :=
  ⟨h.bf.grown (gr_of_below hb none) (by simp), h.bm.grown (gr_of_below hb none) (by simp), fun j d hj e => (h.one j d hj e).below hb, h.apart, h.bel.trans (hb.mono h.bel.size)⟩
theorem Rn.cellF {w : World} {ds : Nat → Option Sd} {W : World} (h : Rn w ds W) (v : Nat) (hv : v < 2) : W.cell? ⟨w.heap.size, v, none⟩ = some (ptF (ds v)) := by
  rw [h.bf.cell]
  have : v = 0 ∨ v = 1 := by omega
  rcases this with rfl | rfl <;> rfl
theorem Rn.cellM {w : World} {ds : Nat → Option Sd} {W : World} (h : Rn w ds W) (v : Nat) (hv : v < 2) : W.cell? ⟨w.heap.size + 1, v, none⟩ = some (ptM (ds v)) := by
  rw [h.bm.cell]
  have : v = 0 ∨ v = 1 := by omega
  rcases this with rfl | rfl <;> rfl
theorem two_upF (ds : Nat → Option Sd) (v : Nat) (d d' : Sd) (hv : v < 2) (e : ds v = some d) (hf : d'.f = d.f) : (#[ptF (upS ds v d' 0), ptF (upS ds v d' 1)] : Array Value) = #[ptF (ds 0), ptF (ds 1)] := by
  have : v = 0 ∨ v = 1 := by omega
  rcases this with rfl | rfl <;> simp [upS, e, ptF, hf]
theorem two_upM (ds : Nat → Option Sd) (v : Nat) (d d' : Sd) (hv : v < 2) (e : ds v = some d) (hf : d'.o = d.o) : (#[ptM (upS ds v d' 0), ptM (upS ds v d' 1)] : Array Value) = #[ptM (ds 0), ptM (ds 1)] := by
  have : v = 0 ∨ v = 1 := by omega
  rcases this with rfl | rfl <;> simp [upS, e, ptM, hf]
/-- What an update of one pair leaves: all but the arrays. -/
theorem Rn.up {w : World} {ds : Nat → Option Sd} {W W' : World} (h : Rn w ds W) {v : Nat} {d d' : Sd} (hv : v < 2) (e : ds v = some d) (hd : SdS w d' W') (hgq : (d'.g = d.g ∨ ∀ j x, j < 2 → ds j = some x → d'.g ≠ x.g) ∧ d'.q = d.q) (ho : ∀ j x, j < 2 → j ≠ v → ds j = some x → SdS w x W')
    (bf : Bk W' w.heap.size #[ptF (upS ds v d' 0), ptF (upS ds v d' 1)] 24) (bm : Bk W' (w.heap.size + 1) #[ptM (upS ds v d' 0), ptM (upS ds v d' 1)] 26) (hb : Below w.heap.size w W') : Rn w (upS ds v d') W' := by
  refine ⟨bf, bm, fun j x hj ej => ?_, fun i j x y hi hj hij ei ej => ?_, hb⟩
  · by_cases ev : j = v
    · subst ev
      rw [upS_at] at ej
      cases ej
      exact hd
    · rw [upS_ne _ _ _ _ ev] at ej
      exact ho j x hj ev ej
  · by_cases ev : i = v
    · subst ev
      rw [upS_at] at ei
      cases ei
      have hjv : j ≠ i := fun h => hij h.symm
      rw [upS_ne _ _ _ _ hjv] at ej
      have := h.apart i j d y hi hj hij e ej
      refine ⟨?_, by rw [hgq.2]; exact this.2⟩
      rcases hgq.1 with h1 | h1
      · rw [h1]; exact this.1
      · exact h1 j y hj ej
    · rw [upS_ne _ _ _ _ ev] at ei
      by_cases ew : j = v
      · subst ew
        rw [upS_at] at ej
        cases ej
        have := h.apart i j x d hi hj hij ei e
        refine ⟨?_, by rw [hgq.2]; exact this.2⟩
        rcases hgq.1 with h1 | h1
        · rw [h1]; exact this.1
        · exact fun hh => h1 i x hi ei hh.symm
      · rw [upS_ne _ _ _ _ ew] at ej
        exact h.apart i j x y hi hj hij ei ej
/-- The package's row of one pair has changed. -/
theorem Rn.setF {w : World} {ds : Nat → Option Sd} {W W' : World} (h : Rn w ds W) {v : Nat} {d : Sd} (hv : v < 2) (e : ds v = some d) {s' : List UInt8} (hg : W.grownBy W' (some d.g)) (hf : FlS W' d.f d.g d.n d.k s') : Rn w (upS ds v { d with s := s' }) W' := by
  have hd := h.one v d hv e
  have n1 := bk_ne_row hd.fil.row h.bf (by decide)
  have n2 := bk_ne_row hd.fil.row h.bm (by decide)
  refine h.up hv e (hd.own hg hf) ⟨.inl rfl, rfl⟩ (fun j x hj hjv ej => (h.one j x hj ej).other hd hg ((h.apart v j d x hv hj (fun q => hjv q.symm) e ej).1)) ?_ ?_ (below_own h.bel h.bel.size hg hd.lg)
  · rw [two_upF ds v d { d with s := s' } hv e rfl]; exact h.bf.grown hg (by simp; omega)
  · rw [two_upM ds v d { d with s := s' } hv e rfl]; exact h.bm.grown hg (by simp; omega)
/-- The document's places of one pair have changed. -/
theorem Rn.setM {w : World} {ds : Nat → Option Sd} {W W' : World} (h : Rn w ds W) {v : Nat} {d : Sd} (hv : v < 2) (e : ds v = some d) {t' : List UInt8} (hg : W.grownBy W' (some d.q)) (hf : RfS W' d.o d.q d.n d.k t') (hl : 8 * t'.length = d.n) : Rn w (upS ds v { d with t := t' }) W' := by
  have hd := h.one v d hv e
  have n1 : d.q ≠ w.heap.size := fun q => by have := hd.ref.row; rw [q] at this; exact absurd (bk_type this h.bf) (by decide)
  have n2 : d.q ≠ w.heap.size + 1 := fun q => by have := hd.ref.row; rw [q] at this; exact absurd (bk_type this h.bm) (by decide)
  refine h.up hv e (hd.ownR hg hf hl) ⟨.inl rfl, rfl⟩ (fun j x hj hjv ej => (h.one j x hj ej).otherR hd hg ((h.apart v j d x hv hj (fun q => hjv q.symm) e ej).2)) ?_ ?_ (below_own h.bel h.bel.size hg hd.lq)
  · rw [two_upF ds v d { d with t := t' } hv e rfl]; exact h.bf.grown hg (by simp; omega)
  · rw [two_upM ds v d { d with t := t' } hv e rfl]; exact h.bm.grown hg (by simp; omega)
/-- Another filter in the place of one. -/
theorem Rn.put {w : World} {ds : Nat → Option Sd} {W : World} (h : Rn w ds W) {v : Nat} {d : Sd} (hv : v < 2) (e : ds v = some d) {f' g' : Nat} {s' : List UInt8} (hf : FlS W f' g' d.n d.k s') (hlg : w.heap.size ≤ g') (hne : ∀ j x, j < 2 → ds j = some x → g' ≠ x.g) :
    Rn w (upS ds v { d with s := s', f := f', g := g' }) (W.setCell ⟨w.heap.size, v, none⟩ (.pointer (some ⟨f', 0, none⟩))) := by
  have hg : W.grownBy (W.setCell ⟨w.heap.size, v, none⟩ (.pointer (some ⟨f', 0, none⟩))) (some w.heap.size) := Lib.grownBy_setB (World.grownBy.refl W _) v _
  have keep : ∀ x, SdS w x W → SdS w x (W.setCell ⟨w.heap.size, v, none⟩ (.pointer (some ⟨f', 0, none⟩))) := fun x hx => by
    obtain ⟨c, ht, _⟩ := hx.fil.top
    obtain ⟨c2, ht2, _⟩ := hx.ref.top
    have a1 := bk_ne_row hx.fil.row h.bf (by decide)
    have a2 : x.f ≠ w.heap.size := fun q => by rw [q] at ht; exact absurd (bk_type ht h.bf) (by decide)
    have a3 : x.o ≠ w.heap.size := fun q => by rw [q] at ht2; exact absurd (bk_type ht2 h.bf) (by decide)
    have a4 : x.q ≠ w.heap.size := fun q => by have := hx.ref.row; rw [q] at this; exact absurd (bk_type this h.bf) (by decide)
    exact ⟨hx.fil.grown hg (by simp; omega) (by simp; omega), hx.ref.grown hg (by simp; omega) (by simp; omega), hx.len, hx.lg, hx.lq⟩
  have hd := keep d (h.one v d hv e)
  have hf' : FlS (W.setCell ⟨w.heap.size, v, none⟩ (.pointer (some ⟨f', 0, none⟩))) f' g' d.n d.k s' := by
    obtain ⟨c, ht, _⟩ := hf.top
    have a1 := bk_ne_row hf.row h.bf (by decide)
    have a2 : f' ≠ w.heap.size := fun q => by rw [q] at ht; exact absurd (bk_type ht h.bf) (by decide)
    exact hf.grown hg (by simp; omega) (by simp; omega)
  refine h.up hv e ⟨hf', hd.ref, hd.len, hlg, hd.lq⟩ ⟨.inr hne, rfl⟩ (fun j x hj hjv ej => keep x (h.one j x hj ej)) ?_ ?_ (below_own h.bel h.bel.size hg (Nat.le_refl _))
  · have := h.bf.set v (.pointer (some ⟨f', 0, none⟩))
    have e2 : (#[ptF (ds 0), ptF (ds 1)] : Array Value).setIfInBounds v (.pointer (some ⟨f', 0, none⟩)) = #[ptF (upS ds v { d with s := s', f := f', g := g' } 0), ptF (upS ds v { d with s := s', f := f', g := g' } 1)] := by
      have : v = 0 ∨ v = 1 := by omega
      rcases this with rfl | rfl <;> simp [upS, ptF]
    rw [e2] at this
    exact this
  · rw [two_upM ds v d { d with s := s', f := f', g := g' } hv e rfl]; exact h.bm.grown hg (by simp)
end Go.Proofs.YtplfjfhpdfbpeaaDoor
