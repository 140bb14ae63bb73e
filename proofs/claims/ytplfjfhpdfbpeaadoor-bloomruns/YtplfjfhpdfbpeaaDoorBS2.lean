/- Two pairs of filters: what the calls leave. -/
import Derived.Test.YtplfjfhpdfbpeaaDoorBS1
namespace Go.Proofs.YtplfjfhpdfbpeaaDoor
open Go.RowKit
set_option linter.unusedSimpArgs false
set_option linter.unusedVariables false
theorem upS_up (ds : Nat → Option Sd) (v : Nat) (d d' : Sd) : upS (upS ds v d) v d' = upS ds v d' := by
  funext j
  by_cases h : j = v <;> simp [upS, h]
/-- Both pairs, of which one is told by letters; a name in a block of its own. -/
structure Rz (w : World) (ds : Nat → Option Sd) (b : Nat) (D : Array Value) (v n k : Nat) (s t : List UInt8) (f g o q : Nat) (W : World) : Prop where
  rn : Rn w (upS ds v ⟨n, k, s, t, f, g, o, q⟩) W
  box : Bk W b D 36
section
variable {w : World} {ds : Nat → Option Sd} {b : Nat} {D : Array Value} {v n k : Nat} {s t : List UInt8} {f g o q : Nat} {W W' : World}
theorem Rz.below (h : Rz w ds b D v n k s t f g o q W) (hb : Below W.heap.size W W') : Rz w ds b D v n k s t f g o q W' := ⟨h.rn.below hb, h.box.grown (gr_of_below hb none) (by simp)⟩
theorem Rz.drew (h : Rz w ds b D v n k s t f g o q W) : Rz w ds b D v n k s t f g o q W.drew := h.below (Below.refl _ _).drew
theorem Rz.sd (h : Rz w ds b D v n k s t f g o q W) (hv : v < 2) : SdS w ⟨n, k, s, t, f, g, o, q⟩ W := h.rn.one v _ hv (upS_at _ _ _)
theorem Rz.fil (h : Rz w ds b D v n k s t f g o q W) (hv : v < 2) : FlS W f g n k s := (h.sd hv).fil
theorem Rz.ref (h : Rz w ds b D v n k s t f g o q W) (hv : v < 2) : RfS W o q n k t := (h.sd hv).ref
theorem Rz.cf (h : Rz w ds b D v n k s t f g o q W) (hv : v < 2) : W.cell? ⟨w.heap.size, v, none⟩ = some (.pointer (some ⟨f, 0, none⟩)) := by rw [h.rn.cellF v hv, upS_at]; rfl
theorem Rz.cm (h : Rz w ds b D v n k s t f g o q W) (hv : v < 2) : W.cell? ⟨w.heap.size + 1, v, none⟩ = some (.pointer (some ⟨o, 0, none⟩)) := by rw [h.rn.cellM v hv, upS_at]; rfl
theorem Rz.cfo (h : Rz w ds b D v n k s t f g o q W) (u : Nat) (hu : u < 2) (huv : u ≠ v) : W.cell? ⟨w.heap.size, u, none⟩ = some (ptF (ds u)) := by rw [h.rn.cellF u hu, upS_ne _ _ _ _ huv]
theorem Rz.cmo (h : Rz w ds b D v n k s t f g o q W) (u : Nat) (hu : u < 2) (huv : u ≠ v) : W.cell? ⟨w.heap.size + 1, u, none⟩ = some (ptM (ds u)) := by rw [h.rn.cellM u hu, upS_ne _ _ _ _ huv]
theorem Rz.setF (h : Rz w ds b D v n k s t f g o q W) (hv : v < 2) {s' : List UInt8} (hg : W.grownBy W' (some g)) (hf : FlS W' f g n k s') : Rz w ds b D v n k s' t f g o q W' := by
  have := h.rn.setF hv (upS_at ds v ⟨n, k, s, t, f, g, o, q⟩) (s' := s') hg hf
  rw [upS_up] at this
  have hb := bk_ne_row (h.fil hv).row h.box (by decide)
  exact ⟨this, h.box.grown hg (by simp; omega)⟩
theorem Rz.setM (h : Rz w ds b D v n k s t f g o q W) (hv : v < 2) {t' : List UInt8} (hg : W.grownBy W' (some q)) (hf : RfS W' o q n k t') (hl : 8 * t'.length = n) : Rz w ds b D v n k s t' f g o q W' := by
  have := h.rn.setM hv (upS_at ds v ⟨n, k, s, t, f, g, o, q⟩) (t' := t') hg hf hl
  rw [upS_up] at this
  refine ⟨this, h.box.grown hg ?_⟩
  intro e
  injection e with e
  have hr := (h.ref hv).row
  rw [e] at hr
  exact absurd (bk_type hr h.box) (by decide)
theorem Rz.put (h : Rz w ds b D v n k s t f g o q W) (hv : v < 2) {f' g' : Nat} {s' : List UInt8} (hf : FlS W f' g' n k s') (hlg : w.heap.size ≤ g') (hne : ∀ j x, j < 2 → upS ds v ⟨n, k, s, t, f, g, o, q⟩ j = some x → g' ≠ x.g) :
    Rz w ds b D v n k s' t f' g' o q (W.setCell ⟨w.heap.size, v, none⟩ (.pointer (some ⟨f', 0, none⟩))) := by
  have := h.rn.put hv (upS_at ds v ⟨n, k, s, t, f, g, o, q⟩) hf hlg hne
  rw [upS_up] at this
  refine ⟨this, h.box.grown (Lib.grownBy_setB (World.grownBy.refl W (some w.heap.size)) v _) ?_⟩
  intro e
  injection e with e
  have hr := h.box
  rw [← e] at hr
  exact absurd (bk_type hr h.rn.bf) (by decide)
theorem Rz.addM (h : Rz w ds b D v n k s t f g o q W) (hv : v < 2) (x : ByteArray) (hx : x.size = 32) (hD : idc x = D) :
    Calls Tryd.prog 11 #[.pointer (some ⟨o, 0, none⟩), .agg D] W fun e w' => e = .returned (.tuple #[]) ∧ Rz w ds b D v n k s (adK n x k t) f g o q w' := by
  have hl := (h.sd hv).len
  rw [← hD]
  refine (radd_any x o q n k t W hx hl (h.ref hv)).mono ?_
  rintro e w' ⟨rfl, h1, h2⟩
  rw [hD]
  exact ⟨rfl, h.setM hv h2 h1 (by rw [adK_len]; exact hl)⟩
theorem Rz.addF (h : Rz w ds b D v n k s t f g o q W) (hv : v < 2) (x : ByteArray) (hx : x.size = 32) (hD : idc x = D) :
    Calls Tryd.prog 12 #[.pointer (some ⟨f, 0, none⟩), .agg D] W fun e w' => e = .returned (.int .i64 0) ∧ Rz w ds b D v n k (adK n x k s) t f g o q w' ∧ W.grownBy w' (some g) := by
  rw [← hD]
  refine (add_any14 x f g n k s W hx (h.fil hv)).mono ?_
  rintro e w' ⟨rfl, h1, h2⟩
  rw [hD]
  exact ⟨rfl, h.setF hv h2 h1, h2⟩
theorem Rz.has (h : Rz w ds b D v n k s t f g o q W) (hv : v < 2) (x : ByteArray) (hx : x.size = 32) (hD : idc x = D) :
    Calls Tryd.prog 19 #[.pointer (some ⟨f, 0, none⟩), .agg D] W fun e w' => e = .returned (.bool (haK n x s k)) ∧ Rz w ds b D v n k s t f g o q w' := by
  rw [← hD]
  refine (has_any14 x f g n k s W hx (h.fil hv)).mono ?_
  rintro e w' ⟨rfl, h1⟩
  rw [hD]
  exact ⟨rfl, h.below h1⟩
theorem Rz.rhas (h : Rz w ds b D v n k s t f g o q W) (hv : v < 2) (x : ByteArray) (hx : x.size = 32) (hD : idc x = D) :
    Calls Tryd.prog 20 #[.pointer (some ⟨o, 0, none⟩), .agg D] W fun e w' => e = .returned (.bool (haK n x t k)) ∧ Rz w ds b D v n k s t f g o q w' := by
  rw [← hD]
  refine (rhas_any x o q n k t W hx (h.ref hv)).mono ?_
  rintro e w' ⟨rfl, h1⟩
  rw [hD]
  exact ⟨rfl, h.below h1⟩
theorem Rz.ones (h : Rz w ds b D v n k s t f g o q W) (hv : v < 2) :
    Calls Tryd.prog 21 #[.pointer (some ⟨f, 0, none⟩)] W fun e w' => e = .returned (.int .i64 (onR s : Int)) ∧ Rz w ds b D v n k s t f g o q w' := by
  refine (ones_any14 f g n k s W (h.fil hv)).mono ?_
  rintro e w' ⟨rfl, rfl⟩
  exact ⟨rfl, h⟩
theorem Rz.rones (h : Rz w ds b D v n k s t f g o q W) (hv : v < 2) :
    Calls Tryd.prog 22 #[.pointer (some ⟨o, 0, none⟩)] W fun e w' => e = .returned (.int .i64 (onR t : Int)) ∧ Rz w ds b D v n k s t f g o q w' := by
  refine (rones_any o q n k t W (h.sd hv).len (h.ref hv)).mono ?_
  rintro e w' ⟨rfl, rfl⟩
  exact ⟨rfl, h⟩
theorem Rz.size (h : Rz w ds b D v n k s t f g o q W) (hv : v < 2) :
    Calls Tryd.prog 18 #[.pointer (some ⟨f, 0, none⟩)] W fun e w' => e = .returned (.tuple #[.int .i64 (n : Int), .int .i64 (k : Int)]) ∧ Rz w ds b D v n k s t f g o q w' := by
  refine (size_any14 f g n k s W (h.fil hv)).mono ?_
  rintro e w' ⟨rfl, h1⟩
  exact ⟨rfl, h.below h1⟩
theorem Rz.enc (h : Rz w ds b D v n k s t f g o q W) (hv : v < 2) (hm : MkS w) :
    Calls Tryd.prog 15 #[.pointer (some ⟨f, 0, none⟩)] W fun e w' => e = .returned (.tuple #[.string (enF n k s), .int .i64 0]) ∧ Rz w ds b D v n k s t f g o q w' := by
  refine (enc_any14 f g n k s W (h.fil hv) (hm.below h.rn.bel)).mono ?_
  rintro e w' ⟨rfl, h1⟩
  exact ⟨rfl, h.below h1⟩
theorem Rz.renc (h : Rz w ds b D v n k s t f g o q W) (hv : v < 2) :
    Calls Tryd.prog 17 #[.pointer (some ⟨o, 0, none⟩)] W fun e w' => e = .returned (.string (enF n k t)) ∧ Rz w ds b D v n k s t f g o q w' := by
  refine (renc_any o q n k t W (h.sd hv).len (h.ref hv)).mono ?_
  rintro e w' ⟨rfl, h1⟩
  exact ⟨rfl, h.below h1⟩
/-- Beside them a filter that was read. -/
structure Rq (w : World) (ds : Nat → Option Sd) (b : Nat) (D : Array Value) (v n k : Nat) (s t : List UInt8) (f g o q : Nat) (f' g' : Nat) (s' : List UInt8) (W : World) : Prop where
  rz : Rz w ds b D v n k s t f g o q W
  new : FlS W f' g' n k s'
  lg : w.heap.size ≤ g'
  ne : ∀ j x, j < 2 → upS ds v ⟨n, k, s, t, f, g, o, q⟩ j = some x → g' ≠ x.g
theorem Rq.below {f' g' : Nat} {s' : List UInt8} (h : Rq w ds b D v n k s t f g o q f' g' s' W) (hb : Below W.heap.size W W') : Rq w ds b D v n k s t f g o q f' g' s' W' := ⟨h.rz.below hb, h.new.below hb, h.lg, h.ne⟩
theorem Rz.dec (h : Rz w ds b D v n k s t f g o q W) (hv : v < 2) (hm : MkS w) :
    Calls Tryd.prog 16 #[.string (enF n k s)] W fun e w' => ∃ f' g', e = .returned (.tuple #[.pointer (some ⟨f', 0, none⟩), .int .i64 0]) ∧ Rq w ds b D v n k s t f g o q f' g' s w' := by
  have hf := h.fil hv
  refine (dec_yes14 hf.ok hf.len W (hm.below h.rn.bel)).mono ?_
  rintro e w' ⟨f', g', h1⟩
  refine ⟨f', g', h1.res, h.below h1.bel, h1.fil, Nat.le_trans h.rn.bel.size h1.lg, fun j x hj ej => ?_⟩
  have := (h.rn.one j x hj ej).fil.row.lt
  have := h1.lg
  omega
theorem Rq.renc {f' g' : Nat} {s' : List UInt8} (h : Rq w ds b D v n k s t f g o q f' g' s' W) (hv : v < 2) :
    Calls Tryd.prog 17 #[.pointer (some ⟨o, 0, none⟩)] W fun e w' => e = .returned (.string (enF n k t)) ∧ Rq w ds b D v n k s t f g o q f' g' s' w' := by
  refine (renc_any o q n k t W (h.rz.sd hv).len (h.rz.ref hv)).mono ?_
  rintro e w' ⟨rfl, h1⟩
  exact ⟨rfl, h.below h1⟩
theorem Rq.addF {f' g' : Nat} {s' : List UInt8} (h : Rq w ds b D v n k s t f g o q f' g' s' W) (hv : v < 2) (x : ByteArray) (hx : x.size = 32) (hD : idc x = D) :
    Calls Tryd.prog 12 #[.pointer (some ⟨f, 0, none⟩), .agg D] W fun e w' => e = .returned (.int .i64 0) ∧ Rq w ds b D v n k (adK n x k s) t f g o q f' g' s' w' := by
  refine (h.rz.addF hv x hx hD).mono ?_
  rintro e w' ⟨rfl, h1, h2⟩
  have hg := h.ne v _ hv (upS_at _ _ _)
  refine ⟨rfl, h1, h.new.other (h.rz.fil hv) h2 (fun e => hg e.symm), h.lg, fun j x hj ej => ?_⟩
  by_cases ev : j = v
  · subst ev
    rw [upS_at] at ej
    cases ej
    exact hg
  · rw [upS_ne _ _ _ _ ev] at ej
    exact h.ne j x hj (by rw [upS_ne _ _ _ _ ev]; exact ej)
theorem Rq.put {f' g' : Nat} {s' : List UInt8} (h : Rq w ds b D v n k s t f g o q f' g' s' W) (hv : v < 2) : Rz w ds b D v n k s' t f' g' o q (W.setCell ⟨w.heap.size, v, none⟩ (.pointer (some ⟨f', 0, none⟩))) := h.rz.put hv h.new h.lg h.ne
theorem Rz.joinF (h : Rz w ds b D v n k s t f g o q W) (hv : v < 2) (u : Nat) (hu : u < 2) (huv : u ≠ v) (d : Sd) (e : ds u = some d) (hn : d.n = n) (hk : d.k = k) :
    Calls Tryd.prog 14 #[.pointer (some ⟨f, 0, none⟩), .pointer (some ⟨d.f, 0, none⟩)] W fun e w' => e = .returned (.int .i64 0) ∧ Rz w ds b D v n k (jnR s d.s) t f g o q w' := by
  have hu' : upS ds v ⟨n, k, s, t, f, g, o, q⟩ u = some d := by rw [upS_ne _ _ _ _ huv]; exact e
  have h2 := (h.rn.one u d hu hu').fil
  rw [hn, hk] at h2
  have ha := (h.rn.apart v u _ d hv hu (fun x => huv x.symm) (upS_at _ _ _) hu').1
  refine (join_yes14 f g n k s d.f d.g d.s W (h.fil hv) h2 ha).mono ?_
  rintro e w' ⟨rfl, h3, h4⟩
  exact ⟨rfl, h.setF hv h4 h3⟩
theorem Rz.joinF_no (h : Rz w ds b D v n k s t f g o q W) (hv : v < 2) (u : Nat) (hu : u < 2) (huv : u ≠ v) (d : Sd) (e : ds u = some d) (hn : ¬ (n = d.n ∧ k = d.k)) :
    Calls Tryd.prog 14 #[.pointer (some ⟨f, 0, none⟩), .pointer (some ⟨d.f, 0, none⟩)] W fun e w' => e = .returned (.int .i64 1) ∧ Rz w ds b D v n k s t f g o q w' := by
  have hu' : upS ds v ⟨n, k, s, t, f, g, o, q⟩ u = some d := by rw [upS_ne _ _ _ _ huv]; exact e
  refine (join_no14 f g n k s d.f d.g d.n d.k d.s W (h.fil hv) (h.rn.one u d hu hu').fil hn).mono ?_
  rintro e w' ⟨rfl, h3⟩
  exact ⟨rfl, h.below h3⟩
theorem Rz.joinM (h : Rz w ds b D v n k s t f g o q W) (hv : v < 2) (u : Nat) (hu : u < 2) (huv : u ≠ v) (d : Sd) (e : ds u = some d) (hn : d.n = n) (hk : d.k = k) :
    Calls Tryd.prog 13 #[.pointer (some ⟨o, 0, none⟩), .pointer (some ⟨d.o, 0, none⟩)] W fun e w' => e = .returned (.int .i64 0) ∧ Rz w ds b D v n k s (jnR t d.t) f g o q w' := by
  have hu' : upS ds v ⟨n, k, s, t, f, g, o, q⟩ u = some d := by rw [upS_ne _ _ _ _ huv]; exact e
  have hd := h.rn.one u d hu hu'
  have h2 := hd.ref
  have hl := hd.len
  rw [hn] at hl
  rw [hn, hk] at h2
  have ha := (h.rn.apart v u _ d hv hu (fun x => huv x.symm) (upS_at _ _ _) hu').2
  have hog : d.o ≠ q := fun x => by
    obtain ⟨c, ht, _⟩ := h2.top
    rw [x] at ht
    exact absurd (bk_type ht (h.ref hv).row) (by decide)
  refine (rjoin_yes o q n k t d.o d.q d.t W (h.ref hv) h2 (h.sd hv).len hl ha hog).mono ?_
  rintro e w' ⟨rfl, h3, h4⟩
  exact ⟨rfl, h.setM hv h4 h3 (by rw [jnR_len]; exact (h.sd hv).len)⟩
theorem Rz.joinM_no (h : Rz w ds b D v n k s t f g o q W) (hv : v < 2) (u : Nat) (hu : u < 2) (huv : u ≠ v) (d : Sd) (e : ds u = some d) (hn : ¬ (n = d.n ∧ k = d.k)) :
    Calls Tryd.prog 13 #[.pointer (some ⟨o, 0, none⟩), .pointer (some ⟨d.o, 0, none⟩)] W fun e w' => e = .returned (.int .i64 1) ∧ Rz w ds b D v n k s t f g o q w' := by
  have hu' : upS ds v ⟨n, k, s, t, f, g, o, q⟩ u = some d := by rw [upS_ne _ _ _ _ huv]; exact e
  refine (rjoin_no o q n k t d.o d.q d.n d.k d.t W (h.ref hv) (h.rn.one u d hu hu').ref hn).mono ?_
  rintro e w' ⟨rfl, h3⟩
  exact ⟨rfl, h.below h3⟩
end
theorem join_nil14 (f : Nat) (w : World) : Calls Tryd.prog 14 #[.pointer (some ⟨f, 0, none⟩), .pointer none] w fun e w' => e = .returned (.int .i64 2) ∧ w' = w := by
  go_enter Tryd.func14, Tryd.ntmps14
  go_wp2
  go_ret
  exact ⟨rfl, rfl⟩
end Go.Proofs.YtplfjfhpdfbpeaaDoor
