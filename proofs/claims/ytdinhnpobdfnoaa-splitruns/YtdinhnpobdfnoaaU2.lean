/- The walks of package split: begun, cutter.take. -/
import Derived.Test.YtdinhnpobdfnoaaU1
import Derived.Deep.RegionHeld3
namespace Go.Proofs.Ytdinhnpobdfnoaa
open Go.RowKit
set_option linter.unusedSimpArgs false
set_option linter.unusedVariables false
/-- What lies there while a cutter is made. -/
structure BG (w : World) (b f m : Int) (W : World) : Prop where
  a : Bk W w.heap.size #[.int .i64 b, .int .i64 f, .int .i64 m] 31
  z : Bk W (w.heap.size + 1) #[.int .i64 0, .int .i64 0, .int .i64 0, .pointer none, .int .i64 0] 86
  bel : Below w.heap.size w W
theorem BG.drew {w W : World} {b f m : Int} (h : BG w b f m W) : BG w b f m W.drew := ⟨h.a, h.z, h.bel.drew⟩
theorem BG.new {w W : World} {b f m : Int} (h : BG w b f m W) : Calls Try.prog 40 #[] W fun e w' => ∃ r, e = .returned (.pointer (some ⟨r, 0, none⟩)) ∧ Hid (w.heap.size + 1 < r ∧ Rll w' r [] ∧ BG w b f m w') ∧ w'.cell? ⟨w.heap.size, 0, none⟩ = some (.int .i64 b) ∧ w'.cell? ⟨w.heap.size, 1, none⟩ = some (.int .i64 f) ∧ w'.cell? ⟨w.heap.size, 2, none⟩ = some (.int .i64 m) ∧ (∀ j, w'.frozen? ⟨w.heap.size + 1, j, none⟩ = false) ∧ w'.cell? ⟨w.heap.size + 1, 0, none⟩ = some (.int .i64 0) ∧ w'.cell? ⟨w.heap.size + 1, 1, none⟩ = some (.int .i64 0) ∧ w'.cell? ⟨w.heap.size + 1, 2, none⟩ = some (.int .i64 0) ∧ w'.cell? ⟨w.heap.size + 1, 3, none⟩ = some (.pointer none) ∧ w'.cell? ⟨w.heap.size + 1, 4, none⟩ = some (.int .i64 0) := by
  refine (new_any W).mono ?_
  rintro e w1 ⟨rfl, h1, b1⟩
  have h2 : BG w b f m w1 := ⟨h.a.below b1 h.a.lt, h.z.below b1 h.z.lt, h.bel.trans (b1.mono h.bel.size)⟩
  have := h.z.lt
  exact ⟨_, rfl, ⟨by omega, h1, h2⟩, by rw [h2.a.cell]; rfl, by rw [h2.a.cell]; rfl, by rw [h2.a.cell]; rfl, fun j => h2.z.frozen j, by rw [h2.z.cell]; rfl, by rw [h2.z.cell]; rfl, by rw [h2.z.cell]; rfl, by rw [h2.z.cell]; rfl, by rw [h2.z.cell]; rfl⟩
theorem BG.fin {w W : World} {b f m : Int} (h : BG w b f m W) (r : Nat) (hr : w.heap.size + 1 < r) (h1 : Rll W r []) :
    Bk (((((W.setCell ⟨w.heap.size + 1, 0, none⟩ (.int .i64 b)).setCell ⟨w.heap.size + 1, 1, none⟩ (.int .i64 f)).setCell ⟨w.heap.size + 1, 2, none⟩ (.int .i64 m)).setCell ⟨w.heap.size + 1, 3, none⟩ (.pointer (some ⟨r, 0, none⟩))).setCell ⟨w.heap.size + 1, 4, none⟩ (.int .i64 0)) (w.heap.size + 1) #[.int .i64 b, .int .i64 f, .int .i64 m, .pointer (some ⟨r, 0, none⟩), .int .i64 0] 86 ∧
    Rll (((((W.setCell ⟨w.heap.size + 1, 0, none⟩ (.int .i64 b)).setCell ⟨w.heap.size + 1, 1, none⟩ (.int .i64 f)).setCell ⟨w.heap.size + 1, 2, none⟩ (.int .i64 m)).setCell ⟨w.heap.size + 1, 3, none⟩ (.pointer (some ⟨r, 0, none⟩))).setCell ⟨w.heap.size + 1, 4, none⟩ (.int .i64 0)) r [] ∧
    Below w.heap.size w (((((W.setCell ⟨w.heap.size + 1, 0, none⟩ (.int .i64 b)).setCell ⟨w.heap.size + 1, 1, none⟩ (.int .i64 f)).setCell ⟨w.heap.size + 1, 2, none⟩ (.int .i64 m)).setCell ⟨w.heap.size + 1, 3, none⟩ (.pointer (some ⟨r, 0, none⟩))).setCell ⟨w.heap.size + 1, 4, none⟩ (.int .i64 0)) := by
  have hg : W.grownBy (((((W.setCell ⟨w.heap.size + 1, 0, none⟩ (.int .i64 b)).setCell ⟨w.heap.size + 1, 1, none⟩ (.int .i64 f)).setCell ⟨w.heap.size + 1, 2, none⟩ (.int .i64 m)).setCell ⟨w.heap.size + 1, 3, none⟩ (.pointer (some ⟨r, 0, none⟩))).setCell ⟨w.heap.size + 1, 4, none⟩ (.int .i64 0)) (some (w.heap.size + 1)) :=
    Lib.grownBy_setB (Lib.grownBy_setB (Lib.grownBy_setB (Lib.grownBy_setB (Lib.grownBy_setB (World.grownBy.refl _ _) 0 _) 1 _) 2 _) 3 _) 4 _
  exact ⟨((((h.z.set 0 _).set 1 _).set 2 _).set 3 _).set 4 _, h1.grown hg (by simp; omega), below_own h.bel h.bel.size hg (by omega)⟩
theorem inf_cut : (Try.prog.info? 86).map (·.size) = some 5 := by kernel_rfl
set_option maxHeartbeats 2000000 in
set_option maxRecDepth 100000 in
theorem begun_any (p : Pl) (w : World) : Calls Try.prog 29 #[plV p.B p.F p.M] w fun e w' => ∃ r, e = .returned (.agg (cuV p r 0)) ∧ w.heap.size ≤ r ∧ Rll w' r [] ∧ Below w.heap.size w w' := by
  obtain ⟨b, hb⟩ : ∃ b : Int, (p.B : Int) = b := ⟨_, rfl⟩
  obtain ⟨f, hf⟩ : ∃ b : Int, (p.F : Int) = b := ⟨_, rfl⟩
  obtain ⟨m, hm⟩ : ∃ b : Int, (p.M : Int) = b := ⟨_, rfl⟩
  have e : plV p.B p.F p.M = plV b f m := by rw [hb, hf, hm]
  have e2 : ∀ r n, cuV p r n = #[.int .i64 b, .int .i64 f, .int .i64 m, .pointer (some ⟨r, 0, none⟩), .int .i64 n] := by intro r n; unfold cuV; rw [hb, hf, hm]
  simp only [e2]
  rw [hb, hf, hm]
  clear e e2 hb hf hm
  have HB : Hid (BG w b f m ((w.alloc (Obj.cells #[Value.int IntKind.i64 b, Value.int IntKind.i64 f, Value.int IntKind.i64 m] 31)).alloc (Obj.cells #[Value.int IntKind.i64 0, Value.int IntKind.i64 0, Value.int IntKind.i64 0, Value.pointer none, Value.int IntKind.i64 0] 86))) := by
    refine ⟨(bk_new _ _ _).alloc _, ?_, ((Below.refl _ _).alloc (Nat.le_refl _) _).alloc (by simp) _⟩
    have h := bk_new (w.alloc (Obj.cells #[Value.int IntKind.i64 b, Value.int IntKind.i64 f, Value.int IntKind.i64 m] 31)) #[Value.int IntKind.i64 0, Value.int IntKind.i64 0, Value.int IntKind.i64 0, Value.pointer none, Value.int IntKind.i64 0] 86
    rw [al_size] at h
    exact h
  go_enter Try.func29, Try.ntmps29
  go_wp2
  go_region_with (go_at_call 40; go_loud (refine HB.out.drew.new.mono ?_; rintro e w1 ⟨r, rfl, H1, k0, k1, k2, hfz, z0, z1, z2, z3, z4⟩))
  all_goals go_wp2
  all_goals
    obtain ⟨q1, q2, q3⟩ := H1.out.2.2.fin r H1.out.1 H1.out.2.1
    refine bodyPost_ret (results_cell_row rfl _ _ (w.heap.size + 1) 86 #[.int .i64 b, .int .i64 f, .int .i64 m, .pointer (some ⟨r, 0, none⟩), .int .i64 0] (0, 0) _ rfl q1 Try.underlying86 rfl inf_cut) rfl ⟨r, rfl, by have := H1.out.1; omega, q2, q3⟩
/-- What a taker of cuts is: a closure over what lies there (E i: so many bytes are taken), which keeps the cutter as it is. -/
structure Tk (R : Nat → Prop) (p : Pl) (s : List UInt8) (h0 : List UInt8) (g o F : Nat) (cs : Array Value) (E : Nat → World → Prop) : Prop where
  enter : ∀ args u, (callFunc F args).run Try.prog u = .ok (.enter F args) u
  size : ∀ i w, E i w → ∀ r, w.heap.size ≤ r → R r
  roll : ∀ i w r C w', E i w → R r → Bk w r C 113 → w.grownBy w' (some r) → E i w'
  cell : ∀ i w j v, E i w → j < 5 → E i (w.setCell ⟨g, o + j, none⟩ v)
  next : ∀ i w x, s[i]? = some x → E i w → ctA p (lft (ctA p) h0 (s.take i) ++ [x]) = none → E (i + 1) w
  there : ∀ i w, E i w → ∃ C T, Bk w g C T ∧ T ≠ 113 ∧ o + 5 ≤ C.size
  hand : ∀ i w v x r, s[i]? = some x → E i w → R r → Cu w g o p (lft (ctA p) h0 (s.take i) ++ [x]) r → ctA p (lft (ctA p) h0 (s.take i) ++ [x]) = some v → Calls Try.prog F (#[.int .i64 ((i : Int) + 1), .int .i64 (v : Int)] ++ cs) w fun e w' => e = .returned (.tuple #[]) ∧ E (i + 1) w' ∧ ∃ r', R r' ∧ Cu w' g o p (lft (ctA p) h0 (s.take i) ++ [x]) r'
theorem bk_apart {w : World} {a b : Nat} {C D : Array Value} {T U : TypeId} (h1 : Bk w a C T) (h2 : Bk w b D U) (h : T ≠ U) : a ≠ b := by
  rintro rfl
  unfold Bk at h1 h2
  rw [h1] at h2
  cases h2
  exact h rfl
theorem Cu.grown {w w' : World} {g o r : Nat} {p : Pl} {l : List UInt8} (h : Cu w g o p l r) {C : Array Value} {T : TypeId} (hb : Bk w g C T) {q : Option Nat} (hg : w.grownBy w' q) (hq : q ≠ some g) {l' : List UInt8} (hl : l'.length = l.length) (hr : Rll w' r l') : Cu w' g o p l' r := by
  have hb' := hb.grown hg hq
  have k : ∀ j, w'.cell? ⟨g, j, none⟩ = w.cell? ⟨g, j, none⟩ := fun j => by rw [hb'.cell, hb.cell]
  exact ⟨by rw [k]; exact h.c0, by rw [k]; exact h.c1, by rw [k]; exact h.c2, by rw [k]; exact h.c3, by rw [k, hl]; exact h.c4, hr⟩
end Go.Proofs.Ytdinhnpobdfnoaa
