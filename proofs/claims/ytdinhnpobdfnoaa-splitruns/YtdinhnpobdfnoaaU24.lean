/- A step of a splitter and of the document's, one behind the other. -/
import Derived.Test.YtdinhnpobdfnoaaU23
namespace Go.Proofs.Ytdinhnpobdfnoaa
open Go.RowKit
set_option linter.unusedSimpArgs false
set_option linter.unusedVariables false
/-- What both have answered, and what lies there then. -/
structure Res (w : World) (B g gr : Nat) (p : Pl) (fs : List Nat) (N : Nat) (a : Option Addr) (n : Nat) (a2 : Option Addr) (w2 : World) : Prop where
  pcs : ∃ l : List (List UInt8 × Nat), l.length = n ∧ PcL w2 a l ∧ PcL w2 a2 l
  len : n ≤ 1048576
  row : n = 0 ∨ ∃ gb C, a = some ⟨gb, 0, none⟩ ∧ Bk w2 gb C 58 ∧ n * 2 ≤ C.size ∧ w.heap.size ≤ gb
  one : ∃ st fs', One w2 B g gr p st fs' ∧ (∀ b ∈ fs', b ∈ fs ∨ w.heap.size ≤ b) ∧ (∀ h tk, st = some (h, tk) → tk ≤ N) ∧ ∀ gb, n ≠ 0 → a = some ⟨gb, 0, none⟩ → gb ∉ fs' ∧ gb ≠ gr
  kb : Kb w w2 (gr :: fs)
theorem own_row {w : World} {B n : Nat} {e : TypeId} {a : Option Addr} {c : Nat} {xs : List Value} (h : w.ownsRow B e 2 (.slice a n c) n xs) : n = 0 ∨ ∃ gb C, a = some ⟨gb, 0, none⟩ ∧ Bk w gb C e ∧ n * 2 ≤ C.size ∧ B ≤ gb := by
  rcases h.2 with ⟨_, h0⟩ | ⟨g, cap, cur, hv, hle, hg, hnc, _, hc, ht⟩
  · exact .inl h0
  · cases hv
    refine .inr ⟨g, cur, rfl, hg, ?_, hle⟩
    rw [hc]; exact Nat.mul_le_mul_right 2 hnc
/-- Both are done: error 5 twice. -/
theorem res_done {w : World} {B g gr : Nat} {p : Pl} {fs : List Nat} {N : Nat} (ho : One w B g gr p none fs) {w2 : World} (hb : Below w.heap.size w w2) : Res w B g gr p fs N none 0 none w2 := by
  have hk := kb_below hb []
  have hk2 := kb_below hb (gr :: fs)
  exact ⟨⟨[], rfl, fun i x hx => by simp at hx, fun i x hx => by simp at hx⟩, by omega, .inl rfl, ⟨none, fs, ho.kept hk (fun b _ => by simp) (by simp), fun b hb => .inl hb, fun h tk e => (by cases e), fun gb h0 => absurd rfl h0⟩, hk2⟩
theorem step_done (s : ByteArray) (w : World) (B g gr : Nat) (p : Pl) (fs : List Nat) (N : Nat) (ho : One w B g gr p none fs) :
    Calls Try.prog 16 #[.pointer (some ⟨g, 0, none⟩), .string s] w fun e w1 => ∃ a n c er, e = .returned (.tuple #[.slice a n c, .int .i64 er]) ∧
      Hid (Calls Try.prog 17 #[.pointer (some ⟨gr, 0, none⟩), .string s] w1 fun e w2 => ∃ a2 c2, e = .returned (.tuple #[.slice a2 n c2, .int .i64 er]) ∧ Res w B g gr p fs N a n a2 w2) ∧ Kb w w1 (gr :: fs) := by
  obtain ⟨h1, R, tk, h2⟩ := ho.dne rfl
  refine (swrite_done g s w h1).mono ?_
  rintro e w1 ⟨rfl, hb⟩
  refine ⟨none, 0, 0, 5, rfl, ?_, kb_below hb _⟩
  have h3 := h2.below hb h2.lt
  refine (rwrite_done gr s w1 (by rw [h3.cell]; rfl)).mono ?_
  rintro e w2 ⟨rfl, rfl⟩
  exact ⟨none, 0, rfl, res_done ho hb⟩
theorem stepc_done (w : World) (B g gr : Nat) (p : Pl) (fs : List Nat) (N : Nat) (ho : One w B g gr p none fs) :
    Calls Try.prog 18 #[.pointer (some ⟨g, 0, none⟩)] w fun e w1 => ∃ a n c er, e = .returned (.tuple #[.slice a n c, .int .i64 er]) ∧
      Hid (Calls Try.prog 19 #[.pointer (some ⟨gr, 0, none⟩)] w1 fun e w2 => ∃ a2 c2, e = .returned (.tuple #[.slice a2 n c2, .int .i64 er]) ∧ Res w B g gr p fs N a n a2 w2) := by
  obtain ⟨h1, R, tk, h2⟩ := ho.dne rfl
  refine (sclose_done g w h1).mono ?_
  rintro e w1 ⟨rfl, rfl⟩
  refine ⟨none, 0, 0, 5, rfl, ?_⟩
  refine (rclose_done gr w1 (by rw [h2.cell]; rfl)).mono ?_
  rintro e w2 ⟨rfl, rfl⟩
  exact ⟨none, 0, rfl, res_done ho (Below.refl _ _)⟩
theorem pcs_len2 (p : Pl) (h s : List UInt8) : (pcs (ctA p) h s).length ≤ s.length := by
  induction s generalizing h with
  | nil => simp [pcs]
  | cons b r ih =>
    simp only [pcs]
    split
    · simp only [List.length_cons]; have := ih []; omega
    · have := ih (h ++ [b]); simp only [List.length_cons]; omega
theorem step_open (s : ByteArray) (w : World) (B g gr : Nat) (p : Pl) (hp : p.ok) (h : List UInt8) (tk : Nat) (fs : List Nat) (N : Nat) (ho : One w B g gr p (some (h, tk)) fs) (hB : B ≤ w.heap.size) (hN : tk + s.size ≤ N) (hN2 : N ≤ 3000) :
    Calls Try.prog 16 #[.pointer (some ⟨g, 0, none⟩), .string s] w fun e w1 => ∃ a n c er, e = .returned (.tuple #[.slice a n c, .int .i64 er]) ∧
      Hid (Calls Try.prog 17 #[.pointer (some ⟨gr, 0, none⟩), .string s] w1 fun e w2 => ∃ a2 c2, e = .returned (.tuple #[.slice a2 n c2, .int .i64 er]) ∧ Res w B g gr p fs N a n a2 w2) ∧ Kb w w1 (gr :: fs) := by
  obtain ⟨h1, R, hR, h2⟩ := ho.opn h tk rfl
  refine (swrite_yes B g p hp h tk fs s w h1 hB (by omega)).mono ?_
  rintro e w1 ⟨v, fs1, rfl, ⟨hv, _⟩, hs1, hk1, hf1⟩
  obtain ⟨l, hl⟩ : ∃ l, pcs (ctA p) h (tby s) = l := ⟨_, rfl⟩
  have hln : l.length ≤ 3000 := by
    have := pcs_len2 p h (tby s)
    rw [hl, tby_len] at this; omega
  rw [hl] at hv
  obtain ⟨a, c, rfl, hpl⟩ := own_pcl hv rfl
  refine ⟨a, l.length, c, 0, rfl, ?_, ⟨hk1.os, hk1.tape, hk1.output, hk1.size, fun b hb hn => hk1.block b hb (fun hm => hn (List.mem_cons_of_mem _ hm))⟩⟩
  have h3 := hk1.bk h2 ho.rni
  refine (rwrite_yes gr tk p hp R s w1 h3 (by rw [hR]; exact h1.opn) (by omega)).mono ?_
  rintro e w2 ⟨v2, R', rfl, hv2, hb2, hR', hg2⟩
  rw [hR, hl] at hv2
  obtain ⟨a2, c2, rfl, hpl2⟩ := own_pcl hv2 rfl
  have hkp : Kp [45] w1 w2 := kp_grown h3 (by simp) hg2
  have hv' := own_kp hv (by decide) hkp
  obtain ⟨fs', hs', hsub, hty⟩ := hs1.trim
  have hrn : gr ∉ fs' := fun hm => by
    obtain ⟨C, T, q1, q2⟩ := hty gr hm
    have := bk_apart_ty q1 h3
    subst this
    revert q2; decide
  have hkb2 := kb_grown hg2
  have hd : ∀ b ∈ fs', b ∉ (some gr).toList := fun b hb hm => by
    simp at hm; subst hm; exact hrn hb
  have hkb : Kb w w2 (gr :: fs) := by
    refine ⟨by rw [hg2.os, hk1.os], by rw [hg2.tape, hk1.tape], by rw [hg2.output, hk1.output], Nat.le_trans hk1.size hg2.size, fun b hb hn => ?_⟩
    simp only [List.mem_cons, not_or] at hn
    rw [hg2.block b (Nat.lt_of_lt_of_le hb hk1.size) (fun e => hn.1 (by cases e; rfl)), hk1.block b hb hn.2]
  have hone : One w2 B g gr p (some (lft (ctA p) h (tby s), tk + s.size)) fs' := by
    refine ⟨fun x t e => ?_, fun e => (by cases e), hs'.gin, fun b hb => Nat.lt_of_lt_of_le (hs'.foot b hb).2 hg2.size, hrn, fun b hb => (hs'.foot b hb).1, ho.rfo⟩
    cases e
    exact ⟨hs'.kept hkb2 hd, R', by rw [hR', hR], hb2⟩
  have hrow := own_row hv
  refine ⟨a2, c2, rfl, ⟨⟨l, rfl, ?_, hpl2⟩, by omega, own_row hv', ⟨_, fs', hone, fun b hb => hf1 b (hsub b hb), fun x t e => ?_, fun gb h0 hgb => ?_⟩, hkb⟩⟩
  · obtain ⟨a', c', e', hq⟩ := own_pcl hv' rfl
    cases e'; exact hq
  · cases e; exact hN
  · rcases hrow with q | ⟨gb', C, q1, q2, _, q4⟩
    · exact absurd q h0
    · rw [q1] at hgb
      cases hgb
      refine ⟨fun hm => ?_, fun e => ?_⟩
      · obtain ⟨C', T, r1, r2⟩ := hty gb hm
        have := bk_apart_ty r1 q2
        subst this
        revert r2; decide
      · subst e
        have := h2.lt
        omega
theorem stepc_open (w : World) (B g gr : Nat) (p : Pl) (hp : p.ok) (h : List UInt8) (tk : Nat) (fs : List Nat) (N : Nat) (ho : One w B g gr p (some (h, tk)) fs) :
    Calls Try.prog 18 #[.pointer (some ⟨g, 0, none⟩)] w fun e w1 => ∃ a n c er, e = .returned (.tuple #[.slice a n c, .int .i64 er]) ∧
      Hid (Calls Try.prog 19 #[.pointer (some ⟨gr, 0, none⟩)] w1 fun e w2 => ∃ a2 c2, e = .returned (.tuple #[.slice a2 n c2, .int .i64 er]) ∧ Res w B g gr p fs N a n a2 w2) := by
  obtain ⟨h1, R, hR, h2⟩ := ho.opn h tk rfl
  have hhl := h1.opn.lt (p := p) (by have := hp.2.2.2.2.1; omega)
  have hM := hp.2.2.2.2.2
  have hRs : R.size = h.length := by rw [← hR, tby_len]
  refine (sclose_yes B g p h tk fs w h1 (by omega)).mono ?_
  rintro e w1 ⟨v, rfl, ⟨hv, _⟩, hc1, hg1⟩
  obtain ⟨l, hl⟩ : ∃ l, lastP h = l := ⟨_, rfl⟩
  have hln : l.length ≤ 1 := by
    rw [← hl]; unfold lastP; split <;> simp
  rw [hl] at hv
  obtain ⟨a, c, rfl, hpl⟩ := own_pcl hv rfl
  refine ⟨a, l.length, c, 0, rfl, ?_⟩
  have hgr : gr ≠ g := fun e => ho.rni (e ▸ ho.gin)
  have h3 := h2.grown hg1 (by simpa using fun e => hgr e.symm)
  refine (rclose_yes gr tk p R w1 h3 (by omega)).mono ?_
  rintro e w2 ⟨v2, rfl, hv2, hb2, hg2⟩
  rw [hR, hl] at hv2
  obtain ⟨a2, c2, rfl, hpl2⟩ := own_pcl hv2 rfl
  have hkp : Kp [45] w1 w2 := kp_grown h3 (by simp) hg2
  have hv' := own_kp hv (by decide) hkp
  have hkb : Kb w w2 (gr :: fs) := by
    refine ⟨by rw [hg2.os, hg1.os], by rw [hg2.tape, hg1.tape], by rw [hg2.output, hg1.output], Nat.le_trans hg1.size hg2.size, fun b hb hn => ?_⟩
    simp only [List.mem_cons, not_or] at hn
    rw [hg2.block b (Nat.lt_of_lt_of_le hb hg1.size) (fun e => hn.1 (by cases e; rfl)), hg1.block b hb (fun e => hn.2 (by cases e; exact ho.gin))]
  have hglt := ho.lt g ho.gin
  have hone : One w2 B g gr p none [g] := by
    refine ⟨fun x t e => (by cases e), fun _ => ⟨?_, R, tk, hb2⟩, by simp, fun b hb => ?_, by simpa using hgr, fun b hb => ?_, ho.rfo⟩
    · rw [World.cell?_of_block (a := ⟨g, 0, none⟩) (hg2.block g (Nat.lt_of_lt_of_le hglt hg1.size) (fun e => hgr (by cases e; rfl)))]; exact hc1
    · simp at hb; subst hb; exact Nat.lt_of_lt_of_le hglt (Nat.le_trans hg1.size hg2.size)
    · simp at hb; subst hb; exact ho.foot b ho.gin
  have hrow := own_row hv
  refine ⟨a2, c2, rfl, ⟨⟨l, rfl, ?_, hpl2⟩, by omega, own_row hv', ⟨_, [g], hone, fun b hb => ?_, fun x t e => (by cases e), fun gb h0 hgb => ?_⟩, hkb⟩⟩
  · obtain ⟨a', c', e', hq⟩ := own_pcl hv' rfl
    cases e'; exact hq
  · simp at hb; subst hb; exact .inl ho.gin
  · rcases hrow with q | ⟨gb', C, q1, q2, _, q4⟩
    · exact absurd q h0
    · rw [q1] at hgb
      cases hgb
      refine ⟨fun hm => ?_, fun e => ?_⟩
      · simp at hm; subst hm; omega
      · subst e
        have := h2.lt
        omega
end Go.Proofs.Ytdinhnpobdfnoaa
