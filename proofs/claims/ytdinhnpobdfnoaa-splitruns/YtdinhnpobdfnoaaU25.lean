/- Two pairs of splitters; New of any plan. -/
import Derived.Test.YtdinhnpobdfnoaaU24
import Derived.Test.YtdinhnpobdfnoaaU6
namespace Go.Proofs.Ytdinhnpobdfnoaa
open Go.RowKit
set_option linter.unusedSimpArgs false
set_option linter.unusedVariables false
/-- A pointer to a block, or nil. -/
abbrev pv (x : Option Nat) : Option Addr := x.map fun g => ⟨g, 0, none⟩
/-- Two splitters, each beside the document's, apart. -/
structure Pr (w : World) (B : Nat) (xa xb : Option Nat) (ra rb : Nat) (p q : Pl) (N : Nat) : Prop where
  st : ∃ sa sb fa fb, (∀ g, xa = some g → One w B g ra p sa fa) ∧ (∀ g, xb = some g → One w B g rb q sb fb) ∧ (∀ b ∈ fa, b ∉ fb) ∧ ra ∉ fb ∧ rb ∉ fa ∧ (∀ h tk, sa = some (h, tk) → tk ≤ N) ∧ (∀ h tk, sb = some (h, tk) → tk ≤ N) ∧ (∀ b ∈ fa, B ≤ b ∧ b < w.heap.size) ∧ (∀ b ∈ fb, B ≤ b ∧ b < w.heap.size)
  ne : ra ≠ rb
  la : B ≤ ra ∧ ra < w.heap.size
  lb : B ≤ rb ∧ rb < w.heap.size
  pk : ∀ g, xa = some g → p.ok
  qk : ∀ g, xb = some g → q.ok
theorem Pr.swap {w : World} {B : Nat} {xa xb : Option Nat} {ra rb : Nat} {p q : Pl} {N : Nat} (h : Pr w B xa xb ra rb p q N) : Pr w B xb xa rb ra q p N := by
  obtain ⟨sa, sb, fa, fb, h1, h2, h3, h4, h5, h6, h7, h8, h9⟩ := h.st
  exact ⟨⟨sb, sa, fb, fa, h2, h1, fun b hb hn => h3 b hn hb, h5, h4, h7, h6, h9, h8⟩, h.ne.symm, h.lb, h.la, h.qk, h.pk⟩
theorem Pr.more {w : World} {B : Nat} {xa xb : Option Nat} {ra rb : Nat} {p q : Pl} {N N' : Nat} (h : Pr w B xa xb ra rb p q N) (hN : N ≤ N') : Pr w B xa xb ra rb p q N' := by
  obtain ⟨sa, sb, fa, fb, h1, h2, h3, h4, h5, h6, h7, h8, h9⟩ := h.st
  exact ⟨⟨sa, sb, fa, fb, h1, h2, h3, h4, h5, fun a b e => Nat.le_trans (h6 a b e) hN, fun a b e => Nat.le_trans (h7 a b e) hN, h8, h9⟩, h.ne, h.la, h.lb, h.pk, h.qk⟩
/-- What a step of the first leaves of both, when its row has been written over. -/
theorem Pr.step {w : World} {B g : Nat} {xb : Option Nat} {ra rb : Nat} {p q : Pl} {N : Nat} {sa sb : Option (List UInt8 × Nat)} {fa fb : List Nat} {a a2 : Option Addr} {n : Nat} {w2 w3 : World} {r : Option Nat}
    (h : Pr w B (some g) xb ra rb p q N) (h1 : One w B g ra p sa fa) (h2 : ∀ g, xb = some g → One w B g rb q sb fb) (h3 : ∀ b ∈ fa, b ∉ fb) (h4 : ra ∉ fb) (h5 : rb ∉ fa) (h7 : ∀ h tk, sb = some (h, tk) → tk ≤ N) (h8 : ∀ b ∈ fa, B ≤ b ∧ b < w.heap.size) (h9 : ∀ b ∈ fb, B ≤ b ∧ b < w.heap.size)
    (hr : Res w B g ra p fa N a n a2 w2) (hg : w2.grownBy w3 r) (hrr : ∀ b, r = some b → n ≠ 0 ∧ a = some ⟨b, 0, none⟩) : Pr w3 B (some g) xb ra rb p q N := by
  obtain ⟨st, fs', ho, hf, ht, hx⟩ := hr.one
  have hkr := kb_grown hg
  have hz : w.heap.size ≤ w3.heap.size := Nat.le_trans hr.kb.size hg.size
  have hgb : ∀ b, r = some b → w.heap.size ≤ b := fun b hb => by
    obtain ⟨q0, q1⟩ := hrr b hb
    rcases hr.row with e | ⟨gb, C, e1, _, _, e4⟩
    · exact absurd e q0
    · rw [q1] at e1; cases e1; exact e4
  have hk3 : Kb w w3 (ra :: fa) := hr.kb.trans2 hkr (fun b hb => .inr (hgb b (by simpa using hb)))
  have ho3 : One w3 B g ra p st fs' := ho.kept hkr (fun b hb hm => (hx b (hrr b (by simpa using hm)).1 (hrr b (by simpa using hm)).2).1 hb) (fun hm => (hx ra (hrr ra (by simpa using hm)).1 (hrr ra (by simpa using hm)).2).2 rfl)
  refine ⟨⟨st, sb, fs', fb, fun g' e => ?_, fun g' e => ?_, fun b hb hn => ?_, h4, fun hm => ?_, ht, h7, fun b hb => ⟨ho3.foot b hb, ho3.lt b hb⟩, fun b hb => ⟨(h9 b hb).1, Nat.lt_of_lt_of_le (h9 b hb).2 hz⟩⟩, h.ne, ⟨h.la.1, Nat.lt_of_lt_of_le h.la.2 hz⟩, ⟨h.lb.1, Nat.lt_of_lt_of_le h.lb.2 hz⟩, h.pk, h.qk⟩
  · cases e; exact ho3
  · refine (h2 g' e).kept hk3 (fun b hb hm => ?_) (fun hm => ?_)
    · simp only [List.mem_cons] at hm
      rcases hm with rfl | hm
      · exact h4 hb
      · exact h3 b hm hb
    · simp only [List.mem_cons] at hm
      rcases hm with e2 | hm
      · exact h.ne e2.symm
      · exact h5 hm
  · rcases hf b hb with q | q
    · exact h3 b q hn
    · have := (h9 b hn).2; omega
  · rcases hf rb hm with q | q
    · exact h5 q
    · have := h.lb.2; omega
/-- What New has made of any plan. -/
def Nw (w : World) (B : Nat) (o : Option Nat) (p : Pl) (b f m : Int) : Prop := (o = none ∧ plE b f m = 90) ∨ ∃ g fs, o = some g ∧ plE b f m = 0 ∧ p.ok ∧ b = (p.B : Int) ∧ f = (p.F : Int) ∧ m = (p.M : Int) ∧ Spo w B g p [] 0 fs
theorem snew_all (b f m : Int) : ∃ p : Pl, ∀ u, Calls Try.prog 15 #[plV b f m] u fun e w' => ∃ o, e = .returned (.tuple #[.pointer (pv o), .int .i64 (plE b f m)]) ∧ Nw w' u.heap.size o p b f m ∧ Below u.heap.size u w' := by
  by_cases h : plB b f m = true
  · obtain ⟨p, hp, rfl, rfl, rfl⟩ := plE_ok h
    refine ⟨p, fun u => (snew_yes p hp u).mono ?_⟩
    rintro e w' ⟨g, fs, rfl, hs, hb⟩
    have e0 : plE p.B p.F p.M = 0 := by unfold plE; rw [if_pos h]
    rw [e0]
    exact ⟨some g, rfl, .inr ⟨g, fs, rfl, e0, hp, rfl, rfl, rfl, hs⟩, hb⟩
  · have h' : plB b f m = false := by simpa using h
    refine ⟨⟨0, 0, 0⟩, fun u => (snew_no b f m h' u).mono ?_⟩
    rintro e w' ⟨rfl, hb⟩
    have e0 : plE b f m = 90 := by unfold plE; rw [if_neg h]
    rw [e0]
    exact ⟨none, rfl, .inl ⟨rfl, e0⟩, hb⟩
end Go.Proofs.Ytdinhnpobdfnoaa
