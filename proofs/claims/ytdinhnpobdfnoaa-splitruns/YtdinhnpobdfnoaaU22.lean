/- A splitter and the document's beside it, open or done; what a step of the other leaves. -/
import Derived.Test.YtdinhnpobdfnoaaU21
namespace Go.Proofs.Ytdinhnpobdfnoaa
open Go.RowKit
set_option linter.unusedSimpArgs false
set_option linter.unusedVariables false
/-- The types of the blocks that a splitter is made of. -/
abbrev spT : List TypeId := [91, 113, 5]
theorem Spo.trim {w : World} {B g : Nat} {p : Pl} {h : List UInt8} {tk : Nat} {fs : List Nat} (hs : Spo w B g p h tk fs) : ∃ fs', Spo w B g p h tk fs' ∧ (∀ b ∈ fs', b ∈ fs) ∧ ∀ b ∈ fs', ∃ C T, Bk w b C T ∧ T ∈ spT := by
  obtain ⟨r, vh, h1, h2, h3, h4, h5⟩ := hs.mem
  have hsub : ∀ b ∈ g :: r :: vh.ownBlock.toList, b ∈ fs := by
    intro b hb
    simp only [List.mem_cons, Option.mem_toList] at hb
    rcases hb with rfl | rfl | hb
    · exact hs.gin
    · exact h4
    · exact h5 b hb
  refine ⟨g :: r :: vh.ownBlock.toList, ⟨⟨r, vh, h1, h2, h3, by simp, fun b hb => by simp [hb]⟩, by simp, hs.opn, fun b hb => hs.foot b (hsub b hb)⟩, hsub, ?_⟩
  intro b hb
  simp only [List.mem_cons, Option.mem_toList] at hb
  rcases hb with rfl | rfl | hb
  · exact ⟨_, _, h1, by simp⟩
  · exact ⟨_, _, h2, by simp⟩
  · rcases h3.2 with ⟨q, _⟩ | ⟨g', cap, cur, q1, q2, q3, q4⟩
    · rw [q] at hb; cases hb
    · rw [q1] at hb
      cases hb
      exact ⟨cur, _, q3, by simp⟩
/-- A splitter and the document's: open with so many bytes handed and these held, or done. -/
structure One (w : World) (B g gr : Nat) (p : Pl) (st : Option (List UInt8 × Nat)) (fs : List Nat) : Prop where
  opn : ∀ h tk, st = some (h, tk) → Spo w B g p h tk fs ∧ ∃ R, tby R = h ∧ Bk w gr (rsv p R tk false) 45
  dne : st = none → w.cell? ⟨g, 0, none⟩ = some (.bool false) ∧ ∃ R tk, Bk w gr (rsv p R tk true) 45
  gin : g ∈ fs
  lt : ∀ b ∈ fs, b < w.heap.size
  rni : gr ∉ fs
  foot : ∀ b ∈ fs, B ≤ b
  rfo : B ≤ gr
/-- What is kept outside a row of blocks that are not its own. -/
theorem One.kept {w w' : World} {B g gr : Nat} {p : Pl} {st : Option (List UInt8 × Nat)} {fs fs2 : List Nat} (h : One w B g gr p st fs) (hk : Kb w w' fs2) (hd : ∀ b ∈ fs, b ∉ fs2) (hr : gr ∉ fs2) : One w' B g gr p st fs := by
  refine ⟨fun x tk e => ?_, fun e => ?_, h.gin, fun b hb => Nat.lt_of_lt_of_le (h.lt b hb) hk.size, h.rni, h.foot, h.rfo⟩
  · obtain ⟨h1, R, h2, h3⟩ := h.opn x tk e
    exact ⟨h1.kept hk hd, R, h2, hk.bk h3 hr⟩
  · obtain ⟨h1, R, tk, h3⟩ := h.dne e
    refine ⟨?_, R, tk, hk.bk h3 hr⟩
    rw [World.cell?_of_block (a := ⟨g, 0, none⟩) (hk.block g (h.lt g h.gin) (hd g h.gin))]; exact h1
theorem kb_grown {w w' : World} {r : Option Nat} (hg : w.grownBy w' r) : Kb w w' r.toList := ⟨hg.os, hg.tape, hg.output, hg.size, fun b hb hn => hg.block b hb (fun e => hn (by rw [← e]; simp))⟩
theorem Kb.trans2 {w w1 w2 : World} {fs fs2 : List Nat} (h : Kb w w1 fs) (h2 : Kb w1 w2 fs2) (hs : ∀ b ∈ fs2, b ∈ fs ∨ w.heap.size ≤ b) : Kb w w2 fs :=
  ⟨by rw [h2.os, h.os], by rw [h2.tape, h.tape], by rw [h2.output, h.output], Nat.le_trans h.size h2.size, fun b hb hn => by
    rw [h2.block b (Nat.lt_of_lt_of_le hb h.size) (fun hm => ?_), h.block b hb hn]
    rcases hs b hm with q | q
    · exact hn q
    · omega⟩
end Go.Proofs.Ytdinhnpobdfnoaa
