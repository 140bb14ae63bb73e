/- The walks of split.New and Splitter.Close. -/
import Derived.Test.YtdinhnpobdfnoaaU12
namespace Go.Proofs.Ytdinhnpobdfnoaa
open Go.RowKit
set_option linter.unusedSimpArgs false
set_option linter.unusedVariables false
theorem snew_no (b f m : Int) (h : plB b f m = false) (w : World) : Calls Try.prog 15 #[plV b f m] w fun e w' => e = .returned (.tuple #[.pointer none, .int .i64 90]) ∧ Below w.heap.size w w' := by
  have HC : Hid (∀ u, Calls Try.prog 13 #[plV b f m] u fun e w' => e = .returned (.int .i64 90) ∧ Below u.heap.size u w') := fun u => by
    have := check_any b f m u
    rwa [plE_no h] at this
  clear h
  go_enter Try.func15, Try.ntmps15
  go_wp2_with fail
  refine (HC.out _).mono ?_
  rintro e w1 ⟨rfl, b1⟩
  have HB : Hid (Below w.heap.size w w1) := ((Below.refl _ _).alloc (Nat.le_refl _) _).trans (b1.mono (by simp))
  clear b1
  go_wp2
  go_ret2
  exact ⟨rfl, HB.out⟩
set_option maxHeartbeats 2000000 in
set_option maxRecDepth 100000 in
theorem snew_yes (p : Pl) (hp : p.ok) (w : World) : Calls Try.prog 15 #[plV p.B p.F p.M] w fun e w' => ∃ g fs, e = .returned (.tuple #[.pointer (some ⟨g, 0, none⟩), .int .i64 0]) ∧ Spo w' w.heap.size g p [] 0 fs ∧ Below w.heap.size w w' := by
  have HC : Hid (∀ u, Calls Try.prog 13 #[plV p.B p.F p.M] u fun e w' => e = .returned (.int .i64 0) ∧ Below u.heap.size u w') := fun u => by
    have := check_any p.B p.F p.M u
    rwa [plE_of hp] at this
  clear hp
  go_enter Try.func15, Try.ntmps15
  go_wp2_with fail
  refine (HC.out _).mono ?_
  rintro e w1 ⟨rfl, b1⟩
  have hbk := bk_new w #[.int .i64 (p.B : Int), .int .i64 (p.F : Int), .int .i64 (p.M : Int)] 31
  have hb1 := hbk.below b1 hbk.lt
  have c0 : w1.cell? ⟨w.heap.size, 0, none⟩ = some (.int .i64 (p.B : Int)) := by rw [hb1.cell]; rfl
  have c1 : w1.cell? ⟨w.heap.size, 1, none⟩ = some (.int .i64 (p.F : Int)) := by rw [hb1.cell]; rfl
  have c2 : w1.cell? ⟨w.heap.size, 2, none⟩ = some (.int .i64 (p.M : Int)) := by rw [hb1.cell]; rfl
  have HB : Hid (Below w.heap.size w w1) := ((Below.refl _ _).alloc (Nat.le_refl _) _).trans (b1.mono (by simp))
  clear b1 hbk hb1 HC
  go_wp2_with fail
  refine (begun_any p _).mono ?_
  rintro e w2 ⟨r, rfl, hr, hR, b2⟩
  have HF : Hid (Spo (w2.alloc (.cells #[.bool true, .int .i64 (p.B : Int), .int .i64 (p.F : Int), .int .i64 (p.M : Int), .pointer (some ⟨r, 0, none⟩), .int .i64 0, .slice none 0 0, .int .i64 0] 91)) w.heap.size w2.heap.size p [] 0 [w2.heap.size, r] ∧ Below w.heap.size w (w2.alloc (.cells #[.bool true, .int .i64 (p.B : Int), .int .i64 (p.F : Int), .int .i64 (p.M : Int), .pointer (some ⟨r, 0, none⟩), .int .i64 0, .slice none 0 0, .int .i64 0] 91))) := by
    have hB2 : Below w.heap.size w w2 := HB.out.trans (b2.mono HB.out.size)
    have hz := HB.out.size
    have hlt := hR.lt
    refine ⟨⟨⟨r, .slice none 0 0, bk_new _ _ _, hR.alloc _, ⟨rfl, .inl ⟨rfl, rfl⟩⟩, by simp, fun b hb => by cases hb⟩, by simp, opn_nil _, fun b hb => ?_⟩, hB2.alloc hB2.size _⟩
    rw [al_size]
    simp at hb
    have := hB2.size
    rcases hb with rfl | rfl <;> omega
  clear HB hR b2 c0 c1 c2
  go_wp2
  go_ret2
  exact ⟨w2.heap.size, [w2.heap.size, r], rfl, HF.out⟩
theorem sclose_nil (w : World) : Calls Try.prog 18 #[.pointer none] w fun e w' => e = .returned (.tuple #[.slice none 0 0, .int .i64 2]) ∧ w' = w := by
  go_enter Try.func18, Try.ntmps18
  go_wp2_with fail
  refine (scheck_nil _).mono ?_
  rintro e w1 ⟨rfl, rfl⟩
  go_wp2
  go_ret2
  exact ⟨rfl, rfl⟩
theorem sclose_done (g : Nat) (w : World) (c0 : w.cell? ⟨g, 0, none⟩ = some (.bool false)) : Calls Try.prog 18 #[.pointer (some ⟨g, 0, none⟩)] w fun e w' => e = .returned (.tuple #[.slice none 0 0, .int .i64 5]) ∧ w' = w := by
  go_enter Try.func18, Try.ntmps18
  go_wp2_with fail
  refine (scheck_done g _ c0).mono ?_
  rintro e w1 ⟨rfl, rfl⟩
  go_wp2
  go_ret2
  exact ⟨rfl, rfl⟩
/-- A splitter written over by noughts. -/
abbrev zer (w : World) (g : Nat) : World := (((((((w.setCell ⟨g, 0, none⟩ (.bool false)).setCell ⟨g, 1, none⟩ (.int .i64 0)).setCell ⟨g, 2, none⟩ (.int .i64 0)).setCell ⟨g, 3, none⟩ (.int .i64 0)).setCell ⟨g, 4, none⟩ (.pointer none)).setCell ⟨g, 5, none⟩ (.int .i64 0)).setCell ⟨g, 6, none⟩ (.slice none 0 0)).setCell ⟨g, 7, none⟩ (.int .i64 0)
theorem Bk.zer {w : World} {g : Nat} {C : Array Value} {T : TypeId} (h : Bk w g C T) (h8 : C.size = 8) : w.grownBy (zer w g) (some g) ∧ (Proofs.Ytdinhnpobdfnoaa.zer w g).heap.size = w.heap.size ∧ (Proofs.Ytdinhnpobdfnoaa.zer w g).cell? ⟨g, 0, none⟩ = some (.bool false) := by
  refine ⟨Lib.grownBy_setB (Lib.grownBy_setB (Lib.grownBy_setB (Lib.grownBy_setB (Lib.grownBy_setB (Lib.grownBy_setB (Lib.grownBy_setB (Lib.grownBy_setB (World.grownBy.refl _ _) 0 _) 1 _) 2 _) 3 _) 4 _) 5 _) 6 _) 7 _, by simp [World.setCell], ?_⟩
  have hb := (((((((h.set 0 (.bool false)).set 1 (.int .i64 0)).set 2 (.int .i64 0)).set 3 (.int .i64 0)).set 4 (.pointer none)).set 5 (.int .i64 0)).set 6 (.slice none 0 0)).set 7 (.int .i64 0)
  rw [hb.cell]
  simp [Array.getElem?_setIfInBounds, h8]
theorem _root_.Go.World.grownBy.cell_of {w w' : World} (h : w.grownBy w' none) {g j : Nat} (hg : g < w.heap.size) : w'.cell? ⟨g, j, none⟩ = w.cell? ⟨g, j, none⟩ := World.cell?_of_block (a := ⟨g, j, none⟩) (h.block g hg (by simp))
/-- The last piece. -/
def lastP (h : List UInt8) : List (List UInt8 × Nat) := if h = [] then [] else [(h, 0)]
set_option maxHeartbeats 2000000 in
set_option maxRecDepth 100000 in
theorem sclose_yes (B g : Nat) (p : Pl) (h : List UInt8) (tk : Nat) (fs : List Nat) (w : World) (hsp : Spo w B g p h tk fs) (hh : h.length ≤ 65536) :
    Calls Try.prog 18 #[.pointer (some ⟨g, 0, none⟩)] w fun e w' => ∃ v, e = .returned (.tuple #[v, .int .i64 0]) ∧ (w'.ownsRow w.heap.size 58 2 v (lastP h).length (pcv (lastP h)) ∧ v ≠ .slice none 0 0) ∧ w'.cell? ⟨g, 0, none⟩ = some (.bool false) ∧ w.grownBy w' (some g) := by
  obtain ⟨r, vh, hb, hro, hov, hrf, hvf⟩ := hsp.mem
  have c0 : w.cell? ⟨g, 0, none⟩ = some (.bool true) := by rw [hb.cell]; rfl
  have hbn := hb.alloc (.cells #[] 58)
  have HM : Hid (Bk w g #[.bool true, .int .i64 (p.B : Int), .int .i64 (p.F : Int), .int .i64 (p.M : Int), .pointer (some ⟨r, 0, none⟩), .int .i64 (h.length : Int), vh, .int .i64 (tk : Int)] 91 ∧ w.ownsRow B 5 1 vh h.length (byv h)) := ⟨hb, hov⟩
  obtain ⟨n, hn⟩ : ∃ n, h.length = n := ⟨_, rfl⟩
  obtain ⟨a, c, hvh⟩ : ∃ a c, vh = .slice a n c := by
    rcases hov.2 with ⟨h1, h0⟩ | ⟨g', cap, cur, h1, _⟩
    · exact ⟨none, 0, by rw [h1, ← hn, h0]⟩
    · exact ⟨_, _, by rw [h1, hn]⟩
  have c6 : w.cell? ⟨g, 6, none⟩ = some (.slice a n c) := by rw [hb.cell, ← hvh]; rfl
  have hlt := hb.lt
  have c1 : w.cell? ⟨g, 1, none⟩ = some (.int .i64 (p.B : Int)) := by rw [hb.cell]; rfl
  have c2 : w.cell? ⟨g, 2, none⟩ = some (.int .i64 (p.F : Int)) := by rw [hb.cell]; rfl
  have c3 : w.cell? ⟨g, 3, none⟩ = some (.int .i64 (p.M : Int)) := by rw [hb.cell]; rfl
  have c4 : w.cell? ⟨g, 4, none⟩ = some (.pointer (some ⟨r, 0, none⟩)) := by rw [hb.cell]; rfl
  have c5 : w.cell? ⟨g, 5, none⟩ = some (.int .i64 (h.length : Int)) := by rw [hb.cell]; rfl
  have c7 : w.cell? ⟨g, 7, none⟩ = some (.int .i64 (tk : Int)) := by rw [hb.cell]; rfl
  have ff := fun j => hb.frozen j
  clear hsp hb hro hov hrf hvf hbn
  by_cases h0 : n = 0
  · have hh0 : h = [] := List.eq_nil_of_length_eq_zero (by omega)
    have hnz : ¬ (n : Int) > 0 := by omega
    go_enter Try.func18, Try.ntmps18
    go_wp2_with fail
    refine (scheck_yes g _ c0).mono ?_
    rintro e w1 ⟨rfl, hw⟩
    obtain rfl : w = w1 := hw.symm
    clear hw
    go_wp2
    go_ret2
    obtain ⟨z1, z2, z3⟩ := HM.out.1.zer rfl
    refine ⟨_, rfl, ⟨?_, by simp⟩, ?_, z1.trans (World.grownBy_alloc _ _ _)⟩
    · rw [show lastP h = [] from by unfold lastP; rw [if_pos hh0]]
      refine ⟨rfl, .inr ⟨w.heap.size, 0, #[], rfl, Nat.le_refl _, ?_, Nat.zero_le _, Nat.zero_le _, rfl, rfl⟩⟩
      have := bk_new (zer w g) #[] 58
      rw [z2] at this
      exact this
    · rw [← z3]
      exact (World.grownBy_alloc (zer w g) (.cells #[] 58) none).cell_of (by rw [z2]; exact hlt)
  · have hnz : (n : Int) > 0 := by omega
    have hne : h ≠ [] := fun e => by rw [e] at hn; simp at hn; omega
    obtain ⟨i0, hi, hz0, hz1, hz2⟩ := info_parts inf_pc
    go_enter Try.func18, Try.ntmps18
    go_wp2_with fail
    refine (scheck_yes g _ c0).mono ?_
    rintro e w1 ⟨rfl, hw⟩
    obtain rfl : w = w1 := hw.symm
    clear hw
    go_wp2_with fail
    refine (release_any B g 0 _ vh h _ (HM.out.1.alloc _) rfl rfl (HM.out.2.alloc _)).mono ?_
    rintro e w2 ⟨vh', rfl, b2, o2, e2, g2⟩
    have hz2' : w.heap.size + 1 ≤ w2.heap.size := by have := g2.size; rw [al_size] at this; exact this
    have hg2 : w.grownBy w2 (some g) := (World.grownBy_alloc w (.cells #[] 58) (some g)).trans g2
    have HO : Hid (w2.ownsRow w.heap.size 58 2 (.slice (some ⟨w.heap.size, 0, none⟩) 0 0) 0 []) := by
      refine ⟨rfl, .inr ⟨w.heap.size, 0, #[], rfl, Nat.le_refl _, ?_, Nat.zero_le _, Nat.zero_le _, rfl, rfl⟩⟩
      exact (bk_new w #[] 58).grown g2 (by simp; omega)
    have HB2 : Hid (Bk w2 g _ 91 ∧ w.grownBy w2 (some g)) := ⟨b2, hg2⟩
    clear b2 o2 e2 g2 hg2 c0 c1 c2 c3 c4 c5 c6 c7 ff
    go_wp2_with (at_builtin; refine wpList_append_own _ rfl _ _ 48 rfl w.heap.size 58 i0 (.agg #[.string ⟨#[]⟩, .int .i64 0]) 2 24 Try.underlying48 hi hz0 hz1 hz2 rfl (by decide) _ _ _ rfl (HO.out.alloc _) ⟨w2.heap.size, 0, none⟩ 1 1 [.string ⟨h.toArray⟩, .int .i64 0] rfl rfl (news_two _ _ _ _) (one_pc _ _) (by unfold maxLen; omega) (by omega) (by simp; omega) ?_)
    intro v' w7 hown1 hgrow hnil
    have b7 := (HB2.out.1.alloc (Obj.cells #[.string ⟨h.toArray⟩, .int .i64 0] 58)).grown hgrow (by simp [Value.ownBlock]; omega)
    have c0 := b7.cell 0
    have c1 := b7.cell 1
    have c2 := b7.cell 2
    have c3 := b7.cell 3
    have c4 := b7.cell 4
    have c5 := b7.cell 5
    have c6 := b7.cell 6
    have c7 := b7.cell 7
    simp at c0 c1 c2 c3 c4 c5 c6 c7
    have ff := fun j => b7.frozen j
    have HF : Hid (((zer w7 g).ownsRow w.heap.size 58 2 v' (lastP h).length (pcv (lastP h)) ∧ v' ≠ .slice none 0 0) ∧ (zer w7 g).cell? ⟨g, 0, none⟩ = some (.bool false) ∧ w.grownBy (zer w7 g) (some g)) := by
      obtain ⟨z1, z2, z3⟩ := b7.zer (by simp)
      rw [show lastP h = [(h, 0)] from by unfold lastP; rw [if_neg hne]]
      refine ⟨⟨own_kp hown1 (ts := [91]) (by decide) (kp_grown b7 (by decide) z1), hnil⟩, z3, ?_⟩
      have ga := HB2.out.2.trans (World.grownBy_alloc w2 (Obj.cells #[.string ⟨h.toArray⟩, .int .i64 0] 58) (some g))
      have g7 : w.grownBy w7 (some g) := ⟨hgrow.os.trans ga.os, hgrow.tape.trans ga.tape, hgrow.output.trans ga.output, Nat.le_trans ga.size hgrow.size, fun i hi hne => (hgrow.block i (Nat.lt_of_lt_of_le hi ga.size) (fun e => by simp [Value.ownBlock] at e; omega)).trans (ga.block i hi hne)⟩
      exact g7.trans z1
    clear b7 hown1 hgrow hnil HO HB2
    go_wp2
    go_ret2
    exact ⟨v', rfl, HF.out⟩
end Go.Proofs.Ytdinhnpobdfnoaa
