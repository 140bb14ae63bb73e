/- The walk of split.Cut. -/
import Derived.Test.YtdinhnpobdfnoaaU4
namespace Go.Proofs.Ytdinhnpobdfnoaa
open Go.RowKit
set_option linter.unusedSimpArgs false
set_option linter.unusedVariables false
theorem plE_ok {b f m : Int} (h : plB b f m = true) : ∃ p : Pl, p.ok ∧ b = (p.B : Int) ∧ f = (p.F : Int) ∧ m = (p.M : Int) := by
  unfold plB wtn at h
  simp only [Bool.and_eq_true, decide_eq_true_eq] at h
  refine ⟨⟨b.toNat, f.toNat, m.toNat⟩, ⟨?_, ?_, ?_, ?_, ?_, ?_⟩, ?_, ?_, ?_⟩ <;> simp only <;> omega
theorem plB_of {p : Pl} (h : p.ok) : plB p.B p.F p.M = true := by
  obtain ⟨h1, h2, h3, h4, h5, h6⟩ := h
  unfold plB wtn
  simp only [Bool.and_eq_true, decide_eq_true_eq]
  omega
theorem plE_of {p : Pl} (h : p.ok) : plE p.B p.F p.M = 0 := by unfold plE; rw [plB_of h]; rfl
theorem plE_no {b f m : Int} (h : plB b f m = false) : plE b f m = 90 := by unfold plE; rw [h]; rfl
/-- A plan that may not be. -/
theorem cut_no (b f m : Int) (h : plB b f m = false) (s : ByteArray) (w : World) :
    Calls Try.prog 10 #[plV b f m, .string s] w fun e w' => e = .returned (.tuple #[.slice none 0 0, .int .i64 90]) ∧ Below w.heap.size w w' := by
  have HC : Hid (∀ u, Calls Try.prog 13 #[plV b f m] u fun e w' => e = .returned (.int .i64 90) ∧ Below u.heap.size u w') := fun u => by
    have := check_any b f m u
    rwa [plE_no h] at this
  clear h
  go_enter Try.func10, Try.ntmps10
  go_wp2_with fail
  refine (HC.out _).mono ?_
  rintro e w1 ⟨rfl, b1⟩
  have HB : Hid (Below w.heap.size w w1) := ((Below.refl _ _).alloc (Nat.le_refl _) _).trans (b1.mono (by simp))
  clear b1
  go_wp2
  go_ret2
  exact ⟨rfl, HB.out⟩
theorem cut_long (p : Pl) (hp : p.ok) (s : ByteArray) (hs : 1048576 < s.size) (hs2 : s.size ≤ maxLen) (w : World) :
    Calls Try.prog 10 #[plV p.B p.F p.M, .string s] w fun e w' => e = .returned (.tuple #[.slice none 0 0, .int .i64 1]) ∧ Below w.heap.size w w' := by
  have HC : Hid (∀ u, Calls Try.prog 13 #[plV p.B p.F p.M] u fun e w' => e = .returned (.int .i64 0) ∧ Below u.heap.size u w') := fun u => by
    have := check_any p.B p.F p.M u
    rwa [plE_of hp] at this
  unfold maxLen at hs2
  have hsz : (s.size : Int) > 1048576 := by omega
  clear hp
  go_enter Try.func10, Try.ntmps10
  go_wp2_with fail
  refine (HC.out _).mono ?_
  rintro e w1 ⟨rfl, b1⟩
  have HB : Hid (Below w.heap.size w w1) := ((Below.refl _ _).alloc (Nat.le_refl _) _).trans (b1.mono (by simp))
  clear b1
  go_wp2
  go_ret2
  exact ⟨rfl, HB.out⟩
set_option maxHeartbeats 2000000 in
set_option maxRecDepth 100000 in
theorem cut_yes (p : Pl) (hp : p.ok) (s : ByteArray) (hs : s.size ≤ 1048576) (w : World) :
    Calls Try.prog 10 #[plV p.B p.F p.M, .string s] w fun e w' => ∃ v, e = .returned (.tuple #[v, .int .i64 0]) ∧ w'.ownsRow w.heap.size 37 2 v (chk (ctA p) (tby s)).length (ckv (chk (ctA p) (tby s))) ∧ Below w.heap.size w w' := by
  have HC : Hid (∀ u, Calls Try.prog 13 #[plV p.B p.F p.M] u fun e w' => e = .returned (.int .i64 0) ∧ Below u.heap.size u w') := fun u => by
    have := check_any p.B p.F p.M u
    rwa [plE_of hp] at this
  have HP : Hid p.ok := hp
  have hsz : ¬ (s.size : Int) > 1048576 := by omega
  clear hp
  go_enter Try.func10, Try.ntmps10
  go_wp2_with fail
  refine (HC.out _).mono ?_
  rintro e w1 ⟨rfl, b1⟩
  have hbk := bk_new w #[.int .i64 (p.B : Int), .int .i64 (p.F : Int), .int .i64 (p.M : Int)] 31
  have hb1 := hbk.below b1 hbk.lt
  obtain ⟨W1, hW1⟩ : ∃ W, W = ((w1.alloc (Obj.cells #[] 37)).alloc (Obj.cells #[Value.slice (some ⟨w1.heap.size, 0, none⟩) 0 0] 28)).alloc (Obj.cells #[Value.int IntKind.i64 0] 3) := ⟨_, rfl⟩
  have hb2 : Bk W1 w.heap.size #[.int .i64 (p.B : Int), .int .i64 (p.F : Int), .int .i64 (p.M : Int)] 31 := by rw [hW1]; exact ((hb1.alloc _).alloc _).alloc _
  have c0 : (((w1.alloc (Obj.cells #[] 37)).alloc (Obj.cells #[Value.slice (some ⟨w1.heap.size, 0, none⟩) 0 0] 28)).alloc (Obj.cells #[Value.int IntKind.i64 0] 3)).cell? ⟨w.heap.size, 0, none⟩ = some (.int .i64 (p.B : Int)) := by rw [← hW1, hb2.cell]; rfl
  have c1 : (((w1.alloc (Obj.cells #[] 37)).alloc (Obj.cells #[Value.slice (some ⟨w1.heap.size, 0, none⟩) 0 0] 28)).alloc (Obj.cells #[Value.int IntKind.i64 0] 3)).cell? ⟨w.heap.size, 1, none⟩ = some (.int .i64 (p.F : Int)) := by rw [← hW1, hb2.cell]; rfl
  have c2 : (((w1.alloc (Obj.cells #[] 37)).alloc (Obj.cells #[Value.slice (some ⟨w1.heap.size, 0, none⟩) 0 0] 28)).alloc (Obj.cells #[Value.int IntKind.i64 0] 3)).cell? ⟨w.heap.size, 2, none⟩ = some (.int .i64 (p.M : Int)) := by rw [← hW1, hb2.cell]; rfl
  have hB1 : Below w.heap.size w w1 := ((Below.refl _ _).alloc (Nat.le_refl _) _).trans (b1.mono (by simp))
  have hz := hb1.lt
  have HS : Hid (CS w (w1.heap.size + 1) (w1.heap.size + 1 + 1) [] 0 W1) := by
    rw [hW1]
    refine ⟨⟨.slice (some ⟨w1.heap.size, 0, none⟩) 0 0, ?_, ?_⟩, ?_, ?_, by omega, by omega⟩
    · have h := (bk_new (w1.alloc (Obj.cells #[] 37)) #[Value.slice (some ⟨w1.heap.size, 0, none⟩) 0 0] 28).alloc (Obj.cells #[Value.int IntKind.i64 0] 3)
      rwa [al_size] at h
    · refine ⟨rfl, .inr ⟨w1.heap.size, 0, #[], rfl, by omega, ?_, Nat.zero_le _, Nat.zero_le _, rfl, rfl⟩⟩
      exact ((bk_new w1 #[] 37).alloc _).alloc _
    · have h := bk_new ((w1.alloc (Obj.cells #[] 37)).alloc (Obj.cells #[Value.slice (some ⟨w1.heap.size, 0, none⟩) 0 0] 28)) #[Value.int IntKind.i64 0] 3
      rwa [al_size, al_size] at h
    · exact ((hB1.alloc hB1.size _).alloc (by rw [al_size]; omega) _).alloc (by rw [al_size, al_size]; omega) _
  have HZ : Hid (W1.heap.size = w1.heap.size + 1 + 1 + 1) := by show _ = _; rw [hW1, al_size, al_size, al_size]
  obtain ⟨gc, hgc⟩ : ∃ g, g = w1.heap.size + 1 := ⟨_, rfl⟩
  obtain ⟨gf, hgf⟩ : ∃ g, g = w1.heap.size + 1 + 1 := ⟨_, rfl⟩
  rw [← hgf, ← hgc] at HS
  clear b1 hbk hb1 HC hb2 hB1
  go_wp2_with fail
  rw [← hW1, ← hgf, ← hgc]
  refine (begun_any p _).mono ?_
  rintro e w2 ⟨r, rfl, hr, hR, b2⟩
  clear c0 c1 c2 hW1 hgc hgf
  have HS2 : Hid (CS w gc gf [] 0 w2) := HS.out.keep (kp_below _ b2) (HS.out.bel.trans (b2.mono HS.out.bel.size))
  have hz2 := HS.out.bel.size
  have HR2 : Hid (Rll w2 r [] ∧ w.heap.size ≤ r) := ⟨hR, by omega⟩
  clear hR hr b2 HS
  go_wp2_with fail
  have hbn := bk_new w2 #[.int .i64 (p.B : Int), .int .i64 (p.F : Int), .int .i64 (p.M : Int), .pointer (some ⟨r, 0, none⟩), .int .i64 0] 86
  have hC0 : Cu (w2.alloc (Obj.cells #[.int .i64 (p.B : Int), .int .i64 (p.F : Int), .int .i64 (p.M : Int), .pointer (some ⟨r, 0, none⟩), .int .i64 0] 86)) w2.heap.size 0 p [] r := ⟨by rw [hbn.cell]; rfl, by rw [hbn.cell]; rfl, by rw [hbn.cell]; rfl, by rw [hbn.cell]; rfl, by rw [hbn.cell]; rfl, HR2.out.1.alloc _⟩
  have hE0 : CE p (tby s) w gc gf w2.heap.size 0 (w2.alloc (Obj.cells #[.int .i64 (p.B : Int), .int .i64 (p.F : Int), .int .i64 (p.M : Int), .pointer (some ⟨r, 0, none⟩), .int .i64 0] 86)) :=
    ⟨HS2.out.keep (kp_alloc _ _ _) (HS2.out.bel.alloc HS2.out.bel.size _), ⟨_, hbn, rfl⟩, HS2.out.bel.size, Nat.zero_le _⟩
  refine (take_any (fun r => w.heap.size ≤ r) p HP.out s [] (opn_nil _) w2.heap.size 0 r 28 _ (CE p (tby s) w gc gf w2.heap.size) _ hs (ce_tk p (tby s) (by rw [tby_len]; exact hs) w gc gf w2.heap.size) hE0 HR2.out.2 hC0).mono ?_
  rintro e w3 ⟨rfl, hE, r3, hr3, hC3⟩
  clear hbn hC0 hE0 HR2 HS2 hC3
  have hcs := hE.cs
  rw [tby_all s s.size (Nat.le_refl _)] at hcs
  have hlf := lft_le (ctA p) (tby s) []
  rw [tby_len, List.length_nil] at hlf
  have hpl := pcs_le (ctA p) (tby s) []
  rw [tby_len] at hpl
  obtain ⟨L, hL⟩ : ∃ L, lft (ctA p) [] (tby s) = L := ⟨_, rfl⟩
  obtain ⟨fr, hfr⟩ : ∃ f, s.size - L.length = f := ⟨_, rfl⟩
  rw [hL] at hlf
  rw [hL, hfr] at hcs
  have c2 : w3.cell? ⟨gf, 0, none⟩ = some (.int .i64 (fr : Int)) := by rw [hcs.ff.cell]; rfl
  have HS : Hid (CS w gc gf (szs (pcs (ctA p) [] (tby s))) fr w3) := hcs
  have hpn : (szs (pcs (ctA p) [] (tby s))).length ≤ 1048576 := by unfold szs; rw [List.length_map]; omega
  have hchk : chk (ctA p) (tby s) = szs (pcs (ctA p) [] (tby s)) ++ if L = [] then [] else [(L.length, 0)] := by unfold chk szs; rw [hL]
  by_cases hne : L = []
  · rw [if_pos hne, List.append_nil] at hchk
    have hfs : ¬ (fr : Int) < s.size := by rw [hne] at hfr; simp at hfr; omega
    obtain ⟨v, q1, q2⟩ := hcs.vv
    have c1 : w3.cell? ⟨gc, 0, none⟩ = some v := by rw [q1.cell]; rfl
    have HV : Hid (w3.ownsRow w.heap.size 37 2 v (chk (ctA p) (tby s)).length (ckv (chk (ctA p) (tby s)))) := by rw [hchk]; exact q2
    clear hchk hcs hE hL hfr hlf hpl q1 q2
    go_wp2
    go_ret2
    exact ⟨v, rfl, HV.out, HS.out.bel⟩
  · rw [if_neg hne] at hchk
    have hl0 : 0 < L.length := List.length_pos_iff.2 hne
    have hfs : (fr : Int) < s.size := by omega
    have hd : s.size - fr = L.length := by omega
    have HK : Hid (chk (ctA p) (tby s) = szs (pcs (ctA p) [] (tby s)) ++ [(s.size - fr, 0)]) := by rw [hchk, hd]; rfl
    have hfe : fr ≤ s.size := by omega
    clear hchk hcs hE hL hfr hlf hpl hd hl0
    go_wp2_with fail
    refine (handC_any w gc gf s.size 0 fr _ _ HS.out hfe hs (by omega) hpn).mono ?_
    rintro e w4 ⟨rfl, hcs, _⟩
    rw [← HK.out] at hcs
    obtain ⟨v, q1, q2⟩ := hcs.vv
    have c1 : w4.cell? ⟨gc, 0, none⟩ = some v := by rw [q1.cell]; rfl
    have HV : Hid (w4.ownsRow w.heap.size 37 2 v (chk (ctA p) (tby s)).length (ckv (chk (ctA p) (tby s)))) := q2
    have HB : Hid (Below w.heap.size w w4) := hcs.bel
    clear q1 q2 hcs HK HS c2
    go_wp2
    go_ret2
    exact ⟨v, rfl, HV.out, HB.out⟩
end Go.Proofs.Ytdinhnpobdfnoaa
