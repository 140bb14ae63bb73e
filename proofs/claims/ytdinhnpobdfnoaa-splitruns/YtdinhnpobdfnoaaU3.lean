/- The walk of package split's cutter.take. -/
import Derived.Test.YtdinhnpobdfnoaaU2
namespace Go.Proofs.Ytdinhnpobdfnoaa
open Go.RowKit
set_option linter.unusedSimpArgs false
set_option linter.unusedVariables false
theorem bk_apart_ty {w : World} {a : Nat} {C D : Array Value} {T U : TypeId} (h1 : Bk w a C T) (h2 : Bk w a D U) : T = U := by
  unfold Bk at h1 h2
  rw [h1] at h2
  cases h2
  rfl
theorem cu_fresh {w : World} {g o r : Nat} {p : Pl} {C : Array Value} {T : TypeId} (hb : Bk w g C T) (hC : o + 5 ≤ C.size) (hr : Rll w r []) (hne : g ≠ r) :
    Cu (((((w.setCell ⟨g, o, none⟩ (.int .i64 (p.B : Int))).setCell ⟨g, o + 1, none⟩ (.int .i64 (p.F : Int))).setCell ⟨g, o + 2, none⟩ (.int .i64 (p.M : Int))).setCell ⟨g, o + 3, none⟩ (.pointer (some ⟨r, 0, none⟩))).setCell ⟨g, o + 4, none⟩ (.int .i64 0)) g o p [] r := by
  have hb2 := ((((hb.set o (.int .i64 (p.B : Int))).set (o + 1) (.int .i64 (p.F : Int))).set (o + 2) (.int .i64 (p.M : Int))).set (o + 3) (.pointer (some ⟨r, 0, none⟩))).set (o + 4) (.int .i64 0)
  refine ⟨?_, ?_, ?_, ?_, ?_, ?_⟩
  · rw [hb2.cell]; simp [Array.getElem?_setIfInBounds]; omega
  · rw [hb2.cell]; simp [Array.getElem?_setIfInBounds]; omega
  · rw [hb2.cell]; simp [Array.getElem?_setIfInBounds]; omega
  · rw [hb2.cell]; simp [Array.getElem?_setIfInBounds]; omega
  · rw [hb2.cell]; simp [Array.getElem?_setIfInBounds]; omega
  · exact hr.grown (Lib.grownBy_setB (Lib.grownBy_setB (Lib.grownBy_setB (Lib.grownBy_setB (Lib.grownBy_setB (World.grownBy.refl _ (some g)) o _) (o + 1) _) (o + 2) _) (o + 3) _) (o + 4) _) (by simp; omega)
theorem lf_no {p : Pl} {s h0 l : List UInt8} {i : Nat} {x : UInt8} (hx : s[i]? = some x) (hl : lft (ctA p) h0 (s.take i) = l) (h : ctA p (l ++ [x]) = none) : lft (ctA p) h0 (s.take (i + 1)) = l ++ [x] := by
  rw [List.take_add_one, hx, Option.toList_some, lft_no (by rw [hl]; exact h), hl]
theorem lf_yes {p : Pl} {s h0 l : List UInt8} {i v : Nat} {x : UInt8} (hx : s[i]? = some x) (hl : lft (ctA p) h0 (s.take i) = l) (h : ctA p (l ++ [x]) = some v) : lft (ctA p) h0 (s.take (i + 1)) = [] := by
  rw [List.take_add_one, hx, Option.toList_some, lft_yes (v := v) (by rw [hl]; exact h)]
theorem pc_no {p : Pl} {s h0 l : List UInt8} {i : Nat} {x : UInt8} (hx : s[i]? = some x) (hl : lft (ctA p) h0 (s.take i) = l) (h : ctA p (l ++ [x]) = none) : pcs (ctA p) h0 (s.take (i + 1)) = pcs (ctA p) h0 (s.take i) := by
  rw [List.take_add_one, hx, Option.toList_some, pcs_no (by rw [hl]; exact h)]
theorem pc_yes {p : Pl} {s h0 l : List UInt8} {i v : Nat} {x : UInt8} (hx : s[i]? = some x) (hl : lft (ctA p) h0 (s.take i) = l) (h : ctA p (l ++ [x]) = some v) : pcs (ctA p) h0 (s.take (i + 1)) = pcs (ctA p) h0 (s.take i) ++ [(l ++ [x], v)] := by
  rw [List.take_add_one, hx, Option.toList_some, pcs_yes (v := v) (by rw [hl]; exact h), hl]
set_option maxHeartbeats 2000000 in
set_option maxRecDepth 100000 in
theorem take_any (R : Nat → Prop) (p : Pl) (hp : p.ok) (s : ByteArray) (h0 : List UInt8) (ho : Opn (ctA p) h0) (g o r F : Nat) (cs : Array Value) (E : Nat → World → Prop) (w : World) (hs : s.size ≤ 1048576) (T : Tk R p (tby s) h0 g o F cs E) (hE : E 0 w) (hr : R r) (hC : Cu w g o p h0 r) :
    Calls Try.prog 30 #[.pointer (some ⟨g, o, none⟩), .string s, .func (.func F) #[] cs] w fun e w' => e = .returned (.tuple #[]) ∧ E s.size w' ∧ ∃ r', R r' ∧ Cu w' g o p (lft (ctA p) h0 (tby s)) r' := by
  have HP : Hid p.ok := hp
  have HO : Hid (Opn (ctA p) h0) := ho
  have HT : Hid (Tk R p (tby s) h0 g o F cs E) := T
  have HE : Hid (E 0 w) := hE
  have HC : Hid (Cu w g o p h0 r) := hC
  have HR0 : Hid (R r) := hr
  clear hp ho T hE hC hr
  go_enter Try.func30, Try.ntmps30
  go_wp2
  go_loopw [11] (fun v wr => ∃ (i r' : Nat), i ≤ s.size ∧ v = .int .i64 i ∧ Hid (R r') ∧ Hid (E i wr) ∧ Hid (Cu wr g o p (lft (ctA p) h0 ((tby s).take i)) r')) (fun v _ => s.size - (intOf v).toNat)
  case atStart => exact ⟨0, r, Nat.zero_le _, rfl, HR0.out, HE.out, HC.out⟩
  case round =>
    clear HE HC HR0
    obtain ⟨i, q, hi, rfl, HR0, HE, HC⟩ := hrel
    by_cases hlt : i < s.size
    · have hx : (tby s)[i]? = some s[i] := by rw [List.getElem?_eq_getElem (by rw [tby_len]; exact hlt)]; rfl
      have HX : Hid ((tby s)[i]? = some s[i]) := hx
      obtain ⟨l, hl⟩ : ∃ l, lft (ctA p) h0 ((tby s).take i) = l := ⟨_, rfl⟩
      have HL : Hid (lft (ctA p) h0 ((tby s).take i) = l) := hl
      rw [hl] at HC
      have c3 := HC.out.c3
      clear hx hl
      obtain ⟨x, hxe⟩ : ∃ x, s[i] = x := ⟨_, rfl⟩
      rw [hxe] at HX
      have hxn : s[i].toNat = x.toNat := by rw [hxe]
      obtain ⟨C, U, hb, hU, hC5⟩ := HT.out.there i wr HE.out
      have hgq : q ≠ g := fun e => by subst e; exact hU (bk_apart_ty hb HC.out.roll)
      have HA : Hid (Calls Try.prog 41 #[.pointer (some ⟨q, 0, none⟩), .int .u8 (x.toNat : Int)] wr.drew fun e w' => e = .returned (.tuple #[]) ∧ w'.cell? ⟨g, o + 3, none⟩ = some (.pointer (some ⟨q, 0, none⟩)) ∧ w'.cell? ⟨g, o + 4, none⟩ = some (.int .i64 (l.length : Int)) ∧ w'.frozen? ⟨g, o + 4, none⟩ = false ∧ Hid (Bk w' g C U ∧ E i w' ∧ Rll w' q (l ++ [x]) ∧ ∀ j, w'.cell? ⟨g, j, none⟩ = wr.cell? ⟨g, j, none⟩)) := by
        refine (add_any l x q wr.drew HC.out.roll).mono ?_
        rintro e w1 ⟨rfl, h1, g1⟩
        have hg1 : wr.grownBy w1 (some q) := (gr_drewN wr 1 (some q)).trans g1
        have hb1 : Bk w1 g C U := hb.grown hg1 (by simp; omega)
        have k : ∀ j, w1.cell? ⟨g, j, none⟩ = wr.cell? ⟨g, j, none⟩ := fun j => by rw [hb1.cell, hb.cell]
        exact ⟨rfl, by rw [k]; exact HC.out.c3, by rw [k]; exact HC.out.c4, hb1.frozen _, hb1, HT.out.roll i wr q _ w1 HE.out HR0.out HC.out.roll hg1, h1, k⟩
      obtain ⟨X, hX⟩ : ∃ X, x.toNat = X := ⟨_, rfl⟩
      rw [hX] at HA hxn
      obtain ⟨n, hn⟩ : ∃ n, l.length = n := ⟨_, rfl⟩
      rw [hn] at HA
      have HN : Hid (l.length = n) := hn
      have hn6 : n < 65536 := by
        have h1 := (lft_opn (ctA p) ((tby s).take i) h0 HO.out).lt (p := p) (by have := HP.out.2.2.2.2.1; omega)
        rw [HL.out] at h1
        have h2 := HP.out.2.2.2.2.2
        omega
      have HB : Hid (Bk wr g C U ∧ U ≠ 113 ∧ o + 5 ≤ C.size) := ⟨hb, hU, hC5⟩
      clear hxe hX hn hb hU hC5
      go_wp2
      go_region_held3 (fun w' => w'.cell? ⟨g, o + 3, none⟩ = some (.pointer (some ⟨q, 0, none⟩))) (go_keep) (first | (go_at_call 41; refine HA.out.mono ?_; rintro e w1 ⟨rfl, c3', c4, f4, H1⟩) | fail)
      clear c3 c3' HA
      have hb1 := H1.out.1
      have hb2 : Bk (w1.setCell ⟨g, o + 4, none⟩ (.int .i64 ((n : Int) + 1))) g (C.setIfInBounds (o + 4) (.int .i64 ((n : Int) + 1))) U := hb1.set (o + 4) _
      have HU : Hid (Cu (w1.setCell ⟨g, o + 4, none⟩ (.int .i64 ((n : Int) + 1))) g o p (l ++ [x]) q) := by
        have k := H1.out.2.2.2
        have kk : ∀ j, j < 4 → (w1.setCell ⟨g, o + 4, none⟩ (.int .i64 ((n : Int) + 1))).cell? ⟨g, o + j, none⟩ = wr.cell? ⟨g, o + j, none⟩ := fun j hj => by
          rw [← k, hb2.cell, hb1.cell, Array.getElem?_setIfInBounds, if_neg (by omega)]
        refine ⟨?_, ?_, ?_, ?_, ?_, ?_⟩
        · rw [← HC.out.c0]; exact kk 0 (by omega)
        · rw [← HC.out.c1]; exact kk 1 (by omega)
        · rw [← HC.out.c2]; exact kk 2 (by omega)
        · rw [← HC.out.c3]; exact kk 3 (by omega)
        · rw [hb2.cell, Array.getElem?_setIfInBounds, if_pos rfl, if_pos (by have := HB.out.2.2; omega), List.length_append, HN.out]; rfl
        · exact H1.out.2.2.1.grown (Lib.grownBy_setB (World.grownBy.refl _ _) (o + 4) _) (by simp; omega)
      have HE2 : Hid (E i (w1.setCell ⟨g, o + 4, none⟩ (.int .i64 ((n : Int) + 1)))) := HT.out.cell i w1 4 _ H1.out.2.1 (by omega)
      have HB2 : Hid (Bk (w1.setCell ⟨g, o + 4, none⟩ (.int .i64 ((n : Int) + 1))) g (C.setIfInBounds (o + 4) (.int .i64 ((n : Int) + 1))) U) := hb2
      clear hb1 hb2
      have hll : (l ++ [x]).length ≤ 65536 := by rw [List.length_append, HN.out]; simp; omega
      have HQ : Hid (Calls Try.prog 42 #[.pointer (some ⟨g, o, none⟩)] (w1.setCell ⟨g, o + 4, none⟩ (.int .i64 ((n : Int) + 1))) fun e w' => e = .returned (.tuple #[.int .i64 (cuL p (l ++ [x]) : Int), .bool (ctA p (l ++ [x])).isSome]) ∧ Hid (E i w' ∧ Cu w' g o p (l ++ [x]) q)) := by
        refine (cut_any p HP.out (l ++ [x]) g o q _ HU.out hll).mono ?_
        rintro e w2 ⟨rfl, g2⟩
        have hr := HU.out.roll
        exact ⟨rfl, HT.out.roll i _ q _ w2 HE2.out HR0.out hr ⟨g2.os, g2.tape, g2.output, g2.size, fun j hj _ => g2.block j hj (by simp)⟩, HU.out.grown HB2.out g2 (by simp) rfl (hr.grown g2 (by simp))⟩
      clear hll HU HE2 HB2 H1 HE HC HB
      cases hct : ctA p (l ++ [x]) with
      | none =>
        rw [hct] at HQ
        have HN1 : Hid (∀ u, E i u → E (i + 1) u) := fun u hu => HT.out.next i u x HX.out hu (by rw [HL.out]; exact hct)
        have HL1 : Hid (lft (ctA p) h0 ((tby s).take (i + 1)) = l ++ [x]) := lf_no HX.out HL.out hct
        clear hct
        go_wp2_with fail
        refine HQ.out.mono ?_
        rintro e w2 ⟨rfl, H2⟩
        go_wp2
        go_roundw
        case rel => exact ⟨i + 1, q, by omega, by go_num, HR0.out, HN1.out _ H2.out.1, by show Cu _ _ _ _ _ _; rw [HL1.out]; exact H2.out.2⟩
        case measure => simp [intOf]; omega
      | some v =>
        rw [hct] at HQ
        have HV : Hid (cuL p (l ++ [x]) = v) := by show _ = _; unfold cuL; rw [hct]; rfl
        rw [HV.out] at HQ
        have hv := (ctA_lev hct).2
        have HL1 : Hid (lft (ctA p) h0 ((tby s).take (i + 1)) = []) := lf_yes HX.out HL.out hct
        have HH : Hid (∀ u r, E i u → R r → Cu u g o p (l ++ [x]) r → Calls Try.prog F (#[.int .i64 ((i : Int) + 1), .int .i64 (v : Int)] ++ cs) u fun e w' => e = .returned (.tuple #[]) ∧ E (i + 1) w' ∧ ∃ r', R r' ∧ Cu w' g o p (l ++ [x]) r') := fun u r hu hr hc => by
          have := HT.out.hand i u v x r HX.out hu hr
          rw [HL.out] at this
          exact this hc hct
        clear hct HV
        go_wp2_with fail
        refine HQ.out.mono ?_
        rintro e w2 ⟨rfl, H2⟩
        clear HQ
        go_wp2_with fail
        rw [HT.out.enter, Oper.upon_enter]
        refine Calls.mono (HH.out _ _ H2.out.1 HR0.out H2.out.2) ?_
        rintro e w3 ⟨rfl, hE3, r3, hr3, hC3⟩
        have c0 := hC3.c0
        have c1 := hC3.c1
        have c2 := hC3.c2
        have HE3 : Hid (E (i + 1) w3) := hE3
        have HC3 : Hid (Cu w3 g o p (l ++ [x]) r3) := hC3
        clear hE3 hC3 HH H2
        go_wp2_with fail
        refine (begun_any p _).mono ?_
        rintro e w4 ⟨r4, rfl, hr4, hR4, b4⟩
        obtain ⟨C3, U3, hb3, hU3, hC3⟩ := HT.out.there (i + 1) w3 HE3.out
        have hb4 : Bk w4 g C3 U3 := hb3.below b4 hb3.lt
        have k4 : ∀ j, w4.cell? ⟨g, j, none⟩ = w3.cell? ⟨g, j, none⟩ := fun j => by rw [hb4.cell, hb3.cell]
        have z0 : w4.cell? ⟨g, o, none⟩ = some (.int .i64 (p.B : Int)) := by rw [k4]; exact HC3.out.c0
        have z1 : w4.cell? ⟨g, o + 1, none⟩ = some (.int .i64 (p.F : Int)) := by rw [k4]; exact HC3.out.c1
        have z2 : w4.cell? ⟨g, o + 2, none⟩ = some (.int .i64 (p.M : Int)) := by rw [k4]; exact HC3.out.c2
        have z3 : w4.cell? ⟨g, o + 3, none⟩ = some (.pointer (some ⟨r3, 0, none⟩)) := by rw [k4]; exact HC3.out.c3
        have z4 : w4.cell? ⟨g, o + 4, none⟩ = some (.int .i64 ((l ++ [x]).length : Int)) := by rw [k4]; exact HC3.out.c4
        have zf : ∀ j, w4.frozen? ⟨g, j, none⟩ = false := fun j => hb4.frozen j
        have hE4 : E (i + 1) w4 := HT.out.roll (i + 1) w3 r3 _ w4 HE3.out hr3 HC3.out.roll (gr_of_below b4 _)
        have HF : Hid (E (i + 1) (((((w4.setCell ⟨g, o, none⟩ (.int .i64 (p.B : Int))).setCell ⟨g, o + 1, none⟩ (.int .i64 (p.F : Int))).setCell ⟨g, o + 2, none⟩ (.int .i64 (p.M : Int))).setCell ⟨g, o + 3, none⟩ (.pointer (some ⟨r4, 0, none⟩))).setCell ⟨g, o + 4, none⟩ (.int .i64 0)) ∧
            Cu (((((w4.setCell ⟨g, o, none⟩ (.int .i64 (p.B : Int))).setCell ⟨g, o + 1, none⟩ (.int .i64 (p.F : Int))).setCell ⟨g, o + 2, none⟩ (.int .i64 (p.M : Int))).setCell ⟨g, o + 3, none⟩ (.pointer (some ⟨r4, 0, none⟩))).setCell ⟨g, o + 4, none⟩ (.int .i64 0)) g o p [] r4) := by
          have T := HT.out
          refine ⟨T.cell _ _ 4 _ (T.cell _ _ 3 _ (T.cell _ _ 2 _ (T.cell _ _ 1 _ (T.cell _ _ 0 _ hE4 (by omega)) (by omega)) (by omega)) (by omega)) (by omega), ?_⟩
          exact cu_fresh hb4 hC3 hR4 (by have := hb3.lt; omega)
        have HR4 : Hid (R r4) := HT.out.size _ _ HE3.out _ hr4
        clear k4 hE4 hb4 hb3 hU3 HE3 HC3 hR4 b4 hr4 c0 c1 c2
        go_wp2
        go_roundw
        case rel => exact ⟨i + 1, r4, by omega, by go_num, HR4.out, HF.out.1, by show Cu _ _ _ _ _ _; rw [HL1.out]; exact HF.out.2⟩
        case measure => simp [intOf]; omega
    · have he : i = s.size := by omega
      subst he
      have HL1 : Hid (Cu wr g o p (lft (ctA p) h0 (tby s)) q) := by
        have h := HC.out
        rwa [tby_all s s.size (Nat.le_refl _)] at h
      clear HC
      go_wp2
      go_end0
      exact ⟨rfl, HE.out, q, HR0.out, HL1.out⟩
end Go.Proofs.Ytdinhnpobdfnoaa
