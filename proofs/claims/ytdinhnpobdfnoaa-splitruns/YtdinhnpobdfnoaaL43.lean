/- The walk of SplitRuns. -/
import Derived.Test.YtdinhnpobdfnoaaU25
import Derived.Test.YtdinhnpobdfnoaaU8
import Derived.Deep.Cut
import Derived.Deep.CutRange
import Derived.Deep.DeepCutAuto
namespace Go.Proofs.Ytdinhnpobdfnoaa
open Go.RowKit
set_option linter.unusedSimpArgs false
set_option linter.unusedVariables false
/-- What lies where: the steps of a slice, three cells each. -/
def LieT (w : World) (a0 : Option Addr) (len : Nat) (K Wh : Nat → Int) (T : Nat → ByteArray) : Prop :=
  ∀ i, i < len → ∃ b off, a0 = some ⟨b, off, none⟩ ∧ b < w.heap.size ∧ w.cell? ⟨b, off + i * 3, none⟩ = some (.int .i64 (K i)) ∧ w.cell? ⟨b, off + i * 3 + 1, none⟩ = some (.int .i64 (Wh i)) ∧ w.cell? ⟨b, off + i * 3 + 2, none⟩ = some (.string (T i))
abbrev pcl (b f m : Int) : Array Value := #[.int .i64 b, .int .i64 f, .int .i64 m]
abbrev r0l (b f m : Int) : Array Value := #[.int .i64 b, .int .i64 f, .int .i64 m, .string ⟨#[]⟩, .int .i64 0, .bool false]
theorem nw_z {w : World} {B : Nat} {o : Option Nat} {p : Pl} {b f m : Int} (h : Nw w B o p b f m) : (plE b f m == 0) = o.isSome := by
  rcases h with ⟨rfl, e⟩ | ⟨g, fs, rfl, e, _⟩
  · rw [e]; rfl
  · rw [e]; rfl
theorem ows_low {w : World} {B B' n k : Nat} {e : TypeId} {v : Value} {xs : List Value} (h : w.ownsRow B e k v n xs) (hB : B' ≤ B) : w.ownsRow B' e k v n xs := by
  refine ⟨h.1, ?_⟩
  rcases h.2 with q | ⟨g, c, cur, h1, h2, h3⟩
  · exact .inl q
  · exact .inr ⟨g, c, cur, h1, Nat.le_trans hB h2, h3⟩
theorem Spo.low {w : World} {B B' g : Nat} {p : Pl} {h : List UInt8} {tk : Nat} {fs : List Nat} (hs : Spo w B g p h tk fs) (hB : B' ≤ B) : Spo w B' g p h tk fs := by
  obtain ⟨r, vh, h1, h2, h3, h4, h5⟩ := hs.mem
  exact ⟨⟨r, vh, h1, h2, ows_low h3 hB, h4, h5⟩, hs.gin, hs.opn, fun b hb => ⟨Nat.le_trans hB (hs.foot b hb).1, (hs.foot b hb).2⟩⟩
theorem Nw.un {w : World} {B : Nat} {o : Option Nat} {p : Pl} {b f m : Int} (h : Nw w B o p b f m) : ∃ fs : List Nat, (∀ g, o = some g → Spo w B g p [] 0 fs ∧ p.ok ∧ b = (p.B : Int) ∧ f = (p.F : Int) ∧ m = (p.M : Int)) ∧ ∀ x ∈ fs, B ≤ x ∧ x < w.heap.size := by
  rcases h with ⟨rfl, e⟩ | ⟨g, fs, rfl, e, h1, h2, h3, h4, h5⟩
  · exact ⟨[], fun g e => (by cases e), fun x hx => (by cases hx)⟩
  · exact ⟨fs, fun g' e => (by cases e; exact ⟨h5, h1, h2, h3, h4⟩), h5.foot⟩
theorem pr_new {wa wb : World} {B B2 : Nat} {oa ob : Option Nat} {p q : Pl} {b f m b' f' m' : Int} (ha : Nw wa B oa p b f m) (hab : Below wa.heap.size wa wb) (hb : Nw wb B2 ob q b' f' m') (h2 : wa.heap.size ≤ B2) (hB : B ≤ wa.heap.size) :
    Pr ((wb.alloc (.cells (r0l b f m) 45)).alloc (.cells (r0l b' f' m') 45)) B oa ob wb.heap.size (wb.heap.size + 1) p q 0 := by
  obtain ⟨fa, ha1, ha2⟩ := ha.un
  obtain ⟨fb, hb1, hb2⟩ := hb.un
  have hz := hab.size
  have k1 := (bk_new wb (r0l b f m) 45).alloc (.cells (r0l b' f' m') 45)
  have k2 := bk_new (wb.alloc (.cells (r0l b f m) 45)) (r0l b' f' m') 45
  rw [al_size] at k2
  have hbW : Below wb.heap.size wb ((wb.alloc (.cells (r0l b f m) 45)).alloc (.cells (r0l b' f' m') 45)) := ((Below.refl _ _).alloc (Nat.le_refl _) _).alloc (by rw [al_size]; omega) _
  have hsz : ((wb.alloc (.cells (r0l b f m) 45)).alloc (.cells (r0l b' f' m') 45)).heap.size = wb.heap.size + 1 + 1 := by rw [al_size, al_size]
  have hA : Below wa.heap.size wa ((wb.alloc (.cells (r0l b f m) 45)).alloc (.cells (r0l b' f' m') 45)) := hab.trans (hbW.mono hz)
  have hBb : B ≤ wb.heap.size := Nat.le_trans hB hz
  generalize ((wb.alloc (.cells (r0l b f m) 45)).alloc (.cells (r0l b' f' m') 45)) = W at k1 k2 hbW hA hsz ⊢
  have la : ∀ x ∈ fa, B ≤ x ∧ x < W.heap.size := fun x hx => ⟨(ha2 x hx).1, by have := (ha2 x hx).2; omega⟩
  have lb : ∀ x ∈ fb, B ≤ x ∧ x < W.heap.size := fun x hx => ⟨by have := (hb2 x hx).1; omega, by have := (hb2 x hx).2; omega⟩
  refine ⟨⟨some ([], 0), some ([], 0), fa, fb, fun g e => ?_, fun g e => ?_, fun x hx hn => ?_, fun hm => ?_, fun hm => ?_, fun h tk e => ?_, fun h tk e => ?_, la, lb⟩, by omega, ⟨hBb, by omega⟩, ⟨by omega, by omega⟩, fun g e => (ha1 g e).2.1, fun g e => (hb1 g e).2.1⟩
  · obtain ⟨h1, hok, rfl, rfl, rfl⟩ := ha1 g e
    refine ⟨fun h tk e => ?_, fun e => (by cases e), h1.gin, fun x hx => (la x hx).2, fun hm => ?_, fun x hx => (la x hx).1, hBb⟩
    · cases e
      exact ⟨h1.kept (kb_below hA []) (fun b _ => by simp), ⟨#[]⟩, rfl, k1⟩
    · have := (ha2 _ hm).2; omega
  · obtain ⟨h1, hok, rfl, rfl, rfl⟩ := hb1 g e
    refine ⟨fun h tk e => ?_, fun e => (by cases e), h1.gin, fun x hx => (lb x hx).2, fun hm => ?_, fun x hx => (lb x hx).1, by omega⟩
    · cases e
      exact ⟨(h1.low (by omega)).kept (kb_below hbW []) (fun b _ => by simp), ⟨#[]⟩, rfl, k2⟩
    · have := (hb2 _ hm).2; omega
  · have h3 := (ha2 x hx).2
    have h4 := (hb2 x hn).1
    omega
  · have := (hb2 _ hm).2; omega
  · have := (ha2 _ hm).2; omega
  · cases e; exact Nat.le_refl _
  · cases e; exact Nat.le_refl _
theorem Pr.below {w w' : World} {B : Nat} {xa xb : Option Nat} {ra rb : Nat} {p q : Pl} {N : Nat} (h : Pr w B xa xb ra rb p q N) (hb : Below w.heap.size w w') : Pr w' B xa xb ra rb p q N := by
  obtain ⟨sa, sb, fa, fb, h1, h2, h3, h4, h5, h6, h7, h8, h9⟩ := h.st
  have hz := hb.size
  exact ⟨⟨sa, sb, fa, fb, fun g e => (h1 g e).kept (kb_below hb []) (fun b _ => by simp) (by simp), fun g e => (h2 g e).kept (kb_below hb []) (fun b _ => by simp) (by simp), h3, h4, h5, h6, h7, fun b hb => ⟨(h8 b hb).1, Nat.lt_of_lt_of_le (h8 b hb).2 hz⟩, fun b hb => ⟨(h9 b hb).1, Nat.lt_of_lt_of_le (h9 b hb).2 hz⟩⟩, h.ne, ⟨h.la.1, Nat.lt_of_lt_of_le h.la.2 hz⟩, ⟨h.lb.1, Nat.lt_of_lt_of_le h.lb.2 hz⟩, h.pk, h.qk⟩
set_option maxHeartbeats 4000000 in
set_option maxRecDepth 100000 in
theorem runs9_walk (b f m b' f' m' : Int) (a0 : Option Addr) (n cap : Nat) (K Wh : Nat → Int) (T : Nat → ByteArray) (w : World) (hn : n ≤ maxLen) (hL : LieT w a0 n K Wh T) (hT : ∀ i, i < n → (T i).size ≤ 140737488351232) :
    Calls Try.prog 4 #[plV b f m, plV b' f' m', .slice a0 n cap] w fun e w' => e = .returned (.bool true) ∧ Below w.heap.size w w' := by
  unfold maxLen at hn
  obtain ⟨p, hpA⟩ := snew_all b f m
  obtain ⟨q, hqA⟩ := snew_all b' f' m'
  have NA : Hid _ := hpA
  have NB : Hid _ := hqA
  have HL : Hid (LieT w a0 n K Wh T) := hL
  have HT : Hid (∀ i, i < n → (T i).size ≤ 140737488351232) := hT
  have hk1 := (bk_new w (pcl b f m) 23).alloc (.cells (pcl b' f' m') 23)
  have hk2 := bk_new (w.alloc (.cells (pcl b f m) 23)) (pcl b' f' m') 23
  rw [al_size] at hk2
  have hB : Below w.heap.size w ((w.alloc (.cells (pcl b f m) 23)).alloc (.cells (pcl b' f' m') 23)) := ((Below.refl _ _).alloc (Nat.le_refl _) _).alloc (by rw [al_size]; omega) _
  clear hpA hqA hL hT
  go_enter Try.func4, Try.ntmps4
  go_wp2_with fail
  obtain ⟨gp, hgp⟩ : ∃ g, g = w.heap.size := ⟨_, rfl⟩
  have hgq : w.heap.size + 1 = gp + 1 := by rw [hgp]
  generalize hW0 : ((w.alloc (.cells (pcl b f m) 23)).alloc (.cells (pcl b' f' m') 23)) = W0 at hk1 hk2 hB ⊢
  rw [← hgp] at hk1 hk2 ⊢
  have HB0 : Hid (gp = w.heap.size) := hgp
  clear hW0 hgp hgq
  refine (in_any b f m W0).mono ?_
  rintro e w1 ⟨rfl, b1⟩
  have hk1a := hk1.below b1 hk1.lt
  have hk2a := hk2.below b1 hk2.lt
  have hB1 : Below w.heap.size w w1 := hB.trans (b1.mono hB.size)
  clear hk1 hk2 b1 hB
  go_wp2_with fail
  refine (NA.out w1).mono ?_
  rintro e w2 ⟨oa, rfl, na, b2⟩
  have hk1b := hk1a.below b2 hk1a.lt
  have hk2b := hk2a.below b2 hk2a.lt
  have hB2 : Below w.heap.size w w2 := hB1.trans (b2.mono hB1.size)
  have d0 : w2.cell? ⟨gp + 1, 0, none⟩ = some (.int .i64 b') := by rw [hk2b.cell]; rfl
  have d1 : w2.cell? ⟨gp + 1, 1, none⟩ = some (.int .i64 f') := by rw [hk2b.cell]; rfl
  have d2 : w2.cell? ⟨gp + 1, 2, none⟩ = some (.int .i64 m') := by rw [hk2b.cell]; rfl
  have HA : Hid (Nw w2 w.heap.size oa p b f m) := by
    rcases na with q | ⟨g, fs, q1, q2, q3, q4, q5, q6, q7⟩
    · exact .inl q
    · exact .inr ⟨g, fs, q1, q2, q3, q4, q5, q6, q7.low hB1.size⟩
  have HX2 : Hid (Bk w2 gp (pcl b f m) 23 ∧ Bk w2 (gp + 1) (pcl b' f' m') 23 ∧ Below w.heap.size w w2) := ⟨hk1b, hk2b, hB2⟩
  clear hk1a hk2a hB1 hk1b hk2b hB2 b2 na NA
  go_wp2_with fail
  refine (in_any b' f' m' w2).mono ?_
  rintro e w3 ⟨rfl, b3⟩
  clear d0 d1 d2
  go_wp2_with fail
  refine (NB.out w3).mono ?_
  rintro e w4 ⟨ob, rfl, nb, b4⟩
  have hb24 : Below w2.heap.size w2 w4 := b3.trans (b4.mono b3.size)
  have hk1b := HX2.out.1.below hb24 HX2.out.1.lt
  have hk2b := HX2.out.2.1.below hb24 HX2.out.2.1.lt
  have c0 : w4.cell? ⟨gp, 0, none⟩ = some (.int .i64 b) := by rw [hk1b.cell]; rfl
  have c1 : w4.cell? ⟨gp, 1, none⟩ = some (.int .i64 f) := by rw [hk1b.cell]; rfl
  have c2 : w4.cell? ⟨gp, 2, none⟩ = some (.int .i64 m) := by rw [hk1b.cell]; rfl
  have hk2c := hk2b.alloc (.cells (r0l b f m) 45)
  have d0 : (w4.alloc (.cells (r0l b f m) 45)).cell? ⟨gp + 1, 0, none⟩ = some (.int .i64 b') := by rw [hk2c.cell]; rfl
  have d1 : (w4.alloc (.cells (r0l b f m) 45)).cell? ⟨gp + 1, 1, none⟩ = some (.int .i64 f') := by rw [hk2c.cell]; rfl
  have d2 : (w4.alloc (.cells (r0l b f m) 45)).cell? ⟨gp + 1, 2, none⟩ = some (.int .i64 m') := by rw [hk2c.cell]; rfl
  have hk1d := (hk1b.alloc (.cells (r0l b f m) 45)).alloc (.cells (r0l b' f' m') 45)
  have hk2d := hk2c.alloc (.cells (r0l b' f' m') 45)
  have x0 : ((w4.alloc (.cells (r0l b f m) 45)).alloc (.cells (r0l b' f' m') 45)).cell? ⟨gp, 0, none⟩ = some (.int .i64 b) := by rw [hk1d.cell]; rfl
  have x1 : ((w4.alloc (.cells (r0l b f m) 45)).alloc (.cells (r0l b' f' m') 45)).cell? ⟨gp, 1, none⟩ = some (.int .i64 f) := by rw [hk1d.cell]; rfl
  have x2 : ((w4.alloc (.cells (r0l b f m) 45)).alloc (.cells (r0l b' f' m') 45)).cell? ⟨gp, 2, none⟩ = some (.int .i64 m) := by rw [hk1d.cell]; rfl
  have HPr := pr_new HA.out hb24 nb b3.size HX2.out.2.2.size
  have hB4 : Below w.heap.size w ((w4.alloc (.cells (r0l b f m) 45)).alloc (.cells (r0l b' f' m') 45)) := by
    have h1 := HX2.out.2.2.trans (hb24.mono HX2.out.2.2.size)
    exact (h1.alloc h1.size _).alloc (by rw [al_size]; exact Nat.le_succ_of_le h1.size) _
  have zA := nw_z HA.out
  have zB := nw_z nb
  have HY : Hid (Bk ((w4.alloc (.cells (r0l b f m) 45)).alloc (.cells (r0l b' f' m') 45)) gp (pcl b f m) 23 ∧ Bk ((w4.alloc (.cells (r0l b f m) 45)).alloc (.cells (r0l b' f' m') 45)) (gp + 1) (pcl b' f' m') 23 ∧ Below w.heap.size w ((w4.alloc (.cells (r0l b f m) 45)).alloc (.cells (r0l b' f' m') 45)) ∧ Pr ((w4.alloc (.cells (r0l b f m) 45)).alloc (.cells (r0l b' f' m') 45)) w.heap.size oa ob w4.heap.size (w4.heap.size + 1) p q 0) := ⟨hk1d, hk2d, hB4, HPr⟩
  obtain ⟨Ea, hEa⟩ : ∃ x, plE b f m = x := ⟨_, rfl⟩
  obtain ⟨Eb, hEb⟩ : ∃ x, plE b' f' m' = x := ⟨_, rfl⟩
  have RA : Hid (∀ u, Calls Try.prog 14 #[plV b f m] u fun e w' => e = .returned (.int .i64 Ea) ∧ Below u.heap.size u w') := fun u => by rw [← hEa]; exact rcheck_any b f m u
  have RB : Hid (∀ u, Calls Try.prog 14 #[plV b' f' m'] u fun e w' => e = .returned (.int .i64 Eb) ∧ Below u.heap.size u w') := fun u => by rw [← hEb]; exact rcheck_any b' f' m' u
  rw [hEa] at zA ⊢
  rw [hEb] at zB ⊢
  clear hEa hEb hk1b hk2b hk2c hk1d hk2d HPr hB4 hb24 b3 b4 nb NB HA HX2
  go_wp2_with fail
  refine (RA.out _).mono ?_
  rintro e w5 ⟨rfl, b5⟩
  obtain ⟨ra, hra⟩ : ∃ g, g = w4.heap.size := ⟨_, rfl⟩
  rw [← hra] at HY ⊢
  have HY5 : Hid (Bk w5 (gp + 1) (pcl b' f' m') 23 ∧ Below w.heap.size w w5 ∧ Pr w5 w.heap.size oa ob ra (ra + 1) p q 0) := by
    obtain ⟨y1, y2, y3, y4⟩ := HY.out
    exact ⟨y2.below b5 y2.lt, y3.trans (b5.mono y3.size), y4.below b5⟩
  have y0 : w5.cell? ⟨gp + 1, 0, none⟩ = some (.int .i64 b') := by rw [HY5.out.1.cell]; rfl
  have y1 : w5.cell? ⟨gp + 1, 1, none⟩ = some (.int .i64 f') := by rw [HY5.out.1.cell]; rfl
  have y2 : w5.cell? ⟨gp + 1, 2, none⟩ = some (.int .i64 m') := by rw [HY5.out.1.cell]; rfl
  have hEE : (Ea != Ea) = false := by simp
  have hFF : (Eb != Eb) = false := by simp
  clear HY b5 hra RA x0 x1 x2 c0 c1 c2 d0 d1 d2
  go_wp2_with fail
  refine (RB.out _).mono ?_
  rintro e w6 ⟨rfl, b6⟩
  have HY6 : Hid (Below w.heap.size w w6 ∧ Pr w6 w.heap.size oa ob ra (ra + 1) p q 0) := ⟨HY5.out.2.1.trans (b6.mono HY5.out.2.1.size), HY5.out.2.2.below b6⟩
  clear y0 y1 y2 HY5 b6 RB
  obtain ⟨rb, hrb⟩ : ∃ g, g = ra + 1 := ⟨_, rfl⟩
  rw [← hrb] at HY6 ⊢
  clear hrb hEE hFF
  go_wp2_with fail
  clear zA zB
  go_loopw [13, 14] (fun x y wr => ∃ (N k : Nat), k ≤ n ∧ k ≤ 100 ∧ N ≤ k * 140737488351232 ∧ x = .int .i64 (N : Int) ∧ y = .int .i64 (k : Int) ∧ Hid (Below w.heap.size w wr ∧ Pr wr w.heap.size oa ob ra rb p q N)) (fun _ y _ => n - (intOf y).toNat)
  case atStart => exact ⟨0, 0, by omega, by omega, by omega, rfl, rfl, HY6.out.1, HY6.out.2⟩
  case round =>
    clear HY6
    obtain ⟨N, k, hk, hk1, hNk, rfl, rfl, HP⟩ := hrel
    by_cases hlt : k < n
    · have hkz : (k : Int) < (n : Nat) := by omega
      by_cases h3 : k < 100
      · have h3z : (k : Int) < 100 := by omega
        have hk0 : (0 : Int) ≤ k := by omega
        obtain ⟨bb, off, rfl, hbb, d0, d1, d2⟩ := HL.out k hlt
        have ht := HT.out k hlt
        obtain ⟨kk, hkk⟩ : ∃ x, K k = x := ⟨_, rfl⟩
        obtain ⟨wh, hwh⟩ : ∃ x, Wh k = x := ⟨_, rfl⟩
        obtain ⟨t, htt⟩ : ∃ x, T k = x := ⟨_, rfl⟩
        rw [hkk] at d0
        rw [hwh] at d1
        rw [htt] at d2 ht
        have c0 := (HP.out.1.cell (p := ⟨bb, off + k * 3, none⟩) hbb).trans d0
        have c1 := (HP.out.1.cell (p := ⟨bb, off + k * 3 + 1, none⟩) hbb).trans d1
        have c2 := (HP.out.1.cell (p := ⟨bb, off + k * 3 + 2, none⟩) hbb).trans d2
        obtain ⟨N1, hN1⟩ : ∃ x, N + t.size = x := ⟨_, rfl⟩
        have hN1z : (N : Int) + t.size = N1 := by omega
        have hN1k : N1 ≤ (k + 1) * 140737488351232 := by omega
        have hN1k2 : N1 ≤ 14073748835123200 := by omega
        clear hkk hwh htt d0 d1 d2
        go_upto_if 81 with fail
        go_cut [15, 16] from 64 to 152 (fun x y wx => ∃ (oc : Option Addr) (rc : Nat), x = .pointer oc ∧ y = .pointer (some ⟨rc, 0, none⟩) ∧ Hid (∃ (xc xo : Option Nat) (ro : Nat) (pc po : Pl), oc = pv xc ∧ Pr wr w.heap.size xc xo rc ro pc po N ∧ ∀ W M, Pr W w.heap.size xc xo rc ro pc po M → Pr W w.heap.size oa ob ra rb p q M) ∧ wx = wr)
        case first =>
          by_cases hw : wh = 0
          · have hw2 : (wh != 0) = false := by simp [hw]
            clear hw
            go_wp2_with fail
            go_meet
            exact ⟨_, _, rfl, rfl, ⟨oa, ob, rb, p, q, rfl, HP.out.2, fun _ _ h => h⟩, rfl⟩
          · have hw2 : (wh != 0) = true := by simp [hw]
            clear hw
            go_wp2_with fail
            go_meet
            exact ⟨_, _, rfl, rfl, ⟨ob, oa, ra, q, p, rfl, HP.out.2.swap, fun _ _ h => h.swap⟩, rfl⟩
        case rest =>
          obtain ⟨oc, rc, rfl, rfl, HC, hwx⟩ := hcut
          obtain rfl : wr = wc := hwx.symm
          clear hwx
          obtain ⟨xc, xo, ro, pc, po, hoc, hpr, hback⟩ := HC.out
          have HPR : Hid (Pr wr w.heap.size xc xo rc ro pc po N) := hpr
          have HBK : Hid (∀ W M, Pr W w.heap.size xc xo rc ro pc po M → Pr W w.heap.size oa ob ra rb p q M) := hback
          clear hpr hback HC
          cases xc with
          | none =>
            obtain rfl : oc = none := hoc
            go_wp2
            go_roundw
            case rel => exact ⟨N1, k + 1, by omega, by omega, hN1k, by go_num, by go_num, HP.out.1, HP.out.2.more (by omega)⟩
            case measure => simp [intOf]; omega
          | some g =>
            obtain rfl : oc = some ⟨g, 0, none⟩ := hoc
            by_cases hbig : 3000 < N1
            · have hbz : (N1 : Int) > 3000 := by omega
              go_wp2
              go_roundw
              case rel => exact ⟨N1, k + 1, by omega, by omega, hN1k, by go_num, by go_num, HP.out.1, HP.out.2.more (by omega)⟩
              case measure => simp [intOf]; omega
            · have hbz : ¬ (N1 : Int) > 3000 := by omega
              have hPM := HPR.out.more (N' := N1) (by omega)
              obtain ⟨sa, sb, fa, fb, s1, s2, s3, s4, s5, s6, s7, s8, s9⟩ := HPR.out.st
              have hBz := HP.out.1.size
              have ho := s1 g rfl
              have hok := HPR.out.pk g rfl
              have CW : Hid (Calls Try.prog 16 #[.pointer (some ⟨g, 0, none⟩), .string t] wr fun e w1 => ∃ a n c er, e = .returned (.tuple #[.slice a n c, .int .i64 er]) ∧
                  Hid (Calls Try.prog 17 #[.pointer (some ⟨rc, 0, none⟩), .string t] w1 fun e w2 => ∃ a2 c2, e = .returned (.tuple #[.slice a2 n c2, .int .i64 er]) ∧ Res wr w.heap.size g rc pc fa N1 a n a2 w2) ∧ w1.cell? ⟨bb, off + k * 3 + 2, none⟩ = some (.string t)) := by
                have hcell : ∀ w1, Kb wr w1 (rc :: fa) → w1.cell? ⟨bb, off + k * 3 + 2, none⟩ = some (.string t) := fun w1 hk => by
                  rw [World.cell?_of_block (a := ⟨bb, off + k * 3 + 2, none⟩) (hk.block bb (Nat.lt_of_lt_of_le hbb hBz) (fun hm => ?_))]
                  · exact c2
                  · simp only [List.mem_cons] at hm
                    rcases hm with e | hm
                    · have := HPR.out.la.1; omega
                    · have := (s8 bb hm).1; omega
                cases sa with
                | none =>
                  refine (step_done t wr _ g rc pc fa N1 ho).mono ?_
                  rintro e w1 ⟨a, m, c, er, e1, e2, e3⟩
                  exact ⟨a, m, c, er, e1, e2, hcell w1 e3⟩
                | some y =>
                  obtain ⟨y1, y2⟩ := y
                  have := s6 y1 y2 rfl
                  refine (step_open t wr _ g rc pc hok y1 y2 fa N1 ho hBz (by omega) (by omega)).mono ?_
                  rintro e w1 ⟨a, m, c, er, e1, e2, e3⟩
                  exact ⟨a, m, c, er, e1, e2, hcell w1 e3⟩
              have CC : Hid (Calls Try.prog 18 #[.pointer (some ⟨g, 0, none⟩)] wr fun e w1 => ∃ a n c er, e = .returned (.tuple #[.slice a n c, .int .i64 er]) ∧
                  Hid (Calls Try.prog 19 #[.pointer (some ⟨rc, 0, none⟩)] w1 fun e w2 => ∃ a2 c2, e = .returned (.tuple #[.slice a2 n c2, .int .i64 er]) ∧ Res wr w.heap.size g rc pc fa N1 a n a2 w2)) := by
                cases sa with
                | none => exact stepc_done wr _ g rc pc fa N1 ho
                | some y =>
                  obtain ⟨y1, y2⟩ := y
                  exact stepc_open wr _ g rc pc hok y1 y2 fa N1 ho
              have HST : Hid (∀ a m a2 w2 w3 (r : Option Nat), Res wr w.heap.size g rc pc fa N1 a m a2 w2 → w2.grownBy w3 r → (∀ b, r = some b → m ≠ 0 ∧ a = some ⟨b, 0, none⟩) → Below w.heap.size w w3 ∧ Pr w3 w.heap.size oa ob ra rb p q N1) := by
                intro a m a2 w2 w3 r hres hg hr
                refine ⟨?_, HBK.out _ _ (hPM.step ho s2 s3 s4 s5 (fun h tk e => Nat.le_trans (s7 h tk e) (by omega)) s8 s9 hres hg hr)⟩
                have hk3 : Kb wr w3 (rc :: fa) := hres.kb.trans2 (kb_grown hg) (fun b hb => by
                  have hb' : r = some b := by simpa using hb
                  obtain ⟨q0, q1⟩ := hr b hb'
                  rcases hres.row with e | ⟨gb, C, e1, _, _, e4⟩
                  · exact absurd e q0
                  · rw [q1] at e1; cases e1; exact .inr e4)
                exact hk3.below HP.out.1 hBz (fun b hb => by
                  simp only [List.mem_cons] at hb
                  rcases hb with rfl | hb
                  · exact HPR.out.la.1
                  · exact (s8 b hb).1)
              clear hPM s1 s2 s3 s4 s5 s6 s7 s8 s9 ho hok HPR HBK
              go_upto_if 103 with fail
              go_cut [17, 18, 19, 20] from 82 to 152 (fun x17 x18 x19 x20 wx => ∃ (a : Option Addr) (m c : Nat) (a2 : Option Addr) (c2 : Nat) (er : Int), x17 = .slice a m c ∧ x18 = .slice a2 m c2 ∧ x19 = .int .i64 er ∧ x20 = .int .i64 er ∧ Hid (Res wr w.heap.size g rc pc fa N1 a m a2 wx))
              case first =>
                by_cases hq : kk = 0
                · have hq2 : (kk == 0) = true := by simp [hq]
                  clear hq
                  go_wp2_with fail
                  refine CW.out.mono ?_
                  rintro e w1 ⟨a, m, c, er, rfl, HN, z2⟩
                  go_wp2_with fail
                  refine HN.out.mono ?_
                  rintro e w2 ⟨a2, c2, rfl, hres⟩
                  go_wp2_with fail
                  go_meet
                  exact ⟨a, m, c, a2, c2, er, rfl, rfl, rfl, rfl, hres⟩
                · have hq2 : (kk == 0) = false := by simp [hq]
                  clear hq
                  go_wp2_with fail
                  refine CC.out.mono ?_
                  rintro e w1 ⟨a, m, c, er, rfl, HN⟩
                  go_wp2_with fail
                  refine HN.out.mono ?_
                  rintro e w2 ⟨a2, c2, rfl, hres⟩
                  go_wp2_with fail
                  go_meet
                  exact ⟨a, m, c, a2, c2, er, rfl, rfl, rfl, rfl, hres⟩
              case rest =>
                obtain ⟨a, m, c, a2, cz, er, rfl, rfl, rfl, rfl, HRS⟩ := hcut
                have hee : (er != er) = false := by simp
                have hml := HRS.out.len
                obtain ⟨l, hl1, hl2, hl3⟩ := HRS.out.pcs
                have CP : Hid (Calls Try.prog 20 #[.slice a m c, .slice a2 m cz] wc fun e w' => e = .returned (.bool true) ∧ Below wc.heap.size wc w') := pieces_any a a2 m c cz l wc hl1 (by unfold maxLen; omega) hl2 hl3
                clear hl1 hl2 hl3 CW CC c0 c1 c2
                go_wp2_with fail
                refine CP.out.mono ?_
                rintro e w7 ⟨rfl, b7⟩
                obtain ⟨rr, hr1, hr2⟩ : ∃ rr : Option Nat, (∀ b, rr = some b → m ≠ 0 ∧ a = some ⟨b, 0, none⟩) ∧ (m ≠ 0 → ∃ gb C, rr = some gb ∧ a = some ⟨gb, 0, none⟩ ∧ Bk w7 gb C 58 ∧ m * 2 ≤ C.size) := by
                  by_cases hm0 : m = 0
                  · exact ⟨none, fun b e => (by cases e), fun e => absurd hm0 e⟩
                  · rcases HRS.out.row with e | ⟨gb, C, e1, e2, e3, e4⟩
                    · exact absurd e hm0
                    · exact ⟨some gb, fun b e => (by cases e; exact ⟨hm0, e1⟩), fun _ => ⟨gb, C, rfl, e1, e2.below b7 e2.lt, e3⟩⟩
                have HR1 : Hid (∀ b, rr = some b → m ≠ 0 ∧ a = some ⟨b, 0, none⟩) := hr1
                have HR2 : Hid (m ≠ 0 → ∃ gb C, rr = some gb ∧ a = some ⟨gb, 0, none⟩ ∧ Bk w7 gb C 58 ∧ m * 2 ≤ C.size) := hr2
                have HB7 : Hid (Below wc.heap.size wc w7) := b7
                clear hr1 hr2 b7 CP hee
                go_wp2_with fail
                go_loopw [21] (fun y ws => ∃ j : Nat, j ≤ m ∧ y = .int .i64 (j : Int) ∧ Hid (w7.grownBy ws rr ∧ (m ≠ 0 → ∃ gb C, rr = some gb ∧ a = some ⟨gb, 0, none⟩ ∧ Bk ws gb C 58 ∧ m * 2 ≤ C.size))) (fun y _ => m - (intOf y).toNat)
                case atStart => exact ⟨0, by omega, rfl, World.grownBy.refl _ _, HR2.out⟩
                case round =>
                  obtain ⟨j, hj, rfl, HG⟩ := hrel
                  by_cases hjm : j < m
                  · have hjz : (j : Int) < (m : Nat) := by omega
                    have hj0 : (0 : Int) ≤ j := by omega
                    obtain ⟨gb, C, e1, rfl, e3, e4⟩ := HG.out.2 (by omega)
                    have f0 := e3.frozen (j * 2)
                    have e5 := e3.set (j * 2) (.string ⟨#[]⟩)
                    have f1 := e5.frozen (j * 2 + 1)
                    have x0 : wr.cell? ⟨gb, j * 2, none⟩ = some (C[j * 2]'(by omega)) := by rw [e3.cell]; exact Array.getElem?_eq_getElem _
                    have x1 : (wr.setCell ⟨gb, j * 2, none⟩ (.string ⟨#[]⟩)).cell? ⟨gb, j * 2 + 1, none⟩ = some (C[j * 2 + 1]'(by omega)) := by
                      rw [e5.cell, Array.getElem?_setIfInBounds, if_neg (by omega)]; exact Array.getElem?_eq_getElem _
                    obtain ⟨y0, hy0⟩ : ∃ y, (C[j * 2]'(by omega)) = y := ⟨_, rfl⟩
                    obtain ⟨y1, hy1⟩ : ∃ y, (C[j * 2 + 1]'(by omega)) = y := ⟨_, rfl⟩
                    rw [hy0] at x0
                    rw [hy1] at x1
                    have HG2 : Hid (w7.grownBy ((wr.setCell ⟨gb, j * 2, none⟩ (.string ⟨#[]⟩)).setCell ⟨gb, j * 2 + 1, none⟩ (.int .i64 (-1))) rr ∧ (m ≠ 0 → ∃ gb' D, rr = some gb' ∧ some (⟨gb, 0, none⟩ : Addr) = some ⟨gb', 0, none⟩ ∧ Bk ((wr.setCell ⟨gb, j * 2, none⟩ (.string ⟨#[]⟩)).setCell ⟨gb, j * 2 + 1, none⟩ (.int .i64 (-1))) gb' D 58 ∧ m * 2 ≤ D.size)) := by
                      have g1 := HG.out.1
                      rw [e1] at g1 ⊢
                      exact ⟨Lib.grownBy_setB (Lib.grownBy_setB g1 _ _) _ _, fun _ => ⟨gb, _, rfl, rfl, e5.set (j * 2 + 1) _, by simpa using e4⟩⟩
                    clear hy0 hy1 e1 e3 e4 e5 HG
                    go_wp2
                    go_roundw
                    case rel => exact ⟨j + 1, by omega, by go_num, HG2.out⟩
                    case measure => simp [intOf]; omega
                  · have hjz : ¬ (j : Int) < (m : Nat) := by omega
                    have HZ : Hid (Below w.heap.size w wr ∧ Pr wr w.heap.size oa ob ra rb p q N1) := HST.out a m a2 wc wr rr HRS.out ((gr_of_below HB7.out rr).trans HG.out.1) HR1.out
                    clear HG HR1 HR2 HB7 HRS HST HP
                    go_wp2
                    go_roundw
                    case rel => exact ⟨N1, k + 1, by omega, by omega, hN1k, by go_num, by go_num, HZ.out⟩
                    case measure => simp [intOf]; omega
      · have h3z : ¬ (k : Int) < 100 := by omega
        go_wp2
        go_ret
        exact ⟨rfl, HP.out.1⟩
    · have hkz : ¬ (k : Int) < (n : Nat) := by omega
      go_wp2
      go_ret
      exact ⟨rfl, HP.out.1⟩
end Go.Proofs.Ytdinhnpobdfnoaa
