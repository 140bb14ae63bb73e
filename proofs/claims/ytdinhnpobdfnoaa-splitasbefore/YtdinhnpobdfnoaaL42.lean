/- The walk of SplitAsBefore. -/
import Derived.Test.YtdinhnpobdfnoaaU20
import Derived.Test.YtdinhnpobdfnoaaA1
import Derived.Test.YtdinhnpobdfnoaaK26
import Derived.Test.YtdinhnpobdfnoaaL40A
import Derived.Deep.Cut
import Derived.Deep.CutRange
import Derived.Deep.CutBlock
import Derived.Deep.DeepCutAuto
namespace Go.Proofs.Ytdinhnpobdfnoaa
open Go.RowKit Go.Maps
set_option linter.unusedSimpArgs false
set_option linter.unusedVariables false
theorem under_mii : Try.prog.underlying 77 = some (.map 3 3) := Try.underlying77
/-- What the law's map tells: where a chunk begins, by how far it is from the end. -/
def Lft (ct : List UInt8 → Option Nat) (S : List UInt8) (nx : Nat) (D : DataW Value) : Prop := ∀ (a : Nat) (v : Value), hAt D (iL (a : Int)) = some v → ∃ j n : Nat, v = .int .i64 (j : Int) ∧ Cp ct S j n ∧ j < nx ∧ a + n = S.length
theorem Lft.put {ct : List UInt8 → Option Nat} {S : List UInt8} {nx : Nat} {D : DataW Value} (h : Lft ct S nx D) (hm : IsMap D) {j n a : Nat} (hc : Cp ct S j n) (hj : j < nx) (ha : a + n = S.length) : Lft ct S nx (D.put (iL (a : Int)) (.held (.int .i64 (j : Int)))) := fun a' v hv => by
  by_cases e : a' = a
  · subst e
    rw [hAt_put_same hm (iL_lit _)] at hv
    cases hv
    exact ⟨j, n, rfl, hc, hj, ha⟩
  · rw [hAt_put_other (fun h' => e (by simp only [iL, Lit.int.injEq] at h'; omega))] at hv
    exact h a' v hv
/-- All that stays. -/
structure SB (w : World) (p : Pl) (gq : Nat) (aX aY : Option Addr) (X Y : List (Nat × Nat)) (W : World) : Prop where
  kx : CkL W aX X
  ky : CkL W aY Y
  pl : Bk W gq #[.int .i64 (p.B : Int), .int .i64 (p.F : Int), .int .i64 (p.M : Int)] 31
  bel : Below w.heap.size w W
theorem SB.next {w : World} {p : Pl} {gq : Nat} {aX aY : Option Addr} {X Y : List (Nat × Nat)} {W W' : World} (h : SB w p gq aX aY X Y W) (hb : Below W.heap.size W W') : SB w p gq aX aY X Y W' := ⟨h.kx.below hb, h.ky.below hb, h.pl.below hb h.pl.lt, h.bel.trans (hb.mono h.bel.size)⟩
set_option maxHeartbeats 8000000 in
set_option maxRecDepth 100000 in
theorem before_walk (b f m : Int) (s0 s1 s2 : ByteArray) (w : World) (h0 : s0.size ≤ 140737488351232) (h1 : s1.size ≤ 140737488351232) (h2 : s2.size ≤ 140737488351232) :
    Calls Try.prog 8 #[plV b f m, .string s0, .string s1, .string s2] w fun e w' => e = .returned (.bool true) ∧ Below w.heap.size w w' := by
  obtain ⟨p, hp⟩ : ∃ p, plT b f m = p := ⟨_, rfl⟩
  have HOK : Hid p.ok := by rw [← hp]; exact plT_ok b f m
  have HPO : Hid (∀ u, Calls Try.prog 25 #[plV b f m] u fun e w' => e = .returned (plV p.B p.F p.M) ∧ Below u.heap.size u w') := fun u => by rw [← hp]; exact planOf_any b f m u
  obtain ⟨A, hA⟩ : ∃ t, txF s0 3000 = t := ⟨_, rfl⟩
  obtain ⟨D, hD⟩ : ∃ t, txF s1 3000 = t := ⟨_, rfl⟩
  obtain ⟨E, hE⟩ : ∃ t, txF s2 6000 = t := ⟨_, rfl⟩
  have HT0 : Hid (∀ u, Calls Try.prog 26 #[.string s0, .int .i64 3000] u fun e w' => e = .returned (.string A) ∧ w' = u) := fun u => by rw [← hA]; exact text_any s0 3000 u (by unfold maxLen; omega) (by omega)
  have HT1 : Hid (∀ u, Calls Try.prog 26 #[.string s1, .int .i64 3000] u fun e w' => e = .returned (.string D) ∧ w' = u) := fun u => by rw [← hD]; exact text_any s1 3000 u (by unfold maxLen; omega) (by omega)
  have HT2 : Hid (∀ u, Calls Try.prog 26 #[.string s2, .int .i64 6000] u fun e w' => e = .returned (.string E) ∧ w' = u) := fun u => by rw [← hE]; exact text_any s2 6000 u (by unfold maxLen; omega) (by omega)
  have hAs : A.size ≤ 3000 := by rw [← hA, txF_size]; omega
  have hDs : D.size ≤ 3000 := by rw [← hD, txF_size]; omega
  have hEs : E.size ≤ 6000 := by rw [← hE, txF_size]; omega
  obtain ⟨X, hX⟩ : ∃ l, chk (ctA p) (tby (A ++ E)) = l := ⟨_, rfl⟩
  obtain ⟨Y, hY⟩ : ∃ l, chk (ctA p) (tby (D ++ E)) = l := ⟨_, rfl⟩
  obtain ⟨nx, hnx⟩ : ∃ n, X.length = n := ⟨_, rfl⟩
  obtain ⟨ny, hny⟩ : ∃ n, Y.length = n := ⟨_, rfl⟩
  have HCX : Hid (∀ u, Calls Try.prog 10 #[plV p.B p.F p.M, .string (A ++ E)] u fun e w' => ∃ a c, e = .returned (.tuple #[.slice a nx c, .int .i64 0]) ∧ CkL w' a X ∧ Below u.heap.size u w') := fun u => by
    rw [← hnx, ← hX]; exact cut_ck p HOK.out (A ++ E) (by rw [ByteArray.size_append]; omega) u
  have HCY : Hid (∀ u, Calls Try.prog 10 #[plV p.B p.F p.M, .string (D ++ E)] u fun e w' => ∃ a c, e = .returned (.tuple #[.slice a ny c, .int .i64 0]) ∧ CkL w' a Y ∧ Below u.heap.size u w') := fun u => by
    rw [← hny, ← hY]; exact cut_ck p HOK.out (D ++ E) (by rw [ByteArray.size_append]; omega) u
  have hnx2 : nx ≤ 9001 := by rw [← hnx, ← hX]; have := chk_len (ctA p) (tby (A ++ E)); rw [tby_len, ByteArray.size_append] at this; omega
  have hny2 : ny ≤ 9001 := by rw [← hny, ← hY]; have := chk_len (ctA p) (tby (D ++ E)); rw [tby_len, ByteArray.size_append] at this; omega
  have HX : Hid (chk (ctA p) (tby A ++ tby E) = X ∧ X.length = nx ∧ chk (ctA p) (tby D ++ tby E) = Y ∧ Y.length = ny) := by rw [← tby_app, ← tby_app]; exact ⟨hX, hnx, hY, hny⟩
  have hbk := bk_new w #[.int .i64 b, .int .i64 f, .int .i64 m] 23
  have hB0 : Below w.heap.size w (w.alloc (.cells #[.int .i64 b, .int .i64 f, .int .i64 m] 23)) := (Below.refl _ _).alloc (Nat.le_refl _) _
  clear hp hA hD hE hX hY hnx hny
  go_enter Try.func8, Try.ntmps8
  go_wp2_with fail
  refine (awake9_any _).mono ?_
  rintro e w1 ⟨rfl, b1⟩
  have hb1 := hbk.below b1 hbk.lt
  have c0 : w1.cell? ⟨w.heap.size, 0, none⟩ = some (.int .i64 b) := by rw [hb1.cell]; rfl
  have c1 : w1.cell? ⟨w.heap.size, 1, none⟩ = some (.int .i64 f) := by rw [hb1.cell]; rfl
  have c2 : w1.cell? ⟨w.heap.size, 2, none⟩ = some (.int .i64 m) := by rw [hb1.cell]; rfl
  have HB1 : Hid (Below w.heap.size w w1) := hB0.trans (b1.mono hB0.size)
  clear b1 hb1 hbk hB0
  go_wp2_with fail
  refine (HPO.out _).mono ?_
  rintro e w2 ⟨rfl, b2⟩
  have HB2 : Hid (Below w.heap.size w (w2.alloc (.cells #[.int .i64 (p.B : Int), .int .i64 (p.F : Int), .int .i64 (p.M : Int)] 31)) ∧ Bk (w2.alloc (.cells #[.int .i64 (p.B : Int), .int .i64 (p.F : Int), .int .i64 (p.M : Int)] 31)) w2.heap.size #[.int .i64 (p.B : Int), .int .i64 (p.F : Int), .int .i64 (p.M : Int)] 31) := by
    have hB2 := HB1.out.trans (b2.mono HB1.out.size)
    exact ⟨hB2.alloc hB2.size _, bk_new _ _ _⟩
  clear b2 c0 c1 c2 HB1 HPO
  go_wp2_with fail
  refine (HT0.out _).mono ?_
  rintro e w3 ⟨rfl, rfl⟩
  obtain ⟨gq, hgq⟩ : ∃ g, g = w2.heap.size := ⟨_, rfl⟩
  generalize (w2.alloc (.cells #[.int .i64 (p.B : Int), .int .i64 (p.F : Int), .int .i64 (p.M : Int)] 31)) = W3 at HB2 ⊢
  rw [← hgq] at HB2 ⊢
  have k0 : W3.cell? ⟨gq, 0, none⟩ = some (.int .i64 (p.B : Int)) := by rw [HB2.out.2.cell]; rfl
  have k1 : W3.cell? ⟨gq, 1, none⟩ = some (.int .i64 (p.F : Int)) := by rw [HB2.out.2.cell]; rfl
  have k2 : W3.cell? ⟨gq, 2, none⟩ = some (.int .i64 (p.M : Int)) := by rw [HB2.out.2.cell]; rfl
  clear hgq HT0
  go_wp2_with fail
  refine (HT1.out _).mono ?_
  rintro e w4 ⟨rfl, hw⟩
  obtain rfl : W3 = w4 := hw.symm
  clear hw
  go_wp2_with fail
  refine (HT2.out _).mono ?_
  rintro e w4 ⟨rfl, hw⟩
  obtain rfl : W3 = w4 := hw.symm
  clear hw HT1 HT2
  go_wp2_with fail
  refine (HCX.out _).mono ?_
  rintro e w4 ⟨aX, cX, rfl, kX, b4⟩
  have HB4 : Hid (Below w.heap.size w w4 ∧ CkL w4 aX X ∧ Bk w4 gq #[.int .i64 (p.B : Int), .int .i64 (p.F : Int), .int .i64 (p.M : Int)] 31) := ⟨HB2.out.1.trans (b4.mono HB2.out.1.size), kX, HB2.out.2.below b4 HB2.out.2.lt⟩
  clear b4 kX HB2 k0 k1 k2 HCX
  have k0 : w4.cell? ⟨gq, 0, none⟩ = some (.int .i64 (p.B : Int)) := by rw [HB4.out.2.2.cell]; rfl
  have k1 : w4.cell? ⟨gq, 1, none⟩ = some (.int .i64 (p.F : Int)) := by rw [HB4.out.2.2.cell]; rfl
  have k2 : w4.cell? ⟨gq, 2, none⟩ = some (.int .i64 (p.M : Int)) := by rw [HB4.out.2.2.cell]; rfl
  go_wp2_with fail
  refine (HCY.out _).mono ?_
  rintro e w5 ⟨aY, cY, rfl, kY, b5⟩
  have HS : Hid (SB w p gq aX aY X Y w5) := ⟨HB4.out.2.1.below b5, kY, HB4.out.2.2.below b5 HB4.out.2.2.lt, HB4.out.1.trans (b5.mono HB4.out.1.size)⟩
  clear b5 kY HB4 k0 k1 k2 HCY
  have HM0 : Hid (Mp (w5.alloc (.map #[] 0)) 3 w5.heap.size (.map []) ∧ Below w5.heap.size w5 (w5.alloc (.map #[] 0))) := ⟨Mp.made _ _, (Below.refl _ _).alloc (Nat.le_refl _) _⟩
  obtain ⟨LA, hLA⟩ : ∃ n, A.size + E.size = n := ⟨_, rfl⟩
  have hLAz : (A.size : Int) + E.size = LA := by omega
  obtain ⟨LD, hLD⟩ : ∃ n, D.size + E.size = n := ⟨_, rfl⟩
  have hLDz : (D.size : Int) + E.size = LD := by omega
  have hmm := fun (W : World) => run_makeMap (P := Try.prog) 77 W
  have HLA : Hid ((tby A ++ tby E).length = LA ∧ (tby D ++ tby E).length = LD) := by rw [List.length_append, List.length_append, tby_len, tby_len, tby_len]; exact ⟨hLA, hLD⟩
  clear hLA hLD
  go_wp2
  clear hmm
  obtain ⟨gm, hgm⟩ : ∃ g, g = w5.heap.size := ⟨_, rfl⟩
  rw [← hgm] at HM0 ⊢
  have HGM : Hid (gm = w5.heap.size) := hgm
  clear hgm
  go_loopw [15, 16] (fun x y wr => ∃ (a i : Nat), a ≤ LA ∧ i ≤ nx ∧ x = .int .i64 (a : Int) ∧ y = .int .i64 (i : Int) ∧ Hid (∃ n Dm, a + n = LA ∧ Cp (ctA p) (tby A ++ tby E) i n ∧ Mp wr 3 gm Dm ∧ Maps.size Dm ≤ i ∧ Lft (ctA p) (tby A ++ tby E) nx Dm ∧ Below w5.heap.size w5 wr)) (fun _ y _ => nx - (intOf y).toNat)
  case atStart => exact ⟨LA, 0, Nat.le_refl _, Nat.zero_le _, by go_num, rfl, 0, .map [], rfl, Cp.nil _, HM0.out.1, Nat.zero_le _, fun a v hv => (by rw [hAt_empty] at hv; cases hv), by rw [← HGM.out]; exact HM0.out.2⟩
  case round =>
    clear HM0
    obtain ⟨a, i, haL, hin, rfl, rfl, HI⟩ := hrel
    by_cases hlt : i < nx
    · have hiz : (i : Int) < (nx : Nat) := by omega
      have hi0 : (0 : Int) ≤ i := by omega
      obtain ⟨n, Dm, han, hcp, hmp, hsz, hlf, hbl⟩ := HI.out
      obtain ⟨q, v, hxi, hfx, hdx, hlx⟩ := chk_at (ct := ctA p) (s := tby A ++ tby E) (n := n) (i := i) hcp.drop (by rw [HX.out.1, HX.out.2.1]; exact hlt)
      rw [HX.out.1] at hxi
      rw [HLA.out.1] at hlx
      obtain ⟨w6, hup, hm6, hg6⟩ := hmp.put iKey under_mii (by unfold maxLen; omega) (iL_key (a : Int) (by omega) (by omega)) (.int .i64 (i : Int))
      have hB6 : Below w5.heap.size w5 w6 := below_own hbl hbl.size hg6 (Nat.le_of_eq HGM.out.symm)
      obtain ⟨gX, rfl, _, x1, x2⟩ := (HS.out.kx.below hB6) i (q, v) hxi
      simp only at x1
      obtain ⟨a', ha'⟩ : ∃ a', a - q = a' := ⟨_, rfl⟩
      have ha'z : (a : Int) - q = a' := by omega
      have HI6 : Hid (∃ n Dm, a' + n = LA ∧ Cp (ctA p) (tby A ++ tby E) (i + 1) n ∧ Mp w6 3 gm Dm ∧ Maps.size Dm ≤ i + 1 ∧ Lft (ctA p) (tby A ++ tby E) nx Dm ∧ Below w5.heap.size w5 w6) := by
        refine ⟨n + q, _, by omega, hcp.snoc hfx, hm6, ?_, hlf.put (World.ownsMap.isMap hmp) hcp hlt (by rw [HLA.out.1]; exact han), hB6⟩
        rw [size_put (World.ownsMap.tidy hmp iKey)]
        split <;> omega
      clear hcp hmp hsz hlf hbl hxi hfx hdx hm6 hg6 hB6 HI ha'
      go_wp2
      go_roundw
      case rel => exact ⟨a', i + 1, by omega, by omega, by go_num, by go_num, HI6.out⟩
      case measure => simp [intOf]; omega
    · have hiz : ¬ (i : Int) < (nx : Nat) := by omega
      obtain ⟨n, Dm, han, hcp, hmp, hsz, hlf, hbl⟩ := HI.out
      have HM : Hid (Mp wr 3 gm Dm ∧ Lft (ctA p) (tby A ++ tby E) nx Dm ∧ SB w p gq aX aY X Y wr) := ⟨hmp, hlf, HS.out.next hbl⟩
      clear hcp hmp hsz hlf hbl HI HS
      go_upto_block 2 with fail
      go_cut [] from 84 (fun wx => Hid (SB w p gq aX aY X Y wx))
      case first =>
        have hgo := 0
        go_wp2_with fail
        go_loopw [15, 17] (fun x y wr => ∃ (a i : Nat), a ≤ LD ∧ i ≤ ny ∧ x = .int .i64 (a : Int) ∧ y = .int .i64 (i : Int) ∧ Hid (∃ n, a + n = LD ∧ Cp (ctA p) (tby D ++ tby E) i n) ∧ Hid (Mp wr 3 gm Dm ∧ SB w p gq aX aY X Y wr)) (fun _ y _ => ny - (intOf y).toNat)
        case atStart => exact ⟨LD, 0, Nat.le_refl _, Nat.zero_le _, by go_num, rfl, ⟨0, rfl, Cp.nil _⟩, HM.out.1, HM.out.2.2⟩
        case round =>
          obtain ⟨a, i, haL, hin, rfl, rfl, HI, HW⟩ := hrel
          by_cases hlt : i < ny
          · have hiz2 : (i : Int) < (ny : Nat) := by omega
            have hi0 : (0 : Int) ≤ i := by omega
            obtain ⟨n, han, hcp⟩ := HI.out
            obtain ⟨q, v, hyi, hfy, hdy, hly⟩ := chk_at (ct := ctA p) (s := tby D ++ tby E) (n := n) (i := i) hcp.drop (by rw [HX.out.2.2.1, HX.out.2.2.2]; exact hlt)
            rw [HX.out.2.2.1] at hyi
            rw [HLA.out.2] at hly
            obtain ⟨gY, hgY, _, y1, y2⟩ := HW.out.2.ky i (q, v) hyi
            simp only at y1 y2
            have hlk := (HW.out.1.at_held iKey under_mii (zero_int wr) (iL_key (a : Int) (by omega) (by omega))).1
            obtain ⟨a', ha'⟩ : ∃ a', a - q = a' := ⟨_, rfl⟩
            have ha'z : (a : Int) - q = a' := by omega
            have HI2 : Hid (∃ n, a' + n = LD ∧ Cp (ctA p) (tby D ++ tby E) (i + 1) n) := ⟨n + q, by omega, hcp.snoc hfy⟩
            cases hat : hAt Dm (iL (a : Int)) with
            | none =>
              rw [hat] at hlk
              simp only [Option.getD_none, Option.isSome_none] at hlk
              subst hgY
              clear hcp hyi hfy hdy ha' hat HI
              go_wp2
              go_roundw
              case rel => exact ⟨a', i + 1, by omega, by omega, by go_num, by go_num, HI2.out, HW.out⟩
              case measure => simp [intOf]; omega
            | some u =>
              obtain ⟨j, n', rfl, hcx, hjx, han'⟩ := HM.out.2.1 a u hat
              rw [hat] at hlk
              simp only [Option.getD_some, Option.isSome_some] at hlk
              by_cases haE : a ≤ E.size
              · have haz : (a : Int) ≤ E.size := by omega
                have hXY : X.drop j = Y.drop i := by
                  have e1 := hcx.drop
                  have e2 := hcp.drop
                  rw [HX.out.1] at e1
                  rw [HX.out.2.2.1] at e2
                  have l1 := HLA.out.1
                  have l2 := HLA.out.2
                  rw [List.length_append, tby_len, tby_len] at l1 l2
                  rw [HLA.out.1] at han'
                  have d1 : (tby A ++ tby E).drop n' = (tby E).drop (E.size - a) := by
                    rw [List.drop_append, List.drop_eq_nil_of_le (by rw [tby_len]; omega), List.nil_append, tby_len, show n' - A.size = E.size - a from by omega]
                  have d2 : (tby D ++ tby E).drop n = (tby E).drop (E.size - a) := by
                    rw [List.drop_append, List.drop_eq_nil_of_le (by rw [tby_len]; omega), List.nil_append, tby_len, show n - D.size = E.size - a from by omega]
                  rw [e1, e2, d1, d2]
                have HXY : Hid (X.drop j = Y.drop i) := hXY
                clear hcp hcx hyi hfy hdy ha' hat HI hXY hgY y1 y2 han' HI2
                go_wp2_with fail
                go_loopw [17, 18] (fun x y wr => ∃ (k i : Nat), k ≤ ny ∧ i ≤ nx ∧ x = .int .i64 (k : Int) ∧ y = .int .i64 (i : Int) ∧ Hid (X.drop i = Y.drop k) ∧ Hid (SB w p gq aX aY X Y wr)) (fun x _ _ => ny - (intOf x).toNat)
                case atStart => exact ⟨i, j, by omega, by omega, rfl, rfl, HXY.out, HW.out.2⟩
                case round =>
                  clear hlk HXY HW
                  obtain ⟨k, i, hk, hi, rfl, rfl, HE, HW⟩ := hrel
                  have hlen : nx - i = ny - k := by
                    have := congrArg List.length HE.out
                    rwa [List.length_drop, List.length_drop, HX.out.2.1, HX.out.2.2.2] at this
                  by_cases hix : i < nx
                  · have hixz : (i : Int) < (nx : Nat) := by omega
                    have hkyz : (k : Int) < (ny : Nat) := by omega
                    have hi0 : (0 : Int) ≤ i := by omega
                    have hk0 : (0 : Int) ≤ k := by omega
                    have hixz2 : ¬ (i : Int) ≥ (nx : Nat) := by omega
                    have hkyz2 : ¬ (k : Int) ≥ (ny : Nat) := by omega
                    have d1 : decide (ny ≤ k) = false := by simp; omega
                    have d2 : decide ((ny : Int) ≤ (k : Int)) = false := by simp; omega
                    have d3 : decide (nx ≤ i) = false := by simp; omega
                    have d4 : decide ((nx : Int) ≤ (i : Int)) = false := by simp; omega
                    clear hlen
                    obtain ⟨x, hx⟩ : ∃ x, X[i]? = some x := ⟨_, List.getElem?_eq_getElem (by rw [HX.out.2.1]; exact hix)⟩
                    have hy : Y[k]? = some x := by
                      have e1 : (X.drop i)[0]? = some x := by rw [List.getElem?_drop, Nat.add_zero]; exact hx
                      rw [HE.out, List.getElem?_drop, Nat.add_zero] at e1
                      exact e1
                    have HE2 : Hid (X.drop (i + 1) = Y.drop (k + 1)) := by
                      show _ = _
                      have := congrArg (List.drop 1) HE.out
                      rwa [List.drop_drop, List.drop_drop] at this
                    obtain ⟨gX, rfl, _, x1, x2⟩ := HW.out.kx i x hx
                    obtain ⟨gY, rfl, _, y1, y2⟩ := HW.out.ky k x hy
                    obtain ⟨q, hq⟩ : ∃ q, x.1 = q := ⟨_, rfl⟩
                    obtain ⟨v, hv⟩ : ∃ q, x.2 = q := ⟨_, rfl⟩
                    rw [hq] at x1 y1
                    rw [hv] at x2 y2
                    have hqq : ((q : Int) == q) = true := by simp
                    have hvv : ((v : Int) == v) = true := by simp
                    clear hx hy hq hv HE
                    go_wp2
                    go_quiet (fail)
                    go_wp2
                    go_roundw
                    case rel => exact ⟨k + 1, i + 1, by omega, by omega, by go_num, by go_num, HE2.out, HW.out.next (below_drewN (Below.refl _ _) _)⟩
                    case measure => simp [intOf]; omega
                  · have hixz : ¬ (i : Int) < (nx : Nat) := by omega
                    have hkyz : ¬ (k : Int) < (ny : Nat) := by omega
                    go_wp2
                    go_meet
                    exact HW.out
              · have haz : ¬ (a : Int) ≤ E.size := by omega
                subst hgY
                clear hcp hcx hyi hfy hdy ha' hat HI han'
                go_wp2
                go_roundw
                case rel => exact ⟨a', i + 1, by omega, by omega, by go_num, by go_num, HI2.out, HW.out⟩
                case measure => simp [intOf]; omega
          · have hiz2 : ¬ (i : Int) < (ny : Nat) := by omega
            go_wp2
            go_meet
            exact HW.out.2
      case rest =>
        clear HM
        go_wp2_with fail
        go_loopw [20, 21] (fun x y wr => ∃ (n i : Nat), n ≤ LA ∧ i ≤ nx ∧ i ≤ 40 ∧ x = .int .i64 (n : Int) ∧ y = .int .i64 (i : Int) ∧ Hid (Cp (ctA p) (tby A ++ tby E) i n) ∧ Hid (SB w p gq aX aY X Y wr)) (fun _ y _ => nx - (intOf y).toNat)
        case atStart => exact ⟨0, 0, Nat.zero_le _, Nat.zero_le _, Nat.zero_le _, rfl, rfl, Cp.nil _, hcut.out⟩
        case round =>
          clear hcut
          obtain ⟨n, i, hnL, hin, hi4, rfl, rfl, HC, HW⟩ := hrel
          by_cases hlt : i < nx
          · have hiz : (i : Int) < (nx : Nat) := by omega
            by_cases h40 : i < 40
            · have h4z : (i : Int) < 40 := by omega
              have hi0 : (0 : Int) ≤ i := by omega
              obtain ⟨q, v, hxi, hfx, hdx, hlx⟩ := chk_at (ct := ctA p) (s := tby A ++ tby E) (n := n) (i := i) HC.out.drop (by rw [HX.out.1, HX.out.2.1]; exact hlt)
              rw [HX.out.1] at hxi
              rw [HLA.out.1] at hlx
              obtain ⟨gX, hgX, _, x1, x2⟩ := HW.out.kx i (q, v) hxi
              simp only at x1
              have hc2 := HC.out.snoc hfx
              obtain ⟨n2, hn2⟩ : ∃ n2, n + q = n2 := ⟨_, rfl⟩
              rw [hn2] at hc2 hlx
              have hnz : (n : Int) + q = n2 := by omega
              obtain ⟨T, hT⟩ : ∃ T, (A ++ E).extract 0 n2 = T := ⟨_, rfl⟩
              have hsAE : (A ++ E).size = LA := by rw [← tby_len, tby_app]; exact HLA.out.1
              have hTb : tby T = (tby A ++ tby E).take n2 := by
                rw [← hT, ← tby_app]
                show ((A ++ E).extract 0 n2).data.toList = _
                rw [ByteArray.data_extract, Array.toList_extract, List.extract_eq_take_drop, List.drop_zero, Nat.sub_zero]
              have hTs : T.size ≤ 1048576 := by rw [← tby_len, hTb, List.length_take]; omega
              have HZ : Hid (∀ u, Calls Try.prog 10 #[plV p.B p.F p.M, .string T] u fun e w' => ∃ a c, e = .returned (.tuple #[.slice a (i + 1) c, .int .i64 0]) ∧ CkL w' a (X.take (i + 1)) ∧ Below u.heap.size u w') := fun u => by
                have h := cut_ck p HOK.out T hTs u
                rw [hTb, hc2.take, HX.out.1, List.length_take, HX.out.2.1, show min (i + 1) nx = i + 1 from by omega] at h
                exact h
              have HC2 : Hid (Cp (ctA p) (tby A ++ tby E) (i + 1) n2) := hc2
              have e1 : (n2 : Int) ≤ (A ++ E).size := by rw [hsAE]; omega
              have e2 : (0 : Int) ≤ n2 := by omega
              have HSZ : Hid ((A ++ E).size = LA) := hsAE
              subst hgX
              clear hxi hfx hdx hc2 hn2 hTb hTs hsAE HC
              go_upto_region 35 with fail
              have k0 : wr.cell? ⟨gq, 0, none⟩ = some (.int .i64 (p.B : Int)) := by rw [HW.out.pl.cell]; rfl
              have k1 : wr.cell? ⟨gq, 1, none⟩ = some (.int .i64 (p.F : Int)) := by rw [HW.out.pl.cell]; rfl
              have k2 : wr.cell? ⟨gq, 2, none⟩ = some (.int .i64 (p.M : Int)) := by rw [HW.out.pl.cell]; rfl
              go_cut [22, 23] from 145 to 214 (fun x y wx => ∃ a c, x = .slice a (i + 1) c ∧ y = .int .i64 0 ∧ Hid (CkL wx a (X.take (i + 1)) ∧ SB w p gq (some ⟨gX, 0, none⟩) aY X Y wx))
              case first =>
                go_region_with (go_at_call 10; refine (HZ.out _).mono ?_; rintro e w6 ⟨aZ, cZ, rfl, kZ, b6⟩)
                all_goals
                  go_wp2_with fail
                  go_meet
                  have hA := (Below.refl wr.heap.size wr).drew.trans b6
                  exact ⟨aZ, cZ, rfl, rfl, kZ, HW.out.next hA⟩
              case rest =>
                obtain ⟨aZ, cZ, rfl, rfl, HZ2⟩ := hcut
                have hni : (((i + 1 : Nat) : Int) != (i : Int) + 1) = false := by simp
                clear HZ HW k0 k1 k2 x1 x2 HSZ
                go_wp2_with fail
                go_loopw [24] (fun x wr => ∃ k : Nat, k ≤ i + 1 ∧ x = .int .i64 (k : Int) ∧ Hid (CkL wr aZ (X.take (i + 1)) ∧ SB w p gq (some ⟨gX, 0, none⟩) aY X Y wr)) (fun x _ => i + 1 - (intOf x).toNat)
                case atStart => exact ⟨0, Nat.zero_le _, rfl, HZ2.out⟩
                case round =>
                  clear HZ2
                  obtain ⟨k, hk, rfl, HW⟩ := hrel
                  by_cases hki : k ≤ i
                  · have hkz : (k : Int) ≤ i := by omega
                    have hk0 : (0 : Int) ≤ k := by omega
                    have hki1 : (k : Int) < ((i + 1 : Nat) : Int) := by omega
                    have hkn : (k : Int) < (nx : Nat) := by omega
                    obtain ⟨x, hx⟩ : ∃ x, X[k]? = some x := ⟨_, List.getElem?_eq_getElem (by rw [HX.out.2.1]; omega)⟩
                    obtain ⟨gX2, hg2, _, x1, x2⟩ := HW.out.2.kx k x hx
                    cases hg2
                    obtain ⟨gZ, rfl, _, z1, z2⟩ := HW.out.1 k x (by rw [List.getElem?_take, if_pos (by omega)]; exact hx)
                    obtain ⟨q, hq⟩ : ∃ q, x.1 = q := ⟨_, rfl⟩
                    obtain ⟨v, hv⟩ : ∃ q, x.2 = q := ⟨_, rfl⟩
                    rw [hq] at x1 z1
                    rw [hv] at x2 z2
                    have hqq : ((q : Int) != q) = false := by simp
                    have hvv : ((v : Int) != v) = false := by simp
                    clear hx hq hv
                    by_cases hkl : k < i
                    · have g1 : (k : Int) < i := by omega
                      have g2 : decide (k < i) = true := by simp; omega
                      have g3 : decide ((k : Int) < (i : Int)) = true := by simp; omega
                      go_wp2
                      go_quiet (fail)
                      go_wp2
                      go_roundw
                      case rel => exact ⟨k + 1, by omega, by go_num, HW.out.1.below (below_drewN (Below.refl _ _) _), HW.out.2.next (below_drewN (Below.refl _ _) _)⟩
                      case measure => simp [intOf]; omega
                    · have g1 : ¬ (k : Int) < i := by omega
                      have g2 : decide (k < i) = false := by simp; omega
                      have g3 : decide ((k : Int) < (i : Int)) = false := by simp; omega
                      go_wp2
                      go_quiet (fail)
                      go_wp2
                      go_roundw
                      case rel => exact ⟨k + 1, by omega, by go_num, HW.out.1.below (below_drewN (Below.refl _ _) _), HW.out.2.next (below_drewN (Below.refl _ _) _)⟩
                      case measure => simp [intOf]; omega
                  · have hkz : ¬ (k : Int) ≤ i := by omega
                    go_wp2
                    go_roundw
                    case rel => exact ⟨n2, i + 1, hlx, by omega, by omega, rfl, by go_num, HC2.out, HW.out.2⟩
                    case measure => simp [intOf]; omega
            · have h4z : ¬ (i : Int) < 40 := by omega
              go_wp2
              go_ret
              exact ⟨rfl, HW.out.bel⟩
          · have hiz : ¬ (i : Int) < (nx : Nat) := by omega
            go_wp2
            go_ret
            exact ⟨rfl, HW.out.bel⟩
end Go.Proofs.Ytdinhnpobdfnoaa
