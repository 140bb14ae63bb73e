/- attrs.areXattrs, Check. -/
import Derived.Test.YtjnijcmalnckcaaDoorI1
import Derived.Test.YtjnijcmalnckcaaDoorM0
namespace Go.Proofs.YtjnijcmalnckcaaDoor
open Go.RowKit
set_option linter.unusedSimpArgs false
set_option linter.unusedVariables false
theorem xB_yes {x : ByteArray × ByteArray} (h1 : rnE x.1.data.toList = 0) (h2 : x.2.size ≤ 4096) : xB x = true := by unfold xB; rw [decide_eq_true h1, decide_eq_true h2]; rfl
theorem xB_nm {x : ByteArray × ByteArray} (h1 : rnE x.1.data.toList ≠ 0) : xB x = false := by unfold xB; rw [decide_eq_false h1]; rfl
theorem xB_vl {x : ByteArray × ByteArray} (h1 : ¬ x.2.size ≤ 4096) : xB x = false := by unfold xB; rw [decide_eq_false h1, Bool.and_false]
set_option maxHeartbeats 2000000 in
set_option maxRecDepth 100000 in
theorem areX_any (ad : Option Addr) (c n : Nat) (xs : List (ByteArray × ByteArray)) (w : World) (hX : XaL w ad xs) (hl : xs.length = n) (hn : n ≤ 4611686018427387904) (hT : U8 w) :
    Calls Tryd.prog 43 #[.slice ad n c] w fun e w' => e = .returned (.bool (xsB xs)) ∧ Below w.heap.size w w' := by
  have HX : Hid (XaL w ad xs) := hX
  have HT : Hid (U8 w) := hT
  have HL : Hid (xs.length = n) := hl
  clear hX hT
  by_cases h16 : n ≤ 16
  · have h16z : ¬ (16 : Int) < n := by omega
    clear hl
    go_enter Tryd.func43, Tryd.ntmps43
    go_wp2
    go_loopw [10] (fun v wr => ∃ k : Nat, v = .int .i64 k ∧ k ≤ n ∧ Hid (Below w.heap.size w wr) ∧ Hid (∀ i, i < k → xAt xs i = true)) (fun v _ => n - (intOf v).toNat)
    case atStart => exact ⟨0, rfl, Nat.zero_le _, Below.refl _ _, fun i hi => by omega⟩
    case round =>
      obtain ⟨k, rfl, hk, HB, HE⟩ := hrel
      by_cases hlt : k < n
      · have hkz : (k : Int) < (n : Nat) := by omega
        obtain ⟨x, hx⟩ : ∃ x, xs[k]? = some x := ⟨xs[k]'(by rw [HL.out]; exact hlt), List.getElem?_eq_getElem _⟩
        obtain ⟨g, o, rfl, hg, hc1, hc2, hs1, hs2⟩ := HX.out.below HB.out k x hx
        have HY : Hid (0 < k → ∃ y, xs[k - 1]? = some y ∧ wr.cell? ⟨g, o + (k - 1) * 2, none⟩ = some (.string y.1)) := fun h0 => by
          obtain ⟨y, hy⟩ : ∃ y, xs[k - 1]? = some y := ⟨xs[k - 1]'(by rw [HL.out]; omega), List.getElem?_eq_getElem _⟩
          obtain ⟨g', o', e, _, hc, _⟩ := HX.out.below HB.out (k - 1) y hy
          cases e
          exact ⟨y, hy, hc⟩
        obtain ⟨x1, x2⟩ := x
        simp only at hc1 hc2 hs1 hs2
        have H1 : Hid (xs[k]? = some (x1, x2)) := hx
        have HCK : Hid (∀ u, Below wr.heap.size wr u → Calls Tryd.prog 61 #[.string x1] u fun e w' => e = .returned (.int .i64 (rnE x1.data.toList)) ∧ Below u.heap.size u w') := fun u hu => check_any x1 u (by omega) ((HT.out.below HB.out).below hu)
        obtain ⟨r, hr⟩ : ∃ r, rnE x1.data.toList = r := ⟨_, rfl⟩
        rw [hr] at HCK
        have HR : Hid (rnE x1.data.toList = r) := hr
        have hgs : w.heap.size ≤ wr.heap.size := HB.out.size
        clear hx hr
        by_cases hr0 : r = 0
        · subst hr0
          by_cases hv : (x2.size : Int) ≤ 4096
          · have hvz : ¬ (4096 : Int) < x2.size := by omega
            have HXB : Hid (xB (x1, x2) = true) := xB_yes HR.out (by show x2.size ≤ 4096; omega)
            by_cases hk0 : 0 < k
            · obtain ⟨y, hy, hyc⟩ := HY.out hk0
              obtain ⟨y1, y2⟩ := y
              have HYY : Hid (xs[k - 1]? = some (y1, y2)) := hy
              simp only at hyc
              have hk0z : (0 : Int) < k := by omega
              have hkm : ((k : Int) - 1).toNat = k - 1 := by omega
              obtain ⟨q, hq⟩ : ∃ q, Op.bytesLess y1.toList x1.toList = q := ⟨_, rfl⟩
              have HLS : Hid (∀ u, Calls Tryd.prog 62 #[.string y1, .string x1] u fun e w' => e = .returned (.bool q) ∧ w' = u) := fun u => hq ▸ less4 y1 x1 u
              have HQ : Hid (xAt xs k = q) := by rw [xAt_two hk0 H1.out HYY.out HXB.out]; exact hq
              clear hy hq HY
              go_wp2_with fail
              refine (HCK.out _ ((Below.refl _ _).alloc (Nat.le_refl _) _)).mono ?_
              rintro e w1 ⟨rfl, hb⟩
              have HB1 : Hid (Below wr.heap.size wr w1) := ((Below.refl _ _).alloc (Nat.le_refl _) _).trans (hb.mono (by simp))
              have hc3 : w1.cell? ⟨wr.heap.size, 1, none⟩ = some (.string x2) := by
                rw [hb.cell (p := ⟨wr.heap.size, 1, none⟩) (by simp)]
                rw [World.cell?_alloc_new]; rfl
              have hc4 : w1.cell? ⟨wr.heap.size, 0, none⟩ = some (.string x1) := by
                rw [hb.cell (p := ⟨wr.heap.size, 0, none⟩) (by simp)]
                rw [World.cell?_alloc_new]; rfl
              have hc5 : w1.cell? ⟨g, o + (k - 1) * 2, none⟩ = some (.string y1) := by
                rw [HB1.out.cell (p := ⟨g, o + (k - 1) * 2, none⟩) hg]; exact hyc
              have hg1 : g < w1.heap.size := Nat.lt_of_lt_of_le hg HB1.out.size
              clear hb
              cases q with
              | true =>
                go_wp2
                go_quiet (first | (go_at_call 62; refine Calls.quiet_of_same (HLS.out _)) | fail)
                go_wp2
                go_roundw
                case rel => exact ⟨k + 1, by go_num, by omega, below_drewN (HB.out.trans (HB1.out.mono hgs)) _, fun i hi => by
                  by_cases hik : i < k
                  · exact HE.out i hik
                  · obtain rfl : i = k := by omega
                    exact HQ.out⟩
                case measure => simp [intOf]; omega
              | false =>
                go_wp2
                go_quiet (first | (go_at_call 62; refine Calls.quiet_of_same (HLS.out _)) | fail)
                go_wp2
                go_ret
                exact ⟨retB (xsB_no (by rw [HL.out]; exact hlt) HQ.out).symm, below_drewN (HB.out.trans (HB1.out.mono hgs)) _⟩
            · have hk0z : ¬ (0 : Int) < k := by omega
              go_wp2_with fail
              refine (HCK.out _ ((Below.refl _ _).alloc (Nat.le_refl _) _)).mono ?_
              rintro e w1 ⟨rfl, hb⟩
              have HB1 : Hid (Below wr.heap.size wr w1) := ((Below.refl _ _).alloc (Nat.le_refl _) _).trans (hb.mono (by simp))
              have hc3 : w1.cell? ⟨wr.heap.size, 1, none⟩ = some (.string x2) := by
                rw [hb.cell (p := ⟨wr.heap.size, 1, none⟩) (by simp)]
                rw [World.cell?_alloc_new]; rfl
              clear hb
              go_wp2
              go_quiet (fail)
              go_wp2
              go_roundw
              case rel => exact ⟨k + 1, by go_num, by omega, below_drewN (HB.out.trans (HB1.out.mono hgs)) _, fun i hi => by
                obtain rfl : i = 0 := by omega
                obtain rfl : k = 0 := by omega
                exact xAt_zero H1.out HXB.out⟩
              case measure => simp [intOf]; omega
          · have hvz : (4096 : Int) < x2.size := by omega
            have HXB : Hid (xB (x1, x2) = false) := xB_vl (by show ¬ x2.size ≤ 4096; omega)
            clear HY
            go_wp2_with fail
            refine (HCK.out _ ((Below.refl _ _).alloc (Nat.le_refl _) _)).mono ?_
            rintro e w1 ⟨rfl, hb⟩
            have HB1 : Hid (Below wr.heap.size wr w1) := ((Below.refl _ _).alloc (Nat.le_refl _) _).trans (hb.mono (by simp))
            have hc3 : w1.cell? ⟨wr.heap.size, 1, none⟩ = some (.string x2) := by
              rw [hb.cell (p := ⟨wr.heap.size, 1, none⟩) (by simp)]
              rw [World.cell?_alloc_new]; rfl
            clear hb
            go_wp2
            go_ret
            exact ⟨retB (xsB_no (by rw [HL.out]; exact hlt) (xAt_bad H1.out HXB.out)).symm, HB.out.trans (HB1.out.mono hgs)⟩
        · have hrz : ((r : Int) != 0) = true := by simp [hr0]
          have HXB : Hid (xB (x1, x2) = false) := xB_nm (by show ¬ _; rw [HR.out]; exact hr0)
          clear HY
          go_wp2_with fail
          refine (HCK.out _ ((Below.refl _ _).alloc (Nat.le_refl _) _)).mono ?_
          rintro e w1 ⟨rfl, hb⟩
          have HB1 : Hid (Below wr.heap.size wr w1) := ((Below.refl _ _).alloc (Nat.le_refl _) _).trans (hb.mono (by simp))
          clear hb
          go_wp2
          go_ret
          exact ⟨retB (xsB_no (by rw [HL.out]; exact hlt) (xAt_bad H1.out HXB.out)).symm, HB.out.trans (HB1.out.mono hgs)⟩
      · have hkz : ¬ (k : Int) < (n : Nat) := by omega
        go_wp2
        go_ret
        exact ⟨retB (xsB_yes (by rw [HL.out]; exact h16) fun i hi => HE.out i (by rw [HL.out] at hi; omega)).symm, HB.out⟩
  · have h16z : (16 : Int) < n := by omega
    have hx : xsB xs = false := by unfold xsB; rw [decide_eq_false (by omega)]; rfl
    rw [hx]
    go_enter Tryd.func43, Tryd.ntmps43
    go_wp2
    go_ret
    exact ⟨rfl, Below.refl _ _⟩
end Go.Proofs.YtjnijcmalnckcaaDoor
