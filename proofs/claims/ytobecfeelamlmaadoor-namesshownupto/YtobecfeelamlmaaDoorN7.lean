/- The law's own same and awake. -/
import Derived.Test.YtobecfeelamlmaaDoorN6
import Derived.Test.YtobecfeelamlmaaDoorN3
import Derived.BigQuiet
namespace Go.Proofs.YtobecfeelamlmaaDoor
open Go.RowKit
set_option linter.unusedSimpArgs false
set_option linter.unusedVariables false
theorem str_bne (x y : ByteArray) : (x.toList != y.toList) = !decide (x = y) := by
  rw [Lib.toList_data, Lib.toList_data]
  by_cases h : x = y
  · subst h; simp
  · have : x.data.toList ≠ y.data.toList := fun e => h (by rw [← mkB_of x, ← mkB_of y, e])
    simp [h, this]
set_option maxHeartbeats 1000000 in
set_option maxRecDepth 100000 in
theorem same_any (a b : Option Addr) (ca cb : Nat) (xs ys : List ByteArray) (w : World) (hx : LieL w a xs) (hy : LieL w b ys) (nx : xs.length ≤ 4611686018427387904) (ny : ys.length ≤ 4611686018427387904) :
    Calls Tryd.prog 14 #[.slice a xs.length ca, .slice b ys.length cb] w fun e w' => e = .returned (.bool (decide (xs = ys))) ∧ Below w.heap.size w w' := by
  have HX : Hid (LieL w a xs) := hx
  have HY : Hid (LieL w b ys) := hy
  clear hx hy
  by_cases hl : xs.length = ys.length
  · obtain ⟨n, hn⟩ : ∃ n, xs.length = n := ⟨_, rfl⟩
    have hn2 : ys.length = n := by omega
    have HL : Hid (xs.length = n ∧ ys.length = n) := ⟨hn, hn2⟩
    rw [hn, hn2]
    have hnn : n ≤ 4611686018427387904 := by omega
    clear hn hn2 hl nx ny
    go_enter Tryd.func14, Tryd.ntmps14
    go_wp2
    go_loopw [5] (fun v wr => ∃ k : Nat, v = .int .i64 k ∧ k ≤ n ∧ Hid (Below w.heap.size w wr) ∧ Hid (∀ i, i < k → xs[i]? = ys[i]?)) (fun v _ => n - (intOf v).toNat)
    case atStart => exact ⟨0, rfl, Nat.zero_le _, Below.refl _ _, fun i hi => by omega⟩
    case round =>
      obtain ⟨k, rfl, hk, HB, HE⟩ := hrel
      by_cases hlt : k < n
      · obtain ⟨x, hx⟩ : ∃ x, xs[k]? = some x := ⟨xs[k]'(by rw [HL.out.1]; exact hlt), List.getElem?_eq_getElem _⟩
        obtain ⟨y, hy⟩ : ∃ y, ys[k]? = some y := ⟨ys[k]'(by rw [HL.out.2]; exact hlt), List.getElem?_eq_getElem _⟩
        obtain ⟨g, o, rfl, hg, hc⟩ := HX.out.below HB.out k x hx
        obtain ⟨g2, o2, rfl, hg2, hc2⟩ := HY.out.below HB.out k y hy
        have H1 : Hid (xs[k]? = some x ∧ ys[k]? = some y) := ⟨hx, hy⟩
        clear hx hy
        have hkz : (k : Int) < (n : Nat) := by omega
        have hbn := str_bne x y
        by_cases he : x = y
        · subst he
          simp only [decide_true, Bool.not_true] at hbn
          go_wp2
          go_quiet (fail)
          go_wp2
          go_roundw
          case rel =>
            refine ⟨k + 1, by go_num, by omega, below_drewNv HB.out _, fun i hi => ?_⟩
            by_cases hik : i < k
            · exact HE.out i hik
            · obtain rfl : i = k := by omega
              rw [H1.out.1, H1.out.2]
          case measure => simp [intOf]; omega
        · simp only [he, decide_false, Bool.not_false] at hbn
          have hbe : (x.toList == y.toList) = false := by simpa [bne] using hbn
          go_wp2
          go_quiet (fail)
          go_wp2
          go_ret
          refine ⟨?_, below_drewNv HB.out _⟩
          have : decide (xs = ys) = false := decide_eq_false fun e => he (by
            have := H1.out
            rw [e] at this
            exact Option.some.inj (this.1.symm.trans this.2))
          rw [this]; rfl
      · go_wp2
        go_ret
        refine ⟨?_, HB.out⟩
        have : decide (xs = ys) = true := decide_eq_true (List.ext_getElem? fun i => by
          by_cases hi : i < n
          · exact HE.out i (by omega)
          · rw [List.getElem?_eq_none (by rw [HL.out.1]; omega), List.getElem?_eq_none (by rw [HL.out.2]; omega)])
        rw [this]; rfl
  · have hz : ((xs.length : Int) != (ys.length : Int)) = true := by simp; omega
    have hd : decide (xs = ys) = false := decide_eq_false fun e => hl (by rw [e])
    rw [hd]
    clear hd HX HY
    go_enter Tryd.func14, Tryd.ntmps14
    go_wp2
    go_ret
    exact ⟨rfl, Below.refl _ _⟩
theorem pth_ab : pthX [47, 97, 47, 98] = [mkB [97], mkB [98]] ∧ pthE [47, 97, 47, 98] = 0 := by decide +kernel
theorem like_ae : like [97, 63, 42] [97, 233] = true := by
  rw [like_one _ _ _ _ (by decide), like_one _ _ _ _ (by decide), like_star_nil, like_nil]; rfl
theorem mt_ae : mtB [97, 63, 42] [97, 195, 169] = true ∧ mtE [97, 63, 42] [97, 195, 169] = 0 := by
  have h1 : wholeB [97, 63, 42] = true := by decide +kernel
  have h2 : okN [97, 195, 169] = true := by decide +kernel
  have h3 : rn [97, 63, 42] = [97, 63, 42] := by decide +kernel
  have h4 : rn [97, 195, 169] = [97, 233] := by decide +kernel
  unfold mtB mtE rnE
  rw [h1, h2, h3, h4, like_ae]
  exact ⟨rfl, rfl⟩
theorem spl_lie {w w' : World} {xs : List ByteArray} {a : Option Addr} {c : Nat} (h : Spl w xs a c w') : LieL w' a xs ∧ xs.length ≤ c := by
  by_cases hx : xs = []
  · subst hx; exact ⟨fun i x hx => by simp at hx, Nat.zero_le _⟩
  · obtain ⟨rfl, hc, hb⟩ := h.row hx
    refine ⟨fun i x hi => ⟨w.heap.size, 0, rfl, (Array.getElem?_eq_some_iff.1 hb).1, ?_⟩, hc⟩
    have hil : i < xs.length := (List.getElem?_eq_some_iff.1 hi).1
    have : (Lib.cellsOf xs c)[i]? = some (.string x) := by
      simp only [Lib.cellsOf, List.getElem?_toArray]
      rw [List.getElem?_append_left (by simpa using hil), List.getElem?_map, hi]
      rfl
    simp only [World.cell?, hb, Nat.zero_add]
    exact this
set_option maxHeartbeats 1000000 in
set_option maxRecDepth 100000 in
theorem awake4 (w : World) (hT : U8 w) :
    Calls Tryd.prog 11 #[] w fun e w' => e = .returned (.bool true) ∧ Below w.heap.size w w' := by
  have HT : Hid (U8 w) := hT
  have hsp := split_any ⟨#[47, 97, 47, 98]⟩ w (by decide) hT
  rw [show (⟨#[47, 97, 47, 98]⟩ : ByteArray).data.toList = [47, 97, 47, 98] from rfl, pth_ab.1, pth_ab.2] at hsp
  have hmt : ∀ w1, U8 w1 → Calls Tryd.prog 7 #[.string ⟨#[97, 63, 42]⟩, .string ⟨#[97, 195, 169]⟩] w1 fun e w' => e = .returned (.tuple #[.bool true, .int .i64 0]) ∧ Below w1.heap.size w1 w' := fun w1 h1 => by
    have := match_any ⟨#[97, 63, 42]⟩ ⟨#[97, 195, 169]⟩ w1 (by decide) (by decide) h1
    rw [show (⟨#[97, 63, 42]⟩ : ByteArray).data.toList = [97, 63, 42] from rfl, show (⟨#[97, 195, 169]⟩ : ByteArray).data.toList = [97, 195, 169] from rfl, mt_ae.1, mt_ae.2] at this
    exact this
  have HMT : Hid (∀ w1, U8 w1 → Calls Tryd.prog 7 #[.string ⟨#[97, 63, 42]⟩, .string ⟨#[97, 195, 169]⟩] w1 fun e w' => e = .returned (.tuple #[.bool true, .int .i64 0]) ∧ Below w1.heap.size w1 w') := hmt
  clear hT hmt
  go_enter Tryd.func11, Tryd.ntmps11
  go_wp2_with (first
    | (go_at_call 13; refine hsp.mono ?_; rintro e w1 ⟨a, c, rfl, h1⟩; have H1 : Hid (Spl w [mkB [97], mkB [98]] a c w1) := h1; clear h1)
    | (go_at_call 7; refine (HMT.out w1 (HT.out.below H1.out.below)).mono ?_; rintro e w2 ⟨rfl, hb⟩; have HB2 : Hid (Below w1.heap.size w1 w2) := hb; clear hb)
    | fail)
  have hL := (spl_lie H1.out).1
  have hb3 : Below w2.heap.size w2 (w2.alloc (.cells #[.string ⟨#[97]⟩, .string ⟨#[98]⟩] 9)) := (Below.refl _ w2).alloc (Nat.le_refl _) _
  have h4 := same_any a (some ⟨w2.heap.size, 0, none⟩) c 2 [mkB [97], mkB [98]] [mkB [97], mkB [98]] _ ((hL.below HB2.out).below hb3) (by
    intro i x hx
    refine ⟨w2.heap.size, 0, rfl, by simp, ?_⟩
    rw [Nat.zero_add, World.cell?_alloc_new]
    match i, hx with
    | 0, hx => simp at hx; subst hx; rfl
    | 1, hx => simp at hx; subst hx; rfl
    | i + 2, hx => simp at hx) (by decide) (by decide)
  have hdt : decide ([mkB [97], mkB [98]] = [mkB [97], mkB [98]]) = true := decide_eq_true rfl
  rw [hdt] at h4
  clear hdt
  refine h4.mono ?_
  rintro e w4 ⟨rfl, hb4⟩
  have HB4 : Hid (Below w2.heap.size w2 w4) := hb3.trans (hb4.mono (by simp))
  clear h4 hb4 hb3 hL
  go_wp2
  go_ret
  exact ⟨rfl, H1.out.below.trans ((HB2.out.trans (HB4.out.mono HB2.out.size)).mono H1.out.below.size)⟩
end Go.Proofs.YtobecfeelamlmaaDoor
