/- The document's Under. -/
import Derived.Test.YtmkmhbbpbpkdjaaDoorN13
namespace Go.Proofs.YtmkmhbbpbpkdjaaDoor
open Go.RowKit
set_option linter.unusedSimpArgs false
set_option linter.unusedVariables false
set_option maxHeartbeats 1000000 in
set_option maxRecDepth 100000 in
theorem rUnder_any (s t : ByteArray) (w : World) (hs : s.size ≤ 140737488351232) (ht : t.size ≤ 140737488351232) (hT : U8 w) :
    Calls Tryd.prog 26 #[.string s, .string t] w fun e w' => e = .returned (.tuple #[.bool (unB s.data.toList t.data.toList), .int .i64 (unE s.data.toList t.data.toList)]) ∧ Below w.heap.size w w' := by
  have C1 : Hid (∀ W, U8 W → Calls Tryd.prog 24 #[.string s] W fun e w' => ∃ a c, e = .returned (.tuple #[.slice a (pthX s.data.toList).length c, .int .i64 (pthE s.data.toList)]) ∧ LieL w' a (pthX s.data.toList) ∧ Below W.heap.size W w') := fun W hW =>
    rSplit_any s W hs hW
  have C2 : Hid (∀ W, U8 W → Calls Tryd.prog 24 #[.string t] W fun e w' => ∃ a c, e = .returned (.tuple #[.slice a (pthX t.data.toList).length c, .int .i64 (pthE t.data.toList)]) ∧ LieL w' a (pthX t.data.toList) ∧ Below W.heap.size W w') := fun W hW =>
    rSplit_any t W ht hW
  have HT : Hid (U8 w) := hT
  have hx16 := pthX_len s.data.toList
  have hy16 := pthX_len t.data.toList
  have h1 := pthE_cases s.data.toList
  have h2 := pthE_cases t.data.toList
  have hb : unB s.data.toList t.data.toList = (decide (pthE s.data.toList = 0 ∧ pthE t.data.toList = 0) && longer (pthX s.data.toList) (pthX t.data.toList)) := rfl
  have he : unE s.data.toList t.data.toList = if pthE s.data.toList = 0 then pthE t.data.toList else 10 := rfl
  rw [hb, he]
  clear hb he hT
  obtain ⟨xs, hxs⟩ : ∃ xs, pthX s.data.toList = xs := ⟨_, rfl⟩
  obtain ⟨ys, hys⟩ : ∃ ys, pthX t.data.toList = ys := ⟨_, rfl⟩
  obtain ⟨E1, hE1⟩ : ∃ E, pthE s.data.toList = E := ⟨_, rfl⟩
  obtain ⟨E2, hE2⟩ : ∃ E, pthE t.data.toList = E := ⟨_, rfl⟩
  rw [hxs, hE1] at C1
  rw [hys, hE2] at C2
  rw [hxs] at hx16
  rw [hys] at hy16
  rw [hxs, hys, hE1, hE2]
  rw [hE1] at h1
  rw [hE2] at h2
  clear hxs hys hE1 hE2
  rcases h1 with rfl | rfl
  · rcases h2 with rfl | rfl
    · by_cases hlen : xs.length ≤ ys.length
      · have hlz : (xs.length : Int) ≤ (ys.length : Nat) := by omega
        have hl0 : longer xs ys = false := by simp [longer]; omega
        rw [hl0]
        clear hl0
        go_enter Tryd.func26, Tryd.ntmps26
        go_wp2_with fail
        refine (C1.out w HT.out).mono ?_
        rintro e w1 ⟨a, c, rfl, hl1, hb1⟩
        have H1 : Hid (LieL w1 a xs ∧ Below w.heap.size w w1) := ⟨hl1, hb1⟩
        clear hl1 hb1
        go_wp2_with fail
        refine (C2.out w1 (HT.out.below H1.out.2)).mono ?_
        rintro e w2 ⟨a2, c2, rfl, hl2, hb2⟩
        have H2 : Hid (Below w.heap.size w w2) := H1.out.2.trans (hb2.mono H1.out.2.size)
        clear hl2 hb2
        go_wp2
        go_ret2
        exact ⟨rfl, H2.out⟩
      · have hlz : ¬ (xs.length : Int) ≤ (ys.length : Nat) := by omega
        obtain ⟨q, hq⟩ : ∃ q, longer xs ys = q := ⟨_, rfl⟩
        rw [hq]
        have HQ : Hid (longer xs ys = q) := hq
        clear hq
        go_enter Tryd.func26, Tryd.ntmps26
        go_wp2_with fail
        refine (C1.out w HT.out).mono ?_
        rintro e w1 ⟨a, c, rfl, hl1, hb1⟩
        have H1 : Hid (LieL w1 a xs ∧ Below w.heap.size w w1) := ⟨hl1, hb1⟩
        clear hl1 hb1
        go_wp2_with fail
        refine (C2.out w1 (HT.out.below H1.out.2)).mono ?_
        rintro e w2 ⟨a2, c2, rfl, hl2, hb2⟩
        have H2 : Hid (LieL w2 a xs ∧ LieL w2 a2 ys ∧ Below w.heap.size w w2) := ⟨H1.out.1.below hb2, hl2, H1.out.2.trans (hb2.mono H1.out.2.size)⟩
        clear hl2 hb2 H1 C1 C2
        go_wp2
        go_loopw [10] (fun v wr => ∃ k : Nat, v = .int .i64 k ∧ k ≤ ys.length ∧ Hid (Below w2.heap.size w2 wr) ∧ Hid (∀ i, i < k → xs[i]? = ys[i]?)) (fun v _ => ys.length - (intOf v).toNat)
        case atStart => exact ⟨0, rfl, Nat.zero_le _, Below.refl _ _, fun i hi => by omega⟩
        case round =>
          obtain ⟨k, rfl, hk, HBr, HE⟩ := hrel
          have HW : Hid (Below w.heap.size w wr) := H2.out.2.2.trans (HBr.out.mono H2.out.2.2.size)
          by_cases hlt : k < ys.length
          · obtain ⟨x, hx⟩ : ∃ x, xs[k]? = some x := ⟨xs[k]'(by omega), List.getElem?_eq_getElem _⟩
            obtain ⟨y, hy⟩ : ∃ y, ys[k]? = some y := ⟨ys[k], List.getElem?_eq_getElem hlt⟩
            obtain ⟨g, o, rfl, hg, hc⟩ := H2.out.1.below HBr.out k x hx
            obtain ⟨g2, o2, rfl, hg2, hc2⟩ := H2.out.2.1.below HBr.out k y hy
            have HXY : Hid (xs[k]? = some x ∧ ys[k]? = some y) := ⟨hx, hy⟩
            clear hx hy
            have hkz : (k : Int) < (ys.length : Nat) := by omega
            have hkz2 : (k : Int) < (xs.length : Nat) := by omega
            by_cases he : x = y
            · subst he
              go_wp2
              go_quiet (fail)
              go_wp2
              go_roundw
              case rel =>
                refine ⟨k + 1, by go_num, by omega, below_drewNv HBr.out _, fun i hi => ?_⟩
                by_cases hik : i < k
                · exact HE.out i hik
                · obtain rfl : i = k := by omega
                  rw [HXY.out.1, HXY.out.2]
              case measure => simp [intOf] <;> omega
            · have hbn := str_bne x y
              simp only [he, decide_false, Bool.not_false] at hbn
              have hbe : (x.toList == y.toList) = false := by simpa [bne] using hbn
              go_wp2
              go_quiet (fail)
              go_wp2
              go_ret2
              have : q = false := by
                rw [← HQ.out]
                simp only [longer, decide_eq_false_iff_not]
                intro h
                have := h.2 k hlt
                rw [HXY.out.1, HXY.out.2] at this
                exact he (Option.some.inj this)
              subst this
              exact ⟨rfl, below_drewNv HW.out _⟩
          · go_wp2
            go_ret2
            have : q = true := by
              rw [← HQ.out]
              simp only [longer, decide_eq_true_eq]
              exact ⟨by omega, fun i hi => HE.out i (by omega)⟩
            subst this
            exact ⟨rfl, HW.out⟩
    · go_enter Tryd.func26, Tryd.ntmps26
      go_wp2_with fail
      refine (C1.out w HT.out).mono ?_
      rintro e w1 ⟨a, c, rfl, hl1, hb1⟩
      have H1 : Hid (Below w.heap.size w w1) := hb1
      clear hl1 hb1
      go_wp2_with fail
      refine (C2.out w1 (HT.out.below H1.out)).mono ?_
      rintro e w2 ⟨a2, c2, rfl, hl2, hb2⟩
      have H2 : Hid (Below w.heap.size w w2) := H1.out.trans (hb2.mono H1.out.size)
      clear hl2 hb2
      go_wp2
      go_ret2
      exact ⟨rfl, H2.out⟩
  · go_enter Tryd.func26, Tryd.ntmps26
    go_wp2_with fail
    refine (C1.out w HT.out).mono ?_
    rintro e w1 ⟨a, c, rfl, hl1, hb1⟩
    have H1 : Hid (Below w.heap.size w w1) := hb1
    clear hl1 hb1
    go_wp2_with fail
    refine (C2.out w1 (HT.out.below H1.out)).mono ?_
    rintro e w2 ⟨a2, c2, rfl, hl2, hb2⟩
    have H2 : Hid (Below w.heap.size w w2) := H1.out.trans (hb2.mono H1.out.size)
    clear hl2 hb2
    go_wp2
    go_ret2
    exact ⟨rfl, H2.out⟩
end Go.Proofs.YtmkmhbbpbpkdjaaDoor
