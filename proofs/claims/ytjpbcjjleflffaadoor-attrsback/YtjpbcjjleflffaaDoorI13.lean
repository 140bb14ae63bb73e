/- slices.Equal of extended attributes; attrs.Same. -/
import Derived.Test.YtjpbcjjleflffaaDoorI6
import Derived.BigQuiet
namespace Go.Proofs.YtjpbcjjleflffaaDoor
open Go.RowKit
set_option linter.unusedSimpArgs false
set_option linter.unusedVariables false
theorem toL_eq (x y : ByteArray) : (x.toList == y.toList) = decide (x = y) := by
  rw [Lib.toList_data, Lib.toList_data]
  by_cases h : x = y
  · subst h; simp
  · rw [decide_eq_false h]
    simp only [beq_eq_false_iff_ne, ne_eq]
    intro e
    exact h (bl_inj e)
set_option maxHeartbeats 2000000 in
set_option maxRecDepth 100000 in
theorem equal10 (a b : Option Addr) (ca cb : Nat) (xs ys : List (ByteArray × ByteArray)) (w : World) (hx : XaL w a xs) (hy : XaL w b ys) (nx : xs.length ≤ 4611686018427387904) (ny : ys.length ≤ 4611686018427387904) :
    Calls Tryd.prog 45 #[.slice a xs.length ca, .slice b ys.length cb] w fun e w' => e = .returned (.bool (decide (xs = ys))) ∧ Below w.heap.size w w' := by
  have HX : Hid (XaL w a xs) := hx
  have HY : Hid (XaL w b ys) := hy
  clear hx hy
  by_cases hl : xs.length = ys.length
  · obtain ⟨n, hn⟩ : ∃ n, xs.length = n := ⟨_, rfl⟩
    have hn2 : ys.length = n := by omega
    have HL : Hid (xs.length = n ∧ ys.length = n) := ⟨hn, hn2⟩
    rw [hn, hn2]
    have hnn : n ≤ 4611686018427387904 := by omega
    clear hn hn2 hl nx ny
    go_enter Tryd.func45, Tryd.ntmps45
    go_wp2
    go_loopw [13] (fun v wr => ∃ k : Nat, v = .int .i64 k ∧ k ≤ n ∧ Hid (Below w.heap.size w wr) ∧ Hid (∀ i, i < k → xs[i]? = ys[i]?)) (fun v _ => n - (intOf v).toNat)
    case atStart => exact ⟨0, rfl, Nat.zero_le _, Below.refl _ _, fun i hi => by omega⟩
    case round =>
      obtain ⟨k, rfl, hk, HB, HE⟩ := hrel
      by_cases hlt : k < n
      · obtain ⟨x, hx⟩ : ∃ x, xs[k]? = some x := ⟨xs[k]'(by rw [HL.out.1]; exact hlt), List.getElem?_eq_getElem _⟩
        obtain ⟨y, hy⟩ : ∃ y, ys[k]? = some y := ⟨ys[k]'(by rw [HL.out.2]; exact hlt), List.getElem?_eq_getElem _⟩
        obtain ⟨g, o, rfl, hg, hc1, hc2, _, _⟩ := HX.out.below HB.out k x hx
        obtain ⟨g2, o2, rfl, hg2, hd1, hd2, _, _⟩ := HY.out.below HB.out k y hy
        obtain ⟨x1, x2⟩ := x
        obtain ⟨y1, y2⟩ := y
        simp only at hc1 hc2 hd1 hd2
        have H1 : Hid (xs[k]? = some (x1, x2) ∧ ys[k]? = some (y1, y2)) := ⟨hx, hy⟩
        clear hx hy
        have hkz : (k : Int) < (n : Nat) := by omega
        have t1 := toL_eq x1 y1
        have t2 := toL_eq x2 y2
        by_cases he : x1 = y1 ∧ x2 = y2
        · obtain ⟨rfl, rfl⟩ := he
          simp only [decide_true] at t1 t2
          go_wp2
          go_quiet (fail)
          go_wp2
          go_roundw
          case rel =>
            refine ⟨k + 1, by go_num, by omega, below_drewN HB.out _, fun i hi => ?_⟩
            by_cases hik : i < k
            · exact HE.out i hik
            · obtain rfl : i = k := by omega
              rw [H1.out.1, H1.out.2]
          case measure => simp [intOf]; omega
        · have hfin : Hid (decide (xs = ys) = false) := decide_eq_false fun e => he (by
            have := H1.out
            rw [e] at this
            have q := Option.some.inj (this.1.symm.trans this.2)
            exact ⟨congrArg Prod.fst q, congrArg Prod.snd q⟩)
          by_cases h1 : x1 = y1
          · subst h1
            have h2 : ¬ x2 = y2 := fun h => he ⟨rfl, h⟩
            simp only [decide_true] at t1
            simp only [h2, decide_false] at t2
            clear he
            go_wp2
            go_quiet (fail)
            go_wp2
            go_ret
            exact ⟨retB hfin.out.symm, below_drewN HB.out _⟩
          · simp only [h1, decide_false] at t1
            clear he
            go_wp2
            go_quiet (fail)
            go_wp2
            go_ret
            exact ⟨retB hfin.out.symm, below_drewN HB.out _⟩
      · have hkz : ¬ (k : Int) < (n : Nat) := by omega
        go_wp2
        go_ret
        refine ⟨retB (Eq.symm (decide_eq_true (List.ext_getElem? fun i => ?_))), HB.out⟩
        by_cases hi : i < n
        · exact HE.out i (by omega)
        · rw [List.getElem?_eq_none (by rw [HL.out.1]; omega), List.getElem?_eq_none (by rw [HL.out.2]; omega)]
  · have hz : ((xs.length : Int) != (ys.length : Int)) = true := by simp; omega
    have hd : decide (xs = ys) = false := decide_eq_false fun e => hl (by rw [e])
    rw [hd]
    clear hd HX HY
    go_enter Tryd.func45, Tryd.ntmps45
    go_wp2
    go_ret
    exact ⟨rfl, Below.refl _ _⟩
/-- Are two the same? -/
def smB (a b : At) : Bool := decide (a.nd = b.nd) && (decide (a.md = b.md) && (decide (a.ui = b.ui) && (decide (a.gi = b.gi) && (decide (a.mt = b.mt) && (decide (a.tg = b.tg) && decide (a.xs = b.xs))))))
theorem smB_iff (a b : At) : smB a b = true ↔ a = b := by
  unfold smB
  simp only [Bool.and_eq_true, decide_eq_true_eq]
  cases a; cases b
  simp
theorem smB_eq (a b : At) [Decidable (a = b)] : smB a b = decide (a = b) := by
  cases h : smB a b with
  | true => rw [decide_eq_true ((smB_iff a b).1 h)]
  | false =>
    rw [decide_eq_false fun e => ?_]
    have := (smB_iff a b).2 e
    rw [h] at this; cases this
set_option maxHeartbeats 8000000 in
set_option maxRecDepth 100000 in
theorem same10 (nd md ui gi : Nat) (mt : Int) (tg : ByteArray) (xs : List (ByteArray × ByteArray)) (ad : Option Addr) (c : Nat) (nd' md' ui' gi' : Nat) (mt' : Int) (tg' : ByteArray) (ys : List (ByteArray × ByteArray)) (bd : Option Addr) (d : Nat) (w : World)
    (hx : XaL w ad xs) (hy : XaL w bd ys) (nx : xs.length ≤ 4611686018427387904) (ny : ys.length ≤ 4611686018427387904) :
    Calls Tryd.prog 18 #[atV nd md ui gi mt tg (.slice ad xs.length c), atV nd' md' ui' gi' mt' tg' (.slice bd ys.length d)] w fun e w' => e = .returned (.bool (smB ⟨nd, md, ui, gi, mt, tg, xs⟩ ⟨nd', md', ui', gi', mt', tg', ys⟩)) ∧ Below w.heap.size w w' := by
  obtain ⟨b1, h1⟩ : ∃ q, decide (nd = nd') = q := ⟨_, rfl⟩
  obtain ⟨b2, h2⟩ : ∃ q, decide (md = md') = q := ⟨_, rfl⟩
  obtain ⟨b3, h3⟩ : ∃ q, decide (ui = ui') = q := ⟨_, rfl⟩
  obtain ⟨b4, h4⟩ : ∃ q, decide (gi = gi') = q := ⟨_, rfl⟩
  obtain ⟨b5, h5⟩ : ∃ q, decide (mt = mt') = q := ⟨_, rfl⟩
  obtain ⟨b6, h6⟩ : ∃ q, decide (tg = tg') = q := ⟨_, rfl⟩
  obtain ⟨b7, h7⟩ : ∃ q, decide (xs = ys) = q := ⟨_, rfl⟩
  have hE : smB ⟨nd, md, ui, gi, mt, tg, xs⟩ ⟨nd', md', ui', gi', mt', tg', ys⟩ = (b1 && (b2 && (b3 && (b4 && (b5 && (b6 && b7)))))) := by unfold smB; rw [h1, h2, h3, h4, h5, h6, h7]
  have z1 : ((nd : Int) == nd') = b1 := by rw [← h1]; rw [Bool.eq_iff_iff]; simp; omega
  have z2 : ((md : Int) == md') = b2 := by rw [← h2]; rw [Bool.eq_iff_iff]; simp; omega
  have z3 : ((ui : Int) == ui') = b3 := by rw [← h3]; rw [Bool.eq_iff_iff]; simp; omega
  have z4 : ((gi : Int) == gi') = b4 := by rw [← h4]; rw [Bool.eq_iff_iff]; simp; omega
  have z5 : (mt == mt') = b5 := by rw [← h5]; rw [Bool.eq_iff_iff]; simp
  have z6 : (tg.toList == tg'.toList) = b6 := by rw [toL_eq, h6]
  have C1 : Hid (∀ u, Below w.heap.size w u → Calls Tryd.prog 45 #[.slice ad xs.length c, .slice bd ys.length d] u fun e w' => e = .returned (.bool b7) ∧ Below u.heap.size u w') := fun u hu => h7 ▸ equal10 ad bd c d xs ys u (hx.below hu) (hy.below hu) nx ny
  rw [hE]
  clear hE h1 h2 h3 h4 h5 h6 h7 hx hy
  cases b1
  · go_enter Tryd.func18, Tryd.ntmps18
    go_wp2
    go_ret
    exact ⟨rfl, ((Below.refl _ _).alloc (Nat.le_refl _) _).alloc (by simp) _⟩
  cases b2
  · go_enter Tryd.func18, Tryd.ntmps18
    go_wp2
    go_ret
    exact ⟨rfl, ((Below.refl _ _).alloc (Nat.le_refl _) _).alloc (by simp) _⟩
  cases b3
  · go_enter Tryd.func18, Tryd.ntmps18
    go_wp2
    go_ret
    exact ⟨rfl, ((Below.refl _ _).alloc (Nat.le_refl _) _).alloc (by simp) _⟩
  cases b4
  · go_enter Tryd.func18, Tryd.ntmps18
    go_wp2
    go_ret
    exact ⟨rfl, ((Below.refl _ _).alloc (Nat.le_refl _) _).alloc (by simp) _⟩
  cases b5
  · go_enter Tryd.func18, Tryd.ntmps18
    go_wp2
    go_ret
    exact ⟨rfl, ((Below.refl _ _).alloc (Nat.le_refl _) _).alloc (by simp) _⟩
  cases b6
  · go_enter Tryd.func18, Tryd.ntmps18
    go_wp2
    go_ret
    exact ⟨rfl, ((Below.refl _ _).alloc (Nat.le_refl _) _).alloc (by simp) _⟩
  · go_enter Tryd.func18, Tryd.ntmps18
    go_wp2_with fail
    refine (C1.out _ (((Below.refl _ _).alloc (Nat.le_refl _) _).alloc (by simp) _)).mono ?_
    rintro e w1 ⟨rfl, hb⟩
    have HB : Hid (Below w.heap.size w w1) := (((Below.refl _ _).alloc (Nat.le_refl _) _).alloc (by simp) _).trans (hb.mono (by simp; omega))
    clear hb
    go_wp2
    go_ret
    exact ⟨rfl, HB.out⟩
end Go.Proofs.YtjpbcjjleflffaaDoor
