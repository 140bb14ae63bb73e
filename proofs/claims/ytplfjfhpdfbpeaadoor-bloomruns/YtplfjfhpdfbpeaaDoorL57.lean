/- The walk of BloomRuns (written by tools/runs14.py). -/
import Derived.Test.YtplfjfhpdfbpeaaDoorL57A
import Derived.Test.YtplfjfhpdfbpeaaDoorM15
import Derived.Deep.Cut
import Derived.Deep.CutRange
import Derived.Deep.CutBlock
namespace Go.Proofs.YtplfjfhpdfbpeaaDoor
open Go.RowKit
set_option linter.unusedSimpArgs false
set_option linter.unusedVariables false
theorem upS_self (ds : Nat → Option Sd) (v : Nat) (d : Sd) (h : ds v = some d) : upS ds v d = ds := by
  funext j
  by_cases e : j = v
  · subst e; rw [upS_at, h]
  · rw [upS_ne _ _ _ _ e]
theorem Alk.up {ds : Nat → Option Sd} {v n k : Nat} {s : List UInt8} {f g o q : Nat} (h : Alk ds) : Alk (upS ds v ⟨n, k, s, s, f, g, o, q⟩) := by
  intro j d hj e
  by_cases ev : j = v
  · subst ev; rw [upS_at] at e; cases e; rfl
  · rw [upS_ne _ _ _ _ ev] at e; exact h j d hj e
set_option maxHeartbeats 16000000 in
set_option maxRecDepth 100000 in
theorem runs14_walk (bits hashes other more : Int) (a : Option Addr) (L c : Nat) (K Wh : Nat → Int) (T : Nat → ByteArray) (w : World) (hm : MkS w) (hL : L ≤ maxLen) (hLc : L ≤ c) (hS : StQ w a L K Wh T)
    (b1 : -9223372036854775808 ≤ bits ∧ bits ≤ 9223372036854775807) (b2 : -9223372036854775808 ≤ hashes ∧ hashes ≤ 9223372036854775807) (b3 : -9223372036854775808 ≤ other ∧ other ≤ 9223372036854775807) (b4 : -9223372036854775808 ≤ more ∧ more ≤ 9223372036854775807) :
    Calls Tryd.prog 3 #[.int .i64 bits, .int .i64 hashes, .int .i64 other, .int .i64 more, .slice a L c] w fun e w' => e = .returned (.bool true) ∧ Below w.heap.size w w' := by
  have hL' : L ≤ 9223372036854775807 := by unfold maxLen at hL; omega
  have HS : Hid (StQ w a L K Wh T) := hS
  have HM : Hid (MkS w) := hm
  have HP0 := new_pair bits hashes b1.1 b1.2 b2.1 b2.2
  have HP1 := new_pair other more b3.1 b3.2 b4.1 b4.2
  have P0 : Hid _ := HP0
  have P1 : Hid _ := HP1
  have HZ : Hid _ := Ro.zero w
  clear hS hm hL HP0 HP1
  by_cases c1 : 16384 < bits ∧ ¬ bits = 16777216
  · have c1a := c1.1
    have c1b : (bits != 16777216) = true := by simp; exact c1.2
    clear c1
    go_enter Tryd.func3, Tryd.ntmps3
    go_wp2
    go_ret
    exact ⟨rfl, Below.refl _ _⟩
  by_cases c3 : 16384 < other
  · by_cases c2 : 16384 < bits
    · have c1b : (bits != 16777216) = false := by
        have : bits = 16777216 := by omega
        simp [this]
      clear c1
      go_enter Tryd.func3, Tryd.ntmps3
      go_wp2
      go_ret
      exact ⟨rfl, Below.refl _ _⟩
    · clear c1
      go_enter Tryd.func3, Tryd.ntmps3
      go_wp2
      go_ret
      exact ⟨rfl, Below.refl _ _⟩
  go_enter Tryd.func3, Tryd.ntmps3
  go_upto_region 1 with fail
  go_cut [39] from 30 to 39 (fun x wx => x = .bool false ∧ wx = w)
  case first =>
    by_cases c2 : 16384 < bits
    · have c1b : (bits != 16777216) = false := by
        have : bits = 16777216 := by omega
        simp [this]
      clear c1
      go_wp2
      go_meet
      exact ⟨rfl, rfl⟩
    · clear c1
      go_wp2
      go_meet
      exact ⟨rfl, rfl⟩
  case rest =>
  obtain ⟨rfl, hwc⟩ := hcut
  obtain rfl : w = wc := hwc.symm
  clear c1 c3 b1 b2 b3 b4
  go_wp2
  go_loopw [13] (fun v wr => ∃ (i : Nat) (ds : Nat → Option Sd), i ≤ 2 ∧ v = .int .i64 i ∧ Hid (Ro w i ds wr)) (fun v _ => 2 - (intOf v).toNat)
  case atStart => exact ⟨0, _, by omega, rfl, HZ.out⟩
  case round =>
    clear HZ
    obtain ⟨i, ds, hi, rfl, HR⟩ := hrel
    by_cases hlt : i < 2
    · have hi01 : i = 0 ∨ i = 1 := by omega
      rcases hi01 with rfl | rfl
      · rcases P0.out with ⟨n, k, e1, e2, hok⟩ | ⟨N1, N2⟩
        · as_aux_lemma =>
            have NY : Hid (∀ u, Calls Tryd.prog 8 #[.int .i64 bits, .int .i64 hashes] u fun e w' => ∃ f g, NwF u e w' f g n k (zrR (n / 8))) := fun u => by rw [e1, e2]; exact new_yes14 n k u hok
            have RY : Hid (∀ u, Calls Tryd.prog 9 #[.int .i64 bits, .int .i64 hashes] u fun e w' => ∃ f g, NwR u e w' f g n k (zrR (n / 8))) := fun u => by rw [e1, e2]; exact rnew_yes14 n k u hok
            obtain ⟨z, hz⟩ : ∃ z, zrR (n / 8) = z := ⟨_, rfl⟩
            rw [hz] at NY RY
            clear e1 e2 hok hz hlt
            go_wp2_with fail
            refine (NY.out _).mono ?_
            rintro e w1 ⟨f, g, h1⟩
            obtain rfl := h1.res
            have hb0 : Below wr.heap.size wr ((wr.alloc (.cells #[.int .i64 bits, .int .i64 other] 3)).alloc (.cells #[.int .i64 hashes, .int .i64 more] 3)) := ((Below.refl _ _).alloc (Nat.le_refl _) _).alloc (by simp) _
            have H1 : Hid (Ro w 0 ds w1 ∧ FlS w1 f g n k z ∧ w.heap.size ≤ g ∧ ∀ j x, j < 2 → ds j = some x → g ≠ x.g) := ⟨(HR.out.below hb0).below h1.bel, h1.fil, by have := h1.lg; have := HR.out.rn.bel.size; have := hb0.size; omega, fun j x hj ej => by have := (HR.out.rn.one j x hj ej).fil.row.lt; have := h1.lg; have := hb0.size; omega⟩
            clear h1 HR hb0 NY
            go_wp2_with fail
            refine (RY.out _).mono ?_
            rintro e w2 ⟨o, q, h2⟩
            obtain rfl := h2.res
            have H2 : Hid (Ro w 1 _ ((w2.setCell ⟨w.heap.size, 0, none⟩ (.pointer (some ⟨f, 0, none⟩))).setCell ⟨w.heap.size + 1, 0, none⟩ (.pointer (some ⟨o, 0, none⟩)))) := (H1.out.1.below h2.bel).more (by omega) (H1.out.2.1.below h2.bel) h2.fil H1.out.2.2.1 (by have := h2.lg; have := H1.out.1.rn.bel.size; omega) (fun j x hj ej => ⟨H1.out.2.2.2 j x hj ej, by have := (H1.out.1.rn.one j x hj ej).ref.row.lt; have := h2.lg; omega⟩)
            have c1 := (H1.out.1.below h2.bel).rn.cellF 0 (by omega)
            have c2 := (H1.out.1.below h2.bel).rn.cellM 0 (by omega)
            have f1 := (H1.out.1.below h2.bel).rn.bf.frozen 0
            have f2 := (H1.out.1.below h2.bel).rn.bm.frozen 0
            obtain ⟨y1, hy1⟩ : ∃ y, ptF (ds 0) = y := ⟨_, rfl⟩
            obtain ⟨y2, hy2⟩ : ∃ y, ptM (ds 0) = y := ⟨_, rfl⟩
            rw [hy1] at c1
            rw [hy2] at c2
            clear h2 H1 RY hy1 hy2
            go_wp2
            go_roundw
            case rel => exact ⟨1, _, by omega, by go_num, H2.out⟩
            case measure => simp [intOf]
        · as_aux_lemma =>
            have HN1 : Hid _ := N1
            have HN2 : Hid _ := N2
            clear N1 N2 hlt
            go_wp2_with fail
            refine (HN1.out _).mono ?_
            rintro e w1 ⟨rfl, hw1⟩
            have hb0 : Below wr.heap.size wr ((wr.alloc (.cells #[.int .i64 bits, .int .i64 other] 3)).alloc (.cells #[.int .i64 hashes, .int .i64 more] 3)) := ((Below.refl _ _).alloc (Nat.le_refl _) _).alloc (by simp) _
            rw [← hw1] at hb0
            have H1 : Hid (Ro w 0 ds w1) := HR.out.below hb0
            clear hb0 HR hw1
            go_wp2_with fail
            refine (HN2.out _).mono ?_
            rintro e w2 ⟨rfl, hw2⟩
            obtain rfl : w1 = w2 := hw2.symm
            have H2 : Hid (Ro w 1 _ ((w1.setCell ⟨w.heap.size, 0, none⟩ (.pointer none)).setCell ⟨w.heap.size + 1, 0, none⟩ (.pointer none))) := H1.out.nil (by omega)
            have c1 := H1.out.rn.cellF 0 (by omega)
            have c2 := H1.out.rn.cellM 0 (by omega)
            have f1 := H1.out.rn.bf.frozen 0
            have f2 := H1.out.rn.bm.frozen 0
            obtain ⟨y1, hy1⟩ : ∃ y, ptF (ds 0) = y := ⟨_, rfl⟩
            obtain ⟨y2, hy2⟩ : ∃ y, ptM (ds 0) = y := ⟨_, rfl⟩
            rw [hy1] at c1
            rw [hy2] at c2
            clear H1 HN1 HN2 hy1 hy2
            go_wp2
            go_roundw
            case rel => exact ⟨1, _, by omega, by go_num, H2.out⟩
            case measure => simp [intOf]
      · rcases P1.out with ⟨n, k, e1, e2, hok⟩ | ⟨N1, N2⟩
        · as_aux_lemma =>
            have NY : Hid (∀ u, Calls Tryd.prog 8 #[.int .i64 other, .int .i64 more] u fun e w' => ∃ f g, NwF u e w' f g n k (zrR (n / 8))) := fun u => by rw [e1, e2]; exact new_yes14 n k u hok
            have RY : Hid (∀ u, Calls Tryd.prog 9 #[.int .i64 other, .int .i64 more] u fun e w' => ∃ f g, NwR u e w' f g n k (zrR (n / 8))) := fun u => by rw [e1, e2]; exact rnew_yes14 n k u hok
            obtain ⟨z, hz⟩ : ∃ z, zrR (n / 8) = z := ⟨_, rfl⟩
            rw [hz] at NY RY
            clear e1 e2 hok hz hlt
            go_wp2_with fail
            refine (NY.out _).mono ?_
            rintro e w1 ⟨f, g, h1⟩
            obtain rfl := h1.res
            have hb0 : Below wr.heap.size wr ((wr.alloc (.cells #[.int .i64 bits, .int .i64 other] 3)).alloc (.cells #[.int .i64 hashes, .int .i64 more] 3)) := ((Below.refl _ _).alloc (Nat.le_refl _) _).alloc (by simp) _
            have H1 : Hid (Ro w 1 ds w1 ∧ FlS w1 f g n k z ∧ w.heap.size ≤ g ∧ ∀ j x, j < 2 → ds j = some x → g ≠ x.g) := ⟨(HR.out.below hb0).below h1.bel, h1.fil, by have := h1.lg; have := HR.out.rn.bel.size; have := hb0.size; omega, fun j x hj ej => by have := (HR.out.rn.one j x hj ej).fil.row.lt; have := h1.lg; have := hb0.size; omega⟩
            clear h1 HR hb0 NY
            go_wp2_with fail
            refine (RY.out _).mono ?_
            rintro e w2 ⟨o, q, h2⟩
            obtain rfl := h2.res
            have H2 : Hid (Ro w 2 _ ((w2.setCell ⟨w.heap.size, 1, none⟩ (.pointer (some ⟨f, 0, none⟩))).setCell ⟨w.heap.size + 1, 1, none⟩ (.pointer (some ⟨o, 0, none⟩)))) := (H1.out.1.below h2.bel).more (by omega) (H1.out.2.1.below h2.bel) h2.fil H1.out.2.2.1 (by have := h2.lg; have := H1.out.1.rn.bel.size; omega) (fun j x hj ej => ⟨H1.out.2.2.2 j x hj ej, by have := (H1.out.1.rn.one j x hj ej).ref.row.lt; have := h2.lg; omega⟩)
            have c1 := (H1.out.1.below h2.bel).rn.cellF 1 (by omega)
            have c2 := (H1.out.1.below h2.bel).rn.cellM 1 (by omega)
            have f1 := (H1.out.1.below h2.bel).rn.bf.frozen 1
            have f2 := (H1.out.1.below h2.bel).rn.bm.frozen 1
            obtain ⟨y1, hy1⟩ : ∃ y, ptF (ds 1) = y := ⟨_, rfl⟩
            obtain ⟨y2, hy2⟩ : ∃ y, ptM (ds 1) = y := ⟨_, rfl⟩
            rw [hy1] at c1
            rw [hy2] at c2
            clear h2 H1 RY hy1 hy2
            go_wp2
            go_roundw
            case rel => exact ⟨2, _, by omega, by go_num, H2.out⟩
            case measure => simp [intOf]
        · as_aux_lemma =>
            have HN1 : Hid _ := N1
            have HN2 : Hid _ := N2
            clear N1 N2 hlt
            go_wp2_with fail
            refine (HN1.out _).mono ?_
            rintro e w1 ⟨rfl, hw1⟩
            have hb0 : Below wr.heap.size wr ((wr.alloc (.cells #[.int .i64 bits, .int .i64 other] 3)).alloc (.cells #[.int .i64 hashes, .int .i64 more] 3)) := ((Below.refl _ _).alloc (Nat.le_refl _) _).alloc (by simp) _
            rw [← hw1] at hb0
            have H1 : Hid (Ro w 1 ds w1) := HR.out.below hb0
            clear hb0 HR hw1
            go_wp2_with fail
            refine (HN2.out _).mono ?_
            rintro e w2 ⟨rfl, hw2⟩
            obtain rfl : w1 = w2 := hw2.symm
            have H2 : Hid (Ro w 2 _ ((w1.setCell ⟨w.heap.size, 1, none⟩ (.pointer none)).setCell ⟨w.heap.size + 1, 1, none⟩ (.pointer none))) := H1.out.nil (by omega)
            have c1 := H1.out.rn.cellF 1 (by omega)
            have c2 := H1.out.rn.cellM 1 (by omega)
            have f1 := H1.out.rn.bf.frozen 1
            have f2 := H1.out.rn.bm.frozen 1
            obtain ⟨y1, hy1⟩ : ∃ y, ptF (ds 1) = y := ⟨_, rfl⟩
            obtain ⟨y2, hy2⟩ : ∃ y, ptM (ds 1) = y := ⟨_, rfl⟩
            rw [hy1] at c1
            rw [hy2] at c2
            clear H1 HN1 HN2 hy1 hy2
            go_wp2
            go_roundw
            case rel => exact ⟨2, _, by omega, by go_num, H2.out⟩
            case measure => simp [intOf]
    · have HB : Hid (Rn w ds wr ∧ Alk ds) := ⟨HR.out.rn, HR.out.alk⟩
      obtain ⟨w5, hw5⟩ : ∃ w5, wr = w5 := ⟨_, rfl⟩
      rw [hw5] at HB ⊢
      clear hw5 HR P0 P1
      obtain rfl : i = 2 := by omega
      go_upto_region 16 with fail
      go_cut [90] from 84 to 90 (fun x wx => ∃ B : Bool, x = .bool B ∧ (B = true → 1 < L) ∧ wx = w5)
      case first =>
        by_cases c2 : bits = 16777216
        · have c2b : (bits == 16777216) = true := by simp [c2]
          clear c2
          by_cases c3 : 1 < L
          · have c3z : (1 : Int) < (L : Int) := by omega
            go_wp2
            go_meet
            exact ⟨true, rfl, fun _ => c3, rfl⟩
          · have c3z : ¬ (1 : Int) < (L : Int) := by omega
            go_wp2
            go_meet
            exact ⟨false, rfl, fun h => (by cases h), rfl⟩
        · have c2b : (bits == 16777216) = false := by simp [c2]
          clear c2
          go_wp2
          go_meet
          exact ⟨false, rfl, fun h => (by cases h), rfl⟩
      case rest =>
      obtain ⟨B, rfl, hB, hwc⟩ := hcut
      obtain rfl : w5 = wc := hwc.symm
      go_upto_if 90 with fail
      go_cut [4] from 84 to 92 (fun x wx => ∃ L2 : Nat, x = .slice a L2 c ∧ L2 ≤ L ∧ wx = w5)
      case first =>
        cases B
        · go_wp2
          go_meet
          exact ⟨L, rfl, Nat.le_refl _, rfl⟩
        · have h1L := hB rfl
          have h1c : (1 : Int) ≤ (c : Int) := by omega
          go_wp2
          go_meet
          exact ⟨1, rfl, by omega, rfl⟩
      case rest =>
      obtain ⟨L2, rfl, hL2, hwc⟩ := hcut
      obtain rfl : w5 = wc := hwc.symm
      clear hB B
      have HS2 : Hid (StQ w a L2 K Wh T) := fun i hi => HS.out i (by omega)
      clear HS
      go_wp2
      go_loopw [20] (fun v wr => ∃ (i : Nat) (ds : Nat → Option Sd), i ≤ L2 ∧ i ≤ 60 ∧ v = .int .i64 i ∧ Hid (Rn w ds wr ∧ Alk ds)) (fun v _ => 60 - (intOf v).toNat)
      case atStart => exact ⟨0, ds, by omega, by omega, rfl, HB.out⟩
      case round =>
        clear HB hi hlt
        obtain ⟨i, ds, hi, hi60, rfl, HB⟩ := hrel
        by_cases hlt : i < L2 ∧ i < 60
        · have k1 : (i : Int) < (L2 : Int) := by omega
          have k2 : (i : Int) < 60 := by omega
          obtain ⟨ga, oa, ea, hga, s1, s2, s3⟩ := (HS2.out.below HB.out.1.bel) i hlt.1
          have HI60 : Hid (i < L2 ∧ i < 60) := hlt
          obtain ⟨kd, hkd⟩ : ∃ kd, K i = kd := ⟨_, rfl⟩
          obtain ⟨who, hwho⟩ : ∃ kd, Wh i = kd := ⟨_, rfl⟩
          obtain ⟨x0, hx0⟩ : ∃ kd, T i = kd := ⟨_, rfl⟩
          rw [hkd] at s1
          rw [hwho] at s2
          rw [hx0] at s3
          have SC : Hid (∀ W, Below wr.heap.size wr W → W.cell? ⟨ga, oa + i * 3, none⟩ = some (.int .i64 kd) ∧ W.cell? ⟨ga, oa + i * 3 + 1, none⟩ = some (.int .i64 who) ∧ W.cell? ⟨ga, oa + i * 3 + 2, none⟩ = some (.string x0)) := fun W hW => ⟨by rw [hW.cell (p := ⟨ga, oa + i * 3, none⟩) hga]; exact s1, by rw [hW.cell (p := ⟨ga, oa + i * 3 + 1, none⟩) hga]; exact s2, by rw [hW.cell (p := ⟨ga, oa + i * 3 + 2, none⟩) hga]; exact s3⟩
          have ha := ea
          clear hlt hkd hwho hx0
          subst ea
          go_upto_if 108 with fail
          go_cut [21] from 93 to 108 (fun x wx => ∃ v : Nat, x = .int .i64 v ∧ Hid (v < 2) ∧ v ≤ 1 ∧ wx = wr)
          case first =>
            by_cases hw0 : who = 0
            · have hwb : (who != 0) = false := by simp [hw0]
              clear hw0
              go_wp2
              go_meet
              exact ⟨0, rfl, by show 0 < 2; omega, by omega, rfl⟩
            · have hwb : (who != 0) = true := by simp [hw0]
              clear hw0
              go_wp2
              go_meet
              exact ⟨1, rfl, by show 1 < 2; omega, by omega, rfl⟩
          case rest =>
          obtain ⟨v, rfl, hv, hv1, hwc⟩ := hcut
          have hvz : (v : Int) < 2 := by omega
          have hvn : v < 2 := by omega
          obtain rfl : wr = wc := hwc.symm
          go_wp2_with fail
          refine (id_any14 x0 _).mono ?_
          rintro e w2 ⟨rfl, b2⟩
          obtain ⟨x, hx⟩ : ∃ x, idF x0 = x := ⟨_, rfl⟩
          have HX : Hid (x.size = 32) := by rw [← hx]; exact idF_size x0
          rw [hx]
          have HI : Hid ((Tryd.prog.info? 36).map (·.size) = some (idc x).size) := info_32 (by rw [idc_size, HX.out])
          have HO1 : Hid ((idc x).all (·.oneCell') = true ∧ z32c.size = (idc x).size) := ⟨Array.all_eq_true_iff_forall_mem.2 (fun v hv => bvc_one _ v (by simpa [idc] using hv)), by rw [idc_size, HX.out]; rfl⟩
          have H2 : Hid (Rn w ds w2 ∧ Below wr.heap.size wr w2) := ⟨HB.out.1.below b2, b2⟩
          have HAL : Hid (Alk ds) := HB.out.2
          obtain ⟨D, hD⟩ : ∃ D, idc x = D := ⟨_, rfl⟩
          have HD : Hid (idc x = D) := hD
          rw [hD] at HI HO1 ⊢
          clear hD hx b2 HB
          go_upto_region 25 with (refine wpList_sto rfl 36 (.tmp 22) (.tmp 114) rfl w2.heap.size D z32c 36 rfl rfl (bk_new _ _ _) HI.out HO1.out.2 HO1.out.1 ?_; intro w3 BX GX)
          have hz3 : w2.heap.size < w3.heap.size := BX.out.lt
          obtain ⟨b, hb⟩ : ∃ b, w2.heap.size = b := ⟨_, rfl⟩
          have hbo : Below w2.heap.size w2 w3 := below_own ((Below.refl _ _).alloc (Nat.le_refl _) _) (by simp) GX.out (Nat.le_refl _)
          have H3 : Hid (Rn w ds w3 ∧ Bk w3 b D 36 ∧ Below wr.heap.size wr w3) := ⟨H2.out.1.below hbo, by rw [← hb]; exact BX.out, H2.out.2.trans (hbo.mono H2.out.2.size)⟩
          rw [hb]
          clear BX GX hb hz3 H2 hbo s1 s2 s3
          cases hdv : ds v with
          | none =>
            have cM3 := H3.out.1.cellM v hv.out
            rw [hdv] at cM3
            simp only [ptM] at cM3
            have H4 : Hid (Rn w ds w3 ∧ Alk ds) := ⟨H3.out.1, HAL.out⟩
            clear hdv
            go_wp2
            go_roundw
            case rel => exact ⟨i + 1, ds, by have := HI60.out; omega, by have := HI60.out; omega, by go_num, H4.out⟩
            case measure => simp [intOf]; have := HI60.out; omega
          | some d =>
            obtain ⟨n, k, s, t, f, g, o, q⟩ := d
            obtain rfl : s = t := HAL.out v _ hv.out hdv
            have HZ3 : Hid (Rz w ds b D v n k s s f g o q w3 ∧ Below wr.heap.size wr w3) := by
              refine ⟨⟨?_, H3.out.2.1⟩, H3.out.2.2⟩
              rw [upS_self ds v _ hdv]; exact H3.out.1
            have cM3 := HZ3.out.1.cm hv.out
            have sk := (SC.out _ H3.out.2.2).1
            clear hdv H3
            go_upto_block 4 with fail
            go_cut [21] from 93 to 201 (fun x wx => x = .int .i64 v ∧ ∃ s' f' g', Hid (Rz w ds b D v n k s' s' f' g' o q wx))

            case first =>
              obtain ⟨H3, HB3⟩ := HZ3.out
              have H3h : Hid (Rz w ds b D v n k s s f g o q w3) := H3
              have HXD : Hid (x.size = 32 ∧ idc x = D) := ⟨HX.out, HD.out⟩
              have cF3 := H3.cf hv.out
              clear H3 HB3 HZ3
              by_cases q0 : kd = 0
              · as_aux_lemma =>
                  have q0b : (kd == 0) = true := by simp [q0]
                  clear q0
                  go_wp2_with fail
                  refine wp_region_tail (Rz w ds b D v n k s s f g o q) 4 (by kernel_rfl) (by kernel_rfl) H3h.out.drew ?_
                  simp only [List.take_succ_cons, List.take_zero, List.drop_succ_cons, List.drop_zero]
                  repeat (first
                    | go_big_quiet_skip
                    | (go_big_quiet_want
                       first
                         | (refine quiet_row 36 _ rfl b 0 D D 36 _ rfl (fun W hW => hW.box) (fun j v hv => by rw [Nat.zero_add]; exact hv) Tryd.underlying36 rfl HI.out ?_; go_big_quiet_on; simp only [Act.put, List.setIfInBounds_toArray, List.set_cons_zero, List.set_cons_succ])
                         | (refine quiet_one 25 _ rfl (w.heap.size + 1) v (.pointer (some ⟨o, 0, none⟩)) rfl (fun _ => by kernel_rfl) (fun W hW => hW.cm hv.out) ?_; go_big_quiet_on; simp only [Act.put, List.setIfInBounds_toArray, List.set_cons_zero, List.set_cons_succ])
                         | (go_big_quiet_op; go_big_quiet_on)
                         | (refine quiet_val10 (.pointer (some ⟨(w.heap.size + 1), v, none⟩)) ?_ ?_; (focus (intro W hW; go_simp; done)); go_big_quiet_on; simp only [Act.put, List.setIfInBounds_toArray, List.set_cons_zero, List.set_cons_succ]))) 
                  refine wpQuiet_nil ?_
                  intro w9 hw9
                  have H9 : Hid (Rz w ds b D v n k s s f g o q w9) := hw9
                  clear hw9 H3h cM3 cF3
                  go_wp2_with fail
                  refine (H9.out.addM hv.out x HXD.out.1 HXD.out.2).mono ?_
                  rintro e w10 ⟨rfl, h10⟩
                  have H10 : Hid (Rz w ds b D v n k s (adK n x k s) f g o q w10) := h10
                  clear h10 H9
                  go_wp2_with fail
                  refine wp_region_tail (Rz w ds b D v n k s (adK n x k s) f g o q) 4 (by kernel_rfl) (by kernel_rfl) H10.out.drew ?_
                  simp only [List.take_succ_cons, List.take_zero, List.drop_succ_cons, List.drop_zero]
                  repeat (first
                    | go_big_quiet_skip
                    | (go_big_quiet_want
                       first
                         | (refine quiet_row 36 _ rfl b 0 D D 36 _ rfl (fun W hW => hW.box) (fun j v hv => by rw [Nat.zero_add]; exact hv) Tryd.underlying36 rfl HI.out ?_; go_big_quiet_on; simp only [Act.put, List.setIfInBounds_toArray, List.set_cons_zero, List.set_cons_succ])
                         | (refine quiet_one 23 _ rfl w.heap.size v (.pointer (some ⟨f, 0, none⟩)) rfl (fun _ => by kernel_rfl) (fun W hW => hW.cf hv.out) ?_; go_big_quiet_on; simp only [Act.put, List.setIfInBounds_toArray, List.set_cons_zero, List.set_cons_succ])
                         | (go_big_quiet_op; go_big_quiet_on)
                         | (refine quiet_val10 (.pointer (some ⟨w.heap.size, v, none⟩)) ?_ ?_; (focus (intro W hW; go_simp; done)); go_big_quiet_on; simp only [Act.put, List.setIfInBounds_toArray, List.set_cons_zero, List.set_cons_succ]))) 
                  refine wpQuiet_nil ?_
                  intro w11 hw11
                  have H11 : Hid (Rz w ds b D v n k s (adK n x k s) f g o q w11) := hw11
                  clear hw11 H10
                  go_wp2_with fail
                  refine (H11.out.addF hv.out x HXD.out.1 HXD.out.2).mono ?_
                  rintro e w12 ⟨rfl, h12, _⟩
                  have H12 : Hid (Rz w ds b D v n k (adK n x k s) (adK n x k s) f g o q w12) := h12
                  clear h12 H11
                  go_wp2
                  go_meet
                  exact ⟨rfl, _, _, _, H12.out⟩
              have q0b : (kd == 0) = false := by simp [q0]
              by_cases q1 : kd = 1
              · have q1b : (kd == 1) = true := by simp [q1]
                clear q0 q1
                obtain ⟨u, hu⟩ : ∃ u : Nat, u = 1 - v := ⟨_, rfl⟩
                have huz : (1 : Int) - v = (u : Int) := by omega
                have HU : Hid (u < 2 ∧ u ≠ v) := by show u < 2 ∧ u ≠ v; omega
                have hu1 : u ≤ 1 := by omega
                have hun : u < 2 := by omega
                have wu : IntKind.i64.wrap (u : Int) = (u : Int) := by rw [IntKind.wrap_i64]; omega
                have hu2z : (u : Int) < 2 := by omega
                have cMu := H3h.out.cmo u HU.out.1 HU.out.2
                have cFu := H3h.out.cfo u HU.out.1 HU.out.2
                clear hu
                cases hdu : ds u with
                | none =>
                  as_aux_lemma =>
                    rw [hdu] at cMu cFu
                    simp only [ptM, ptF] at cMu cFu
                    have CU : Hid (∀ W, Rz w ds b D v n k s s f g o q W → W.cell? ⟨w.heap.size, u, none⟩ = some (.pointer none)) := fun W hW => by rw [hW.cfo u HU.out.1 HU.out.2, hdu]; rfl
                    have HJ : Hid (∀ W, Rz w ds b D v n k s s f g o q W → Calls Tryd.prog 14 #[.pointer (some ⟨f, 0, none⟩), .pointer none] W fun e w' => e = .returned (.int .i64 2) ∧ Rz w ds b D v n k s s f g o q w') := fun W hW => (join_nil14 f W).mono fun e w' q => ⟨q.1, by rw [q.2]; exact hW⟩
                    clear hdu
                    go_wp2_with fail
                    refine region_class10 (Rz w ds b D v n k s s f g o q) (by kernel_rfl) (by kernel_rfl) H3h.out.drew ?_
                    try simp only [Act.put, List.setIfInBounds_toArray, List.set_cons_zero, List.set_cons_succ]
                    repeat (first
                      | go_big_quiet_skip
                      | (go_big_quiet_want
                         first
                           | (refine quiet_one 23 _ rfl w.heap.size v (.pointer (some ⟨f, 0, none⟩)) rfl (fun _ => by kernel_rfl) (fun W hW => hW.cf hv.out) ?_; go_big_quiet_on; simp only [Act.put, List.setIfInBounds_toArray, List.set_cons_zero, List.set_cons_succ])
                           | (refine quiet_one 23 _ rfl w.heap.size u (.pointer none) rfl (fun _ => by kernel_rfl) (fun W hW => CU.out W hW) ?_; go_big_quiet_on; simp only [Act.put, List.setIfInBounds_toArray, List.set_cons_zero, List.set_cons_succ])
                           | (refine quiet_call10 (.int .i64 2) 14 #[.pointer (some ⟨f, 0, none⟩), .pointer none] ?_ ?_ ?_; (focus (intro W hW; go_simp; done)); (focus (intro W hW; exact HJ.out W hW)); go_big_quiet_on; simp only [Act.put, List.setIfInBounds_toArray, List.set_cons_zero, List.set_cons_succ])
                           | (go_big_quiet_op; go_big_quiet_on)
                           | (refine quiet_val10 (.pointer (some ⟨w.heap.size, v, none⟩)) ?_ ?_; (focus (intro W hW; go_simp; done)); go_big_quiet_on; simp only [Act.put, List.setIfInBounds_toArray, List.set_cons_zero, List.set_cons_succ])
                           | (refine quiet_val10 (.pointer (some ⟨w.heap.size, u, none⟩)) ?_ ?_; (focus (intro W hW; go_simp; done)); go_big_quiet_on; simp only [Act.put, List.setIfInBounds_toArray, List.set_cons_zero, List.set_cons_succ])
                           | (refine quiet_val10 (.int .i64 (u : Int)) ?_ ?_; (focus (intro W hW; go_simp; done)); go_big_quiet_on; simp only [Act.put, List.setIfInBounds_toArray, List.set_cons_zero, List.set_cons_succ])
                           | (refine quiet_val10 (.bool false) ?_ ?_; (focus (intro W hW; go_simp; done)); go_big_quiet_on; simp only [Act.put, List.setIfInBounds_toArray, List.set_cons_zero, List.set_cons_succ]))) 
                    refine wpQuiet_nil ?_
                    intro w9 hw9
                    have H9 : Hid (Rz w ds b D v n k s s f g o q w9) := hw9
                    clear hw9 H3h
                    go_wp2
                    go_meet
                    exact ⟨rfl, _, _, _, H9.out⟩
                | some d =>
                  rw [hdu] at cMu cFu
                  simp only [ptM, ptF] at cMu cFu
                  have HDS : Hid (d.s = d.t) := HAL.out u d HU.out.1 hdu
                  have CU : Hid (∀ W s t f g, Rz w ds b D v n k s t f g o q W → W.cell? ⟨w.heap.size, u, none⟩ = some (.pointer (some ⟨d.f, 0, none⟩)) ∧ W.cell? ⟨w.heap.size + 1, u, none⟩ = some (.pointer (some ⟨d.o, 0, none⟩))) := fun W s t f g hW => ⟨by rw [hW.cfo u HU.out.1 HU.out.2, hdu]; rfl, by rw [hW.cmo u HU.out.1 HU.out.2, hdu]; rfl⟩
                  have HDU : Hid (ds u = some d) := hdu
                  clear hdu
                  by_cases hsz : n = d.n ∧ k = d.k
                  · as_aux_lemma =>
                      have JM : Hid (∀ W, Rz w ds b D v n k s s f g o q W → Calls Tryd.prog 13 #[.pointer (some ⟨o, 0, none⟩), .pointer (some ⟨d.o, 0, none⟩)] W fun e w' => e = .returned (.int .i64 0) ∧ Rz w ds b D v n k s (jnR s d.t) f g o q w') := fun W hW => hW.joinM hv.out u HU.out.1 HU.out.2 d HDU.out hsz.1.symm hsz.2.symm
                      have JF : Hid (∀ W, Rz w ds b D v n k s (jnR s d.t) f g o q W → Calls Tryd.prog 14 #[.pointer (some ⟨f, 0, none⟩), .pointer (some ⟨d.f, 0, none⟩)] W fun e w' => e = .returned (.int .i64 0) ∧ Hid (Rz w ds b D v n k (jnR s d.t) (jnR s d.t) f g o q w')) := fun W hW => (hW.joinF hv.out u HU.out.1 HU.out.2 d HDU.out hsz.1.symm hsz.2.symm).mono fun e w' q => ⟨q.1, by have := q.2; rw [HDS.out] at this; exact this⟩
                      clear hsz
                      go_wp2_with fail
                      refine wp_region_tail (Rz w ds b D v n k s s f g o q) 7 (by kernel_rfl) (by kernel_rfl) H3h.out.drew ?_
                      simp only [List.take_succ_cons, List.take_zero, List.drop_succ_cons, List.drop_zero]
                      repeat (first
                        | go_big_quiet_skip
                        | (go_big_quiet_want
                           first
                             | (refine quiet_one 25 _ rfl (w.heap.size + 1) v (.pointer (some ⟨o, 0, none⟩)) rfl (fun _ => by kernel_rfl) (fun W hW => hW.cm hv.out) ?_; go_big_quiet_on; simp only [Act.put, List.setIfInBounds_toArray, List.set_cons_zero, List.set_cons_succ])
                             | (refine quiet_one 25 _ rfl (w.heap.size + 1) u (.pointer (some ⟨d.o, 0, none⟩)) rfl (fun _ => by kernel_rfl) (fun W hW => (CU.out W _ _ _ _ hW).2) ?_; go_big_quiet_on; simp only [Act.put, List.setIfInBounds_toArray, List.set_cons_zero, List.set_cons_succ])
                             | (go_big_quiet_op; go_big_quiet_on)
                             | (refine quiet_val10 (.pointer (some ⟨(w.heap.size + 1), v, none⟩)) ?_ ?_; (focus (intro W hW; go_simp; done)); go_big_quiet_on; simp only [Act.put, List.setIfInBounds_toArray, List.set_cons_zero, List.set_cons_succ])
                             | (refine quiet_val10 (.pointer (some ⟨(w.heap.size + 1), u, none⟩)) ?_ ?_; (focus (intro W hW; go_simp; done)); go_big_quiet_on; simp only [Act.put, List.setIfInBounds_toArray, List.set_cons_zero, List.set_cons_succ])
                             | (refine quiet_val10 (.int .i64 (u : Int)) ?_ ?_; (focus (intro W hW; go_simp; done)); go_big_quiet_on; simp only [Act.put, List.setIfInBounds_toArray, List.set_cons_zero, List.set_cons_succ]))) 
                      refine wpQuiet_nil ?_
                      intro w9 hw9
                      have H9 : Hid (Rz w ds b D v n k s s f g o q w9) := hw9
                      clear hw9 H3h cM3 cF3 cMu cFu
                      go_wp2_with fail
                      refine (JM.out _ H9.out).mono ?_
                      rintro e w10 ⟨rfl, h10⟩
                      have H10 : Hid (Rz w ds b D v n k s (jnR s d.t) f g o q w10) := h10
                      have cF10 := h10.cf hv.out
                      have cU10 := (CU.out _ _ _ _ _ h10).1
                      clear h10 H9
                      go_wp2_with fail
                      go_region_law (first
                        | (go_simp; go_at_call 14; refine Calls.mono (JF.out _ H10.out.drew) ?_; rintro e w12 ⟨rfl, H12⟩; dsimp only)
                        | fail)
                      all_goals (first | go_wp2 | skip)
                      all_goals (go_meet; exact ⟨rfl, _, _, _, H12.out⟩)
                  · as_aux_lemma =>
                      have JM : Hid (∀ W, Rz w ds b D v n k s s f g o q W → Calls Tryd.prog 13 #[.pointer (some ⟨o, 0, none⟩), .pointer (some ⟨d.o, 0, none⟩)] W fun e w' => e = .returned (.int .i64 1) ∧ Rz w ds b D v n k s s f g o q w') := fun W hW => hW.joinM_no hv.out u HU.out.1 HU.out.2 d HDU.out hsz
                      have JF : Hid (∀ W, Rz w ds b D v n k s s f g o q W → Calls Tryd.prog 14 #[.pointer (some ⟨f, 0, none⟩), .pointer (some ⟨d.f, 0, none⟩)] W fun e w' => e = .returned (.int .i64 1) ∧ Rz w ds b D v n k s s f g o q w') := fun W hW => hW.joinF_no hv.out u HU.out.1 HU.out.2 d HDU.out hsz
                      clear hsz
                      go_wp2_with fail
                      refine wp_region_tail (Rz w ds b D v n k s s f g o q) 7 (by kernel_rfl) (by kernel_rfl) H3h.out.drew ?_
                      simp only [List.take_succ_cons, List.take_zero, List.drop_succ_cons, List.drop_zero]
                      repeat (first
                        | go_big_quiet_skip
                        | (go_big_quiet_want
                           first
                             | (refine quiet_one 25 _ rfl (w.heap.size + 1) v (.pointer (some ⟨o, 0, none⟩)) rfl (fun _ => by kernel_rfl) (fun W hW => hW.cm hv.out) ?_; go_big_quiet_on; simp only [Act.put, List.setIfInBounds_toArray, List.set_cons_zero, List.set_cons_succ])
                             | (refine quiet_one 25 _ rfl (w.heap.size + 1) u (.pointer (some ⟨d.o, 0, none⟩)) rfl (fun _ => by kernel_rfl) (fun W hW => (CU.out W _ _ _ _ hW).2) ?_; go_big_quiet_on; simp only [Act.put, List.setIfInBounds_toArray, List.set_cons_zero, List.set_cons_succ])
                             | (go_big_quiet_op; go_big_quiet_on)
                             | (refine quiet_val10 (.pointer (some ⟨(w.heap.size + 1), v, none⟩)) ?_ ?_; (focus (intro W hW; go_simp; done)); go_big_quiet_on; simp only [Act.put, List.setIfInBounds_toArray, List.set_cons_zero, List.set_cons_succ])
                             | (refine quiet_val10 (.pointer (some ⟨(w.heap.size + 1), u, none⟩)) ?_ ?_; (focus (intro W hW; go_simp; done)); go_big_quiet_on; simp only [Act.put, List.setIfInBounds_toArray, List.set_cons_zero, List.set_cons_succ])
                             | (refine quiet_val10 (.int .i64 (u : Int)) ?_ ?_; (focus (intro W hW; go_simp; done)); go_big_quiet_on; simp only [Act.put, List.setIfInBounds_toArray, List.set_cons_zero, List.set_cons_succ]))) 
                      refine wpQuiet_nil ?_
                      intro w9 hw9
                      have H9 : Hid (Rz w ds b D v n k s s f g o q w9) := hw9
                      clear hw9 H3h cM3 cF3 cMu cFu
                      go_wp2_with fail
                      refine (JM.out _ H9.out).mono ?_
                      rintro e w10 ⟨rfl, h10⟩
                      have H10 : Hid (Rz w ds b D v n k s s f g o q w10) := h10
                      clear h10 H9
                      go_wp2_with fail
                      refine region_class10 (Rz w ds b D v n k s s f g o q) (by kernel_rfl) (by kernel_rfl) H10.out.drew ?_
                      try simp only [Act.put, List.setIfInBounds_toArray, List.set_cons_zero, List.set_cons_succ]
                      repeat (first
                        | go_big_quiet_skip
                        | (go_big_quiet_want
                           first
                             | (refine quiet_one 23 _ rfl w.heap.size v (.pointer (some ⟨f, 0, none⟩)) rfl (fun _ => by kernel_rfl) (fun W hW => hW.cf hv.out) ?_; go_big_quiet_on; simp only [Act.put, List.setIfInBounds_toArray, List.set_cons_zero, List.set_cons_succ])
                             | (refine quiet_one 23 _ rfl w.heap.size u (.pointer (some ⟨d.f, 0, none⟩)) rfl (fun _ => by kernel_rfl) (fun W hW => (CU.out W _ _ _ _ hW).1) ?_; go_big_quiet_on; simp only [Act.put, List.setIfInBounds_toArray, List.set_cons_zero, List.set_cons_succ])
                             | (refine quiet_call10 (.int .i64 1) 14 #[.pointer (some ⟨f, 0, none⟩), .pointer (some ⟨d.f, 0, none⟩)] ?_ ?_ ?_; (focus (intro W hW; go_simp; done)); (focus (intro W hW; exact JF.out W hW)); go_big_quiet_on; simp only [Act.put, List.setIfInBounds_toArray, List.set_cons_zero, List.set_cons_succ])
                             | (go_big_quiet_op; go_big_quiet_on)
                             | (refine quiet_val10 (.pointer (some ⟨w.heap.size, v, none⟩)) ?_ ?_; (focus (intro W hW; go_simp; done)); go_big_quiet_on; simp only [Act.put, List.setIfInBounds_toArray, List.set_cons_zero, List.set_cons_succ])
                             | (refine quiet_val10 (.pointer (some ⟨w.heap.size, u, none⟩)) ?_ ?_; (focus (intro W hW; go_simp; done)); go_big_quiet_on; simp only [Act.put, List.setIfInBounds_toArray, List.set_cons_zero, List.set_cons_succ])
                             | (refine quiet_val10 (.int .i64 (u : Int)) ?_ ?_; (focus (intro W hW; go_simp; done)); go_big_quiet_on; simp only [Act.put, List.setIfInBounds_toArray, List.set_cons_zero, List.set_cons_succ])
                             | (refine quiet_val10 (.bool false) ?_ ?_; (focus (intro W hW; go_simp; done)); go_big_quiet_on; simp only [Act.put, List.setIfInBounds_toArray, List.set_cons_zero, List.set_cons_succ]))) 
                      refine wpQuiet_nil ?_
                      intro w11 hw11
                      have H11 : Hid (Rz w ds b D v n k s s f g o q w11) := hw11
                      clear hw11 H10
                      go_wp2
                      go_meet
                      exact ⟨rfl, _, _, _, H11.out⟩
              have q1b : (kd == 1) = false := by simp [q1]
              by_cases q2 : kd = 2
              · as_aux_lemma =>
                  have q2b : (kd == 2) = true := by simp [q2]
                  clear q0 q1 q2
                  obtain ⟨S, hS⟩ : ∃ S, enF n k s = S := ⟨_, rfl⟩
                  have EN : Hid (∀ W, Rz w ds b D v n k s s f g o q W → Calls Tryd.prog 15 #[.pointer (some ⟨f, 0, none⟩)] W fun e w' => e = .returned (.tuple #[.string S, .int .i64 0]) ∧ Rz w ds b D v n k s s f g o q w') := fun W hW => by rw [← hS]; exact hW.enc hv.out HM.out
                  have DE : Hid (∀ W, Rz w ds b D v n k s s f g o q W → Calls Tryd.prog 16 #[.string S] W fun e w' => ∃ f' g', e = .returned (.tuple #[.pointer (some ⟨f', 0, none⟩), .int .i64 0]) ∧ Rq w ds b D v n k s s f g o q f' g' s w') := fun W hW => by rw [← hS]; exact hW.dec hv.out HM.out
                  have RE : Hid (∀ W f' g', Rq w ds b D v n k s s f g o q f' g' s W → Calls Tryd.prog 17 #[.pointer (some ⟨o, 0, none⟩)] W fun e w' => e = .returned (.string S) ∧ Rq w ds b D v n k s s f g o q f' g' s w') := fun W f' g' hW => by rw [← hS]; exact hW.renc hv.out
                  clear hS
                  go_wp2_with fail
                  refine (EN.out _ H3h.out).mono ?_
                  rintro e w9 ⟨rfl, h9⟩
                  have H9 : Hid (Rz w ds b D v n k s s f g o q w9) := h9
                  clear h9 H3h cM3 cF3 EN
                  go_wp2_with fail
                  refine (DE.out _ H9.out).mono ?_
                  rintro e w10 ⟨f2, g2, rfl, h10⟩
                  have H10 : Hid (Rq w ds b D v n k s s f g o q f2 g2 s w10) := h10
                  have cM10 := h10.rz.cm hv.out
                  clear h10 H9 DE
                  go_wp2_with fail
                  refine (RE.out _ _ _ H10.out).mono ?_
                  rintro e w11 ⟨rfl, h11⟩
                  have H11 : Hid (Rq w ds b D v n k s s f g o q f2 g2 s w11) := h11
                  clear h11 H10 RE cM10
                  go_wp2_with fail
                  refine wp_region_tail (Rq w ds b D v n k s s f g o q f2 g2 s) 4 (by kernel_rfl) (by kernel_rfl) (H11.out.below (Below.refl _ _).drew) ?_
                  simp only [List.take_succ_cons, List.take_zero, List.drop_succ_cons, List.drop_zero]
                  repeat (first
                    | go_big_quiet_skip
                    | (go_big_quiet_want
                       first
                         | (refine quiet_row 36 _ rfl b 0 D D 36 _ rfl (fun W hW => hW.rz.box) (fun j v hv => by rw [Nat.zero_add]; exact hv) Tryd.underlying36 rfl HI.out ?_; go_big_quiet_on; simp only [Act.put, List.setIfInBounds_toArray, List.set_cons_zero, List.set_cons_succ])
                         | (refine quiet_one 23 _ rfl w.heap.size v (.pointer (some ⟨f, 0, none⟩)) rfl (fun _ => by kernel_rfl) (fun W hW => hW.rz.cf hv.out) ?_; go_big_quiet_on; simp only [Act.put, List.setIfInBounds_toArray, List.set_cons_zero, List.set_cons_succ])
                         | (go_big_quiet_op; go_big_quiet_on)
                         | (refine quiet_val10 (.pointer (some ⟨w.heap.size, v, none⟩)) ?_ ?_; (focus (intro W hW; go_simp; done)); go_big_quiet_on; simp only [Act.put, List.setIfInBounds_toArray, List.set_cons_zero, List.set_cons_succ]))) 
                  refine wpQuiet_nil ?_
                  intro w12 hw12
                  have H12 : Hid (Rq w ds b D v n k s s f g o q f2 g2 s w12) := hw12
                  clear hw12 H11
                  go_wp2_with fail
                  refine (H12.out.addF hv.out x HXD.out.1 HXD.out.2).mono ?_
                  rintro e w13 ⟨rfl, h13⟩
                  have H13 : Hid (Rz w ds b D v n k s s f2 g2 o q (w13.setCell ⟨w.heap.size, v, none⟩ (.pointer (some ⟨f2, 0, none⟩)))) := h13.put hv.out
                  have c13 := h13.rz.cf hv.out
                  have z13 := h13.rz.rn.bf.frozen v
                  clear h13 H12
                  go_wp2
                  go_meet
                  exact ⟨rfl, _, _, _, H13.out⟩
              have q2b : (kd == 2) = false := by simp [q2]
              clear q0 q1 q2
              go_wp2
              go_meet
              exact ⟨rfl, _, _, _, H3h.out⟩
            case rest =>
              as_aux_lemma =>
                obtain ⟨rfl, s1, f1, g1, HZ4⟩ := hcut
                clear HZ3 cM3 sk
                have cF4 := HZ4.out.cf hv.out
                obtain ⟨hb, hhb⟩ : ∃ hb, haK n x s1 k = hb := ⟨_, rfl⟩
                obtain ⟨on, hon⟩ : ∃ on, onR s1 = on := ⟨_, rfl⟩
                have C1 : Hid (∀ W, Rz w ds b D v n k s1 s1 f1 g1 o q W → Calls Tryd.prog 19 #[.pointer (some ⟨f1, 0, none⟩), .agg D] W fun e w' => e = .returned (.bool hb) ∧ Rz w ds b D v n k s1 s1 f1 g1 o q w') := fun W hW => by rw [← hhb]; exact hW.has hv.out x HX.out HD.out
                have C2 : Hid (∀ W, Rz w ds b D v n k s1 s1 f1 g1 o q W → Calls Tryd.prog 20 #[.pointer (some ⟨o, 0, none⟩), .agg D] W fun e w' => e = .returned (.bool hb) ∧ Rz w ds b D v n k s1 s1 f1 g1 o q w') := fun W hW => by rw [← hhb]; exact hW.rhas hv.out x HX.out HD.out
                have C3 : Hid (∀ W, Rz w ds b D v n k s1 s1 f1 g1 o q W → Calls Tryd.prog 21 #[.pointer (some ⟨f1, 0, none⟩)] W fun e w' => e = .returned (.int .i64 (on : Int)) ∧ Rz w ds b D v n k s1 s1 f1 g1 o q w') := fun W hW => by rw [← hon]; exact hW.ones hv.out
                have C4 : Hid (∀ W, Rz w ds b D v n k s1 s1 f1 g1 o q W → Calls Tryd.prog 22 #[.pointer (some ⟨o, 0, none⟩)] W fun e w' => e = .returned (.int .i64 (on : Int)) ∧ Rz w ds b D v n k s1 s1 f1 g1 o q w') := fun W hW => by rw [← hon]; exact hW.rones hv.out
                clear hhb hon
                go_wp2_with fail
                refine (HZ4.out.size hv.out).mono ?_
                rintro e w5 ⟨rfl, h5⟩
                have H5 : Hid (Rz w ds b D v n k s1 s1 f1 g1 o q w5) := h5
                clear h5 HZ4 cF4
                go_wp2_with fail
                refine region_class10 (Rz w ds b D v n k s1 s1 f1 g1 o q) (by kernel_rfl) (by kernel_rfl) H5.out.drew ?_
                try simp only [Act.put, List.setIfInBounds_toArray, List.set_cons_zero, List.set_cons_succ]
                repeat (first
                  | go_big_quiet_skip
                  | (go_big_quiet_want
                     first
                       | (refine quiet_one 23 _ rfl w.heap.size v (.pointer (some ⟨f1, 0, none⟩)) rfl (fun _ => by kernel_rfl) (fun W hW => hW.cf hv.out) ?_; go_big_quiet_on; simp only [Act.put, List.setIfInBounds_toArray, List.set_cons_zero, List.set_cons_succ])
                       | (refine quiet_one 25 _ rfl (w.heap.size + 1) v (.pointer (some ⟨o, 0, none⟩)) rfl (fun _ => by kernel_rfl) (fun W hW => hW.cm hv.out) ?_; go_big_quiet_on; simp only [Act.put, List.setIfInBounds_toArray, List.set_cons_zero, List.set_cons_succ])
                       | (refine quiet_row 36 _ rfl b 0 D D 36 _ rfl (fun W hW => hW.box) (fun j v hv => by rw [Nat.zero_add]; exact hv) Tryd.underlying36 rfl HI.out ?_; go_big_quiet_on; simp only [Act.put, List.setIfInBounds_toArray, List.set_cons_zero, List.set_cons_succ])
                       | (refine quiet_one 3 _ rfl o 0 (.int .i64 (n : Int)) rfl (fun _ => by kernel_rfl) (fun W hW => (hW.ref hv.out).cells.1) ?_; go_big_quiet_on; simp only [Act.put, List.setIfInBounds_toArray, List.set_cons_zero, List.set_cons_succ])
                       | (refine quiet_one 3 _ rfl o 1 (.int .i64 (k : Int)) rfl (fun _ => by kernel_rfl) (fun W hW => (hW.ref hv.out).cells.2.1) ?_; go_big_quiet_on; simp only [Act.put, List.setIfInBounds_toArray, List.set_cons_zero, List.set_cons_succ])
                       | (refine quiet_call10 (.bool hb) 19 #[.pointer (some ⟨f1, 0, none⟩), .agg D] ?_ ?_ ?_; (focus (intro W hW; go_simp; done)); (focus (intro W hW; exact C1.out W hW)); go_big_quiet_on; simp only [Act.put, List.setIfInBounds_toArray, List.set_cons_zero, List.set_cons_succ])
                       | (refine quiet_call10 (.bool hb) 20 #[.pointer (some ⟨o, 0, none⟩), .agg D] ?_ ?_ ?_; (focus (intro W hW; go_simp; done)); (focus (intro W hW; exact C2.out W hW)); go_big_quiet_on; simp only [Act.put, List.setIfInBounds_toArray, List.set_cons_zero, List.set_cons_succ])
                       | (refine quiet_call10 (.int .i64 (on : Int)) 21 #[.pointer (some ⟨f1, 0, none⟩)] ?_ ?_ ?_; (focus (intro W hW; go_simp; done)); (focus (intro W hW; exact C3.out W hW)); go_big_quiet_on; simp only [Act.put, List.setIfInBounds_toArray, List.set_cons_zero, List.set_cons_succ])
                       | (refine quiet_call10 (.int .i64 (on : Int)) 22 #[.pointer (some ⟨o, 0, none⟩)] ?_ ?_ ?_; (focus (intro W hW; go_simp; done)); (focus (intro W hW; exact C4.out W hW)); go_big_quiet_on; simp only [Act.put, List.setIfInBounds_toArray, List.set_cons_zero, List.set_cons_succ])
                       | (go_big_quiet_op; go_big_quiet_on)
                       | (refine quiet_val10 (.pointer (some ⟨w.heap.size, v, none⟩)) ?_ ?_; (focus (intro W hW; go_simp; done)); go_big_quiet_on; simp only [Act.put, List.setIfInBounds_toArray, List.set_cons_zero, List.set_cons_succ])
                       | (refine quiet_val10 (.pointer (some ⟨(w.heap.size + 1), v, none⟩)) ?_ ?_; (focus (intro W hW; go_simp; done)); go_big_quiet_on; simp only [Act.put, List.setIfInBounds_toArray, List.set_cons_zero, List.set_cons_succ])
                       | (refine quiet_val10 (.pointer (some ⟨o, 0, none⟩)) ?_ ?_; (focus (intro W hW; go_simp; done)); go_big_quiet_on; simp only [Act.put, List.setIfInBounds_toArray, List.set_cons_zero, List.set_cons_succ])
                       | (refine quiet_val10 (.pointer (some ⟨o, 1, none⟩)) ?_ ?_; (focus (intro W hW; go_simp; done)); go_big_quiet_on; simp only [Act.put, List.setIfInBounds_toArray, List.set_cons_zero, List.set_cons_succ])
                       | (refine quiet_val10 (.bool false) ?_ ?_; (focus (intro W hW; go_simp; done)); go_big_quiet_on; simp only [Act.put, List.setIfInBounds_toArray, List.set_cons_zero, List.set_cons_succ]))) 
                refine wpQuiet_nil ?_
                intro w6 hw6
                have H6 : Hid (Rn w (upS ds v ⟨n, k, s1, s1, f1, g1, o, q⟩) w6 ∧ Alk (upS ds v ⟨n, k, s1, s1, f1, g1, o, q⟩)) := ⟨hw6.rn, HAL.out.up⟩
                clear hw6 H5 C1 C2 C3 C4
                go_wp2
                go_roundw
                case rel => exact ⟨i + 1, _, by have := HI60.out; omega, by have := HI60.out; omega, by go_num, H6.out⟩
                case measure => simp [intOf]; have := HI60.out; omega
        · by_cases h1 : i < L2
          · have k1 : (i : Int) < (L2 : Int) := by omega
            have k2 : ¬ (i : Int) < 60 := by omega
            clear hlt
            go_wp2
            go_ret
            exact ⟨rfl, HB.out.1.bel⟩
          · have k1 : ¬ (i : Int) < (L2 : Int) := by omega
            clear hlt
            go_wp2
            go_ret
            exact ⟨rfl, HB.out.1.bel⟩
end Go.Proofs.YtplfjfhpdfbpeaaDoor
