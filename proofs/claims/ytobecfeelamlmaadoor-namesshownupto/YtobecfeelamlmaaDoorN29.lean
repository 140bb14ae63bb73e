/- The document's Match. -/
import Derived.Test.YtobecfeelamlmaaDoorN10C
import Derived.Test.YtobecfeelamlmaaDoorN6
import Derived.Test.YtobecfeelamlmaaDoorP22
import Derived.Test.YtobecfeelamlmaaDoorM0
import Derived.Test.YtobecfeelamlmaaDoorS0L
import Derived.Laws.MakeOwn
namespace Go.Proofs.YtobecfeelamlmaaDoor
open Go.RowKit
set_option linter.unusedSimpArgs false
set_option linter.unusedVariables false
/-- Truths as cells. -/
def bc (l : List Bool) : Array Value := (l.map fun x => Value.bool x).toArray
theorem bc_get (l : List Bool) (j : Nat) : (bc l)[j]? = (l[j]?).map fun x => Value.bool x := by simp [bc]
theorem bc_set (l : List Bool) (j : Nat) (x : Bool) : (bc l).setIfInBounds j (.bool x) = bc (l.set j x) := by
  simp only [bc, List.setIfInBounds_toArray, List.map_set]
theorem infoB : (Tryd.prog.info? 4).map (fun i => (i.zero, i.size, i.bytes)) = some (some (.bool false), 1, 1) := by kernel_rfl
theorem made_bool (n : Nat) : madeCells #[Value.bool false] n = bc (List.replicate n false) := by
  apply Array.ext_getElem?
  intro i
  rw [bc_get]
  simp only [madeCells]
  by_cases hi : i < n
  · rw [List.getElem?_replicate, if_pos hi]
    simp [hi, Nat.mod_one]
  · rw [List.getElem?_eq_none (by simp; omega), Array.getElem?_eq_none (by simp; omega)]; rfl
theorem make_bools (n : Nat) (hn : n ≤ 64) (u : World) : (Instr.makeSlice 55 (.int .i64 ((n : Int) + 1)) (.int .i64 ((n : Int) + 1))).run Tryd.prog u =
    .ok (.slice (some ⟨u.heap.size, 0, none⟩) (n + 1) (n + 1)) (u.alloc (.cells (bc (List.replicate (n + 1) false)) 4)) := by
  obtain ⟨i0, hi, hz0, hz1, hz2⟩ := info_parts infoB
  have h := run_make (P := Tryd.prog) u 55 4 i0 (.bool false) Tryd.underlying55 hi hz0 .i64 .i64 ((n : Int) + 1) ((n : Int) + 1) (by omega) (Int.le_refl _) (by rw [hz2]; omega) (by omega)
  rw [show ((n : Int) + 1).toNat = n + 1 from by omega, hz1, Nat.mul_one] at h
  rw [h, ← made_bool]; rfl
set_option maxHeartbeats 2000000 in
set_option maxRecDepth 100000 in
theorem rmatch_any (p n : ByteArray) (w : World) (hp : p.size ≤ 4398046511104) (hn : n.size ≤ 4398046511104) (hT : U8 w) :
    Calls Tryd.prog 8 #[.string p, .string n] w fun e w' => e = .returned (.tuple #[.bool (mtB p.data.toList n.data.toList), .int .i64 (mtE p.data.toList n.data.toList)]) ∧ Below w.heap.size w w' := by
  have HT : Hid (U8 w) := hT
  have hr1 := rrunes_any p w hp hT
  clear hT
  obtain ⟨B, hB⟩ : ∃ B, mtB p.data.toList n.data.toList = B := ⟨_, rfl⟩
  obtain ⟨E, hE⟩ : ∃ E, mtE p.data.toList n.data.toList = E := ⟨_, rfl⟩
  rw [hB, hE]
  obtain ⟨v1, hv1⟩ : ∃ v, Lib.validD p.data.toList = v := ⟨_, rfl⟩
  rw [hv1] at hr1
  cases v1 with
  | false =>
    have HF : Hid (B = false ∧ E = 4) := by
      have : wholeB p.data.toList = false := by unfold wholeB; rw [hv1]; simp
      exact ⟨by rw [← hB]; unfold mtB; rw [this]; rfl, by rw [← hE]; unfold mtE; rw [this]; rfl⟩
    clear hB hE hv1
    have R1 : Hid _ := hr1
    clear hr1
    go_enter Tryd.func8, Tryd.ntmps8
    go_wp2_with fail
    refine Calls.mono R1.out ?_
    rintro e w1 ⟨v, rfl, hv, hb⟩
    have HB : Hid (Below w.heap.size w w1) := hb
    clear hv hb
    go_wp2
    go_ret2
    exact ⟨by rw [HF.out.1, HF.out.2]; rfl, HB.out⟩
  | true =>
  by_cases hsz : 255 < p.size
  · have hszz : (255 : Int) < (p.size : Nat) := by omega
    have HF : Hid (B = false ∧ E = 4) := by
      have : wholeB p.data.toList = false := by unfold wholeB; rw [data_len, decide_eq_false (by omega)]; rfl
      exact ⟨by rw [← hB]; unfold mtB; rw [this]; rfl, by rw [← hE]; unfold mtE; rw [this]; rfl⟩
    clear hB hE hv1
    have R1 : Hid _ := hr1
    clear hr1
    go_enter Tryd.func8, Tryd.ntmps8
    go_wp2_with fail
    refine Calls.mono R1.out ?_
    rintro e w1 ⟨v, rfl, hv, hb⟩
    have HB : Hid (Below w.heap.size w w1) := hb
    clear hv hb
    go_wp2
    go_ret2
    exact ⟨by rw [HF.out.1, HF.out.2]; rfl, HB.out⟩
  have hszz : ¬ (255 : Int) < (p.size : Nat) := by omega
  have hwh : wholeB p.data.toList = true := by unfold wholeB; rw [hv1, data_len, decide_eq_true (by omega)]; rfl
  have hpl : (rn p.data.toList).length ≤ 255 := by have := rn_le p.data.toList; rw [data_len] at this; omega
  have hck := fun W hW => rcheck_any n W hW
  by_cases hok : okN n.data.toList = true
  · obtain ⟨ok1, ok2, _, _, _, ok6, ok7⟩ := okN_split hok
    have hre : rnE n.data.toList = 0 := by unfold rnE; rw [hok]; rfl
    rw [hre] at hck
    have hr2 := fun W hW => rrunes_any n W hn hW
    rw [ok2] at hr2
    obtain ⟨ps, hps⟩ : ∃ ps, rn p.data.toList = ps := ⟨_, rfl⟩
    obtain ⟨ns, hns⟩ : ∃ ns, rn n.data.toList = ns := ⟨_, rfl⟩
    have HF : Hid (B = like ps ns ∧ E = 0) := by
      exact ⟨by rw [← hB, ← hps, ← hns]; unfold mtB; rw [hwh, hok]; rfl, by rw [← hE]; unfold mtE; rw [hwh, if_pos rfl, hre]⟩
    have HV1 : Hid (∀ (W : World) v w', rnsV W p v w' → w'.ownsRow W.heap.size 21 1 v ps.length (rcl ps)) := by
      intro W v w' h; unfold rnsV at h; rw [hv1, if_pos rfl, hps] at h; exact h
    have HV2 : Hid (∀ (W : World) v w', rnsV W n v w' → w'.ownsRow W.heap.size 21 1 v ns.length (rcl ns)) := by
      intro W v w' h; unfold rnsV at h; rw [ok2, if_pos rfl, hns] at h; exact h
    rw [hps] at hpl
    rw [hns] at ok6 ok7
    have R1 : Hid _ := hr1
    have R2 : Hid _ := hr2
    have C1 : Hid _ := hck
    clear hr1 hr2 hck hB hE hv1 hwh hok hre ok1 ok2 hsz hps hns
    obtain ⟨P, hP⟩ : ∃ P, ps.length = P := ⟨_, rfl⟩
    obtain ⟨N, hN⟩ : ∃ N, ns.length = N := ⟨_, rfl⟩
    have HP : Hid (ps.length = P) := hP
    have HN : Hid (ns.length = N) := hN
    rw [hP] at hpl
    rw [hN] at ok6 ok7
    clear hP hN
    have hmk := make_bools N ok7
    go_enter Tryd.func8, Tryd.ntmps8
    go_wp2_with fail
    refine Calls.mono R1.out ?_
    rintro e w1 ⟨v, rfl, hv, hb⟩
    obtain ⟨a1, c1, rfl, hl1, hc1⟩ := own_lie (HV1.out _ _ _ hv)
    have HB : Hid (Below w.heap.size w w1) := hb
    have HL1 : Hid (LieR w1 a1 ps) := hl1
    rw [HP.out]
    clear hv hb hl1 hc1 HV1
    go_wp2_with fail
    refine Calls.mono (C1.out _ (HT.out.below HB.out)) ?_
    rintro e w2 ⟨rfl, hb2⟩
    have HB2 : Hid (Below w.heap.size w w2) := HB.out.trans (hb2.mono HB.out.size)
    have HL2 : Hid (LieR w2 a1 ps) := HL1.out.below hb2
    clear hb2 HL1 HB
    go_wp2_with fail
    refine Calls.mono (R2.out _ (HT.out.below HB2.out)) ?_
    rintro e w3 ⟨v, rfl, hv, hb3⟩
    obtain ⟨a2, c2, rfl, hl2, hc2⟩ := own_lie (HV2.out _ _ _ hv)
    have HB3 : Hid (Below w.heap.size w w3) := HB2.out.trans (hb3.mono HB2.out.size)
    have HL3 : Hid (LieR w3 a1 ps) := HL2.out.below hb3
    have HM3 : Hid (LieR w3 a2 ns) := hl2
    rw [HN.out]
    clear hv hb3 hl2 hc2 HV2 HL2 HB2 R1 R2 C1 HT
    have hbk := bk_new w3 (bc (List.replicate (N + 1) false)) 4
    have hc0 : (w3.alloc (.cells (bc (List.replicate (N + 1) false)) 4)).cell? ⟨w3.heap.size, 0, none⟩ = some (.bool false) := by rw [hbk.cell]; rfl
    have hf0 := hbk.frozen 0
    have HBK : Hid (Bk (w3.alloc (.cells ((bc (List.replicate (N + 1) false)).setIfInBounds 0 (.bool true)) 4)) w3.heap.size (bc (rwB ps ns 0 (N + 1))) 4) := by
      show Bk _ _ _ _
      rw [bc_set, ← HN.out, rwB_first ps ns, HN.out]
      exact bk_new w3 _ _
    clear hbk
    go_wp2_with fail
    go_loopw [10, 11] (fun t10 t11 wr => ∃ (i g : Nat), i ≤ P ∧ t10 = .slice (some ⟨g, 0, none⟩) (N + 1) (N + 1) ∧ t11 = .int .i64 i ∧ w3.heap.size ≤ g ∧ Hid (Bk wr g (bc (rwB ps ns i (N + 1))) 4) ∧ Hid (Below w3.heap.size w3 wr)) (fun _ t11 _ => P - (intOf t11).toNat)
    case atStart => exact ⟨0, w3.heap.size, by omega, rfl, rfl, Nat.le_refl _, HBK.out, (Below.refl _ _).alloc (Nat.le_refl _) _⟩
    case round =>
      obtain ⟨i, g, hi, rfl, rfl, hg, HG, HW⟩ := hrel
      clear hc0 hf0 HBK
      have hgl : g < wr.heap.size := HG.out.lt
      by_cases hlt : i < P
      · obtain ⟨c, hc⟩ : ∃ c, ps[i]? = some c := ⟨ps[i]'(by rw [HP.out]; exact hlt), List.getElem?_eq_getElem _⟩
        have HC : Hid (ps[i]? = some c) := hc
        clear hc
        go_wp2_with fail
        obtain ⟨h, hh⟩ : ∃ h, wr.heap.size = h := ⟨_, rfl⟩
        obtain ⟨W0, hW0⟩ : ∃ W0, wr.alloc (.cells (bc (List.replicate (N + 1) false)) 4) = W0 := ⟨_, rfl⟩
        have HH0 : Hid (Bk W0 h (bc (rwB ps ns (i + 1) 0)) 4) := by
          show Bk _ _ _ _
          rw [← hW0, ← hh, rwB_zero, HN.out]
          exact bk_new wr _ _
        have HG0 : Hid (Bk W0 g (bc (rwB ps ns i (N + 1))) 4) := by show Bk _ _ _ _; rw [← hW0]; exact HG.out.alloc _
        have HW1 : Hid (Below w3.heap.size w3 W0) := by show Below _ _ _; rw [← hW0]; exact HW.out.alloc HW.out.size _
        rw [hW0, hh]
        rw [hh] at hgl
        clear hW0 hh HG HW
        go_loopw [13] (fun v W => ∃ k : Nat, k ≤ N + 1 ∧ v = .int .i64 k ∧ Hid (Bk W h (bc (rwB ps ns (i + 1) k)) 4) ∧ Hid (Bk W g (bc (rwB ps ns i (N + 1))) 4) ∧ Hid (Below w3.heap.size w3 W)) (fun v _ => N + 1 - (intOf v).toNat)
        case atStart => exact ⟨0, by omega, rfl, HH0.out, HG0.out, HW1.out⟩
        case round =>
          obtain ⟨k, hk, rfl, HH, HG, HW⟩ := hrel
          clear HH0 HG0 HW1
          obtain ⟨pb, po, rfl, _, hpc⟩ := (HL3.out.below HW.out) i c HC.out
          by_cases hlk : k < N + 1
          · have hkz : (k : Int) < (N : Int) + 1 := by omega
            have hiz : (i : Int) < (P : Nat) := by omega
            have hfh := HH.out.frozen k
            obtain ⟨old, hold⟩ : ∃ old, (rwB ps ns (i + 1) k)[k]? = some old := ⟨_, List.getElem?_eq_getElem (by rw [rwB_len ps ns _ _ (by rw [HN.out]; omega), HN.out]; exact hlk)⟩
            have hch : wr.cell? ⟨h, k, none⟩ = some (.bool old) := by rw [HH.out.cell, bc_get, hold]; rfl
            have hcg : wr.cell? ⟨g, k, none⟩ = some (.bool (lk ps ns i k)) := by rw [HG.out.cell, bc_get, rwB_get ps ns i (N + 1) k hlk]; rfl
            have HST : Hid (∀ b, lk ps ns (i + 1) k = b → Bk (wr.setCell ⟨h, k, none⟩ (.bool b)) h (bc (rwB ps ns (i + 1) (k + 1))) 4) := by
              intro b hb
              rw [← rwB_next ps ns (i + 1) k (by rw [HN.out]; exact hlk), ← bc_set, hb]
              exact HH.out.set k _
            have HGT : Hid (∀ b, Bk (wr.setCell ⟨h, k, none⟩ (.bool b)) g (bc (rwB ps ns i (N + 1))) 4) := fun b => HG.out.grown (Lib.grownBy_setB (World.grownBy.refl _ _) k _) (by simp; omega)
            have HWT : Hid (∀ b, Below w3.heap.size w3 (wr.setCell ⟨h, k, none⟩ (.bool b))) := fun b => below_own HW.out HW.out.size (Lib.grownBy_setB (World.grownBy.refl _ _) k _) (by omega)
            have HSD : Hid (∀ nq b, lk ps ns (i + 1) k = b → Bk ((wr.drewN nq).setCell ⟨h, k, none⟩ (.bool b)) h (bc (rwB ps ns (i + 1) (k + 1))) 4) := by
              intro nq b hb
              rw [← rwB_next ps ns (i + 1) k (by rw [HN.out]; exact hlk), ← bc_set, hb]
              exact (HH.out.drewN nq).set k _
            have HGD : Hid (∀ nq b, Bk ((wr.drewN nq).setCell ⟨h, k, none⟩ (.bool b)) g (bc (rwB ps ns i (N + 1))) 4) := fun nq b => (HG.out.drewN nq).grown (Lib.grownBy_setB (World.grownBy.refl _ _) k _) (by simp; omega)
            have HWD : Hid (∀ nq b, Below w3.heap.size w3 ((wr.drewN nq).setCell ⟨h, k, none⟩ (.bool b))) := fun nq b => below_own (below_drewN HW.out nq) (by have := HW.out.size; simpa using this) (Lib.grownBy_setB (World.grownBy.refl _ _) k _) (by omega)
            clear hold
            by_cases hc42 : c = 42
            · have hcb : ((c : Int) == 42) = true := by rw [hc42]; rfl
              rw [hc42] at HC
              generalize hb1 : lk ps ns i k = b1 at *
              clear hc42
              cases k with
              | zero =>
                have e0 : lk ps ns (i + 1) 0 = b1 := by rw [lk_star0 ps ns i HC.out, hb1]
                have E0 : Hid (lk ps ns (i + 1) 0 = b1) := e0
                clear e0 hb1
                cases b1
                all_goals
                  go_wp2
                  go_roundw
                  case rel => exact ⟨1, by omega, by go_num, HST.out _ E0.out, HGT.out _, HWT.out _⟩
                  case measure => (simp [intOf] <;> omega)
              | succ j =>
                obtain ⟨x, hx⟩ : ∃ x, ns[j]? = some x := ⟨ns[j]'(by rw [HN.out]; omega), List.getElem?_eq_getElem _⟩
                have e0 := lk_star ps ns i j x HC.out hx
                rw [hb1] at e0
                have hcj : wr.cell? ⟨h, j, none⟩ = some (.bool (lk ps ns (i + 1) j)) := by rw [HH.out.cell, bc_get, rwB_get ps ns (i + 1) (j + 1) j (by omega)]; rfl
                generalize lk ps ns (i + 1) j = b2 at *
                have E0 : Hid (lk ps ns (i + 1) (j + 1) = (b1 || b2)) := e0
                clear e0 hx hb1
                obtain ⟨k, hkj⟩ : ∃ k, j + 1 = k := ⟨_, rfl⟩
                rw [hkj] at hk hkz hfh hch hcg HST HGT HWT HSD HGD HWD E0 HH ⊢
                have hj1 : (k : Int) - 1 = (j : Int) := by omega
                have hk0 : (0 : Int) < (k : Nat) := by omega
                clear hkj
                cases b1 <;> cases b2
                all_goals
                  go_wp2
                  go_roundw
                  case rel => exact ⟨k + 1, by omega, by go_num, HST.out _ E0.out, HGT.out _, HWT.out _⟩
                  case measure => (simp [intOf] <;> omega)
            · have hcb : ((c : Int) == 42) = false := by rw [beq_eq_false_iff_ne]; omega
              cases k with
              | zero =>
                have HS0 : Hid (Bk wr h (bc (rwB ps ns (i + 1) 1)) 4) := by
                  show Bk _ _ _ _
                  rw [← rwB_skip ps ns (i + 1) 0 (by omega) (lk_one0 ps ns i c hc42 HC.out)]
                  exact HH.out
                clear hc42
                go_wp2
                go_roundw
                case rel => exact ⟨1, by omega, by go_num, HS0.out, HG.out, HW.out⟩
                case measure => (simp [intOf] <;> omega)
              | succ j =>
                obtain ⟨x, hx⟩ : ∃ x, ns[j]? = some x := ⟨ns[j]'(by rw [HN.out]; omega), List.getElem?_eq_getElem _⟩
                obtain ⟨nb, no, rfl, _, hnc⟩ := (HM3.out.below HW.out) j x hx
                have e0 := lk_one ps ns i j c x hc42 HC.out hx
                have hcj : wr.cell? ⟨g, j, none⟩ = some (.bool (lk ps ns i j)) := by rw [HG.out.cell, bc_get, rwB_get ps ns i (N + 1) j (by omega)]; rfl
                generalize lk ps ns i j = b2 at *
                obtain ⟨q1, hq1⟩ : ∃ q1, (c == 63) = q1 := ⟨_, rfl⟩
                obtain ⟨q2, hq2⟩ : ∃ q2, (c == x) = q2 := ⟨_, rfl⟩
                rw [hq1, hq2] at e0
                have hq1z : ((c : Int) == 63) = q1 := by rw [← hq1, Bool.eq_iff_iff]; simp; omega
                have hq2z : ((c : Int) == (x : Int)) = q2 := by rw [← hq2, Bool.eq_iff_iff]; simp; omega
                have E0 : Hid (lk ps ns (i + 1) (j + 1) = (b2 && (q1 || q2))) := e0
                clear e0 hx hq1 hq2 hc42
                obtain ⟨k, hkj⟩ : ∃ k, j + 1 = k := ⟨_, rfl⟩
                rw [hkj] at hk hkz hfh hch hcg HST HGT HWT HSD HGD HWD E0 HH ⊢
                have hj1 : (k : Int) - 1 = (j : Int) := by omega
                have hj2 : IntKind.i64.wrap (j : Int) = (j : Int) := by rw [IntKind.wrap_i64]; omega
                have hjN : (j : Int) < (N : Nat) := by omega
                have hjN2 : (j : Int) < (N : Int) + 1 := by omega
                have hk0 : (0 : Int) < (k : Nat) := by omega
                clear hkj
                cases b2 <;> cases q1 <;> cases q2
                all_goals
                  go_wp2
                  refine wp_region_tail (fun W => ∃ n, W = wr.drewN n) 26 (by kernel_rfl) (by kernel_rfl) ⟨1, rfl⟩ ?_
                  simp only [List.take_succ_cons, List.take_zero, List.drop_succ_cons, List.drop_zero]
                  repeat (go_big_quiet_step (fail))
                  refine wpQuiet_nil ?_
                  intro w9 hw9
                  obtain ⟨nq, rfl⟩ := hw9
                  go_wp2
                  go_roundw
                  case rel => exact ⟨k + 1, by omega, by go_num, HSD.out nq _ E0.out, HGD.out nq _, HWD.out nq _⟩
                  case measure => (simp [intOf] <;> omega)
          · have hkN : k = N + 1 := by omega
            have HH2 : Hid (Bk wr h (bc (rwB ps ns (i + 1) (N + 1))) 4) := by show Bk _ _ _ _; rw [← hkN]; exact HH.out
            clear hkN
            go_wp2
            go_roundw
            case rel => exact ⟨i + 1, h, by omega, rfl, by go_num, by omega, HH2.out, HW.out⟩
            case measure => (simp [intOf] <;> omega)
      · have hiP : i = P := by omega
        have hcl : wr.cell? ⟨g, N, none⟩ = some (.bool (like ps ns)) := by
          rw [HG.out.cell, bc_get, rwB_get ps ns i (N + 1) N (by omega), hiP, ← HP.out, ← HN.out, lk_end]; rfl
        clear hiP
        go_wp2
        go_ret2
        exact ⟨by rw [HF.out.1, HF.out.2]; rfl, HB3.out.trans (HW.out.mono HB3.out.size)⟩
  · have hok' : okN n.data.toList = false := by simpa using hok
    have hre : rnE n.data.toList = 10 := by unfold rnE; rw [hok']; rfl
    rw [hre] at hck
    have HF : Hid (B = false ∧ E = 10) := by
      exact ⟨by rw [← hB]; unfold mtB; rw [hok']; simp, by rw [← hE]; unfold mtE; rw [hwh, if_pos rfl, hre]⟩
    have R1 : Hid _ := hr1
    have C1 : Hid _ := hck
    clear hr1 hck hB hE hv1 hwh hok hok' hre hpl hsz
    go_enter Tryd.func8, Tryd.ntmps8
    go_wp2_with fail
    refine Calls.mono R1.out ?_
    rintro e w1 ⟨v, rfl, hv, hb⟩
    have HB : Hid (Below w.heap.size w w1) := hb
    clear hv hb
    go_wp2_with fail
    refine Calls.mono (C1.out _ (HT.out.below HB.out)) ?_
    rintro e w2 ⟨rfl, hb2⟩
    have HB2 : Hid (Below w1.heap.size w1 w2) := hb2
    clear hb2
    go_wp2
    go_ret2
    exact ⟨by rw [HF.out.1, HF.out.2]; rfl, HB.out.trans (HB2.out.mono HB.out.size)⟩
end Go.Proofs.YtobecfeelamlmaaDoor
