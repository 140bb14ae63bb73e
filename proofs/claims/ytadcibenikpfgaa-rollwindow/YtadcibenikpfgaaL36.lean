/- The walk of RollWindow. -/
import Derived.Test.YtadcibenikpfgaaV3
import Derived.Test.YtadcibenikpfgaaE7
import Derived.Test.YtadcibenikpfgaaM10
namespace Go.Proofs.Ytadcibenikpfgaa
open Go.RowKit
set_option linter.unusedSimpArgs false
set_option linter.unusedVariables false
/-- Both rolls, and what came in. -/
structure SW (w : World) (ga gb : Nat) (la lb : List UInt8) (W : World) : Prop where
  ra : Rll W ga la
  rb : Rll W gb lb
  bel : Below w.heap.size w W
theorem SW.below {w : World} {ga gb : Nat} {la lb : List UInt8} {W W' : World} (h : SW w ga gb la lb W) (hb : Below W.heap.size W W') : SW w ga gb la lb W' :=
  ⟨h.ra.below hb h.ra.lt, h.rb.below hb h.rb.lt, h.bel.trans (hb.mono h.bel.size)⟩
theorem SW.drew {w : World} {ga gb : Nat} {la lb : List UInt8} {W : World} (h : SW w ga gb la lb W) : SW w ga gb la lb W.drew := ⟨h.ra, h.rb, h.bel.drew⟩
theorem SW.digA {w : World} {ga gb : Nat} {la lb : List UInt8} (W : World) (h : SW w ga gb la lb W) : Calls Try.prog 16 #[.pointer (some ⟨ga, 0, none⟩)] W fun e w'' => e = .returned (.int .u32 (dgR la : Int)) ∧ SW w ga gb la lb w'' :=
  (digestR_any la ga W h.ra).mono (fun e w'' ⟨h1, n, h2⟩ => ⟨h1, by subst h2; exact ⟨h.ra.drewN n, h.rb.drewN n, below_drewN h.bel n⟩⟩)
theorem SW.digB {w : World} {ga gb : Nat} {la lb : List UInt8} (W : World) (h : SW w ga gb la lb W) : Calls Try.prog 16 #[.pointer (some ⟨gb, 0, none⟩)] W fun e w'' => e = .returned (.int .u32 (dgR lb : Int)) ∧ SW w ga gb la lb w'' :=
  (digestR_any lb gb W h.rb).mono (fun e w'' ⟨h1, n, h2⟩ => ⟨h1, by subst h2; exact ⟨h.ra.drewN n, h.rb.drewN n, below_drewN h.bel n⟩⟩)
theorem SW.of {w : World} {ga gb : Nat} {la lb : List UInt8} (t : ByteArray) (ht : t.size ≤ maxLen) (W : World) (h : SW w ga gb la lb W) : Calls Try.prog 9 #[.string t] W fun e w'' => e = .returned (.int .u32 (dgR (tby t) : Int)) ∧ SW w ga gb la lb w'' :=
  (of_any t W ht).mono (fun e w'' ⟨h1, h2⟩ => ⟨h1, h.below h2⟩)
theorem tby_ext (S : ByteArray) (p q : Nat) (h : p ≤ q) (hq : q ≤ S.size) : tby (S.extract p q) = ((tby S).take q).drop p := by
  show (S.extract p q).data.toList = _
  rw [ByteArray.data_extract, Array.toList_extract, List.extract_eq_take_drop, List.drop_take]
theorem take_ext (S : ByteArray) (p q : Nat) (h : p ≤ q) (hq : q ≤ S.size) : (tby S).take p ++ tby (S.extract p q) = (tby S).take q := by
  rw [tby_ext S p q h hq]
  have e : (tby S).take p = ((tby S).take q).take p := by rw [List.take_take, Nat.min_eq_left h]
  rw [e, List.take_append_drop]
theorem dg_at (a : List UInt8) (S : ByteArray) (q : Nat) (h : 64 ≤ q) (hq : q ≤ S.size) : dgR (a ++ (tby S).take q) = dgR ((tby S).take q) := dgR_back _ _ (by rw [List.length_take, tby_len]; omega)
set_option maxHeartbeats 4000000 in
set_option maxRecDepth 100000 in
theorem window_walk (A O s : ByteArray) (a3 : Option Addr) (n3 c3 : Nat) (w : World) (hA : A.size ≤ 140737488351232) (hO : O.size ≤ 140737488351232) (hs : s.size ≤ 140737488351232) (h3 : BySb w a3 n3) (hn3 : n3 ≤ 140737488351232) :
    Calls Try.prog 6 #[.string A, .string O, .string s, .slice a3 n3 c3] w fun e w' => e = .returned (.bool true) ∧ Below w.heap.size w w' := by
  have H3 : Hid (BySb w a3 n3) := h3
  clear h3
  go_enter Try.func6, Try.ntmps6
  go_wp2_with fail
  refine (awakeR_any _).mono ?_
  rintro e w1 ⟨rfl, b1⟩
  have B1 : Hid (Below w.heap.size w w1) := b1
  clear b1
  go_wp2
  go_loop [2] (fun v => ∃ t : ByteArray, v = .string t ∧ t.size ≤ 140737488352000) (fun v => match v with | .string t => 64 - t.size | _ => 0)
  case atStart => exact ⟨s, rfl, by omega⟩
  case round =>
    obtain ⟨S, rfl, hS⟩ := hrel
    by_cases hlt : S.size < 64
    · go_wp2
      go_round
      case rel => exact ⟨S ++ ⟨#[0]⟩ ++ S, rfl, by simp only [ByteArray.size_append]; show S.size + 1 + S.size ≤ _; omega⟩
      case measure => simp only [ByteArray.size_append]; show 64 - (S.size + 1 + S.size) < 64 - S.size; omega
    · go_wp2_with fail
      refine (new_any _).mono ?_
      rintro e w2 ⟨rfl, h2, b2⟩
      have R2 : Hid (Rll w2 w1.heap.size []) := h2
      have B2 : Hid (Below w.heap.size w w2) := B1.out.trans (b2.mono B1.out.size)
      have z2 := h2.lt
      have z1 := B1.out.size
      clear h2 b2
      go_wp2_with fail
      refine (new_any _).mono ?_
      rintro e w3 ⟨rfl, h3, b3⟩
      have R3 : Hid (Rll w3 w1.heap.size []) := R2.out.below b3 z2
      have Q3 : Hid (Rll w3 w2.heap.size []) := h3
      have B3 : Hid (Below w.heap.size w w3) := B2.out.trans (b3.mono B2.out.size)
      clear h3 b3 R2 B2 B1
      obtain ⟨ga, hga⟩ : ∃ g, w1.heap.size = g := ⟨_, rfl⟩
      obtain ⟨gb, hgb⟩ : ∃ g, w2.heap.size = g := ⟨_, rfl⟩
      rw [hga] at R3 z1 z2 ⊢
      rw [hgb] at Q3 z2 ⊢
      clear hga hgb
      go_wp2_with fail
      refine (writeR_any [] A ga _ R3.out (by unfold maxLen; omega)).mono ?_
      rintro e w4 ⟨rfl, h4, g4⟩
      have R4 : Hid (Rll w4 ga (tby A)) := h4
      have Q4 : Hid (Rll w4 gb []) := Q3.out.grown g4 (by simp; omega)
      have B4 : Hid (Below w.heap.size w w4) := below_own B3.out B3.out.size g4 z1
      clear h4 g4 R3 Q3 B3
      go_wp2_with fail
      refine (writeR_any [] O gb _ Q4.out (by unfold maxLen; omega)).mono ?_
      rintro e w5 ⟨rfl, h5, g5⟩
      have S5 : Hid (SW w ga gb (tby A) (tby O) w5) := ⟨R4.out.grown g5 (by simp; omega), h5, below_own B4.out B4.out.size g5 (by omega)⟩
      clear h5 g5 R4 Q4 B4
      go_wp2
      go_loopw [11, 12] (fun v u wr => ∃ p i : Nat, p ≤ S.size ∧ i ≤ p ∧ v = .int .i64 p ∧ u = .int .i64 i ∧ Hid (SW w ga gb (tby A ++ (tby S).take p) (tby O ++ (tby S).take p) wr)) (fun v _ _ => S.size - (intOf v).toNat)
      case atStart => exact ⟨0, 0, by omega, by omega, rfl, rfl, by rw [List.take_zero, List.append_nil, List.append_nil]; exact S5.out⟩
      case round =>
        clear S5
        obtain ⟨p, i, hp, hip, rfl, rfl, HS⟩ := hrel
        by_cases hps : p < S.size
        · by_cases hin : i < n3
          · obtain ⟨g, o, x, rfl, hg, hc⟩ := H3.out i hin
            have hcr : wr.cell? ⟨g, o + i, none⟩ = some (.int .u8 (x.toNat : Int)) := by rw [HS.out.bel.cell (p := ⟨g, o + i, none⟩) hg]; exact hc
            have hx := x.toNat_lt
            clear hc
            by_cases hmin : S.size - p ≤ 1 + x.toNat
            · obtain ⟨m, hm⟩ : ∃ m : Nat, (S.size : Int) - p = m := ⟨S.size - p, by omega⟩
              obtain ⟨q, hq⟩ : ∃ q : Nat, (p : Int) + m = q := ⟨p + m, by omega⟩
              have hmz : (m : Int) ≤ 1 + (x.toNat : Int) := by omega
              have hqS : q ≤ S.size := by omega
              have hpq : p < q := by omega
              clear hmin
              go_wp2_with fail
              refine (writeR_any _ (S.extract p q) ga _ HS.out.ra (by rw [ByteArray.size_extract]; unfold maxLen; omega)).mono ?_
              rintro e w6 ⟨rfl, h6, g6⟩
              rw [List.append_assoc, take_ext S p q (by omega) hqS] at h6
              have S6 : Hid (SW w ga gb (tby A ++ (tby S).take q) (tby O ++ (tby S).take p) w6) := ⟨h6, HS.out.rb.grown g6 (by simp; omega), below_own HS.out.bel HS.out.bel.size g6 z1⟩
              clear h6 g6 HS
              go_wp2
              go_loopw [14] (fun v wr => ∃ j : Nat, p ≤ j ∧ j ≤ q ∧ v = .int .i64 j ∧ Hid (SW w ga gb (tby A ++ (tby S).take q) (tby O ++ (tby S).take j) wr)) (fun v _ => q - (intOf v).toNat)
              case atStart => exact ⟨p, by omega, by omega, rfl, S6.out⟩
              case round =>
                clear S6
                obtain ⟨j, hpj, hjq, rfl, HJ⟩ := hrel
                by_cases hjl : j < q
                · have hjz : (j : Int) < (q : Nat) := by omega
                  have hjS : j < S.size := by omega
                  go_wp2_with fail
                  refine (add_any _ (S[j]'hjS) gb _ HJ.out.rb).mono ?_
                  rintro e w7 ⟨rfl, h7, g7⟩
                  rw [List.append_assoc, ← tby_take S j hjS] at h7
                  have S7 : Hid (SW w ga gb (tby A ++ (tby S).take q) (tby O ++ (tby S).take (j + 1)) w7) := ⟨HJ.out.ra.grown g7 (by simp; omega), h7, below_own HJ.out.bel HJ.out.bel.size g7 (by omega)⟩
                  clear h7 g7 HJ
                  go_wp2
                  go_roundw
                  case rel => exact ⟨j + 1, by omega, by omega, by go_num, S7.out⟩
                  case measure => simp [intOf]; omega
                · have hjz : ¬ (j : Int) < (q : Nat) := by omega
                  have hjq2 : j = q := by omega
                  have S8 : Hid (SW w ga gb (tby A ++ (tby S).take q) (tby O ++ (tby S).take q) wr) := by have h := HJ.out; rw [hjq2] at h; exact h
                  clear HJ hjq2
                  by_cases h64 : 64 ≤ q
                  · have h64z : (64 : Int) ≤ (q : Nat) := by omega
                    have d1 := dg_at (tby A) S q h64 hqS
                    have d2 := dg_at (tby O) S q h64 hqS
                    have d3 : dgR (tby (S.extract 0 q)) = dgR ((tby S).take q) := by rw [tby_ext S 0 q (by omega) hqS, List.drop_zero]
                    have c1 := SW.digA (w := w) (ga := ga) (gb := gb) (la := tby A ++ (tby S).take q) (lb := tby O ++ (tby S).take q)
                    have c2 := SW.digB (w := w) (ga := ga) (gb := gb) (la := tby A ++ (tby S).take q) (lb := tby O ++ (tby S).take q)
                    have c3 := SW.of (w := w) (ga := ga) (gb := gb) (la := tby A ++ (tby S).take q) (lb := tby O ++ (tby S).take q) (S.extract 0 q) (by rw [ByteArray.size_extract]; unfold maxLen; omega)
                    rw [d1] at c1
                    rw [d2] at c2
                    rw [d3] at c3
                    obtain ⟨d, hd⟩ : ∃ d, dgR ((tby S).take q) = d := ⟨_, rfl⟩
                    rw [hd] at c1 c2 c3
                    have C1 : Hid _ := c1
                    have C2 : Hid _ := c2
                    have C3 : Hid _ := c3
                    have HQ : Hid (IntKind.i64.wrap (q : Int) = q) := by show _ = _; rw [IntKind.wrap_i64]; omega
                    clear c1 c2 c3 d1 d2 d3 hd
                    go_wp2
                    refine wp_region_class (SW w ga gb (tby A ++ (tby S).take q) (tby O ++ (tby S).take q)) (by kernel_rfl) (by kernel_rfl) S8.out.drew ?_
                    repeat (first
                      | go_big_quiet_skip
                      | (go_big_quiet_want
                         first
                           | (refine quiet_call (.int .u32 (d : Int)) 16 #[.pointer (some ⟨ga, 0, none⟩)] ?_ ?_ ?_; (focus (intro W hW; go_simp; done)); (focus (intro W hW; exact C1.out W hW)); go_big_quiet_on; simp only [Act.put, List.setIfInBounds_toArray, List.set_cons_zero, List.set_cons_succ])
                           | (refine quiet_call (.int .u32 (d : Int)) 16 #[.pointer (some ⟨gb, 0, none⟩)] ?_ ?_ ?_; (focus (intro W hW; go_simp; done)); (focus (intro W hW; exact C2.out W hW)); go_big_quiet_on; simp only [Act.put, List.setIfInBounds_toArray, List.set_cons_zero, List.set_cons_succ])
                           | (refine quiet_call (.int .u32 (d : Int)) 9 #[.string (S.extract 0 q)] ?_ ?_ ?_; (focus (intro W hW; go_simp; done)); (focus (intro W hW; exact C3.out W hW)); go_big_quiet_on; simp only [Act.put, List.setIfInBounds_toArray, List.set_cons_zero, List.set_cons_succ])
                           | (refine quiet_val (.int .i64 (q : Int)) ?_ ?_; (focus (intro W hW; go_simp; first | done | exact HQ.out)); go_big_quiet_on; simp only [Act.put, List.setIfInBounds_toArray, List.set_cons_zero, List.set_cons_succ])
                           | (refine quiet_val (.bool true) ?_ ?_; (focus (intro W hW; go_simp; done)); go_big_quiet_on; simp only [Act.put, List.setIfInBounds_toArray, List.set_cons_zero, List.set_cons_succ])
                           | (refine quiet_val (.bool false) ?_ ?_; (focus (intro W hW; go_simp; done)); go_big_quiet_on; simp only [Act.put, List.setIfInBounds_toArray, List.set_cons_zero, List.set_cons_succ])
                           | (refine quiet_val (.string (S.extract 0 q)) ?_ ?_; (focus (intro W hW; go_simp; done)); go_big_quiet_on; simp only [Act.put, List.setIfInBounds_toArray, List.set_cons_zero, List.set_cons_succ])
                           | (go_big_quiet_op; go_big_quiet_on)))
                    refine wpQuiet_nil ?_
                    intro w9 hw9
                    have S9 : Hid (SW w ga gb (tby A ++ (tby S).take q) (tby O ++ (tby S).take q) w9) := hw9
                    clear hw9 S8 C1 C2 C3
                    go_wp2
                    go_roundw
                    case rel => exact ⟨q, i + 1, by omega, by omega, by first | rfl | go_num, by go_num, S9.out⟩
                    case measure => simp [intOf]; omega
                  · have h64z : decide ((64 : Int) ≤ (q : Nat)) = false := by rw [decide_eq_false_iff_not]; omega
                    go_wp2
                    go_quiet (fail)
                    go_wp2
                    go_roundw
                    case rel => exact ⟨q, i + 1, by omega, by omega, by first | rfl | go_num, by go_num, ⟨S8.out.ra.drewN _, S8.out.rb.drewN _, below_drewN S8.out.bel _⟩⟩
                    case measure => simp [intOf]; omega
            · obtain ⟨M, hM⟩ : ∃ m : Nat, (S.size : Int) - p = m := ⟨S.size - p, by omega⟩
              obtain ⟨m, hm⟩ : ∃ m : Nat, (1 : Int) + x.toNat = m := ⟨1 + x.toNat, by omega⟩
              obtain ⟨q, hq⟩ : ∃ q : Nat, (p : Int) + m = q := ⟨p + m, by omega⟩
              have hmz : ¬ (M : Int) ≤ m := by omega
              have hmz2 : (m : Int) < M := by omega
              have hqS : q ≤ S.size := by omega
              have hpq : p < q := by omega
              clear hmin
              go_wp2_with fail
              refine (writeR_any _ (S.extract p q) ga _ HS.out.ra (by rw [ByteArray.size_extract]; unfold maxLen; omega)).mono ?_
              rintro e w6 ⟨rfl, h6, g6⟩
              rw [List.append_assoc, take_ext S p q (by omega) hqS] at h6
              have S6 : Hid (SW w ga gb (tby A ++ (tby S).take q) (tby O ++ (tby S).take p) w6) := ⟨h6, HS.out.rb.grown g6 (by simp; omega), below_own HS.out.bel HS.out.bel.size g6 z1⟩
              clear h6 g6 HS
              go_wp2
              go_loopw [14] (fun v wr => ∃ j : Nat, p ≤ j ∧ j ≤ q ∧ v = .int .i64 j ∧ Hid (SW w ga gb (tby A ++ (tby S).take q) (tby O ++ (tby S).take j) wr)) (fun v _ => q - (intOf v).toNat)
              case atStart => exact ⟨p, by omega, by omega, rfl, S6.out⟩
              case round =>
                clear S6
                obtain ⟨j, hpj, hjq, rfl, HJ⟩ := hrel
                by_cases hjl : j < q
                · have hjz : (j : Int) < (q : Nat) := by omega
                  have hjS : j < S.size := by omega
                  go_wp2_with fail
                  refine (add_any _ (S[j]'hjS) gb _ HJ.out.rb).mono ?_
                  rintro e w7 ⟨rfl, h7, g7⟩
                  rw [List.append_assoc, ← tby_take S j hjS] at h7
                  have S7 : Hid (SW w ga gb (tby A ++ (tby S).take q) (tby O ++ (tby S).take (j + 1)) w7) := ⟨HJ.out.ra.grown g7 (by simp; omega), h7, below_own HJ.out.bel HJ.out.bel.size g7 (by omega)⟩
                  clear h7 g7 HJ
                  go_wp2
                  go_roundw
                  case rel => exact ⟨j + 1, by omega, by omega, by go_num, S7.out⟩
                  case measure => simp [intOf]; omega
                · have hjz : ¬ (j : Int) < (q : Nat) := by omega
                  have hjq2 : j = q := by omega
                  have S8 : Hid (SW w ga gb (tby A ++ (tby S).take q) (tby O ++ (tby S).take q) wr) := by have h := HJ.out; rw [hjq2] at h; exact h
                  clear HJ hjq2
                  by_cases h64 : 64 ≤ q
                  · have h64z : (64 : Int) ≤ (q : Nat) := by omega
                    have d1 := dg_at (tby A) S q h64 hqS
                    have d2 := dg_at (tby O) S q h64 hqS
                    have d3 : dgR (tby (S.extract 0 q)) = dgR ((tby S).take q) := by rw [tby_ext S 0 q (by omega) hqS, List.drop_zero]
                    have c1 := SW.digA (w := w) (ga := ga) (gb := gb) (la := tby A ++ (tby S).take q) (lb := tby O ++ (tby S).take q)
                    have c2 := SW.digB (w := w) (ga := ga) (gb := gb) (la := tby A ++ (tby S).take q) (lb := tby O ++ (tby S).take q)
                    have c3 := SW.of (w := w) (ga := ga) (gb := gb) (la := tby A ++ (tby S).take q) (lb := tby O ++ (tby S).take q) (S.extract 0 q) (by rw [ByteArray.size_extract]; unfold maxLen; omega)
                    rw [d1] at c1
                    rw [d2] at c2
                    rw [d3] at c3
                    obtain ⟨d, hd⟩ : ∃ d, dgR ((tby S).take q) = d := ⟨_, rfl⟩
                    rw [hd] at c1 c2 c3
                    have C1 : Hid _ := c1
                    have C2 : Hid _ := c2
                    have C3 : Hid _ := c3
                    have HQ : Hid (IntKind.i64.wrap (q : Int) = q) := by show _ = _; rw [IntKind.wrap_i64]; omega
                    clear c1 c2 c3 d1 d2 d3 hd
                    go_wp2
                    refine wp_region_class (SW w ga gb (tby A ++ (tby S).take q) (tby O ++ (tby S).take q)) (by kernel_rfl) (by kernel_rfl) S8.out.drew ?_
                    repeat (first
                      | go_big_quiet_skip
                      | (go_big_quiet_want
                         first
                           | (refine quiet_call (.int .u32 (d : Int)) 16 #[.pointer (some ⟨ga, 0, none⟩)] ?_ ?_ ?_; (focus (intro W hW; go_simp; done)); (focus (intro W hW; exact C1.out W hW)); go_big_quiet_on; simp only [Act.put, List.setIfInBounds_toArray, List.set_cons_zero, List.set_cons_succ])
                           | (refine quiet_call (.int .u32 (d : Int)) 16 #[.pointer (some ⟨gb, 0, none⟩)] ?_ ?_ ?_; (focus (intro W hW; go_simp; done)); (focus (intro W hW; exact C2.out W hW)); go_big_quiet_on; simp only [Act.put, List.setIfInBounds_toArray, List.set_cons_zero, List.set_cons_succ])
                           | (refine quiet_call (.int .u32 (d : Int)) 9 #[.string (S.extract 0 q)] ?_ ?_ ?_; (focus (intro W hW; go_simp; done)); (focus (intro W hW; exact C3.out W hW)); go_big_quiet_on; simp only [Act.put, List.setIfInBounds_toArray, List.set_cons_zero, List.set_cons_succ])
                           | (refine quiet_val (.int .i64 (q : Int)) ?_ ?_; (focus (intro W hW; go_simp; first | done | exact HQ.out)); go_big_quiet_on; simp only [Act.put, List.setIfInBounds_toArray, List.set_cons_zero, List.set_cons_succ])
                           | (refine quiet_val (.bool true) ?_ ?_; (focus (intro W hW; go_simp; done)); go_big_quiet_on; simp only [Act.put, List.setIfInBounds_toArray, List.set_cons_zero, List.set_cons_succ])
                           | (refine quiet_val (.bool false) ?_ ?_; (focus (intro W hW; go_simp; done)); go_big_quiet_on; simp only [Act.put, List.setIfInBounds_toArray, List.set_cons_zero, List.set_cons_succ])
                           | (refine quiet_val (.string (S.extract 0 q)) ?_ ?_; (focus (intro W hW; go_simp; done)); go_big_quiet_on; simp only [Act.put, List.setIfInBounds_toArray, List.set_cons_zero, List.set_cons_succ])
                           | (go_big_quiet_op; go_big_quiet_on)))
                    refine wpQuiet_nil ?_
                    intro w9 hw9
                    have S9 : Hid (SW w ga gb (tby A ++ (tby S).take q) (tby O ++ (tby S).take q) w9) := hw9
                    clear hw9 S8 C1 C2 C3
                    go_wp2
                    go_roundw
                    case rel => exact ⟨q, i + 1, by omega, by omega, by first | rfl | go_num, by go_num, S9.out⟩
                    case measure => simp [intOf]; omega
                  · have h64z : decide ((64 : Int) ≤ (q : Nat)) = false := by rw [decide_eq_false_iff_not]; omega
                    go_wp2
                    go_quiet (fail)
                    go_wp2
                    go_roundw
                    case rel => exact ⟨q, i + 1, by omega, by omega, by first | rfl | go_num, by go_num, ⟨S8.out.ra.drewN _, S8.out.rb.drewN _, below_drewN S8.out.bel _⟩⟩
                    case measure => simp [intOf]; omega
          · obtain ⟨m, hm⟩ : ∃ m : Nat, (S.size : Int) - p = m := ⟨S.size - p, by omega⟩
            obtain ⟨q, hq⟩ : ∃ q : Nat, (p : Int) + m = q := ⟨p + m, by omega⟩
            have hiz : ¬ (i : Int) < (n3 : Nat) := by omega
            have hqS : q ≤ S.size := by omega
            have hpq : p < q := by omega
            go_wp2_with fail
            refine (writeR_any _ (S.extract p q) ga _ HS.out.ra (by rw [ByteArray.size_extract]; unfold maxLen; omega)).mono ?_
            rintro e w6 ⟨rfl, h6, g6⟩
            rw [List.append_assoc, take_ext S p q (by omega) hqS] at h6
            have S6 : Hid (SW w ga gb (tby A ++ (tby S).take q) (tby O ++ (tby S).take p) w6) := ⟨h6, HS.out.rb.grown g6 (by simp; omega), below_own HS.out.bel HS.out.bel.size g6 z1⟩
            clear h6 g6 HS
            go_wp2
            go_loopw [14] (fun v wr => ∃ j : Nat, p ≤ j ∧ j ≤ q ∧ v = .int .i64 j ∧ Hid (SW w ga gb (tby A ++ (tby S).take q) (tby O ++ (tby S).take j) wr)) (fun v _ => q - (intOf v).toNat)
            case atStart => exact ⟨p, by omega, by omega, rfl, S6.out⟩
            case round =>
              clear S6
              obtain ⟨j, hpj, hjq, rfl, HJ⟩ := hrel
              by_cases hjl : j < q
              · have hjz : (j : Int) < (q : Nat) := by omega
                have hjS : j < S.size := by omega
                go_wp2_with fail
                refine (add_any _ (S[j]'hjS) gb _ HJ.out.rb).mono ?_
                rintro e w7 ⟨rfl, h7, g7⟩
                rw [List.append_assoc, ← tby_take S j hjS] at h7
                have S7 : Hid (SW w ga gb (tby A ++ (tby S).take q) (tby O ++ (tby S).take (j + 1)) w7) := ⟨HJ.out.ra.grown g7 (by simp; omega), h7, below_own HJ.out.bel HJ.out.bel.size g7 (by omega)⟩
                clear h7 g7 HJ
                go_wp2
                go_roundw
                case rel => exact ⟨j + 1, by omega, by omega, by go_num, S7.out⟩
                case measure => simp [intOf]; omega
              · have hjz : ¬ (j : Int) < (q : Nat) := by omega
                have hjq2 : j = q := by omega
                have S8 : Hid (SW w ga gb (tby A ++ (tby S).take q) (tby O ++ (tby S).take q) wr) := by have h := HJ.out; rw [hjq2] at h; exact h
                clear HJ hjq2
                by_cases h64 : 64 ≤ q
                · have h64z : (64 : Int) ≤ (q : Nat) := by omega
                  have d1 := dg_at (tby A) S q h64 hqS
                  have d2 := dg_at (tby O) S q h64 hqS
                  have d3 : dgR (tby (S.extract 0 q)) = dgR ((tby S).take q) := by rw [tby_ext S 0 q (by omega) hqS, List.drop_zero]
                  have c1 := SW.digA (w := w) (ga := ga) (gb := gb) (la := tby A ++ (tby S).take q) (lb := tby O ++ (tby S).take q)
                  have c2 := SW.digB (w := w) (ga := ga) (gb := gb) (la := tby A ++ (tby S).take q) (lb := tby O ++ (tby S).take q)
                  have c3 := SW.of (w := w) (ga := ga) (gb := gb) (la := tby A ++ (tby S).take q) (lb := tby O ++ (tby S).take q) (S.extract 0 q) (by rw [ByteArray.size_extract]; unfold maxLen; omega)
                  rw [d1] at c1
                  rw [d2] at c2
                  rw [d3] at c3
                  obtain ⟨d, hd⟩ : ∃ d, dgR ((tby S).take q) = d := ⟨_, rfl⟩
                  rw [hd] at c1 c2 c3
                  have C1 : Hid _ := c1
                  have C2 : Hid _ := c2
                  have C3 : Hid _ := c3
                  have HQ : Hid (IntKind.i64.wrap (q : Int) = q) := by show _ = _; rw [IntKind.wrap_i64]; omega
                  clear c1 c2 c3 d1 d2 d3 hd
                  go_wp2
                  refine wp_region_class (SW w ga gb (tby A ++ (tby S).take q) (tby O ++ (tby S).take q)) (by kernel_rfl) (by kernel_rfl) S8.out.drew ?_
                  repeat (first
                    | go_big_quiet_skip
                    | (go_big_quiet_want
                       first
                         | (refine quiet_call (.int .u32 (d : Int)) 16 #[.pointer (some ⟨ga, 0, none⟩)] ?_ ?_ ?_; (focus (intro W hW; go_simp; done)); (focus (intro W hW; exact C1.out W hW)); go_big_quiet_on; simp only [Act.put, List.setIfInBounds_toArray, List.set_cons_zero, List.set_cons_succ])
                         | (refine quiet_call (.int .u32 (d : Int)) 16 #[.pointer (some ⟨gb, 0, none⟩)] ?_ ?_ ?_; (focus (intro W hW; go_simp; done)); (focus (intro W hW; exact C2.out W hW)); go_big_quiet_on; simp only [Act.put, List.setIfInBounds_toArray, List.set_cons_zero, List.set_cons_succ])
                         | (refine quiet_call (.int .u32 (d : Int)) 9 #[.string (S.extract 0 q)] ?_ ?_ ?_; (focus (intro W hW; go_simp; done)); (focus (intro W hW; exact C3.out W hW)); go_big_quiet_on; simp only [Act.put, List.setIfInBounds_toArray, List.set_cons_zero, List.set_cons_succ])
                         | (refine quiet_val (.int .i64 (q : Int)) ?_ ?_; (focus (intro W hW; go_simp; first | done | exact HQ.out)); go_big_quiet_on; simp only [Act.put, List.setIfInBounds_toArray, List.set_cons_zero, List.set_cons_succ])
                         | (refine quiet_val (.bool true) ?_ ?_; (focus (intro W hW; go_simp; done)); go_big_quiet_on; simp only [Act.put, List.setIfInBounds_toArray, List.set_cons_zero, List.set_cons_succ])
                         | (refine quiet_val (.bool false) ?_ ?_; (focus (intro W hW; go_simp; done)); go_big_quiet_on; simp only [Act.put, List.setIfInBounds_toArray, List.set_cons_zero, List.set_cons_succ])
                         | (refine quiet_val (.string (S.extract 0 q)) ?_ ?_; (focus (intro W hW; go_simp; done)); go_big_quiet_on; simp only [Act.put, List.setIfInBounds_toArray, List.set_cons_zero, List.set_cons_succ])
                         | (go_big_quiet_op; go_big_quiet_on)))
                  refine wpQuiet_nil ?_
                  intro w9 hw9
                  have S9 : Hid (SW w ga gb (tby A ++ (tby S).take q) (tby O ++ (tby S).take q) w9) := hw9
                  clear hw9 S8 C1 C2 C3
                  go_wp2
                  go_roundw
                  case rel => exact ⟨q, i + 1, by omega, by omega, by first | rfl | go_num, by go_num, S9.out⟩
                  case measure => simp [intOf]; omega
                · have h64z : decide ((64 : Int) ≤ (q : Nat)) = false := by rw [decide_eq_false_iff_not]; omega
                  go_wp2
                  go_quiet (fail)
                  go_wp2
                  go_roundw
                  case rel => exact ⟨q, i + 1, by omega, by omega, by first | rfl | go_num, by go_num, ⟨S8.out.ra.drewN _, S8.out.rb.drewN _, below_drewN S8.out.bel _⟩⟩
                  case measure => simp [intOf]; omega
        · have hpz : ¬ (p : Int) < (S.size : Nat) := by omega
          have hpS : p = S.size := by omega
          have S8 : Hid (SW w ga gb (tby A ++ tby S) (tby O ++ tby S) wr) := by have h := HS.out; rw [tby_all S p (by omega)] at h; exact h
          obtain ⟨r, hr⟩ : ∃ r : Nat, (S.size : Int) - 64 = r := ⟨S.size - 64, by omega⟩
          have d1 : dgR (tby A ++ tby S) = dgR (tby S) := dgR_back _ _ (by rw [tby_len]; omega)
          have d3 : dgR (tby (S.extract r S.size)) = dgR (tby S) := by
            rw [tby_ext S r S.size (by omega) (Nat.le_refl _), tby_all S S.size (Nat.le_refl _)]
            exact dgR_drop _ _ (by rw [tby_len]; omega)
          have c1 := SW.digA (w := w) (ga := ga) (gb := gb) (la := tby A ++ tby S) (lb := tby O ++ tby S)
          have c3 := SW.of (w := w) (ga := ga) (gb := gb) (la := tby A ++ tby S) (lb := tby O ++ tby S) (S.extract r S.size) (by rw [ByteArray.size_extract]; unfold maxLen; omega)
          rw [d1] at c1
          rw [d3] at c3
          obtain ⟨d, hd⟩ : ∃ d, dgR (tby S) = d := ⟨_, rfl⟩
          rw [hd] at c1 c3
          have C1 : Hid _ := c1
          have C3 : Hid _ := c3
          have hrS : (r : Int) ≤ (S.size : Nat) := by omega
          have HQ : Hid (IntKind.i64.wrap (r : Int) = r) := by show _ = _; rw [IntKind.wrap_i64]; omega
          clear c1 c3 d1 d3 hd hpS HS
          go_wp2
          refine wp_region_class (SW w ga gb (tby A ++ tby S) (tby O ++ tby S)) (by kernel_rfl) (by kernel_rfl) S8.out.drew ?_
          repeat (first
            | go_big_quiet_skip
            | (go_big_quiet_want
               first
                 | (refine quiet_call (.int .u32 (d : Int)) 16 #[.pointer (some ⟨ga, 0, none⟩)] ?_ ?_ ?_; (focus (intro W hW; go_simp; done)); (focus (intro W hW; exact C1.out W hW)); go_big_quiet_on; simp only [Act.put, List.setIfInBounds_toArray, List.set_cons_zero, List.set_cons_succ])
                 | (refine quiet_call (.int .u32 (d : Int)) 9 #[.string (S.extract r S.size)] ?_ ?_ ?_; (focus (intro W hW; go_simp; done)); (focus (intro W hW; exact C3.out W hW)); go_big_quiet_on; simp only [Act.put, List.setIfInBounds_toArray, List.set_cons_zero, List.set_cons_succ])
                 | (refine quiet_val (.int .i64 (S.size : Int)) ?_ ?_; (focus (intro W hW; go_simp; done)); go_big_quiet_on; simp only [Act.put, List.setIfInBounds_toArray, List.set_cons_zero, List.set_cons_succ])
                 | (refine quiet_val (.int .i64 (r : Int)) ?_ ?_; (focus (intro W hW; go_simp; first | done | exact HQ.out)); go_big_quiet_on; simp only [Act.put, List.setIfInBounds_toArray, List.set_cons_zero, List.set_cons_succ])
                 | (refine quiet_val (.bool true) ?_ ?_; (focus (intro W hW; go_simp; done)); go_big_quiet_on; simp only [Act.put, List.setIfInBounds_toArray, List.set_cons_zero, List.set_cons_succ])
                 | (refine quiet_val (.string (S.extract r S.size)) ?_ ?_; (focus (intro W hW; go_simp; done)); go_big_quiet_on; simp only [Act.put, List.setIfInBounds_toArray, List.set_cons_zero, List.set_cons_succ])
                 | (go_big_quiet_op; go_big_quiet_on)))
          refine wpQuiet_nil ?_
          intro w9 hw9
          go_wp2
          go_ret
          exact ⟨rfl, hw9.bel⟩
end Go.Proofs.Ytadcibenikpfgaa
