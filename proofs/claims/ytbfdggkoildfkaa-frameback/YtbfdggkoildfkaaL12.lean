/- The walk of munimentlaw03.FrameBack. -/
import Derived.Test.YtbfdggkoildfkaaE8
import Derived.Test.YtbfdggkoildfkaaE7
import Derived.Test.YtbfdggkoildfkaaO4
import Derived.Test.YtbfdggkoildfkaaG3
import Derived.Test.YtbfdggkoildfkaaG5
namespace Go.Proofs.Ytbfdggkoildfkaa
open Go.RowKit
set_option linter.unusedSimpArgs false
set_option linter.unusedVariables false
theorem wrap_small (n : Int) (h0 : 0 ≤ n) (h1 : n ≤ 1099511627776) : IntKind.i64.wrap n = n := by
  simp [IntKind.wrap, IntKind.bits, IntKind.signed]
  omega
/-- What the loop's test reads, wherever it stands. -/
abbrev SB (w : World) (g o : Nat) (x : ByteArray) (W : World) : Prop := W.cell? ⟨g, o, none⟩ = some (.string x) ∧ Below w.heap.size w W
theorem SB.below {w : World} {g o : Nat} {x : ByteArray} {W W' : World} (hg : g < w.heap.size) (h : SB w g o x W) (hb : Below W.heap.size W W') : SB w g o x W' :=
  ⟨by rw [hb.cell (p := ⟨g, o, none⟩) (by have := h.2.size; show g < W.heap.size; omega)]; exact h.1, h.2.trans (hb.mono h.2.size)⟩
set_option maxRecDepth 100000 in
set_option maxHeartbeats 4000000 in
theorem back_walk (a0 : Option Addr) (n cap : Nat) (T : Nat → ByteArray) (t : ByteArray) (w : World) (hn : n ≤ maxLen) (hcap : n ≤ cap) (hcm : cap ≤ maxLen) (hL : LieS w a0 n T) (hT : ∀ i, i < n → (T i).size ≤ 140737488351232) (ht : t.size ≤ 140737488351232) :
    Calls Try.prog 4 #[.slice a0 n cap, .string t] w fun e w' => e = .returned (.bool true) ∧ Below w.heap.size w w' := by
  unfold maxLen at hn hcm
  have HL : Hid (LieS w a0 n T) := hL
  have HT : Hid (∀ i, i < n → (T i).size ≤ 140737488351232) := hT
  clear hL hT
  go_enter Try.func4, Try.ntmps4
  go_wp2
  go_loopw [5, 6] (fun v i wr => ∃ (k : Nat) (a : ByteArray), k ≤ n ∧ k ≤ 60 ∧ i = .int .i64 k ∧ v = .string a ∧ a.size ≤ 67108872 * k ∧ Hid (a = catF (firstT T k) ∧ (∀ j, j < k → (T j).size ≤ 67108864)) ∧ Hid (Below w.heap.size w wr)) (fun _ i _ => n - (intOf i).toNat)
  case atStart => exact ⟨0, ⟨#[]⟩, by omega, by omega, rfl, rfl, by decide, ⟨rfl, fun j hj => by omega⟩, Below.refl _ _⟩
  case round =>
    obtain ⟨k, a, hk, hk60, rfl, rfl, haz, HA, HB⟩ := hrel
    by_cases hlt : k < n ∧ k < 60
    · obtain ⟨h1, h2⟩ := hlt
      obtain ⟨g, o, rfl, hg, hc⟩ := HL.out k h1
      obtain ⟨x, hx⟩ : ∃ x, x = T k := ⟨_, rfl⟩
      rw [← hx] at hc
      have hxz : x.size ≤ 140737488351232 := by rw [hx]; exact HT.out k h1
      have HX : Hid (x = T k) := hx
      clear hx
      have hcr : wr.cell? ⟨g, o + k, none⟩ = some (.string x) := by rw [HB.out.cell (p := ⟨g, o + k, none⟩) hg]; exact hc
      have zr : w.heap.size ≤ wr.heap.size := HB.out.size
      clear hc
      go_wp2_with fail
      by_cases hbig : 67108864 < x.size
      · refine (frame_no x _ (by unfold maxLen; omega) hbig).mono ?_
        rintro e w1 ⟨rfl, hw1⟩
        subst hw1
        go_wp2_with fail
        refine (awake_any w1).mono ?_
        rintro e w2 ⟨rfl, h2⟩
        have H2 : Hid (Below w.heap.size w w2) := HB.out.trans (h2.mono zr)
        clear h2
        go_wp2
        go_ret
        exact ⟨rfl, H2.out⟩
      have hxs : x.size ≤ 67108864 := by omega
      clear hbig
      refine (frame_ok x _ hxs).mono ?_
      rintro e w1 ⟨rfl, h1b⟩
      obtain ⟨f, hf⟩ : ∃ f, f = frm x := ⟨_, rfl⟩
      rw [← hf]
      have hfz : f.size = 8 + x.size := by rw [hf, frm_size]
      have HF : Hid (f = frm x) := hf
      have hne : ((f.size : Int) != 8 + (x.size : Int)) = false := by rw [bne_eq_false_iff_eq]; omega
      have hfl : f.size ≤ 67108872 := by omega
      have HFZ : Hid (f.size = 8 + x.size) := hfz
      clear hf hfz
      have S1 : Hid (SB w g (o + k) x w1) := SB.below hg ⟨hcr, HB.out⟩ h1b
      clear h1b
      go_wp2_with fail
      refine (unframe_any _ _ (by rw [append_size]; unfold maxLen; omega)).mono ?_
      rintro e w2 ⟨rfl, h2b⟩
      obtain ⟨k1, k2, k3⟩ := frame_uf x (f ++ t) t (by rw [HF.out]) hxs
      rw [k2, k3, (uf_yes k1).2.2]
      have S2 : Hid (SB w g (o + k) x w2) := SB.below hg S1.out h2b
      clear h2b k1 k2 k3 S1 hcr
      obtain ⟨q, hq⟩ : ∃ q : BitVec 32, q = crcC (bl t) := ⟨_, rfl⟩
      obtain ⟨r, hr⟩ : ∃ r : BitVec 32, r = onC q (bl x) := ⟨_, rfl⟩
      have cc1 : ∀ W, SB w g (o + k) x W → Calls Try.prog 11 #[.string t] W (fun e w'' => e = .returned (c32 q) ∧ SB w g (o + k) x w'') := fun W hW =>
        (crc_any t W (by unfold maxLen; omega)).mono (fun _ _ h => ⟨by rw [h.1, hq], SB.below hg hW h.2⟩)
      have cc2 : ∀ W, SB w g (o + k) x W → Calls Try.prog 13 #[c32 q, .string x] W (fun e w'' => e = .returned (c32 r) ∧ SB w g (o + k) x w'') := fun W hW =>
        (on_any q x W (by unfold maxLen; omega)).mono (fun _ _ h => ⟨by rw [h.1, hr], SB.below hg hW h.2⟩)
      have cc3 : ∀ W, SB w g (o + k) x W → Calls Try.prog 11 #[.string (t ++ x)] W (fun e w'' => e = .returned (c32 r) ∧ SB w g (o + k) x w'') := fun W hW =>
        (crc_any (t ++ x) W (by rw [append_size]; unfold maxLen; omega)).mono (fun _ _ h => ⟨by rw [h.1, hr, hq, onC_crc, bl_append], SB.below hg hW h.2⟩)
      have C1 : Hid (∀ W, SB w g (o + k) x W → Calls Try.prog 11 #[.string t] W (fun e w'' => e = .returned (c32 q) ∧ SB w g (o + k) x w'')) := cc1
      have C2 : Hid (∀ W, SB w g (o + k) x W → Calls Try.prog 13 #[c32 q, .string x] W (fun e w'' => e = .returned (c32 r) ∧ SB w g (o + k) x w'')) := cc2
      have C3 : Hid (∀ W, SB w g (o + k) x W → Calls Try.prog 11 #[.string (t ++ x)] W (fun e w'' => e = .returned (c32 r) ∧ SB w g (o + k) x w'')) := cc3
      have H8 : Hid (IntKind.i64.wrap (8 + (x.size : Int)) = 8 + (x.size : Int)) := wrap_small _ (by omega) (by omega)
      clear hq hr cc1 cc2 cc3
      go_wp2
      refine wp_region_class (SB w g (o + k) x) (by kernel_rfl) (by kernel_rfl) ⟨S2.out.1, S2.out.2.drew⟩ ?_
      repeat (first
        | go_big_quiet_skip
        | (go_big_quiet_want
           first
             | (refine quiet_str _ rfl g (o + k) x rfl (fun _ h => h.1) ?_; go_big_quiet_on; simp only [Act.put, List.setIfInBounds_toArray, List.set_cons_zero, List.set_cons_succ])
             | (refine quiet_call (c32 q) 11 #[.string t] ?_ ?_ ?_; (focus (intro W hW; go_simp; done)); (focus (intro W hW; exact C1.out W hW)); go_big_quiet_on; simp only [Act.put, List.setIfInBounds_toArray, List.set_cons_zero, List.set_cons_succ])
             | (refine quiet_call (c32 r) 13 #[c32 q, .string x] ?_ ?_ ?_; (focus (intro W hW; go_simp; done)); (focus (intro W hW; exact C2.out W hW)); go_big_quiet_on; simp only [Act.put, List.setIfInBounds_toArray, List.set_cons_zero, List.set_cons_succ])
             | (refine quiet_call (c32 r) 11 #[.string (t ++ x)] ?_ ?_ ?_; (focus (intro W hW; go_simp; done)); (focus (intro W hW; exact C3.out W hW)); go_big_quiet_on; simp only [Act.put, List.setIfInBounds_toArray, List.set_cons_zero, List.set_cons_succ])
             | (refine quiet_val (.bool false) ?_ ?_; (focus (intro W hW; go_simp; done)); go_big_quiet_on; simp only [Act.put, List.setIfInBounds_toArray, List.set_cons_zero, List.set_cons_succ])
             | (refine quiet_val (.int .i64 (f.size : Int)) ?_ ?_; (focus (intro W hW; go_simp; done)); go_big_quiet_on; simp only [Act.put, List.setIfInBounds_toArray, List.set_cons_zero, List.set_cons_succ])
             | (refine quiet_val (.int .i64 (x.size : Int)) ?_ ?_; (focus (intro W hW; go_simp; done)); go_big_quiet_on; simp only [Act.put, List.setIfInBounds_toArray, List.set_cons_zero, List.set_cons_succ])
             | (refine quiet_val (.int .i64 (8 + (x.size : Int))) ?_ ?_; (focus (intro W hW; go_simp; exact H8.out)); go_big_quiet_on; simp only [Act.put, List.setIfInBounds_toArray, List.set_cons_zero, List.set_cons_succ])
             | (refine quiet_val (.string (t ++ x)) ?_ ?_; (focus (intro W hW; go_simp; omega)); go_big_quiet_on; simp only [Act.put, List.setIfInBounds_toArray, List.set_cons_zero, List.set_cons_succ])
             | (refine quiet_val (.pointer (some ⟨g, o + k, none⟩)) ?_ ?_; (focus (intro W hW; go_simp; done)); go_big_quiet_on; simp only [Act.put, List.setIfInBounds_toArray, List.set_cons_zero, List.set_cons_succ])
             | (go_big_quiet_op; go_big_quiet_on)))
      refine wpQuiet_nil ?_
      intro w3 hw3
      have HB3 : Hid (Below w.heap.size w w3) := hw3.2
      clear hw3 S2 C1 C2 C3
      have hsum : a.size + f.size ≤ 67108872 * (k + 1) := by omega
      go_wp2
      go_roundw
      case rel =>
        refine ⟨k + 1, a ++ f, by omega, by omega, by go_num, rfl, by rw [append_size]; omega, ⟨?_, ?_⟩, HB3.out⟩
        · rw [firstT_succ, catF_snoc, ← HA.out.1, ← HX.out, HF.out]
        · intro j hj
          rcases Nat.lt_or_ge j k with h | h
          · exact HA.out.2 j h
          · have : j = k := by omega
            rw [this, ← HX.out]; exact hxs
      case measure => simp [intOf]; omega
    · have zr : w.heap.size ≤ wr.heap.size := HB.out.size
      have hps : ∀ p ∈ firstT T k, p.size ≤ 67108864 := by
        intro p hp
        obtain ⟨i, hi, rfl⟩ := firstT_mem hp
        exact HA.out.2 i hi
      have HPS : Hid (∀ p ∈ firstT T k, p.size ≤ 67108864) := hps
      clear hps
      have hkk : min n 60 = k := by omega
      have HKK : Hid (min n 60 = k) := hkk
      have hke : (¬ k < n) ∨ (k < n ∧ ¬ k < 60) := by omega
      clear hlt hkk
      have hk3 : (k = n ∧ n ≤ 60) ∨ (k = 60 ∧ 60 < n) := by omega
      clear hke
      rcases hk3 with ⟨h1, h2⟩ | ⟨h1, h2⟩
      · subst h1
        go_wp2_with fail
        refine (runframe_any t _ (by unfold maxLen; omega)).mono ?_
        rintro e w1 ⟨rfl, hb1⟩
        have HB1 : Hid (Below w.heap.size w w1) := HB.out.trans (hb1.mono zr)
        have z1 : w.heap.size ≤ w1.heap.size := HB1.out.size
        clear hb1
        cases hu : ufB t with
        | true =>
          rw [(uf_yes hu).2.2]
          obtain ⟨p1, hp1⟩ : ∃ p1, p1 = ufP t := ⟨_, rfl⟩
          obtain ⟨p2, hp2⟩ : ∃ p2, p2 = ufR t := ⟨_, rfl⟩
          rw [← hp1, ← hp2]
          clear hp1 hp2 hu
          go_wp2_with fail
          refine (awake_any w1).mono ?_
          rintro e w2 ⟨rfl, h2b⟩
          have H2 : Hid (Below w.heap.size w w2) := HB1.out.trans (h2b.mono z1)
          clear h2b
          go_wp2
          go_ret
          exact ⟨rfl, H2.out⟩
        | false =>
          rw [(uf_no hu).1, (uf_no hu).2.1, (uf_no hu).2.2]
          have hcat := allP_cat (firstT T k) t (a ++ t) HPS.out hu (by rw [HA.out.1])
          have HC : Hid (allP (a ++ t) = firstT T k ∧ allR (a ++ t) = t) := hcat
          clear hcat hu
          go_wp2_with fail
          refine (all_any (a ++ t) w1 (by rw [append_size]; unfold maxLen; omega) (by rw [HC.out.1, firstT_length]; omega)).mono ?_
          rintro e w2 ⟨v, rfl, o2, h2b⟩
          rw [show (((a ++ t).size : Int) - (allR (a ++ t)).size) = (a.size : Int) from by rw [HC.out.2, append_size]; omega]
          rw [HC.out.1, firstT_length] at o2
          have HB2 : Hid (Below w.heap.size w w2) := HB1.out.trans (h2b.mono z1)
          have z2 : w.heap.size ≤ w2.heap.size := HB2.out.size
          obtain ⟨av, cv, rfl, tv⟩ := Txt.of_own o2
          have TV : Hid (Txt w2 av k (firstT T k)) := tv
          have TL : Hid (Txt w2 a0 k (firstT T k)) := by
            refine ⟨firstT_length _ _, fun i hi => ?_⟩
            rw [firstT_length] at hi
            obtain ⟨g, o, e1, e2, e3⟩ := HL.out i (by omega)
            refine ⟨g, o, e1, ?_⟩
            rw [HB2.out.cell (p := ⟨g, o + i, none⟩) e2, e3]
            simp [firstT]
          clear h2b o2 tv
          go_wp2_with fail
          refine (same_yes av a0 k cv cap (firstT T k) w2 (by omega) TV.out TL.out).mono ?_
          rintro e w3 ⟨rfl, h3b⟩
          have HB3 : Hid (Below w.heap.size w w3) := HB2.out.trans (h3b.mono z2)
          have z3 : w.heap.size ≤ w3.heap.size := HB3.out.size
          clear h3b
          go_wp2_with fail
          refine (awake_any w3).mono ?_
          rintro e w4 ⟨rfl, h4b⟩
          have H4 : Hid (Below w.heap.size w w4) := HB3.out.trans (h4b.mono z3)
          clear h4b
          go_wp2
          go_ret
          exact ⟨rfl, H4.out⟩
      · subst h1
        go_wp2_with fail
        refine (runframe_any t _ (by unfold maxLen; omega)).mono ?_
        rintro e w1 ⟨rfl, hb1⟩
        have HB1 : Hid (Below w.heap.size w w1) := HB.out.trans (hb1.mono zr)
        have z1 : w.heap.size ≤ w1.heap.size := HB1.out.size
        clear hb1
        cases hu : ufB t with
        | true =>
          rw [(uf_yes hu).2.2]
          obtain ⟨p1, hp1⟩ : ∃ p1, p1 = ufP t := ⟨_, rfl⟩
          obtain ⟨p2, hp2⟩ : ∃ p2, p2 = ufR t := ⟨_, rfl⟩
          rw [← hp1, ← hp2]
          clear hp1 hp2 hu
          go_wp2_with fail
          refine (awake_any w1).mono ?_
          rintro e w2 ⟨rfl, h2b⟩
          have H2 : Hid (Below w.heap.size w w2) := HB1.out.trans (h2b.mono z1)
          clear h2b
          go_wp2
          go_ret
          exact ⟨rfl, H2.out⟩
        | false =>
          rw [(uf_no hu).1, (uf_no hu).2.1, (uf_no hu).2.2]
          have hcat := allP_cat (firstT T 60) t (a ++ t) HPS.out hu (by rw [HA.out.1])
          have HC : Hid (allP (a ++ t) = firstT T 60 ∧ allR (a ++ t) = t) := hcat
          clear hcat hu
          go_wp2_with fail
          refine (all_any (a ++ t) w1 (by rw [append_size]; unfold maxLen; omega) (by rw [HC.out.1, firstT_length]; omega)).mono ?_
          rintro e w2 ⟨v, rfl, o2, h2b⟩
          rw [show (((a ++ t).size : Int) - (allR (a ++ t)).size) = (a.size : Int) from by rw [HC.out.2, append_size]; omega]
          rw [HC.out.1, firstT_length] at o2
          have HB2 : Hid (Below w.heap.size w w2) := HB1.out.trans (h2b.mono z1)
          have z2 : w.heap.size ≤ w2.heap.size := HB2.out.size
          obtain ⟨av, cv, rfl, tv⟩ := Txt.of_own o2
          have TV : Hid (Txt w2 av 60 (firstT T 60)) := tv
          have TL : Hid (Txt w2 a0 60 (firstT T 60)) := by
            refine ⟨firstT_length _ _, fun i hi => ?_⟩
            rw [firstT_length] at hi
            obtain ⟨g, o, e1, e2, e3⟩ := HL.out i (by omega)
            refine ⟨g, o, e1, ?_⟩
            rw [HB2.out.cell (p := ⟨g, o + i, none⟩) e2, e3]
            simp [firstT]
          clear h2b o2 tv
          go_wp2_with fail
          refine (same_yes av a0 60 cv cap (firstT T 60) w2 (by omega) TV.out TL.out).mono ?_
          rintro e w3 ⟨rfl, h3b⟩
          have HB3 : Hid (Below w.heap.size w w3) := HB2.out.trans (h3b.mono z2)
          have z3 : w.heap.size ≤ w3.heap.size := HB3.out.size
          clear h3b
          go_wp2_with fail
          refine (awake_any w3).mono ?_
          rintro e w4 ⟨rfl, h4b⟩
          have H4 : Hid (Below w.heap.size w w4) := HB3.out.trans (h4b.mono z3)
          clear h4b
          go_wp2
          go_ret
          exact ⟨rfl, H4.out⟩
end Go.Proofs.Ytbfdggkoildfkaa
