/- The walk of FieldPowers. -/
import Derived.Test.YtefmabfhephdjabF12
import Derived.Test.YtefmabfhephdjabK3
import Derived.Test.YtefmabfhephdjabL19F
namespace Go.Proofs.Ytefmabfhephdjab
open Go.RowKit
set_option linter.unusedSimpArgs false
set_option linter.unusedVariables false
theorem tmod_in2 (n : Int) : ∃ k : Int, n.tmod 100000 = k ∧ -100000 ≤ k ∧ k ≤ 100000 := by
  refine ⟨_, rfl, ?_, ?_⟩
  · rcases Int.lt_or_le n 0 with h | h
    · have e : n.tmod 100000 = -((-n) % 100000) := by
        have := Int.neg_tmod (-n) 100000
        rw [Int.neg_neg] at this
        rw [this, Int.tmod_eq_emod_of_nonneg (by omega)]
      omega
    · rw [Int.tmod_eq_emod_of_nonneg h]; omega
  · rcases Int.lt_or_le n 0 with h | h
    · have e : n.tmod 100000 = -((-n) % 100000) := by
        have := Int.neg_tmod (-n) 100000
        rw [Int.neg_neg] at this
        rw [this, Int.tmod_eq_emod_of_nonneg (by omega)]
      omega
    · rw [Int.tmod_eq_emod_of_nonneg h]; omega
theorem ne_nat2 (a : UInt8) (ha : a ≠ 0) : ((a.toNat : Int) == 0) = false := by
  rw [beq_eq_false_iff_ne]
  intro e
  exact ha (UInt8.toNat_inj.1 (by simpa using e))
/-- Power at a small number. -/
theorem pow_small (a : UInt8) (k : Nat) (w : World) (h1 : 1 ≤ k) (h2 : k < 255) :
    Calls Try.prog 15 #[c8 a, .int .i64 k] w fun e w' => e = .returned (.tuple #[c8 (pw a k), .int .i64 0]) ∧ w' = w := by
  have h := powerP_any a k w (by omega) (by omega)
  have e1 : poV a k = pw a k := by
    unfold poV
    by_cases ha : a = 0
    · rw [if_pos ha, if_neg (by omega), ha, pw_zero k h1]
    · rw [if_neg ha, pwZ_small a k h2]
  have e2 : poE a k = 0 := if_neg (by omega)
  rw [e1, e2] at h
  exact h
theorem two_small (k : Nat) (w : World) (h2 : k < 255) :
    Calls Try.prog 15 #[.int .u8 2, .int .i64 k] w fun e w' => e = .returned (.tuple #[c8 (pw 2 k), .int .i64 0]) ∧ w' = w := by
  have h := powerP_any 2 k w (by omega) (by omega)
  have e1 : poV 2 k = pw 2 k := by
    unfold poV
    rw [if_neg (by decide), pwZ_small 2 k h2]
  have e2 : poE 2 k = 0 := if_neg (by omega)
  rw [e1, e2] at h
  exact h
theorem pow_yes2 (a : UInt8) (n : Int) (ha : a ≠ 0) : poV a n = pwZ a n ∧ poE a n = 0 := ⟨if_neg ha, if_neg (fun h => ha h.1)⟩
theorem info_seen : (Try.prog.info? 42).map (fun i => (i.zero, i.size)) = some (some (.agg (Array.replicate 256 (.bool false))), 256) := by kernel_rfl
set_option maxHeartbeats 2000000 in
set_option maxRecDepth 100000 in
theorem powers_z (a b : UInt8) (n : Int) (w : World) (ha : a = 0) :
    Calls Try.prog 5 #[c8 a, c8 b, .int .i64 n] w fun e w' => e = .returned (.bool true) ∧ Below w.heap.size w w' := by
  obtain ⟨n1, hn1, hn2, hn3⟩ := tmod_in2 n
  have hz := (zero_of_info info_seen).1
  have za : ((a.toNat : Int) == 0) = true := by rw [ha]; rfl
  have za2 : ((a.toNat : Int) != 0) = false := by rw [ha]; rfl
  clear ha
  go_enter Try.func5, Try.ntmps5
  go_wp2_with fail
  refine (awake_any _).mono ?_
  rintro e w1 ⟨rfl, hb1⟩
  have HB1 : Hid (Below w.heap.size w w1) := hb1
  clear hb1
  go_wp2_with fail
  go_loopw [13] (fun v wr => ∃ k : Nat, 2 ≤ k ∧ k ≤ 256 ∧ v = .int .i64 k ∧ Hid (Adds k) ∧ Hid (Below w.heap.size w wr)) (fun v _ => 512 - (intOf v).toNat)
  case atStart => exact ⟨2, by omega, by omega, rfl, adds_two adds_one, HB1.out⟩
  case round =>
    clear HB1
    obtain ⟨k, hk1, hk2, rfl, HA, HB1⟩ := hrel
    by_cases hlt : k ≤ 128
    · have hs := HA.out a b
      have q1 := fun W => pow_small (a ^^^ b) k W (by omega) (by omega)
      have q2 := fun W => pow_small a k W (by omega) (by omega)
      have q3 := fun W => pow_small b k W (by omega) (by omega)
      have q4 := plus_any (pw a k) (pw b k)
      rw [← hs] at q4
      generalize pw (a ^^^ b) k = y1 at *
      generalize pw a k = y2 at *
      generalize pw b k = y3 at *
      have Q1 : Hid _ := q1
      have Q2 : Hid _ := q2
      have Q3 : Hid _ := q3
      have Q4 : Hid _ := q4
      clear hs q1 q2 q3 q4
      go_wp2_with fail
      refine (plus_any a b _).mono ?_
      rintro e w2 ⟨rfl, hw2⟩
      subst hw2
      go_wp2_with fail
      refine Calls.mono (Q1.out _) ?_
      rintro e w2 ⟨rfl, hw2⟩
      subst hw2
      go_wp2_with fail
      refine Calls.mono (Q2.out _) ?_
      rintro e w2 ⟨rfl, hw2⟩
      subst hw2
      go_wp2_with fail
      refine Calls.mono (Q3.out _) ?_
      rintro e w2 ⟨rfl, hw2⟩
      subst hw2
      go_wp2_with fail
      refine Calls.mono (Q4.out _) ?_
      rintro e w2 ⟨rfl, hw2⟩
      subst hw2
      go_wp2
      go_roundw
      case rel => exact ⟨2 * k, by omega, by omega, by go_num, adds_two HA.out, HB1.out⟩
      case measure => simp [intOf]; omega
    · obtain ⟨w3, hw3⟩ : ∃ w3, w3 = wr := ⟨_, rfl⟩
      rw [← hw3] at HB1 ⊢
      clear hw3
      go_wp2
      go_loopw [21, 22] (fun x v wr => ∃ (k : Nat) (C : Array Value), k ≤ 255 ∧ v = .int .i64 k ∧ x = c8 (pw 2 k) ∧ Hid (Bk wr w3.heap.size C 42) ∧ Hid (∀ d, k ≤ d → d < 255 → C[(pw 2 d).toNat]? = some (.bool false)) ∧ Hid (Below w3.heap.size w3 wr)) (fun _ v _ => 255 - (intOf v).toNat)
      case atStart =>
        refine ⟨0, _, by omega, rfl, rfl, bk_new w3 _ _, fun d _ _ => ?_, (Below.refl _ _).alloc (Nat.le_refl _) _⟩
        have := (pw 2 d).toNat_lt
        rw [Array.getElem?_replicate, if_pos (by omega)]
      case round =>
        clear HA hk1 hk2 hlt
        obtain ⟨k, C, hk, rfl, rfl, HC, HF, HW⟩ := hrel
        by_cases hlk : k < 255
        · have q1 := fun W => two_small k W hlk
          have q2 := fun W => times_any (pw 2 k) 2 W
          rw [show mul (pw 2 k) 2 = pw 2 (k + 1) from rfl] at q2
          have hne := ne_nat2 (pw 2 k) (pw_ne 2 (by decide) k)
          have hc := HC.out.cell (pw 2 k).toNat
          rw [HF.out k (Nat.le_refl _) hlk] at hc
          have hfr := HC.out.frozen (pw 2 k).toNat
          have HN : Hid (∀ d, k + 1 ≤ d → d < 255 → (C.setIfInBounds (pw 2 k).toNat (.bool true))[(pw 2 d).toNat]? = some (.bool false)) := by
            intro d h1 h2
            rw [Array.getElem?_setIfInBounds, if_neg (fun e => two_apart k d (by omega) h2 (UInt8.toNat_inj.1 e.symm))]
            exact HF.out d (by omega) h2
          have hx8 := (pw 2 k).toNat_lt
          generalize pw 2 k = x at *
          generalize hy : pw 2 (k + 1) = y at *
          have HY : Hid (pw 2 (k + 1) = y) := hy
          have Q1 : Hid _ := q1
          have Q2 : Hid _ := q2
          clear hy q1 q2 HF
          go_wp2_with fail
          refine Calls.mono (Q1.out _) ?_
          rintro e w2 ⟨rfl, hw2⟩
          subst hw2
          go_wp2_with fail
          refine Calls.mono (Q2.out _) ?_
          rintro e w2 ⟨rfl, hw2⟩
          subst hw2
          go_wp2
          go_roundw
          case rel => exact ⟨k + 1, _, by omega, by go_num, by rw [HY.out], HC.out.set x.toNat _, HN.out, below_own HW.out HW.out.size (Lib.grownBy_setB (World.grownBy.refl _ _) _ _) (Nat.le_refl _)⟩
          case measure => simp [intOf]; omega
        · have hk255 : k = 255 := by omega
          have h1 : pw 2 k = 1 := by rw [hk255]; exact pw255 2 (by decide)
          rw [h1]
          clear h1 hk255
          go_wp2
          go_ret
          exact ⟨rfl, HB1.out.trans (HW.out.mono HB1.out.size)⟩
set_option maxHeartbeats 2000000 in
set_option maxRecDepth 100000 in
theorem powers_n (a b : UInt8) (n : Int) (w : World) (ha : a ≠ 0) :
    Calls Try.prog 5 #[c8 a, c8 b, .int .i64 n] w fun e w' => e = .returned (.bool true) ∧ Below w.heap.size w w' := by
  obtain ⟨n1, hn1, hn2, hn3⟩ := tmod_in2 n
  have hz := (zero_of_info info_seen).1
  have za := ne_nat2 a ha
  have p1 := powerP_any a n1
  have p2 := powerP_any a (n1 + 255)
  have p3 := powerP_any a 255
  rw [(pow_yes2 a n1 ha).1, (pow_yes2 a n1 ha).2] at p1
  rw [(pow_yes2 a (n1 + 255) ha).1, (pow_yes2 a (n1 + 255) ha).2, pwZ_round] at p2
  rw [(pow_yes2 a 255 ha).1, (pow_yes2 a 255 ha).2, pwZ_255] at p3
  generalize pwZ a n1 = x1 at *
  have P1 : Hid _ := p1
  have P2 : Hid _ := p2
  have P3 : Hid _ := p3
  clear p1 p2 p3 ha
  go_enter Try.func5, Try.ntmps5
  go_wp2_with fail
  refine (awake_any _).mono ?_
  rintro e w1 ⟨rfl, hb1⟩
  have HB1 : Hid (Below w.heap.size w w1) := hb1
  clear hb1
  go_wp2_with fail
  refine Calls.mono (P1.out _ (by omega) (by omega)) ?_
  rintro e w1 ⟨rfl, hw2⟩
  subst hw2
  go_wp2_with fail
  refine Calls.mono (P2.out _ (by omega) (by omega)) ?_
  rintro e w1 ⟨rfl, hw2⟩
  subst hw2
  go_wp2_with fail
  refine Calls.mono (P3.out _ (by omega) (by omega)) ?_
  rintro e w1 ⟨rfl, hw2⟩
  subst hw2
  clear P1 P2 P3
  go_wp2_with fail
  go_loopw [13] (fun v wr => ∃ k : Nat, 2 ≤ k ∧ k ≤ 256 ∧ v = .int .i64 k ∧ Hid (Adds k) ∧ Hid (Below w.heap.size w wr)) (fun v _ => 512 - (intOf v).toNat)
  case atStart => exact ⟨2, by omega, by omega, rfl, adds_two adds_one, HB1.out⟩
  case round =>
    clear HB1
    obtain ⟨k, hk1, hk2, rfl, HA, HB1⟩ := hrel
    by_cases hlt : k ≤ 128
    · have hs := HA.out a b
      have q1 := fun W => pow_small (a ^^^ b) k W (by omega) (by omega)
      have q2 := fun W => pow_small a k W (by omega) (by omega)
      have q3 := fun W => pow_small b k W (by omega) (by omega)
      have q4 := plus_any (pw a k) (pw b k)
      rw [← hs] at q4
      generalize pw (a ^^^ b) k = y1 at *
      generalize pw a k = y2 at *
      generalize pw b k = y3 at *
      have Q1 : Hid _ := q1
      have Q2 : Hid _ := q2
      have Q3 : Hid _ := q3
      have Q4 : Hid _ := q4
      clear hs q1 q2 q3 q4
      go_wp2_with fail
      refine (plus_any a b _).mono ?_
      rintro e w2 ⟨rfl, hw2⟩
      subst hw2
      go_wp2_with fail
      refine Calls.mono (Q1.out _) ?_
      rintro e w2 ⟨rfl, hw2⟩
      subst hw2
      go_wp2_with fail
      refine Calls.mono (Q2.out _) ?_
      rintro e w2 ⟨rfl, hw2⟩
      subst hw2
      go_wp2_with fail
      refine Calls.mono (Q3.out _) ?_
      rintro e w2 ⟨rfl, hw2⟩
      subst hw2
      go_wp2_with fail
      refine Calls.mono (Q4.out _) ?_
      rintro e w2 ⟨rfl, hw2⟩
      subst hw2
      go_wp2
      go_roundw
      case rel => exact ⟨2 * k, by omega, by omega, by go_num, adds_two HA.out, HB1.out⟩
      case measure => simp [intOf]; omega
    · obtain ⟨w3, hw3⟩ : ∃ w3, w3 = wr := ⟨_, rfl⟩
      rw [← hw3] at HB1 ⊢
      clear hw3
      go_wp2
      go_loopw [21, 22] (fun x v wr => ∃ (k : Nat) (C : Array Value), k ≤ 255 ∧ v = .int .i64 k ∧ x = c8 (pw 2 k) ∧ Hid (Bk wr w3.heap.size C 42) ∧ Hid (∀ d, k ≤ d → d < 255 → C[(pw 2 d).toNat]? = some (.bool false)) ∧ Hid (Below w3.heap.size w3 wr)) (fun _ v _ => 255 - (intOf v).toNat)
      case atStart =>
        refine ⟨0, _, by omega, rfl, rfl, bk_new w3 _ _, fun d _ _ => ?_, (Below.refl _ _).alloc (Nat.le_refl _) _⟩
        have := (pw 2 d).toNat_lt
        rw [Array.getElem?_replicate, if_pos (by omega)]
      case round =>
        clear HA hk1 hk2 hlt
        obtain ⟨k, C, hk, rfl, rfl, HC, HF, HW⟩ := hrel
        by_cases hlk : k < 255
        · have q1 := fun W => two_small k W hlk
          have q2 := fun W => times_any (pw 2 k) 2 W
          rw [show mul (pw 2 k) 2 = pw 2 (k + 1) from rfl] at q2
          have hne := ne_nat2 (pw 2 k) (pw_ne 2 (by decide) k)
          have hc := HC.out.cell (pw 2 k).toNat
          rw [HF.out k (Nat.le_refl _) hlk] at hc
          have hfr := HC.out.frozen (pw 2 k).toNat
          have HN : Hid (∀ d, k + 1 ≤ d → d < 255 → (C.setIfInBounds (pw 2 k).toNat (.bool true))[(pw 2 d).toNat]? = some (.bool false)) := by
            intro d h1 h2
            rw [Array.getElem?_setIfInBounds, if_neg (fun e => two_apart k d (by omega) h2 (UInt8.toNat_inj.1 e.symm))]
            exact HF.out d (by omega) h2
          have hx8 := (pw 2 k).toNat_lt
          generalize pw 2 k = x at *
          generalize hy : pw 2 (k + 1) = y at *
          have HY : Hid (pw 2 (k + 1) = y) := hy
          have Q1 : Hid _ := q1
          have Q2 : Hid _ := q2
          clear hy q1 q2 HF
          go_wp2_with fail
          refine Calls.mono (Q1.out _) ?_
          rintro e w2 ⟨rfl, hw2⟩
          subst hw2
          go_wp2_with fail
          refine Calls.mono (Q2.out _) ?_
          rintro e w2 ⟨rfl, hw2⟩
          subst hw2
          go_wp2
          go_roundw
          case rel => exact ⟨k + 1, _, by omega, by go_num, by rw [HY.out], HC.out.set x.toNat _, HN.out, below_own HW.out HW.out.size (Lib.grownBy_setB (World.grownBy.refl _ _) _ _) (Nat.le_refl _)⟩
          case measure => simp [intOf]; omega
        · have hk255 : k = 255 := by omega
          have h1 : pw 2 k = 1 := by rw [hk255]; exact pw255 2 (by decide)
          rw [h1]
          clear h1 hk255
          go_wp2
          go_ret
          exact ⟨rfl, HB1.out.trans (HW.out.mono HB1.out.size)⟩
theorem powers_walk (a0 a1 a2 : Int) (w0 : (Lit.int .u8 a0).wf = true) (w1 : (Lit.int .u8 a1).wf = true) (w2 : (Lit.int .i64 a2).wf = true) (w : World) :
    Calls Try.prog 5 #[.int .u8 a0, .int .u8 a1, .int .i64 a2] w fun e w' => e = .returned (.bool true) ∧ Below w.heap.size w w' := by
  obtain ⟨a, rfl⟩ := u8_val a0 w0
  obtain ⟨b, rfl⟩ := u8_val a1 w1
  by_cases ha : a = 0
  · exact powers_z a b a2 w ha
  · exact powers_n a b a2 w ha
end Go.Proofs.Ytefmabfhephdjab
