/- The walk of FieldLaws. -/
import Derived.Test.YtefmabfhephdjaaF12
import Derived.Test.YtefmabfhephdjaaL19F
namespace Go.Proofs.Ytefmabfhephdjaa
open Go.RowKit
set_option linter.unusedSimpArgs false
set_option linter.unusedVariables false
theorem over_back (a b : UInt8) (hb : b ≠ 0) : ovV (mul a b) b = a ∧ ovE b = 0 := by
  unfold ovV ovE
  rw [if_neg hb, if_neg hb, mul_assoc, inv_mul b hb, mul_one]
  exact ⟨rfl, rfl⟩
theorem tmod_in (n : Int) : ∃ k : Int, n.tmod 100000 = k ∧ -100000 ≤ k ∧ k ≤ 100000 := by
  refine ⟨_, rfl, ?_, ?_⟩
  · rcases Int.lt_or_le n 0 with h | h
    · have e : n.tmod 100000 = -((-n) % 100000) := by
        have := Int.neg_tmod (-n) 100000
        rw [Int.neg_neg] at this
        rw [this, Int.tmod_eq_emod_of_nonneg (by omega)]
      omega
    · rw [Int.tmod_eq_emod_of_nonneg h]; omega
  · rcases Int.lt_or_le n 0 with h | h
    · have e : n.tmod 100000 = -((-n) % 100000) := by
        have := Int.neg_tmod (-n) 100000
        rw [Int.neg_neg] at this
        rw [this, Int.tmod_eq_emod_of_nonneg (by omega)]
      omega
    · rw [Int.tmod_eq_emod_of_nonneg h]; omega
theorem pow_yes (a : UInt8) (n : Int) (ha : a ≠ 0) : poV a n = pwZ a n ∧ poE a n = 0 := ⟨if_neg ha, if_neg (fun h => ha h.1)⟩
theorem ne_nat (a : UInt8) (ha : a ≠ 0) : ((a.toNat : Int) == 0) = false := by
  rw [beq_eq_false_iff_ne]
  intro e
  exact ha (UInt8.toNat_inj.1 (by simpa using e))
set_option maxHeartbeats 2000000 in
set_option maxRecDepth 100000 in
theorem laws_zz (a b c : UInt8) (n m : Int) (w : World) (ha : a = 0) (hb : b = 0) :
    Calls Try.prog 7 #[c8 a, c8 b, c8 c, .int .i64 n, .int .i64 m] w fun e w' => e = .returned (.bool true) ∧ Below w.heap.size w w' := by
  obtain ⟨n1, hn1, hn2, hn3⟩ := tmod_in n
  obtain ⟨m1, hm1, hm2, hm3⟩ := tmod_in m
  have t1 := times_any a b
  have t2 := times_any b a
  have t3 := over_any (mul a b) b
  have t4 := times_any a c
  have t5 := times_any (mul a b) c
  have t6 := times_any b c
  have t7 := times_any a (mul b c)
  have t8 := times_any a (b ^^^ c)
  have t9 := plus_any (mul a b) (mul a c)
  have u1 := times_any a 1
  have u2 := plus_any a a
  rw [mul_comm b a] at t2
  rw [mul_assoc] at t5
  rw [mul_xor_right] at t8
  rw [mul_one] at u1
  rw [UInt8.xor_self] at u2
  obtain ⟨v1, hv1⟩ : ∃ v, ovV (mul a b) b = v := ⟨_, rfl⟩
  obtain ⟨v2, hv2⟩ : ∃ v, ovE b = v := ⟨_, rfl⟩
  rw [hv1, hv2] at t3
  clear hv1 hv2
  have hab : mul a b = 0 := by rw [ha, zero_mul]
  have hz : (((mul a b).toNat : Int) == 0) = true := by rw [hab]; rfl
  have za : ((a.toNat : Int) == 0) = true := by rw [ha]; rfl
  have zb : ((b.toNat : Int) == 0) = true := by rw [hb]; rfl
  have zb2 : ((b.toNat : Int) != 0) = false := by rw [hb]; rfl
  generalize hg1 : mul a b = ab at *
  generalize hg2 : mul a c = ac at *
  generalize hg3 : mul b c = bc at *
  generalize hg4 : mul a bc = abc at *
  clear hg1 hg2 hg3 hg4 ha hb hab
  have Ht1 : Hid _ := t1
  have Ht2 : Hid _ := t2
  have Ht3 : Hid _ := t3
  have Ht4 : Hid _ := t4
  have Ht5 : Hid _ := t5
  have Ht6 : Hid _ := t6
  have Ht7 : Hid _ := t7
  have Ht8 : Hid _ := t8
  have Ht9 : Hid _ := t9
  have Hu1 : Hid _ := u1
  have Hu2 : Hid _ := u2
  clear t1 t2 t3 t4 t5 t6 t7 t8 t9 u1 u2
  have ha8 := a.toNat_lt
  have hb8 := b.toNat_lt
  go_enter Try.func7, Try.ntmps7
  go_wp2_with fail
  refine (awake_any _).mono ?_
  rintro e w1 ⟨rfl, hb1⟩
  have HB1 : Hid _ := hb1
  clear hb1
  go_wp2_with fail
  refine Calls.mono (Ht1.out _) ?_
  rintro e w2 ⟨rfl, hw2⟩
  subst hw2
  go_wp2_with fail
  refine Calls.mono (Ht3.out _) ?_
  rintro e w2 ⟨rfl, hw2⟩
  subst hw2
  go_wp2_with fail
  refine Calls.mono (Ht1.out _) ?_
  rintro e w2 ⟨rfl, hw2⟩
  subst hw2
  go_wp2_with fail
  refine Calls.mono (Ht4.out _) ?_
  rintro e w2 ⟨rfl, hw2⟩
  subst hw2
  go_wp2_with fail
  refine Calls.mono (Ht2.out _) ?_
  rintro e w2 ⟨rfl, hw2⟩
  subst hw2
  go_wp2_with fail
  refine Calls.mono (Ht5.out _) ?_
  rintro e w2 ⟨rfl, hw2⟩
  subst hw2
  go_wp2_with fail
  refine Calls.mono (Ht6.out _) ?_
  rintro e w2 ⟨rfl, hw2⟩
  subst hw2
  go_wp2_with fail
  refine Calls.mono (Ht7.out _) ?_
  rintro e w2 ⟨rfl, hw2⟩
  subst hw2
  go_wp2_with fail
  refine (plus_any b c _).mono ?_
  rintro e w2 ⟨rfl, hw2⟩
  subst hw2
  go_wp2_with fail
  refine Calls.mono (Ht8.out _) ?_
  rintro e w2 ⟨rfl, hw2⟩
  subst hw2
  go_wp2_with fail
  refine Calls.mono (Ht9.out _) ?_
  rintro e w2 ⟨rfl, hw2⟩
  subst hw2
  go_wp2_with fail
  refine Calls.mono (Hu1.out _) ?_
  rintro e w2 ⟨rfl, hw2⟩
  subst hw2
  go_wp2_with fail
  refine Calls.mono (Hu2.out _) ?_
  rintro e w2 ⟨rfl, hw2⟩
  subst hw2
  go_wp2
  go_ret
  exact ⟨rfl, HB1.out⟩
set_option maxHeartbeats 2000000 in
set_option maxRecDepth 100000 in
theorem laws_zn (a b c : UInt8) (n m : Int) (w : World) (ha : a = 0) (hb : b ≠ 0) :
    Calls Try.prog 7 #[c8 a, c8 b, c8 c, .int .i64 n, .int .i64 m] w fun e w' => e = .returned (.bool true) ∧ Below w.heap.size w w' := by
  obtain ⟨n1, hn1, hn2, hn3⟩ := tmod_in n
  obtain ⟨m1, hm1, hm2, hm3⟩ := tmod_in m
  have t1 := times_any a b
  have t2 := times_any b a
  have t3 := over_any (mul a b) b
  have t4 := times_any a c
  have t5 := times_any (mul a b) c
  have t6 := times_any b c
  have t7 := times_any a (mul b c)
  have t8 := times_any a (b ^^^ c)
  have t9 := plus_any (mul a b) (mul a c)
  have u1 := times_any a 1
  have u2 := plus_any a a
  rw [mul_comm b a] at t2
  rw [mul_assoc] at t5
  rw [mul_xor_right] at t8
  rw [mul_one] at u1
  rw [UInt8.xor_self] at u2
  rw [(over_back a b hb).1, (over_back a b hb).2] at t3
  have hab : mul a b = 0 := by rw [ha, zero_mul]
  have hz : (((mul a b).toNat : Int) == 0) = true := by rw [hab]; rfl
  have za : ((a.toNat : Int) == 0) = true := by rw [ha]; rfl
  have zb : ((b.toNat : Int) == 0) = false := by exact ne_nat b hb
  generalize hg1 : mul a b = ab at *
  generalize hg2 : mul a c = ac at *
  generalize hg3 : mul b c = bc at *
  generalize hg4 : mul a bc = abc at *
  clear hg1 hg2 hg3 hg4 ha hb hab
  have Ht1 : Hid _ := t1
  have Ht2 : Hid _ := t2
  have Ht3 : Hid _ := t3
  have Ht4 : Hid _ := t4
  have Ht5 : Hid _ := t5
  have Ht6 : Hid _ := t6
  have Ht7 : Hid _ := t7
  have Ht8 : Hid _ := t8
  have Ht9 : Hid _ := t9
  have Hu1 : Hid _ := u1
  have Hu2 : Hid _ := u2
  clear t1 t2 t3 t4 t5 t6 t7 t8 t9 u1 u2
  have ha8 := a.toNat_lt
  have hb8 := b.toNat_lt
  go_enter Try.func7, Try.ntmps7
  go_wp2_with fail
  refine (awake_any _).mono ?_
  rintro e w1 ⟨rfl, hb1⟩
  have HB1 : Hid _ := hb1
  clear hb1
  go_wp2_with fail
  refine Calls.mono (Ht1.out _) ?_
  rintro e w2 ⟨rfl, hw2⟩
  subst hw2
  go_wp2_with fail
  refine Calls.mono (Ht3.out _) ?_
  rintro e w2 ⟨rfl, hw2⟩
  subst hw2
  go_wp2_with fail
  refine Calls.mono (Ht1.out _) ?_
  rintro e w2 ⟨rfl, hw2⟩
  subst hw2
  go_wp2_with fail
  refine Calls.mono (Ht4.out _) ?_
  rintro e w2 ⟨rfl, hw2⟩
  subst hw2
  go_wp2_with fail
  refine Calls.mono (Ht2.out _) ?_
  rintro e w2 ⟨rfl, hw2⟩
  subst hw2
  go_wp2_with fail
  refine Calls.mono (Ht5.out _) ?_
  rintro e w2 ⟨rfl, hw2⟩
  subst hw2
  go_wp2_with fail
  refine Calls.mono (Ht6.out _) ?_
  rintro e w2 ⟨rfl, hw2⟩
  subst hw2
  go_wp2_with fail
  refine Calls.mono (Ht7.out _) ?_
  rintro e w2 ⟨rfl, hw2⟩
  subst hw2
  go_wp2_with fail
  refine (plus_any b c _).mono ?_
  rintro e w2 ⟨rfl, hw2⟩
  subst hw2
  go_wp2_with fail
  refine Calls.mono (Ht8.out _) ?_
  rintro e w2 ⟨rfl, hw2⟩
  subst hw2
  go_wp2_with fail
  refine Calls.mono (Ht9.out _) ?_
  rintro e w2 ⟨rfl, hw2⟩
  subst hw2
  go_wp2_with fail
  refine Calls.mono (Hu1.out _) ?_
  rintro e w2 ⟨rfl, hw2⟩
  subst hw2
  go_wp2_with fail
  refine Calls.mono (Hu2.out _) ?_
  rintro e w2 ⟨rfl, hw2⟩
  subst hw2
  go_wp2
  go_ret
  exact ⟨rfl, HB1.out⟩
set_option maxHeartbeats 2000000 in
set_option maxRecDepth 100000 in
theorem laws_nz (a b c : UInt8) (n m : Int) (w : World) (ha : a ≠ 0) (hb : b = 0) :
    Calls Try.prog 7 #[c8 a, c8 b, c8 c, .int .i64 n, .int .i64 m] w fun e w' => e = .returned (.bool true) ∧ Below w.heap.size w w' := by
  obtain ⟨n1, hn1, hn2, hn3⟩ := tmod_in n
  obtain ⟨m1, hm1, hm2, hm3⟩ := tmod_in m
  have t1 := times_any a b
  have t2 := times_any b a
  have t3 := over_any (mul a b) b
  have t4 := times_any a c
  have t5 := times_any (mul a b) c
  have t6 := times_any b c
  have t7 := times_any a (mul b c)
  have t8 := times_any a (b ^^^ c)
  have t9 := plus_any (mul a b) (mul a c)
  have u1 := times_any a 1
  have u2 := plus_any a a
  rw [mul_comm b a] at t2
  rw [mul_assoc] at t5
  rw [mul_xor_right] at t8
  rw [mul_one] at u1
  rw [UInt8.xor_self] at u2
  obtain ⟨v1, hv1⟩ : ∃ v, ovV (mul a b) b = v := ⟨_, rfl⟩
  obtain ⟨v2, hv2⟩ : ∃ v, ovE b = v := ⟨_, rfl⟩
  rw [hv1, hv2] at t3
  clear hv1 hv2
  have p1 := powerP_any a n1
  have p2 := powerP_any a m1
  have p3 := powerP_any a (n1 + m1)
  have p4 := times_any (pwZ a n1) (pwZ a m1)
  rw [pwZ_add a ha] at p4
  rw [(pow_yes a n1 ha).1, (pow_yes a n1 ha).2] at p1
  rw [(pow_yes a m1 ha).1, (pow_yes a m1 ha).2] at p2
  rw [(pow_yes a (n1 + m1) ha).1, (pow_yes a (n1 + m1) ha).2] at p3
  obtain ⟨x1, hx1⟩ : ∃ v, pwZ a n1 = v := ⟨_, rfl⟩
  obtain ⟨x2, hx2⟩ : ∃ v, pwZ a m1 = v := ⟨_, rfl⟩
  obtain ⟨x3, hx3⟩ : ∃ v, pwZ a (n1 + m1) = v := ⟨_, rfl⟩
  rw [hx1] at p1 p4
  rw [hx2] at p2 p4
  rw [hx3] at p3 p4
  clear hx1 hx2 hx3
  have hab : mul a b = 0 := by rw [hb, mul_zero_right]
  have hz : (((mul a b).toNat : Int) == 0) = true := by rw [hab]; rfl
  have za : ((a.toNat : Int) == 0) = false := by exact ne_nat a ha
  have zb : ((b.toNat : Int) == 0) = true := by rw [hb]; rfl
  have zb2 : ((b.toNat : Int) != 0) = false := by rw [hb]; rfl
  generalize hg1 : mul a b = ab at *
  generalize hg2 : mul a c = ac at *
  generalize hg3 : mul b c = bc at *
  generalize hg4 : mul a bc = abc at *
  clear hg1 hg2 hg3 hg4 ha hb hab
  have Ht1 : Hid _ := t1
  have Ht2 : Hid _ := t2
  have Ht3 : Hid _ := t3
  have Ht4 : Hid _ := t4
  have Ht5 : Hid _ := t5
  have Ht6 : Hid _ := t6
  have Ht7 : Hid _ := t7
  have Ht8 : Hid _ := t8
  have Ht9 : Hid _ := t9
  have Hu1 : Hid _ := u1
  have Hu2 : Hid _ := u2
  have Hp1 : Hid _ := p1
  have Hp2 : Hid _ := p2
  have Hp3 : Hid _ := p3
  have Hp4 : Hid _ := p4
  clear t1 t2 t3 t4 t5 t6 t7 t8 t9 u1 u2 p1 p2 p3 p4
  have ha8 := a.toNat_lt
  have hb8 := b.toNat_lt
  go_enter Try.func7, Try.ntmps7
  go_wp2_with fail
  refine (awake_any _).mono ?_
  rintro e w1 ⟨rfl, hb1⟩
  have HB1 : Hid _ := hb1
  clear hb1
  go_wp2_with fail
  refine Calls.mono (Ht1.out _) ?_
  rintro e w2 ⟨rfl, hw2⟩
  subst hw2
  go_wp2_with fail
  refine Calls.mono (Ht3.out _) ?_
  rintro e w2 ⟨rfl, hw2⟩
  subst hw2
  go_wp2_with fail
  refine Calls.mono (Hp1.out _ (by omega) (by omega)) ?_
  rintro e w2 ⟨rfl, hw2⟩
  subst hw2
  go_wp2_with fail
  refine Calls.mono (Hp2.out _ (by omega) (by omega)) ?_
  rintro e w2 ⟨rfl, hw2⟩
  subst hw2
  go_wp2_with fail
  refine Calls.mono (Hp3.out _ (by omega) (by omega)) ?_
  rintro e w2 ⟨rfl, hw2⟩
  subst hw2
  go_wp2_with fail
  refine Calls.mono (Hp4.out _) ?_
  rintro e w2 ⟨rfl, hw2⟩
  subst hw2
  go_wp2_with fail
  refine Calls.mono (Ht1.out _) ?_
  rintro e w2 ⟨rfl, hw2⟩
  subst hw2
  go_wp2_with fail
  refine Calls.mono (Ht4.out _) ?_
  rintro e w2 ⟨rfl, hw2⟩
  subst hw2
  go_wp2_with fail
  refine Calls.mono (Ht2.out _) ?_
  rintro e w2 ⟨rfl, hw2⟩
  subst hw2
  go_wp2_with fail
  refine Calls.mono (Ht5.out _) ?_
  rintro e w2 ⟨rfl, hw2⟩
  subst hw2
  go_wp2_with fail
  refine Calls.mono (Ht6.out _) ?_
  rintro e w2 ⟨rfl, hw2⟩
  subst hw2
  go_wp2_with fail
  refine Calls.mono (Ht7.out _) ?_
  rintro e w2 ⟨rfl, hw2⟩
  subst hw2
  go_wp2_with fail
  refine (plus_any b c _).mono ?_
  rintro e w2 ⟨rfl, hw2⟩
  subst hw2
  go_wp2_with fail
  refine Calls.mono (Ht8.out _) ?_
  rintro e w2 ⟨rfl, hw2⟩
  subst hw2
  go_wp2_with fail
  refine Calls.mono (Ht9.out _) ?_
  rintro e w2 ⟨rfl, hw2⟩
  subst hw2
  go_wp2_with fail
  refine Calls.mono (Hu1.out _) ?_
  rintro e w2 ⟨rfl, hw2⟩
  subst hw2
  go_wp2_with fail
  refine Calls.mono (Hu2.out _) ?_
  rintro e w2 ⟨rfl, hw2⟩
  subst hw2
  go_wp2
  go_ret
  exact ⟨rfl, HB1.out⟩
set_option maxHeartbeats 2000000 in
set_option maxRecDepth 100000 in
theorem laws_nn (a b c : UInt8) (n m : Int) (w : World) (ha : a ≠ 0) (hb : b ≠ 0) :
    Calls Try.prog 7 #[c8 a, c8 b, c8 c, .int .i64 n, .int .i64 m] w fun e w' => e = .returned (.bool true) ∧ Below w.heap.size w w' := by
  obtain ⟨n1, hn1, hn2, hn3⟩ := tmod_in n
  obtain ⟨m1, hm1, hm2, hm3⟩ := tmod_in m
  have t1 := times_any a b
  have t2 := times_any b a
  have t3 := over_any (mul a b) b
  have t4 := times_any a c
  have t5 := times_any (mul a b) c
  have t6 := times_any b c
  have t7 := times_any a (mul b c)
  have t8 := times_any a (b ^^^ c)
  have t9 := plus_any (mul a b) (mul a c)
  have u1 := times_any a 1
  have u2 := plus_any a a
  rw [mul_comm b a] at t2
  rw [mul_assoc] at t5
  rw [mul_xor_right] at t8
  rw [mul_one] at u1
  rw [UInt8.xor_self] at u2
  rw [(over_back a b hb).1, (over_back a b hb).2] at t3
  have p1 := powerP_any a n1
  have p2 := powerP_any a m1
  have p3 := powerP_any a (n1 + m1)
  have p4 := times_any (pwZ a n1) (pwZ a m1)
  rw [pwZ_add a ha] at p4
  rw [(pow_yes a n1 ha).1, (pow_yes a n1 ha).2] at p1
  rw [(pow_yes a m1 ha).1, (pow_yes a m1 ha).2] at p2
  rw [(pow_yes a (n1 + m1) ha).1, (pow_yes a (n1 + m1) ha).2] at p3
  obtain ⟨x1, hx1⟩ : ∃ v, pwZ a n1 = v := ⟨_, rfl⟩
  obtain ⟨x2, hx2⟩ : ∃ v, pwZ a m1 = v := ⟨_, rfl⟩
  obtain ⟨x3, hx3⟩ : ∃ v, pwZ a (n1 + m1) = v := ⟨_, rfl⟩
  rw [hx1] at p1 p4
  rw [hx2] at p2 p4
  rw [hx3] at p3 p4
  clear hx1 hx2 hx3
  have hz : (((mul a b).toNat : Int) == 0) = false := ne_nat _ (fun e => (mul_eq_zero e).elim ha hb)
  have za : ((a.toNat : Int) == 0) = false := by exact ne_nat a ha
  have zb : ((b.toNat : Int) == 0) = false := by exact ne_nat b hb
  generalize hg1 : mul a b = ab at *
  generalize hg2 : mul a c = ac at *
  generalize hg3 : mul b c = bc at *
  generalize hg4 : mul a bc = abc at *
  clear hg1 hg2 hg3 hg4 ha hb
  have Ht1 : Hid _ := t1
  have Ht2 : Hid _ := t2
  have Ht3 : Hid _ := t3
  have Ht4 : Hid _ := t4
  have Ht5 : Hid _ := t5
  have Ht6 : Hid _ := t6
  have Ht7 : Hid _ := t7
  have Ht8 : Hid _ := t8
  have Ht9 : Hid _ := t9
  have Hu1 : Hid _ := u1
  have Hu2 : Hid _ := u2
  have Hp1 : Hid _ := p1
  have Hp2 : Hid _ := p2
  have Hp3 : Hid _ := p3
  have Hp4 : Hid _ := p4
  clear t1 t2 t3 t4 t5 t6 t7 t8 t9 u1 u2 p1 p2 p3 p4
  have ha8 := a.toNat_lt
  have hb8 := b.toNat_lt
  go_enter Try.func7, Try.ntmps7
  go_wp2_with fail
  refine (awake_any _).mono ?_
  rintro e w1 ⟨rfl, hb1⟩
  have HB1 : Hid _ := hb1
  clear hb1
  go_wp2_with fail
  refine Calls.mono (Ht1.out _) ?_
  rintro e w2 ⟨rfl, hw2⟩
  subst hw2
  go_wp2_with fail
  refine Calls.mono (Ht3.out _) ?_
  rintro e w2 ⟨rfl, hw2⟩
  subst hw2
  go_wp2_with fail
  refine Calls.mono (Hp1.out _ (by omega) (by omega)) ?_
  rintro e w2 ⟨rfl, hw2⟩
  subst hw2
  go_wp2_with fail
  refine Calls.mono (Hp2.out _ (by omega) (by omega)) ?_
  rintro e w2 ⟨rfl, hw2⟩
  subst hw2
  go_wp2_with fail
  refine Calls.mono (Hp3.out _ (by omega) (by omega)) ?_
  rintro e w2 ⟨rfl, hw2⟩
  subst hw2
  go_wp2_with fail
  refine Calls.mono (Hp4.out _) ?_
  rintro e w2 ⟨rfl, hw2⟩
  subst hw2
  go_wp2_with fail
  refine Calls.mono (Ht1.out _) ?_
  rintro e w2 ⟨rfl, hw2⟩
  subst hw2
  go_wp2_with fail
  refine Calls.mono (Ht4.out _) ?_
  rintro e w2 ⟨rfl, hw2⟩
  subst hw2
  go_wp2_with fail
  refine Calls.mono (Ht2.out _) ?_
  rintro e w2 ⟨rfl, hw2⟩
  subst hw2
  go_wp2_with fail
  refine Calls.mono (Ht5.out _) ?_
  rintro e w2 ⟨rfl, hw2⟩
  subst hw2
  go_wp2_with fail
  refine Calls.mono (Ht6.out _) ?_
  rintro e w2 ⟨rfl, hw2⟩
  subst hw2
  go_wp2_with fail
  refine Calls.mono (Ht7.out _) ?_
  rintro e w2 ⟨rfl, hw2⟩
  subst hw2
  go_wp2_with fail
  refine (plus_any b c _).mono ?_
  rintro e w2 ⟨rfl, hw2⟩
  subst hw2
  go_wp2_with fail
  refine Calls.mono (Ht8.out _) ?_
  rintro e w2 ⟨rfl, hw2⟩
  subst hw2
  go_wp2_with fail
  refine Calls.mono (Ht9.out _) ?_
  rintro e w2 ⟨rfl, hw2⟩
  subst hw2
  go_wp2_with fail
  refine Calls.mono (Hu1.out _) ?_
  rintro e w2 ⟨rfl, hw2⟩
  subst hw2
  go_wp2_with fail
  refine Calls.mono (Hu2.out _) ?_
  rintro e w2 ⟨rfl, hw2⟩
  subst hw2
  go_wp2
  go_ret
  exact ⟨rfl, HB1.out⟩
theorem laws_walk (a0 a1 a2 a3 a4 : Int) (w0 : (Lit.int .u8 a0).wf = true) (w1 : (Lit.int .u8 a1).wf = true) (w2 : (Lit.int .u8 a2).wf = true) (w3 : (Lit.int .i64 a3).wf = true) (w4 : (Lit.int .i64 a4).wf = true) (w : World) :
    Calls Try.prog 7 #[.int .u8 a0, .int .u8 a1, .int .u8 a2, .int .i64 a3, .int .i64 a4] w fun e w' => e = .returned (.bool true) ∧ Below w.heap.size w w' := by
  obtain ⟨a, rfl⟩ := u8_val a0 w0
  obtain ⟨b, rfl⟩ := u8_val a1 w1
  obtain ⟨c, rfl⟩ := u8_val a2 w2
  by_cases ha : a = 0
  · by_cases hb : b = 0
    · exact (laws_zz a b c a3 a4 w ha hb)
    · exact (laws_zn a b c a3 a4 w ha hb)
  · by_cases hb : b = 0
    · exact (laws_nz a b c a3 a4 w ha hb)
    · exact (laws_nn a b c a3 a4 w ha hb)
end Go.Proofs.Ytefmabfhephdjaa
