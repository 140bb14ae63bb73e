/- The walk of FieldNumbers. -/
import Derived.Test.YtefmabfhephdjaaF4
import Derived.ProofKit
namespace Go.Proofs.Ytefmabfhephdjaa
open Go.RowKit
set_option linter.unusedSimpArgs false
set_option linter.unusedVariables false
theorem u8_val (a : Int) (h : (Lit.int .u8 a).wf = true) : ∃ x : UInt8, a = (x.toNat : Int) := by
  have h' : 0 ≤ a ∧ a ≤ 255 := by
    have h3 : (decide (IntKind.u8.min ≤ a) && decide (a ≤ IntKind.u8.max)) = true := h
    have e1 : IntKind.u8.min = 0 := by decide
    have e2 : IntKind.u8.max = 255 := by decide
    rw [e1, e2] at h3
    simpa using h3
  refine ⟨UInt8.ofNat a.toNat, ?_⟩
  simp
  omega
theorem i64_val (a : Int) (h : (Lit.int .i64 a).wf = true) : -9223372036854775808 ≤ a ∧ a ≤ 9223372036854775807 := by
  have h3 : (decide (IntKind.i64.min ≤ a) && decide (a ≤ IntKind.i64.max)) = true := h
  have e1 : IntKind.i64.min = -9223372036854775808 := by decide
  have e2 : IntKind.i64.max = 9223372036854775807 := by decide
  rw [e1, e2] at h3
  simpa using h3
set_option maxHeartbeats 1000000 in
theorem numbers_walk (a0 a1 a2 : Int) (w0 : (Lit.int .u8 a0).wf = true) (w1 : (Lit.int .u8 a1).wf = true) (w2 : (Lit.int .i64 a2).wf = true) (w : World) :
    Calls Try.prog 3 #[.int .u8 a0, .int .u8 a1, .int .i64 a2] w fun e w' => e = .returned (.bool true) ∧ Grown w w' := by
  obtain ⟨a, rfl⟩ := u8_val a0 w0
  obtain ⟨b, rfl⟩ := u8_val a1 w1
  obtain ⟨h1, h2⟩ := i64_val a2 w2
  have ha8 := a.toNat_lt
  have hb8 := b.toNat_lt
  obtain ⟨v1, hv1⟩ : ∃ v, ovV a b = v := ⟨_, rfl⟩
  obtain ⟨v2, hv2⟩ : ∃ v, ovE b = v := ⟨_, rfl⟩
  obtain ⟨v3, hv3⟩ : ∃ v, poV a a2 = v := ⟨_, rfl⟩
  obtain ⟨v4, hv4⟩ : ∃ v, poE a a2 = v := ⟨_, rfl⟩
  have c1 := rover_any a b w
  have c2 := over_any a b w
  have c3 := rpower_any a a2 w h1 h2
  have c4 := powerP_any a a2 w h1 h2
  rw [hv1, hv2] at c1 c2
  rw [hv3, hv4] at c3 c4
  have C1 : Hid _ := c1
  have C2 : Hid _ := c2
  have C3 : Hid _ := c3
  have C4 : Hid _ := c4
  clear c1 c2 c3 c4 hv1 hv2 hv3 hv4 w0 w1 w2
  go_enter Try.func3, Try.ntmps3
  go_wp2_with fail
  refine Calls.mono C1.out ?_
  rintro e w1 ⟨rfl, hw⟩
  subst hw
  go_wp2_with fail
  refine Calls.mono C2.out ?_
  rintro e w1 ⟨rfl, hw⟩
  subst hw
  go_wp2_with fail
  refine Calls.mono C3.out ?_
  rintro e w1 ⟨rfl, hw⟩
  subst hw
  go_wp2_with fail
  refine Calls.mono C4.out ?_
  rintro e w1 ⟨rfl, hw⟩
  subst hw
  clear C1 C2 C3 C4
  obtain ⟨m, hm⟩ : ∃ m, mul a b = m := ⟨_, rfl⟩
  have d1 := times_any a b
  have d2 := rtimes_any a b
  rw [hm] at d1 d2
  have D1 : Hid _ := d1
  have D2 : Hid _ := d2
  clear d1 d2 hm
  have hx := xor8 a b
  go_wp2_with fail
  refine (plus_any a b _).mono ?_
  rintro e w1 ⟨rfl, hw⟩
  subst hw
  go_wp2_with fail
  refine Calls.mono (D1.out _) ?_
  rintro e w1 ⟨rfl, hw⟩
  subst hw
  go_wp2_with fail
  refine Calls.mono (D2.out _) ?_
  rintro e w1 ⟨rfl, hw⟩
  subst hw
  go_wp2
  go_ret
  exact ⟨rfl, Grown.refl _⟩
end Go.Proofs.Ytefmabfhephdjaa
