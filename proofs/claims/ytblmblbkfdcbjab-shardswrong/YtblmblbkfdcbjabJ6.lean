/- Parity: shards.parityRows, shards.Encode and the document's Encode. -/
import Derived.Test.YtblmblbkfdcbjabJ3
import Derived.Test.YtblmblbkfdcbjabJ4
import Derived.Test.YtblmblbkfdcbjabL22P
import Derived.Lib.SmallJoins
namespace Go.Proofs.Ytblmblbkfdcbjab
open Go.RowKit
set_option linter.unusedSimpArgs false
set_option linter.unusedVariables false
/-- The rows of the parity. -/
def cyX (m k : Nat) : List ByteArray := caX (m : Int) (k : Int)
theorem cyX_zero (k : Nat) : cyX 0 k = [] := by unfold cyX caX; rw [if_neg (by omega)]
theorem cyX_yes (m k : Nat) (h1 : 1 ≤ m) (h2 : m ≤ 64) (h3 : 1 ≤ k) (h4 : k ≤ 64) : cyX m k = txtL k (caL m k) := by
  unfold cyX caX
  rw [if_pos (by omega), Int.toNat_natCast, Int.toNat_natCast]
theorem cyX_len (m k : Nat) (h2 : m ≤ 64) (h3 : 1 ≤ k) (h4 : k ≤ 64) : (cyX m k).length = m := by
  by_cases h : 1 ≤ m
  · rw [cyX_yes m k h h2 h3 h4, txtL_len, caL_len]
  · obtain rfl : m = 0 := by omega
    rw [cyX_zero]; rfl
theorem cyX_size (m k : Nat) (h2 : m ≤ 64) (h3 : 1 ≤ k) (h4 : k ≤ 64) : ∀ r ∈ cyX m k, r.size = k := by
  intro r hr
  by_cases h : 1 ≤ m
  · rw [cyX_yes m k h h2 h3 h4, txtL, List.mem_map] at hr
    obtain ⟨l, hl, rfl⟩ := hr
    rw [mkT_size, List.length_take, caL_wide m k l hl]
    omega
  · obtain rfl : m = 0 := by omega
    rw [cyX_zero] at hr
    cases hr
theorem parity_any (m k : Nat) (w : World) (h2 : m ≤ 64) (h3 : 1 ≤ k) (h4 : k ≤ 64) :
    Calls Try.prog 13 #[.int .i64 m, .int .i64 k] w fun e w' => ∃ ao, e = .returned (.slice ao m m) ∧ Mad w ao (cyX m k) w' ∧ Below w.heap.size w w' := by
  by_cases h : 1 ≤ m
  · have hc := fc_any (m : Int) (k : Int)
    have e1 : (caX (m : Int) (k : Int)).length = m := cyX_len m k h2 h3 h4
    have e2 : caE (m : Int) (k : Int) = 0 := by unfold caE; rw [if_pos (by omega)]
    rw [e1, e2] at hc
    have C : Hid _ := hc
    clear hc e1 e2
    have hmz : ((m : Int) == 0) = false := by rw [beq_eq_false_iff_ne]; omega
    go_enter Try.func13, Try.ntmps13
    go_wp2_with fail
    refine Calls.mono (C.out _) ?_
    rintro e w1 ⟨ao, rfl, hA, hb⟩
    have HA : Hid (Mad w ao (cyX m k) w1) := hA
    have HB : Hid (Below w.heap.size w w1) := hb
    clear hA hb
    go_wp2
    go_ret
    exact ⟨ao, rfl, HA.out, HB.out⟩
  · obtain rfl : m = 0 := by omega
    go_enter Try.func13, Try.ntmps13
    go_wp2
    go_ret
    exact ⟨none, rfl, .inl ⟨rfl, by rw [cyX_zero]; rfl⟩, Below.refl _ _⟩
/-- May parity be made? What it is; the errors. -/
def enOk (xs : List ByteArray) (m : Int) : Prop := (1 ≤ xs.length ∧ xs.length ≤ 32) ∧ evn xs = true ∧ 0 ≤ m ∧ m ≤ 64 - (xs.length : Int)
instance (xs : List ByteArray) (m : Int) : Decidable (enOk xs m) := by unfold enOk; infer_instance
def enX (xs : List ByteArray) (m : Int) : List ByteArray := if enOk xs m then mixL (cyX m.toNat xs.length) xs (wid xs) else []
def enE (xs : List ByteArray) (m : Int) : Nat := if enOk xs m then 0 else 1
theorem enX_len (xs : List ByteArray) (m : Int) : (enX xs m).length ≤ 64 := by
  unfold enX
  split
  · rename_i h
    obtain ⟨h1, h2, h3, h4⟩ := h
    rw [mixL_len, cyX_len _ _ (by omega) (by omega) (by omega)]
    omega
  · simp
theorem wid_of {xs : List ByteArray} (h : 1 ≤ xs.length) (d : Nat) (hs : ∀ x ∈ xs, x.size ≤ d) : wid xs ≤ d := by
  have : xs[0]? = some xs[0] := List.getElem?_eq_getElem (by omega)
  rw [wid, this]
  exact hs _ (List.getElem_mem (by omega))
set_option maxHeartbeats 1000000 in
set_option maxRecDepth 100000 in
theorem encode_any (a : Option Addr) (c n : Nat) (xs : List ByteArray) (m : Int) (w : World) (hx : TxL w a xs) (nx : xs.length = n) (ln : n ≤ 4611686018427387904) (sx : ∀ x ∈ xs, x.size ≤ 281474976710656) (m1 : -9223372036854775808 ≤ m) (m2 : m ≤ 9223372036854775807) :
    Calls Try.prog 6 #[.slice a n c, .int .i64 m] w fun e w' => ∃ ao, e = .returned (.tuple #[.slice ao (enX xs m).length (enX xs m).length, .int .i64 (enE xs m)]) ∧ Mad w ao (enX xs m) w' ∧ Below w.heap.size w w' := by
  have hh := hold_any (n : Int)
  have he := fun W hW => even_any a c xs W hW (by omega)
  rw [nx] at he
  have HX : Hid (TxL w a xs) := hx
  by_cases h1 : 1 ≤ n ∧ n ≤ 32
  · rw [hlB, decide_eq_true (by omega)] at hh
    have C1 : Hid _ := hh
    clear hh
    by_cases h2 : evn xs = true
    · rw [h2] at he
      have C2 : Hid _ := he
      clear he
      by_cases h3 : 0 ≤ m
      · by_cases h4 : m ≤ 64 - (n : Int)
        · have hok : enOk xs m := ⟨by omega, h2, h3, by omega⟩
          obtain ⟨k, rfl⟩ : ∃ k : Nat, m = k := ⟨m.toNat, by omega⟩
          have e1 : enX xs (k : Int) = mixL (cyX k n) xs (wid xs) := by unfold enX; rw [if_pos hok, Int.toNat_natCast, nx]
          have e2 : enE xs (k : Int) = 0 := if_pos hok
          have hl := cyX_len k n (by omega) (by omega) (by omega)
          have hc3 := fun W => parity_any k n W (by omega) (by omega) (by omega)
          have hc4 := fun ao ca W hW hV => mixed_any ao a ca c k n (wid xs) (cyX k n) xs W hW hV hl nx (by omega) (by omega) (by omega) (cyX_size k n (by omega) (by omega) (by omega)) (evn_all xs h2) (wid_of (by omega) _ sx)
          rw [e1, e2, mixL_len, hl]
          have C3 : Hid _ := hc3
          have C4 : Hid _ := hc4
          clear hc3 hc4 hl e1 e2 hok h2 nx hx sx
          go_enter Try.func6, Try.ntmps6
          go_wp2_with fail
          refine Calls.mono (C1.out _) ?_
          rintro e w1 ⟨rfl, hw⟩
          subst hw
          go_wp2_with fail
          refine Calls.mono (C2.out _ HX.out) ?_
          rintro e w2 ⟨rfl, hb2⟩
          have B2 : Hid (Below w1.heap.size w1 w2) := hb2
          clear hb2
          go_wp2_with fail
          refine Calls.mono (C3.out _) ?_
          rintro e w3 ⟨ao, rfl, hM, hb3⟩
          have HM : Hid (Mad w2 ao (cyX k n) w3) := hM
          have B3 : Hid (Below w1.heap.size w1 w3) := B2.out.trans (hb3.mono B2.out.size)
          clear hM hb3
          go_wp2_with fail
          refine Calls.mono (C4.out _ _ _ HM.out.txl (HX.out.below B3.out)) ?_
          rintro e w4 ⟨q, rfl, hM, hb4⟩
          have HM4 : Hid (Mad w1 q (mixL (cyX k n) xs (wid xs)) w4) := by
            rcases hM with h | ⟨g, h1, h2, h3⟩
            · exact .inl h
            · exact .inr ⟨g, h1, Nat.le_trans B3.out.size h2, h3⟩
          have B4 : Hid (Below w1.heap.size w1 w4) := B3.out.trans (hb4.mono B3.out.size)
          clear hM hb4
          go_wp2
          go_ret2
          exact ⟨q, rfl, HM4.out, B4.out⟩
        · have h4z : m > 64 - (n : Int) := by omega
          have e1 : enX xs m = [] := if_neg (fun h => h4 (by have := h.2.2.2; omega))
          have e2 : enE xs m = 1 := if_neg (fun h => h4 (by have := h.2.2.2; omega))
          rw [e1, e2]
          clear e1 e2 nx hx sx h2
          go_enter Try.func6, Try.ntmps6
          go_wp2_with fail
          refine Calls.mono (C1.out _) ?_
          rintro e w1 ⟨rfl, hw⟩
          subst hw
          go_wp2_with fail
          refine Calls.mono (C2.out _ HX.out) ?_
          rintro e w2 ⟨rfl, hb2⟩
          have B2 : Hid (Below w1.heap.size w1 w2) := hb2
          clear hb2
          go_wp2
          go_ret2
          exact ⟨none, rfl, .inl ⟨rfl, rfl⟩, B2.out⟩
      · have h3z : m < 0 := by omega
        have e1 : enX xs m = [] := if_neg (fun h => h3 h.2.2.1)
        have e2 : enE xs m = 1 := if_neg (fun h => h3 h.2.2.1)
        rw [e1, e2]
        clear e1 e2 nx hx sx h2
        go_enter Try.func6, Try.ntmps6
        go_wp2_with fail
        refine Calls.mono (C1.out _) ?_
        rintro e w1 ⟨rfl, hw⟩
        subst hw
        go_wp2_with fail
        refine Calls.mono (C2.out _ HX.out) ?_
        rintro e w2 ⟨rfl, hb2⟩
        have B2 : Hid (Below w1.heap.size w1 w2) := hb2
        clear hb2
        go_wp2
        go_ret2
        exact ⟨none, rfl, .inl ⟨rfl, rfl⟩, B2.out⟩
    · have h2z : evn xs = false := by simpa using h2
      rw [h2z] at he
      have C2 : Hid _ := he
      clear he
      have e1 : enX xs m = [] := if_neg (fun h => h2 h.2.1)
      have e2 : enE xs m = 1 := if_neg (fun h => h2 h.2.1)
      rw [e1, e2]
      clear e1 e2 nx hx sx h2 h2z
      go_enter Try.func6, Try.ntmps6
      go_wp2_with fail
      refine Calls.mono (C1.out _) ?_
      rintro e w1 ⟨rfl, hw⟩
      subst hw
      go_wp2_with fail
      refine Calls.mono (C2.out _ HX.out) ?_
      rintro e w2 ⟨rfl, hb2⟩
      have B2 : Hid (Below w1.heap.size w1 w2) := hb2
      clear hb2
      go_wp2
      go_ret2
      exact ⟨none, rfl, .inl ⟨rfl, rfl⟩, B2.out⟩
  · rw [hlB, decide_eq_false (by omega)] at hh
    have C1 : Hid _ := hh
    clear hh he
    have e1 : enX xs m = [] := if_neg (fun h => h1 (by have := h.1; omega))
    have e2 : enE xs m = 1 := if_neg (fun h => h1 (by have := h.1; omega))
    rw [e1, e2]
    clear e1 e2 nx hx sx h1
    go_enter Try.func6, Try.ntmps6
    go_wp2_with fail
    refine Calls.mono (C1.out _) ?_
    rintro e w1 ⟨rfl, hw⟩
    subst hw
    go_wp2
    go_ret2
    exact ⟨none, rfl, .inl ⟨rfl, rfl⟩, Below.refl _ _⟩
end Go.Proofs.Ytblmblbkfdcbjab
