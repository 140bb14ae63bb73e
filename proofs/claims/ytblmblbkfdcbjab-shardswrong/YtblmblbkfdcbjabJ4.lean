/- shards.hold, together, even; the document's alike. -/
import Derived.Test.YtblmblbkfdcbjabF7
import Derived.Deep.RegionHeld3
namespace Go.Proofs.Ytblmblbkfdcbjab
open Go.RowKit
set_option linter.unusedSimpArgs false
set_option linter.unusedVariables false
def hlB (k : Int) : Bool := decide (1 ≤ k ∧ k ≤ 32)
def tgB (n k : Int) : Bool := decide ((1 ≤ k ∧ k ≤ 32) ∧ k ≤ n ∧ n ≤ 64)
def evn (xs : List ByteArray) : Bool := xs.all fun x => x.size == wid xs
theorem evn_no (xs : List ByteArray) (k : Nat) (x : ByteArray) (hk : xs[k]? = some x) (h : ¬ x.size = wid xs) : evn xs = false := by
  rw [evn, Bool.eq_false_iff]
  intro e
  rw [List.all_eq_true] at e
  have := e x (List.mem_of_getElem? hk)
  simp at this
  exact h this
theorem evn_yes (xs : List ByteArray) (h : ∀ (k : Nat) (x : ByteArray), xs[k]? = some x → x.size = wid xs) : evn xs = true := by
  rw [evn, List.all_eq_true]
  intro x hx
  obtain ⟨i, hi, e⟩ := List.mem_iff_getElem.1 hx
  have := h i x (by rw [List.getElem?_eq_getElem hi, e])
  simpa using this
theorem evn_all (xs : List ByteArray) (h : evn xs = true) : ∀ x ∈ xs, x.size = wid xs := by
  intro x hx
  rw [evn, List.all_eq_true] at h
  simpa using h x hx
theorem hold_any (k : Int) (w : World) :
    Calls Try.prog 10 #[.int .i64 k] w fun e w' => e = .returned (.bool (hlB k)) ∧ w' = w := by
  unfold hlB
  by_cases h1 : 1 ≤ k
  · by_cases h2 : k ≤ 32
    · rw [decide_eq_true ⟨h1, h2⟩]
      go_enter Try.func10, Try.ntmps10
      go_wp2
      go_ret
      exact ⟨rfl, rfl⟩
    · rw [decide_eq_false (fun h => h2 h.2)]
      go_enter Try.func10, Try.ntmps10
      go_wp2
      go_ret
      exact ⟨rfl, rfl⟩
  · rw [decide_eq_false (fun h => h1 h.1)]
    go_enter Try.func10, Try.ntmps10
    go_wp2
    go_ret
    exact ⟨rfl, rfl⟩
theorem together_any (n k : Int) (w : World) :
    Calls Try.prog 14 #[.int .i64 n, .int .i64 k] w fun e w' => e = .returned (.bool (tgB n k)) ∧ w' = w := by
  have hh := hold_any k
  by_cases h1 : 1 ≤ k ∧ k ≤ 32
  · rw [hlB, decide_eq_true h1] at hh
    have C : Hid _ := hh
    clear hh
    by_cases h2 : k ≤ n
    · by_cases h3 : n ≤ 64
      · have e : tgB n k = true := decide_eq_true ⟨h1, h2, h3⟩
        rw [e]
        clear h1
        go_enter Try.func14, Try.ntmps14
        go_wp2_with fail
        refine Calls.mono (C.out _) ?_
        rintro e w1 ⟨rfl, hw⟩
        subst hw
        go_wp2
        go_ret
        exact ⟨rfl, rfl⟩
      · have e : tgB n k = false := decide_eq_false (fun h => h3 h.2.2)
        rw [e]
        clear h1
        go_enter Try.func14, Try.ntmps14
        go_wp2_with fail
        refine Calls.mono (C.out _) ?_
        rintro e w1 ⟨rfl, hw⟩
        subst hw
        go_wp2
        go_ret
        exact ⟨by rw [decide_eq_false (by omega)]; rfl, rfl⟩
    · have e : tgB n k = false := decide_eq_false (fun h => h2 h.2.1)
      rw [e]
      clear h1
      go_enter Try.func14, Try.ntmps14
      go_wp2_with fail
      refine Calls.mono (C.out _) ?_
      rintro e w1 ⟨rfl, hw⟩
      subst hw
      go_wp2
      go_ret
      exact ⟨rfl, rfl⟩
  · rw [hlB, decide_eq_false h1] at hh
    have C : Hid _ := hh
    clear hh
    have e : tgB n k = false := decide_eq_false (fun h => h1 h.1)
    rw [e]
    clear h1
    go_enter Try.func14, Try.ntmps14
    go_wp2_with fail
    refine Calls.mono (C.out _) ?_
    rintro e w1 ⟨rfl, hw⟩
    subst hw
    go_wp2
    go_ret
    exact ⟨rfl, rfl⟩
set_option maxHeartbeats 1000000 in
set_option maxRecDepth 100000 in
theorem even_any (a : Option Addr) (c : Nat) (xs : List ByteArray) (w : World) (hx : TxL w a xs) (nx : xs.length ≤ 4611686018427387904) :
    Calls Try.prog 11 #[.slice a xs.length c] w fun e w' => e = .returned (.bool (evn xs)) ∧ Below w.heap.size w w' := by
  have HX : Hid (TxL w a xs) := hx
  clear hx
  obtain ⟨n, hn⟩ : ∃ n, xs.length = n := ⟨_, rfl⟩
  have HN : Hid (xs.length = n) := hn
  rw [hn] at nx ⊢
  clear hn
  go_enter Try.func11, Try.ntmps11
  go_wp2_with fail
  go_loop [7] (fun v => ∃ k : Nat, k ≤ n ∧ v = .int .i64 k ∧ Hid (∀ (i : Nat) (x : ByteArray), i < k → xs[i]? = some x → x.size = wid xs)) (fun v => n - (intOf v).toNat)
  case atStart => exact ⟨0, by omega, rfl, fun i x hi => by omega⟩
  case round =>
    obtain ⟨k, hk, rfl, HR⟩ := hrel
    by_cases hlt : k < n
    · obtain ⟨x0, hx0⟩ : ∃ x, xs[0]? = some x := ⟨xs[0]'(by rw [HN.out]; omega), List.getElem?_eq_getElem _⟩
      obtain ⟨g, o, rfl, hg, hc0⟩ := HX.out 0 x0 hx0
      rw [Nat.add_zero] at hc0
      have HW : Hid (wid xs = x0.size) := by show wid xs = _; simp [wid, hx0]
      obtain ⟨x, hx⟩ : ∃ x, xs[k]? = some x := ⟨xs[k]'(by rw [HN.out]; exact hlt), List.getElem?_eq_getElem _⟩
      obtain ⟨g2, o2, heq, _, hc⟩ := HX.out k x hx
      obtain ⟨rfl, rfl⟩ : g = g2 ∧ o = o2 := by simpa using heq
      have hkz : (k : Int) < (n : Nat) := by omega
      have hn0 : (0 : Int) < (n : Nat) := by omega
      have HK : Hid (xs[k]? = some x) := hx
      clear heq hx hx0
      by_cases he : x.size = x0.size
      · have hb : ((x.size : Int) == (x0.size : Int)) = true := by rw [he]; simp
        have hb' : ((x.size : Int) != (x0.size : Int)) = false := by rw [bne, hb]; rfl
        have HE : Hid (∀ (i : Nat) (x : ByteArray), i < k + 1 → xs[i]? = some x → x.size = wid xs) := by
          intro i y hi hy
          by_cases e : i < k
          · exact HR.out i y e hy
          · obtain rfl : i = k := by omega
            rw [HK.out] at hy
            cases hy
            rw [HW.out, he]
        clear he
        go_wp2
        go_round
        case rel => exact ⟨k + 1, by omega, by go_num, HE.out⟩
        case measure => simp [intOf]; omega
      · have hb : ((x.size : Int) == (x0.size : Int)) = false := by rw [beq_eq_false_iff_ne]; omega
        have hb' : ((x.size : Int) != (x0.size : Int)) = true := by rw [bne, hb]; rfl
        have HNO : Hid (evn xs = false) := evn_no xs k x HK.out (by rw [HW.out]; exact he)
        clear he
        go_wp2
        go_ret
        exact ⟨by rw [HNO.out]; rfl, Below.refl _ _⟩
    · have hkz : ¬ (k : Int) < (n : Nat) := by omega
      have HY : Hid (evn xs = true) := evn_yes xs (fun i x hx => HR.out i x (by have := (List.getElem?_eq_some_iff.1 hx).1; rw [HN.out] at this; omega) hx)
      clear HR
      go_wp2
      go_ret
      exact ⟨by rw [HY.out]; rfl, Below.refl _ _⟩
end Go.Proofs.Ytblmblbkfdcbjab
