/- The document's Same and Check; field.Check. -/
import Derived.Test.YtblmblbkfdcbjabF6
import Derived.Test.YtblmblbkfdcbjabM1
import Derived.BigQuiet
namespace Go.Proofs.Ytblmblbkfdcbjab
open Go.RowKit
set_option linter.unusedSimpArgs false
set_option linter.unusedVariables false
set_option maxHeartbeats 1000000 in
set_option maxRecDepth 100000 in
theorem rsame_any (a b : Option Addr) (ca cb : Nat) (xs ys : List ByteArray) (w : World) (hx : TxL w a xs) (hy : TxL w b ys) (nx : xs.length ≤ 4611686018427387904) (ny : ys.length ≤ 4611686018427387904) :
    Calls Try.prog 9 #[.slice a xs.length ca, .slice b ys.length cb] w fun e w' => e = .returned (.bool (decide (xs = ys))) ∧ Below w.heap.size w w' := by
  have HX : Hid (TxL w a xs) := hx
  have HY : Hid (TxL w b ys) := hy
  clear hx hy
  by_cases hl : xs.length = ys.length
  · obtain ⟨n, hn⟩ : ∃ n, xs.length = n := ⟨_, rfl⟩
    have hn2 : ys.length = n := by omega
    have HL : Hid (xs.length = n ∧ ys.length = n) := ⟨hn, hn2⟩
    rw [hn, hn2]
    have hnn : n ≤ 4611686018427387904 := by omega
    clear hn hn2 hl nx ny
    go_enter Try.func9, Try.ntmps9
    go_wp2
    go_loopw [5] (fun v wr => ∃ k : Nat, v = .int .i64 k ∧ k ≤ n ∧ Hid (Below w.heap.size w wr) ∧ Hid (∀ i, i < k → xs[i]? = ys[i]?)) (fun v _ => n - (intOf v).toNat)
    case atStart => exact ⟨0, rfl, Nat.zero_le _, Below.refl _ _, fun i hi => by omega⟩
    case round =>
      obtain ⟨k, rfl, hk, HB, HE⟩ := hrel
      by_cases hlt : k < n
      · obtain ⟨x, hx⟩ : ∃ x, xs[k]? = some x := ⟨xs[k]'(by rw [HL.out.1]; exact hlt), List.getElem?_eq_getElem _⟩
        obtain ⟨y, hy⟩ : ∃ y, ys[k]? = some y := ⟨ys[k]'(by rw [HL.out.2]; exact hlt), List.getElem?_eq_getElem _⟩
        obtain ⟨g, o, rfl, hg, hc⟩ := HX.out.below HB.out k x hx
        obtain ⟨g2, o2, rfl, hg2, hc2⟩ := HY.out.below HB.out k y hy
        have H1 : Hid (xs[k]? = some x ∧ ys[k]? = some y) := ⟨hx, hy⟩
        clear hx hy
        have hkz : (k : Int) < (n : Nat) := by omega
        have hbn := str_ne x y
        by_cases he : x = y
        · subst he
          simp only [decide_true, Bool.not_true] at hbn
          go_wp2
          go_quiet (fail)
          go_wp2
          go_roundw
          case rel =>
            refine ⟨k + 1, by go_num, by omega, below_drewN HB.out _, fun i hi => ?_⟩
            by_cases hik : i < k
            · exact HE.out i hik
            · obtain rfl : i = k := by omega
              rw [H1.out.1, H1.out.2]
          case measure => simp [intOf]; omega
        · simp only [he, decide_false, Bool.not_false] at hbn
          have hbe : (x.toList == y.toList) = false := by simpa [bne] using hbn
          go_wp2
          go_quiet (fail)
          go_wp2
          go_ret
          refine ⟨?_, below_drewN HB.out _⟩
          have : decide (xs = ys) = false := decide_eq_false fun e => he (by
            have := H1.out
            rw [e] at this
            exact Option.some.inj (this.1.symm.trans this.2))
          rw [this]; rfl
      · go_wp2
        go_ret
        refine ⟨?_, HB.out⟩
        have : decide (xs = ys) = true := decide_eq_true (List.ext_getElem? fun i => by
          by_cases hi : i < n
          · exact HE.out i (by omega)
          · rw [List.getElem?_eq_none (by rw [HL.out.1]; omega), List.getElem?_eq_none (by rw [HL.out.2]; omega)])
        rw [this]; rfl
  · have hz : ((xs.length : Int) != (ys.length : Int)) = true := by simp; omega
    have hd : decide (xs = ys) = false := decide_eq_false fun e => hl (by rw [e])
    rw [hd]
    clear hd HX HY
    go_enter Try.func9, Try.ntmps9
    go_wp2
    go_ret
    exact ⟨rfl, Below.refl _ _⟩
/-- The length of a matrix's first row. -/
def wid (xs : List ByteArray) : Nat := (xs[0]?.map fun x => x.size).getD 0
/-- Are these texts a matrix? -/
def isM (xs : List ByteArray) : Bool := decide (1 ≤ xs.length ∧ xs.length ≤ 64) && decide (1 ≤ wid xs ∧ wid xs ≤ 64) && xs.all fun x => x.size == wid xs
def ckR (xs : List ByteArray) : Nat := if isM xs then xs.length else 0
def ckC (xs : List ByteArray) : Nat := if isM xs then wid xs else 0
def ckE (xs : List ByteArray) : Nat := if isM xs then 0 else 1
theorem ck_no (xs : List ByteArray) (h : isM xs = false) : ckR xs = 0 ∧ ckC xs = 0 ∧ ckE xs = 1 := by simp [ckR, ckC, ckE, h]
theorem ck_yes (xs : List ByteArray) (h : isM xs = true) : ckR xs = xs.length ∧ ckC xs = wid xs ∧ ckE xs = 0 := by simp [ckR, ckC, ckE, h]
theorem isM_no1 (xs : List ByteArray) (h : ¬ (1 ≤ xs.length ∧ xs.length ≤ 64)) : isM xs = false := by simp only [isM, decide_eq_false h, Bool.false_and]
theorem isM_no2 (xs : List ByteArray) (h : ¬ (1 ≤ wid xs ∧ wid xs ≤ 64)) : isM xs = false := by simp only [isM, decide_eq_false h, Bool.and_false, Bool.false_and]
theorem isM_no3 (xs : List ByteArray) (k : Nat) (x : ByteArray) (hk : xs[k]? = some x) (h : ¬ x.size = wid xs) : isM xs = false := by
  have : (xs.all fun x => x.size == wid xs) = false := by
    rw [Bool.eq_false_iff]
    intro e
    rw [List.all_eq_true] at e
    have := e x (List.mem_of_getElem? hk)
    simp at this
    exact h this
  simp only [isM, this, Bool.and_false]
theorem isM_yes (xs : List ByteArray) (h1 : 1 ≤ xs.length ∧ xs.length ≤ 64) (h2 : 1 ≤ wid xs ∧ wid xs ≤ 64) (h : ∀ (k : Nat) (x : ByteArray), xs[k]? = some x → x.size = wid xs) : isM xs = true := by
  have : (xs.all fun x => x.size == wid xs) = true := by
    rw [List.all_eq_true]
    intro x hx
    obtain ⟨i, hi, e⟩ := List.mem_iff_getElem.1 hx
    have := h i x (by rw [List.getElem?_eq_getElem hi, e])
    simpa using this
  simp only [isM, decide_eq_true h1, decide_eq_true h2, this, Bool.and_self]
set_option maxHeartbeats 1000000 in
set_option maxRecDepth 100000 in
theorem check_any (a : Option Addr) (c : Nat) (xs : List ByteArray) (w : World) (hx : TxL w a xs) (nx : xs.length ≤ 4611686018427387904) (hs : ∀ x ∈ xs, x.size ≤ 4611686018427387904) :
    Calls Try.prog 32 #[.slice a xs.length c] w fun e w' => e = .returned (.tuple #[.int .i64 (ckR xs), .int .i64 (ckC xs), .int .i64 (ckE xs)]) ∧ ∃ n, w' = w.drewN n := by
  have HX : Hid (TxL w a xs) := hx
  have HSZ : Hid (∀ x ∈ xs, x.size ≤ 4611686018427387904) := hs
  clear hx hs
  obtain ⟨n, hn⟩ : ∃ n, xs.length = n := ⟨_, rfl⟩
  have HN : Hid (xs.length = n) := hn
  rw [hn] at nx ⊢
  by_cases h1 : 1 ≤ n ∧ n ≤ 64
  · obtain ⟨x0, hx0⟩ : ∃ x, xs[0]? = some x := ⟨xs[0]'(by omega), List.getElem?_eq_getElem _⟩
    obtain ⟨g, o, rfl, hg, hc0⟩ := HX.out 0 x0 hx0
    rw [Nat.add_zero] at hc0
    have hw : wid xs = x0.size := by simp [wid, hx0]
    have hz0 := HSZ.out x0 (List.mem_of_getElem? hx0)
    have HW : Hid (wid xs = x0.size) := hw
    obtain ⟨m, hm⟩ : ∃ m, x0.size = m := ⟨_, rfl⟩
    have HM : Hid (x0.size = m) := hm
    have s1 : sdB (n : Int) = true := decide_eq_true (by omega)
    obtain ⟨h1a, h1b⟩ := h1
    by_cases h2 : 1 ≤ m ∧ m ≤ 64
    · have s2 : sdB (x0.size : Int) = true := decide_eq_true (by omega)
      have c1 := side_any (n : Int)
      have c2 := side_any (x0.size : Int)
      rw [s1] at c1
      rw [s2] at c2
      have C1 : Hid _ := c1
      have C2 : Hid _ := c2
      clear c1 c2 s1 s2 hx0 hw hm hn
      go_enter Try.func32, Try.ntmps32
      go_wp2_with fail
      refine Calls.mono (C1.out _) ?_
      rintro e w1 ⟨rfl, hw1⟩
      subst hw1
      go_wp2_with fail
      refine Calls.mono (C2.out _) ?_
      rintro e w2 ⟨rfl, hw2⟩
      subst hw2
      go_wp2_with fail
      go_loop [21] (fun v => ∃ k : Nat, k ≤ n ∧ v = .int .i64 k ∧ Hid (∀ (i : Nat) (x : ByteArray), i < k → xs[i]? = some x → x.size = wid xs)) (fun v => n - (intOf v).toNat)
      case atStart => exact ⟨0, by omega, rfl, fun i x hi => by omega⟩
      case round =>
        obtain ⟨k, hk, rfl, HR⟩ := hrel
        by_cases hlt : k < n
        · obtain ⟨x, hx⟩ : ∃ x, xs[k]? = some x := ⟨xs[k]'(by rw [HN.out]; exact hlt), List.getElem?_eq_getElem _⟩
          obtain ⟨g2, o2, heq, _, hc⟩ := HX.out k x hx
          obtain ⟨rfl, rfl⟩ : g = g2 ∧ o = o2 := by simpa using heq
          have hkz : (k : Int) < (n : Nat) := by omega
          have HK : Hid (xs[k]? = some x) := hx
          clear heq hx
          by_cases he : x.size = x0.size
          · have hb : ((x.size : Int) == (x0.size : Int)) = true := by rw [he]; simp
            have HE : Hid (∀ (i : Nat) (x : ByteArray), i < k + 1 → xs[i]? = some x → x.size = wid xs) := by
              intro i y hi hy
              by_cases e : i < k
              · exact HR.out i y e hy
              · obtain rfl : i = k := by omega
                rw [HK.out] at hy
                cases hy
                rw [HW.out, he]
            clear he
            go_wp2
            go_round
            case rel => exact ⟨k + 1, by omega, by go_num, HE.out⟩
            case measure => simp [intOf]; omega
          · have hb : ((x.size : Int) == (x0.size : Int)) = false := by rw [beq_eq_false_iff_ne]; omega
            have hno := ck_no xs (isM_no3 xs k x HK.out (by rw [HW.out]; exact he))
            have HNO : Hid (ckR xs = 0 ∧ ckC xs = 0 ∧ ckE xs = 1) := hno
            clear hno he
            go_wp2
            go_ret3
            exact ⟨by rw [HNO.out.1, HNO.out.2.1, HNO.out.2.2]; rfl, 0, rfl⟩
        · have hys := ck_yes xs (isM_yes xs (by rw [HN.out]; exact ⟨h1a, h1b⟩) (by rw [HW.out, HM.out]; exact h2) (fun i x hx => HR.out i x (by have := (List.getElem?_eq_some_iff.1 hx).1; rw [HN.out] at this; omega) hx))
          have HY : Hid (ckR xs = n ∧ ckC xs = x0.size ∧ ckE xs = 0) := ⟨by rw [hys.1, HN.out], by rw [hys.2.1, HW.out], hys.2.2⟩
          clear hys HR
          go_wp2
          go_quiet (fail)
          go_wp2
          go_ret3
          exact ⟨by rw [HY.out.1, HY.out.2.1, HY.out.2.2]; rfl, _, rfl⟩
    · have s2 : sdB (x0.size : Int) = false := decide_eq_false (by omega)
      have c1 := side_any (n : Int)
      have c2 := side_any (x0.size : Int)
      rw [s1] at c1
      rw [s2] at c2
      have C1 : Hid _ := c1
      have C2 : Hid _ := c2
      have hno := ck_no xs (isM_no2 xs (by rw [hw, hm]; exact h2))
      have HNO : Hid (ckR xs = 0 ∧ ckC xs = 0 ∧ ckE xs = 1) := hno
      clear c1 c2 s1 s2 hx0 hw hm hn hno h2
      go_enter Try.func32, Try.ntmps32
      go_wp2_with fail
      refine Calls.mono (C1.out _) ?_
      rintro e w1 ⟨rfl, hw1⟩
      subst hw1
      go_wp2_with fail
      refine Calls.mono (C2.out _) ?_
      rintro e w2 ⟨rfl, hw2⟩
      subst hw2
      go_wp2
      go_ret3
      exact ⟨by rw [HNO.out.1, HNO.out.2.1, HNO.out.2.2]; rfl, 0, rfl⟩
  · have s1 : sdB (n : Int) = false := decide_eq_false (by omega)
    have c1 := side_any (n : Int)
    rw [s1] at c1
    have C1 : Hid _ := c1
    have hno := ck_no xs (isM_no1 xs (by rw [hn]; exact h1))
    have HNO : Hid (ckR xs = 0 ∧ ckC xs = 0 ∧ ckE xs = 1) := hno
    clear c1 s1 hn hno h1
    go_enter Try.func32, Try.ntmps32
    go_wp2_with fail
    refine Calls.mono (C1.out _) ?_
    rintro e w1 ⟨rfl, hw1⟩
    subst hw1
    go_wp2
    go_ret3
    exact ⟨by rw [HNO.out.1, HNO.out.2.1, HNO.out.2.2]; rfl, 0, rfl⟩
end Go.Proofs.Ytblmblbkfdcbjab
