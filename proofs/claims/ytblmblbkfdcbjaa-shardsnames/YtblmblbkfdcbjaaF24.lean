/- field.Product, where it refuses; the document's Check. -/
import Derived.Test.YtblmblbkfdcbjaaF11
namespace Go.Proofs.Ytblmblbkfdcbjaa
open Go.RowKit
set_option linter.unusedSimpArgs false
set_option linter.unusedVariables false
set_option maxHeartbeats 1000000 in
set_option maxRecDepth 100000 in
theorem product_no (a b : Option Addr) (ca cb : Nat) (xs ys : List ByteArray) (w : World) (hx : TxL w a xs) (hy : TxL w b ys) (nx : xs.length ≤ 4611686018427387904) (sx : ∀ x ∈ xs, x.size ≤ 4611686018427387904) (ny : ys.length ≤ 4611686018427387904) (sy : ∀ x ∈ ys, x.size ≤ 4611686018427387904)
    (h : ¬ (isM xs = true ∧ isM ys = true ∧ wid xs = ys.length)) :
    Calls Try.prog 12 #[.slice a xs.length ca, .slice b ys.length cb] w fun e w' => e = .returned (.tuple #[.slice none 0 0, .int .i64 1]) ∧ Below w.heap.size w w' := by
  have hcx := check_any a ca xs w hx nx sx
  have hcy := fun W hW => check_any b cb ys W hW ny sy
  by_cases mx : isM xs = true
  · obtain ⟨k1, k2, k3⟩ := ck_yes xs mx
    rw [k1, k2, k3] at hcx
    by_cases my : isM ys = true
    · obtain ⟨l1, l2, l3⟩ := ck_yes ys my
      rw [l1, l2, l3] at hcy
      have hne : ((wid xs : Int) == (ys.length : Int)) = false := by
        rw [beq_eq_false_iff_ne]
        intro e
        exact h ⟨mx, my, by omega⟩
      have hnn : ((wid xs : Int) != (ys.length : Int)) = true := by rw [bne, hne]; rfl
      have HY : Hid (TxL w b ys) := hy
      have C1 : Hid _ := hcx
      have C2 : Hid _ := hcy
      clear hcx hcy hx hy h sx sy k1 k2 k3 l1 l2 l3
      generalize wid xs = wx at *
      generalize wid ys = wy at *
      go_enter Try.func12, Try.ntmps12
      go_wp2_with fail
      refine Calls.mono C1.out ?_
      rintro e w1 ⟨rfl, q1, hw1⟩
      subst hw1
      go_wp2_with fail
      refine Calls.mono (C2.out _ (HY.out.drewN q1)) ?_
      rintro e w1 ⟨rfl, q2, hw1⟩
      have HB1 : Hid (Below w.heap.size w w1) := by show Below _ _ _; rw [hw1]; exact below_drewN (below_drewN (Below.refl _ _) _) _
      clear hw1
      go_wp2
      go_ret2
      exact ⟨rfl, HB1.out⟩
    · obtain ⟨l1, l2, l3⟩ := ck_no ys (by simpa using my)
      rw [l1, l2, l3] at hcy
      have HY : Hid (TxL w b ys) := hy
      have C1 : Hid _ := hcx
      have C2 : Hid _ := hcy
      clear hcx hcy hx hy h sx sy k1 k2 k3 l1 l2 l3
      generalize wid xs = wx at *
      go_enter Try.func12, Try.ntmps12
      go_wp2_with fail
      refine Calls.mono C1.out ?_
      rintro e w1 ⟨rfl, q1, hw1⟩
      subst hw1
      go_wp2_with fail
      refine Calls.mono (C2.out _ (HY.out.drewN q1)) ?_
      rintro e w1 ⟨rfl, q2, hw1⟩
      have HB1 : Hid (Below w.heap.size w w1) := by show Below _ _ _; rw [hw1]; exact below_drewN (below_drewN (Below.refl _ _) _) _
      clear hw1
      go_wp2
      go_ret2
      exact ⟨rfl, HB1.out⟩
  · obtain ⟨k1, k2, k3⟩ := ck_no xs (by simpa using mx)
    rw [k1, k2, k3] at hcx
    have C1 : Hid _ := hcx
    clear hcx hcy hx hy h sx sy k1 k2 k3
    go_enter Try.func12, Try.ntmps12
    go_wp2_with fail
    refine Calls.mono C1.out ?_
    rintro e w1 ⟨rfl, q1, hw1⟩
    have HB1 : Hid (Below w.heap.size w w1) := by show Below _ _ _; rw [hw1]; exact below_drewN (Below.refl _ _) _
    clear hw1
    go_wp2
    go_ret2
    exact ⟨rfl, HB1.out⟩
set_option maxHeartbeats 1000000 in
set_option maxRecDepth 100000 in
theorem rcheck_any (a : Option Addr) (c : Nat) (xs : List ByteArray) (w : World) (hx : TxL w a xs) (nx : xs.length ≤ 4611686018427387904) (hs : ∀ x ∈ xs, x.size ≤ 4611686018427387904) :
    Calls Try.prog 9 #[.slice a xs.length c] w fun e w' => e = .returned (.tuple #[.int .i64 (ckR xs), .int .i64 (ckC xs), .int .i64 (ckE xs)]) ∧ Below w.heap.size w w' := by
  have HX : Hid (TxL w a xs) := hx
  have HSZ : Hid (∀ x ∈ xs, x.size ≤ 4611686018427387904) := hs
  clear hx hs
  obtain ⟨n, hn⟩ : ∃ n, xs.length = n := ⟨_, rfl⟩
  have HN : Hid (xs.length = n) := hn
  rw [hn] at nx ⊢
  by_cases h1 : 1 ≤ n ∧ n ≤ 64
  · obtain ⟨x0, hx0⟩ : ∃ x, xs[0]? = some x := ⟨xs[0]'(by omega), List.getElem?_eq_getElem _⟩
    obtain ⟨g, o, rfl, hg, hc0⟩ := HX.out 0 x0 hx0
    rw [Nat.add_zero] at hc0
    have hw : wid xs = x0.size := by simp [wid, hx0]
    have hz0 := HSZ.out x0 (List.mem_of_getElem? hx0)
    have HW : Hid (wid xs = x0.size) := hw
    obtain ⟨h1a, h1b⟩ := h1
    have hn0 : (0 : Int) < (n : Nat) := by omega
    have hna : ¬ (n : Int) < 1 := by omega
    have hnb : ¬ (n : Int) > 64 := by omega
    clear hx0 hw hn
    go_enter Try.func9, Try.ntmps9
    go_wp2_with fail
    go_loop [6] (fun v => ∃ k : Nat, k ≤ n ∧ v = .int .i64 k ∧ Hid (∀ (i : Nat) (x : ByteArray), i < k → xs[i]? = some x → x.size = wid xs)) (fun v => n - (intOf v).toNat)
    case atStart => exact ⟨0, by omega, rfl, fun i x hi => by omega⟩
    case round =>
      obtain ⟨k, hk, rfl, HR⟩ := hrel
      by_cases hlt : k < n
      · obtain ⟨x, hx⟩ : ∃ x, xs[k]? = some x := ⟨xs[k]'(by rw [HN.out]; exact hlt), List.getElem?_eq_getElem _⟩
        obtain ⟨g2, o2, heq, _, hc⟩ := HX.out k x hx
        obtain ⟨rfl, rfl⟩ : g = g2 ∧ o = o2 := by simpa using heq
        have hkz : (k : Int) < (n : Nat) := by omega
        have HK : Hid (xs[k]? = some x) := hx
        clear heq hx
        by_cases he : x.size = x0.size
        · have hb : ((x.size : Int) == (x0.size : Int)) = true := by rw [he]; simp
          have hb' : ((x.size : Int) != (x0.size : Int)) = false := by rw [bne, hb]; rfl
          have HE : Hid (∀ (i : Nat) (x : ByteArray), i < k + 1 → xs[i]? = some x → x.size = wid xs) := by
            intro i y hi hy
            by_cases e : i < k
            · exact HR.out i y e hy
            · obtain rfl : i = k := by omega
              rw [HK.out] at hy
              cases hy
              rw [HW.out, he]
          clear he
          go_wp2
          go_round
          case rel => exact ⟨k + 1, by omega, by go_num, HE.out⟩
          case measure => simp [intOf]; omega
        · have hb : ((x.size : Int) == (x0.size : Int)) = false := by rw [beq_eq_false_iff_ne]; omega
          have hb' : ((x.size : Int) != (x0.size : Int)) = true := by rw [bne, hb]; rfl
          have hno := ck_no xs (isM_no3 xs k x HK.out (by rw [HW.out]; exact he))
          have HNO : Hid (ckR xs = 0 ∧ ckC xs = 0 ∧ ckE xs = 1) := hno
          clear hno he
          go_wp2
          go_ret3
          exact ⟨by rw [HNO.out.1, HNO.out.2.1, HNO.out.2.2]; rfl, Below.refl _ _⟩
      · have hkz : ¬ (k : Int) < (n : Nat) := by omega
        by_cases h2 : 1 ≤ x0.size ∧ x0.size ≤ 64
        · have hys := ck_yes xs (isM_yes xs (by rw [HN.out]; exact ⟨h1a, h1b⟩) (by rw [HW.out]; exact h2) (fun i x hx => HR.out i x (by have := (List.getElem?_eq_some_iff.1 hx).1; rw [HN.out] at this; omega) hx))
          have HY : Hid (ckR xs = n ∧ ckC xs = x0.size ∧ ckE xs = 0) := ⟨by rw [hys.1, HN.out], by rw [hys.2.1, HW.out], hys.2.2⟩
          clear hys HR
          obtain ⟨h2a, h2b⟩ := h2
          go_wp2
          go_ret3
          exact ⟨by rw [HY.out.1, HY.out.2.1, HY.out.2.2]; rfl, Below.refl _ _⟩
        · have hno := ck_no xs (isM_no2 xs (by rw [HW.out]; exact h2))
          have HNO : Hid (ckR xs = 0 ∧ ckC xs = 0 ∧ ckE xs = 1) := hno
          clear hno HR
          by_cases hl : x0.size < 1
          · have hla : (x0.size : Int) < 1 := by omega
            clear h2
            go_wp2
            go_ret3
            exact ⟨by rw [HNO.out.1, HNO.out.2.1, HNO.out.2.2]; rfl, Below.refl _ _⟩
          · have hla : ¬ (x0.size : Int) < 1 := by omega
            have hlb : (x0.size : Int) > 64 := by omega
            clear h2
            go_wp2
            go_ret3
            exact ⟨by rw [HNO.out.1, HNO.out.2.1, HNO.out.2.2]; rfl, Below.refl _ _⟩
  · have hno := ck_no xs (isM_no1 xs (by rw [hn]; exact h1))
    have HNO : Hid (ckR xs = 0 ∧ ckC xs = 0 ∧ ckE xs = 1) := hno
    clear hno hn
    by_cases hl : n < 1
    · have hna : (n : Int) < 1 := by omega
      go_enter Try.func9, Try.ntmps9
      go_wp2
      go_ret3
      exact ⟨by rw [HNO.out.1, HNO.out.2.1, HNO.out.2.2]; rfl, Below.refl _ _⟩
    · have hna : ¬ (n : Int) < 1 := by omega
      have hnb : (n : Int) > 64 := by omega
      go_enter Try.func9, Try.ntmps9
      go_wp2
      go_ret3
      exact ⟨by rw [HNO.out.1, HNO.out.2.1, HNO.out.2.2]; rfl, Below.refl _ _⟩
end Go.Proofs.Ytblmblbkfdcbjaa
