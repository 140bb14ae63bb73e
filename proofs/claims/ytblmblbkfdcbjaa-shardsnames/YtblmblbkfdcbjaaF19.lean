/- field.Rank, field.Inverse. -/
import Derived.Test.YtblmblbkfdcbjaaF18
import Derived.Test.YtblmblbkfdcbjaaK5
import Derived.Test.YtblmblbkfdcbjaaF11
namespace Go.Proofs.Ytblmblbkfdcbjaa
open Go.RowKit
set_option linter.unusedSimpArgs false
set_option linter.unusedVariables false
theorem redP_len (A : List (List UInt8)) : (redP A).length = A.length := by rw [redP, redK_len, staP_len]
theorem redP_wide (A : List (List UInt8)) (hA : ∀ r ∈ A, r.length = 64) : ∀ p ∈ redP A, p.length = 128 := redK_wide _ (staP_wide A hA) _
/-- What Rank answers of a matrix. -/
def rkM (xs : List ByteArray) : Nat := if isM xs then rkK (redP (arrL xs)) xs.length else 0
theorem isM_small (xs : List ByteArray) (h : isM xs = true) : xs.length ≤ 64 ∧ ∀ x ∈ xs, x.size ≤ 64 := by
  obtain ⟨h1, h2, h3⟩ := isM_parts xs h
  exact ⟨h1.2, fun x hx => by rw [h3 x hx]; exact h2.2⟩
set_option maxHeartbeats 2000000 in
set_option maxRecDepth 100000 in
theorem rank_any (a : Option Addr) (c : Nat) (xs : List ByteArray) (w : World) (hx : TxL w a xs) (nx : xs.length ≤ 4611686018427387904) (hs : ∀ x ∈ xs, x.size ≤ 4611686018427387904) :
    Calls Try.prog 17 #[.slice a xs.length c] w fun e w' => e = .returned (.tuple #[.int .i64 (rkM xs), .int .i64 (ckE xs)]) ∧ Below w.heap.size w w' := by
  have hck := check_any a c xs w hx nx hs
  by_cases hm : isM xs = true
  · obtain ⟨k1, k2, k3⟩ := ck_yes xs hm
    obtain ⟨s1, s2⟩ := isM_small xs hm
    rw [k1, k2, k3] at hck
    rw [k3]
    have hrd := fun W hW => reduced_any a c xs W hW s1 s2
    have hwd := redP_wide (arrL xs) (arrL_wide xs s2)
    have hln : (redP (arrL xs)).length = xs.length := by rw [redP_len]; simp [arrL]
    have HRK : Hid (rkM xs = rkK (redP (arrL xs)) xs.length) := by show rkM xs = _; unfold rkM; rw [if_pos hm]
    obtain ⟨X, hX⟩ : ∃ X, redP (arrL xs) = X := ⟨_, rfl⟩
    rw [hX] at hrd hwd hln HRK
    obtain ⟨n, hn⟩ : ∃ n, xs.length = n := ⟨_, rfl⟩
    rw [hn] at hck hrd hln HRK s1 ⊢
    have HXW : Hid (∀ p ∈ X, p.length = 128) := hwd
    have HXl : Hid (X.length = n) := hln
    have HX : Hid (TxL w a xs) := hx
    have C1 : Hid _ := hck
    have C2 : Hid _ := hrd
    have hzr := (zero_of_info info_row).1
    have hzp := (zero_of_info info_pair).1
    clear hck hrd hwd hln hx hX hn hm k1 k2 k3 s2 hs nx
    go_enter Try.func17, Try.ntmps17
    go_wp2_with fail
    refine Calls.mono C1.out ?_
    rintro e w1 ⟨rfl, q1, hw1⟩
    have B1 : Hid (Below w.heap.size w w1) := by show Below _ _ _; rw [hw1]; exact below_drewN (Below.refl _ _) _
    clear hw1
    go_wp2_with fail
    refine Calls.mono (C2.out _ (HX.out.below B1.out)) ?_
    rintro e w2 ⟨rfl, hb2, hl2⟩
    have HB2 : Hid (Bk w2 w1.heap.size (rc X.flatten) 65) := hb2
    have B2 : Hid (Below w.heap.size w w2) := B1.out.trans (hl2.mono B1.out.size)
    have hs2 : w1.heap.size < w2.heap.size := hb2.lt
    have hs1 : w.heap.size ≤ w1.heap.size := B1.out.size
    clear hb2 hl2 C1 C2 HX B1
    go_wp2_with fail
    go_loopw [7, 22] (fun r v wr => ∃ k : Nat, k ≤ n ∧ v = .int .i64 k ∧ r = .int .i64 (rkK X k) ∧ Hid (w2.grownBy wr none)) (fun _ v _ => n - (intOf v).toNat)
    case atStart => exact ⟨0, by omega, rfl, rfl, World.grownBy.refl _ _⟩
    case round =>
      obtain ⟨k, hk, rfl, rfl, HG⟩ := hrel
      have hrle := rkK_le X k
      by_cases hlt : k < n
      · obtain ⟨p, hp⟩ : ∃ p, X[k]? = some p := ⟨X[k]'(by rw [HXl.out]; exact hlt), List.getElem?_eq_getElem _⟩
        have HPk : Hid (X[k]? = some p) := hp
        have HPL : Hid (p.length = 128) := HXW.out p (List.mem_of_getElem? hp)
        have HLL : Hid ((lf p).length = 64) := lf_len p HPL.out
        have HIp := size_pair p HPL.out
        have HIl := size_row (lf p) HLL.out
        have HBr : Hid (Bk wr w1.heap.size (rc X.flatten) 65) := HB2.out.grown HG.out (by simp)
        have hkz : (k : Int) < (n : Nat) := by omega
        have hnq := fun W => neq_rows (lf p) zr HLL.out zr_len W
        have hnx := rkK_next X k p hp
        by_cases hz0 : lf p = zr
        · rw [decide_eq_true hz0] at hnq
          rw [if_pos hz0, Nat.add_zero] at hnx
          have HNX : Hid (rkK X (k + 1) = rkK X k) := hnx
          clear hz0 hnx hp
          go_wp2_with (first
            | (refine wpList_get rfl 65 (.tmp 24) rfl w1.heap.size (k * 128) (rc X.flatten) (rc p) 65 _ rfl HBr.out (by intro j v hv; rw [Nat.mul_comm k 128]; exact row_get 128 X HXW.out k p HPk.out j v hv) Try.underlying65 rfl HIp ?_)
            | (refine wpList_put rfl 65 (.tmp 9) (.tmp 25) rfl wr.heap.size 0 (rc zp) (rc p) 65 rfl rfl (bk_new _ _ _) HIp (by rw [rc_size, rc_size, zp_len, HPL.out]; omega) (rc_one _) ?_; intro w4 hb4 hg4 hs4
               have HB4 : Hid (Bk w4 wr.heap.size (rc p) 65) := by have := hb4.out; rw [putC_all _ _ (by rw [zp_len, HPL.out])] at this; exact this
               have HG4 : Hid (w2.grownBy w4 none) := HG.out.trans (set_fresh hg4.out hs4)
               clear hb4 hg4 hs4)
            | (refine wpList_get rfl 55 (.tmp 26) rfl wr.heap.size 0 (rc p) (rc (lf p)) 65 _ rfl HB4.out (by intro j v hv; rw [Nat.zero_add]; exact lf_get p HPL.out j v hv) Try.underlying55 rfl HIl ?_)
            | fail)
          go_roundw
          case rel => exact ⟨k + 1, by omega, by go_num, by rw [HNX.out], HG4.out⟩
          case measure => simp [intOf]; omega
        · rw [decide_eq_false hz0] at hnq
          rw [if_neg hz0] at hnx
          have HNX : Hid (rkK X (k + 1) = rkK X k + 1) := hnx
          clear hz0 hnx hp
          go_wp2_with (first
            | (refine wpList_get rfl 65 (.tmp 24) rfl w1.heap.size (k * 128) (rc X.flatten) (rc p) 65 _ rfl HBr.out (by intro j v hv; rw [Nat.mul_comm k 128]; exact row_get 128 X HXW.out k p HPk.out j v hv) Try.underlying65 rfl HIp ?_)
            | (refine wpList_put rfl 65 (.tmp 9) (.tmp 25) rfl wr.heap.size 0 (rc zp) (rc p) 65 rfl rfl (bk_new _ _ _) HIp (by rw [rc_size, rc_size, zp_len, HPL.out]; omega) (rc_one _) ?_; intro w4 hb4 hg4 hs4
               have HB4 : Hid (Bk w4 wr.heap.size (rc p) 65) := by have := hb4.out; rw [putC_all _ _ (by rw [zp_len, HPL.out])] at this; exact this
               have HG4 : Hid (w2.grownBy w4 none) := HG.out.trans (set_fresh hg4.out hs4)
               clear hb4 hg4 hs4)
            | (refine wpList_get rfl 55 (.tmp 26) rfl wr.heap.size 0 (rc p) (rc (lf p)) 65 _ rfl HB4.out (by intro j v hv; rw [Nat.zero_add]; exact lf_get p HPL.out j v hv) Try.underlying55 rfl HIl ?_)
            | fail)
          go_roundw
          case rel => exact ⟨k + 1, by omega, by go_num, by rw [HNX.out]; go_num, HG4.out⟩
          case measure => simp [intOf]; omega
      · have hkn : k = n := by omega
        subst hkn
        go_wp2
        go_ret2
        exact ⟨by rw [HRK.out]; rfl, B2.out.trans ((below_of_gr HG.out).mono B2.out.size)⟩
  · have hm' : isM xs = false := by simpa using hm
    obtain ⟨k1, k2, k3⟩ := ck_no xs hm'
    rw [k1, k2, k3] at hck
    rw [k3]
    have HRK : Hid (rkM xs = 0) := by show rkM xs = 0; unfold rkM; rw [hm']; rfl
    have C1 : Hid _ := hck
    clear hck hx hm hm' k1 k2 k3 hs
    go_enter Try.func17, Try.ntmps17
    go_wp2_with fail
    refine Calls.mono C1.out ?_
    rintro e w1 ⟨rfl, q1, hw1⟩
    have B1 : Hid (Below w.heap.size w w1) := by show Below _ _ _; rw [hw1]; exact below_drewN (Below.refl _ _) _
    clear hw1
    go_wp2
    go_ret2
    exact ⟨by rw [HRK.out]; rfl, B1.out⟩
end Go.Proofs.Ytblmblbkfdcbjaa
