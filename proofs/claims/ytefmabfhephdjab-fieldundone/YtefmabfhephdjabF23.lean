/- What field's functions answer at squares. -/
import Derived.Test.YtefmabfhephdjabF22
import Derived.Test.YtefmabfhephdjabF13
import Derived.Test.YtefmabfhephdjabF19
import Derived.Test.YtefmabfhephdjabF20
namespace Go.Proofs.Ytefmabfhephdjab
open Go.RowKit
set_option linter.unusedSimpArgs false
set_option linter.unusedVariables false
def pq (n : Nat) (xs ys : List ByteArray) : List ByteArray := txtL n (prodL (arrL xs) (arrL ys))
theorem pq_sq {n : Nat} {xs ys : List ByteArray} (hx : SqM n xs) (hy : SqM n ys) (h2 : n ≤ 64) : SqM n (pq n xs ys) :=
  sq_txt _ n (by rw [prodL_len, hx.len]) (prodL_wide _ _ (hy.wide h2)) h2
theorem pq_arr {n : Nat} {xs ys : List ByteArray} (hy : SqM n ys) (h2 : n ≤ 64) : arrL (pq n xs ys) = prodL (arrL xs) (arrL ys) :=
  arr_txt _ n h2 (prodL_wide _ _ (hy.wide h2)) (prod_zc _ _ n (hy.wide h2) (hy.zc h2))
theorem pq_three {n : Nat} {xs ys zs : List ByteArray} (hy : SqM n ys) (hz : SqM n zs) (h2 : n ≤ 64) : pq n (pq n xs ys) zs = pq n xs (pq n ys zs) := by
  rw [pq, pq_arr hy h2, prod_three _ _ _ (hy.wide h2) (hz.wide h2) (by rw [hy.len]; exact h2) (by rw [hz.len]; exact h2), ← pq_arr hz h2]; rfl
theorem prod_sq (n : Nat) (a b : Option Addr) (ca cb : Nat) (xs ys : List ByteArray) (w : World) (hx : SqM n xs) (hy : SqM n ys) (h1 : 1 ≤ n) (h2 : n ≤ 64) (tx : TxL w a xs) (ty : TxL w b ys) :
    Calls Try.prog 8 #[.slice a n ca, .slice b n cb] w fun e w' => ∃ g, e = .returned (.tuple #[.slice (some ⟨g, 0, none⟩) n n, .int .i64 0]) ∧ TxL w' (some ⟨g, 0, none⟩) (pq n xs ys) ∧ Below w.heap.size w w' := by
  have h := product_yes a b ca cb xs ys w tx ty (hx.isM h1 h2).1 (hy.isM h1 h2).1 (by rw [(hx.isM h1 h2).2, hy.1])
  rw [hx.1, hy.1, (hy.isM h1 h2).2] at h
  refine h.mono ?_
  rintro e w' ⟨g, rfl, _, hB, hb⟩
  exact ⟨g, rfl, hB.txl, hb⟩
theorem rank_sq (n : Nat) (a : Option Addr) (c : Nat) (xs : List ByteArray) (w : World) (hx : SqM n xs) (h1 : 1 ≤ n) (h2 : n ≤ 64) (tx : TxL w a xs) :
    Calls Try.prog 11 #[.slice a n c] w fun e w' => e = .returned (.tuple #[.int .i64 (rk (arrL xs)), .int .i64 0]) ∧ Below w.heap.size w w' := by
  have h := rank_any a c xs w tx (by rw [hx.1]; omega) (fun x hm => by rw [hx.2 x hm]; omega)
  have e1 : rkM xs = rk (arrL xs) := by
    rw [rkM, (hx.isM h1 h2).1, if_pos rfl, rk, hx.len, hx.1]
  rw [(ck_yes xs (hx.isM h1 h2).1).2.2, e1, hx.1] at h
  exact h
theorem inv_sing (n : Nat) (a : Option Addr) (c : Nat) (xs : List ByteArray) (w : World) (hx : SqM n xs) (h1 : 1 ≤ n) (h2 : n ≤ 64) (tx : TxL w a xs) (hs : sng (redP (arrL xs)) = true) :
    Calls Try.prog 12 #[.slice a n c] w fun e w' => ∃ ao l, e = .returned (.tuple #[.slice ao l l, .int .i64 60]) ∧ Below w.heap.size w w' := by
  have h := invert_any a c xs w tx (by rw [hx.1]; omega) (fun x hm => by rw [hx.2 x hm]; omega)
  have e1 : ivE xs = 60 := by
    rw [ivE, (hx.isM h1 h2).1, (hx.isM h1 h2).2, hx.1, hs]; simp
  rw [e1, hx.1] at h
  refine h.mono ?_
  rintro e w' ⟨ao, rfl, _, hb⟩
  exact ⟨ao, _, rfl, hb⟩
theorem inv_reg (n : Nat) (a : Option Addr) (c : Nat) (xs : List ByteArray) (w : World) (hx : SqM n xs) (h1 : 1 ≤ n) (h2 : n ≤ 64) (tx : TxL w a xs) (hs : sng (redP (arrL xs)) = false) :
    Calls Try.prog 12 #[.slice a n c] w fun e w' => ∃ ao vs, e = .returned (.tuple #[.slice ao n n, .int .i64 0]) ∧ SqM n vs ∧ pq n vs xs = txtL n (unL n) ∧ pq n xs vs = txtL n (unL n) ∧ TxL w' ao vs ∧ Below w.heap.size w w' := by
  have h := invert_any a c xs w tx (by rw [hx.1]; omega) (fun x hm => by rw [hx.2 x hm]; omega)
  have e1 : ivE xs = 0 := by
    rw [ivE, (hx.isM h1 h2).1, (hx.isM h1 h2).2, hx.1, hs]; simp
  obtain ⟨u1, u2, u3⟩ := undo xs n hx h1 h2 hs
  rw [e1, hx.1, u1.1] at h
  refine h.mono ?_
  rintro e w' ⟨ao, rfl, hM, hb⟩
  exact ⟨ao, ivX xs, rfl, u1, by rw [pq, u2], by rw [pq, u3], hM.txl, hb⟩
end Go.Proofs.Ytefmabfhephdjab
