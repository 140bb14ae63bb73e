/- The document's Rank. -/
import Derived.Test.YtblmblbkfdcbjaaF30
import Derived.Test.YtblmblbkfdcbjaaF19
namespace Go.Proofs.Ytblmblbkfdcbjaa
open Go.RowKit
set_option linter.unusedSimpArgs false
set_option linter.unusedVariables false
set_option maxHeartbeats 2000000 in
set_option maxRecDepth 100000 in
theorem rrank_any (a : Option Addr) (c : Nat) (xs : List ByteArray) (w : World) (hx : TxL w a xs) (nx : xs.length ≤ 4611686018427387904) (hs : ∀ x ∈ xs, x.size ≤ 4611686018427387904) :
    Calls Try.prog 16 #[.slice a xs.length c] w fun e w' => e = .returned (.tuple #[.int .i64 (rkM xs), .int .i64 (ckE xs)]) ∧ Below w.heap.size w w' := by
  have hck := rcheck_any a c xs w hx nx hs
  by_cases hm : isM xs = true
  · obtain ⟨k1, k2, k3⟩ := ck_yes xs hm
    obtain ⟨p1, p2, p3⟩ := isM_parts xs hm
    rw [k1, k2, k3] at hck
    have hrk : rkM xs = rk (arrL xs) := by rw [rkM, hm, if_pos rfl, rk, arrL, List.length_map]
    rw [hrk, k3]
    have hrw := fun W hW => rrows_any a c (wid xs) xs.length xs W hW rfl p1.1 p1.2 p3 p2.2
    obtain ⟨n, hn⟩ : ∃ n, wid xs = n := ⟨_, rfl⟩
    obtain ⟨R, hR⟩ : ∃ R, xs.length = R := ⟨_, rfl⟩
    have HXL : Hid ((arrL xs).length = R) := by show (arrL xs).length = R; rw [arrL, List.length_map, hR]
    have HW : Hid (∀ r ∈ arrL xs, r.length = 64) := arrL_wide xs (fun x h => by rw [p3 x h]; exact p2.2)
    have HZ : Hid (∀ r ∈ arrL xs, zc n r) := by
      intro r hr
      obtain ⟨x, hx', rfl⟩ := List.mem_map.1 hr
      exact rowOf_zc x n (by rw [p3 x hx', hn]; exact Nat.le_refl _) (by rw [← hn]; exact p2.2)
    rw [hn, hR] at hck hrw
    rw [hR] at p1 ⊢
    rw [hn] at p2
    have C1 : Hid _ := hck
    have C2 : Hid _ := hrw
    have HX : Hid (TxL w a xs) := hx
    clear hck hrw hx hm k1 k2 k3 p3 hs hrk hn hR nx
    obtain ⟨pr1, pr2⟩ := p1
    obtain ⟨pn1, pn2⟩ := p2
    go_enter Try.func16, Try.ntmps16
    go_wp2_with fail
    refine Calls.mono C1.out ?_
    rintro e w1 ⟨rfl, hb1⟩
    have HX1 : Hid (TxL w1 a xs) := HX.out.below hb1
    have B1 : Hid (Below w.heap.size w w1) := hb1
    clear hb1
    go_wp2_with fail
    refine Calls.mono (C2.out _ HX1.out) ?_
    rintro e w2 ⟨gm, cm, h, rfl, ⟨hrws, _⟩, hb2⟩
    have HEm : Hid (Em w1 w1.heap.size gm R n n (mat (arrL xs)) 0 0 w2) := ⟨⟨h, _, _, hrws, El.start _ _ R n n (Nat.le_refl _) (fun _ _ _ _ => rfl)⟩, hb2, hb2.size⟩
    clear hrws hb2
    go_wp2_with fail
    refine Calls.mono (relim_any w1 w1.heap.size gm R n n cm (mat (arrL xs)) w2 pr2 (by omega) (Nat.le_refl _) HEm.out) ?_
    rintro e w3 ⟨t, c', rfl, hem, hd⟩
    have ht : t = rk (arrL xs) := by
      obtain ⟨⟨h', pv, M, _, hel⟩, _, _⟩ := hem
      rw [← HXL.out] at hel hd
      refine El.rank HW.out (by rw [HXL.out]; exact pr2) pn2 (fun i j hi hj hj2 => ?_) hel hd
      have e : (arrL xs).getD i zr = (arrL xs)[i] := by rw [List.getD, List.getElem?_eq_getElem hi]; rfl
      show ((arrL xs).getD i zr).getD j 0 = 0
      rw [e]
      exact HZ.out _ (List.getElem_mem hi) j hj hj2
    have B3 : Hid (Below w.heap.size w w3) := B1.out.trans (hem.b.mono B1.out.size)
    have HT : Hid (t = rk (arrL xs)) := ht
    clear hem hd ht
    go_wp2
    go_ret2
    exact ⟨by rw [← HT.out]; rfl, B3.out⟩
  · obtain ⟨k1, k2, k3⟩ := ck_no xs (by simpa using hm)
    rw [k1, k2, k3] at hck
    have hrk : rkM xs = 0 := by rw [rkM, if_neg hm]
    rw [hrk, k3]
    have C1 : Hid _ := hck
    clear hck hx hs k1 k2 k3 hrk
    go_enter Try.func16, Try.ntmps16
    go_wp2_with fail
    refine Calls.mono C1.out ?_
    rintro e w1 ⟨rfl, hb1⟩
    have B1 : Hid (Below w.heap.size w w1) := hb1
    clear hb1
    go_wp2
    go_ret2
    exact ⟨rfl, B1.out⟩
end Go.Proofs.Ytblmblbkfdcbjaa
