import Derived.Test.YtblmblbkfdcbjaaY13
import Derived.Test.YtblmblbkfdcbjaaY1
import Derived.Test.YtblmblbkfdcbjaaY11
/- Shards made whole: shards.Whole. -/
namespace Go.Proofs.Ytblmblbkfdcbjaa
open Go.RowKit
set_option linter.unusedSimpArgs false
set_option linter.unusedVariables false
/-- All bytes of shards, one behind the other. -/
def alB (xs : List ByteArray) : List UInt8 := (xs.map fun x => x.data.toList).flatten
def woOk (xs : List ByteArray) (n : Int) : Prop := (1 ≤ xs.length ∧ xs.length ≤ 32) ∧ evn xs = true ∧ 0 ≤ n ∧ n ≤ ((xs.length * wid xs : Nat) : Int)
instance (xs : List ByteArray) (n : Int) : Decidable (woOk xs n) := by unfold woOk; infer_instance
def woX (xs : List ByteArray) (n : Int) : ByteArray := if woOk xs n then mkT ((alB xs).take n.toNat) else mkT []
def woE (xs : List ByteArray) (n : Int) : Nat := if woOk xs n then 0 else 1
theorem alB_len (xs : List ByteArray) (d : Nat) (h : ∀ x ∈ xs, x.size = d) : (alB xs).length = xs.length * d := by
  induction xs with
  | nil => simp [alB]
  | cons x xs ih =>
    have := ih (fun y hy => h y (by simp [hy]))
    unfold alB at this ⊢
    rw [List.map_cons, List.flatten_cons, List.length_append, this, Array.length_toList, List.length_cons, Nat.add_mul, Nat.one_mul, Nat.add_comm]
    congr 1
    exact h x (by simp)
theorem alB_next (xs : List ByteArray) (j : Nat) (x : ByteArray) (h : xs[j]? = some x) : alB (xs.take (j + 1)) = alB (xs.take j) ++ x.data.toList := by
  unfold alB
  rw [List.take_add_one, h, List.map_append, List.flatten_append]
  simp
/-- The first n bytes, laid into n bytes 0. -/
def whC (n : Nat) (L : List UInt8) : List UInt8 := L.take n ++ List.replicate (n - L.length) 0
theorem whC_get (n : Nat) (L : List UInt8) (p : Nat) : (whC n L)[p]? = if p < n then (if p < L.length then L[p]? else some 0) else none := by
  unfold whC
  by_cases hp : p < n
  · rw [if_pos hp]
    by_cases hl : p < L.length
    · rw [if_pos hl, List.getElem?_append_left (by rw [List.length_take]; omega), List.getElem?_take, if_pos hp]
    · rw [if_neg hl, List.getElem?_append_right (by rw [List.length_take]; omega), List.getElem?_replicate, List.length_take, if_pos (by omega)]
  · rw [if_neg hp, List.getElem?_eq_none]
    rw [List.length_append, List.length_take, List.length_replicate]; omega
theorem whC_len (n : Nat) (L : List UInt8) : (whC n L).length = n := by
  unfold whC
  rw [List.length_append, List.length_take, List.length_replicate]; omega
theorem whC_put (n : Nat) (L x : List UInt8) : putB (whC n L) (min n L.length) (x.take (min x.length (n - min n L.length))) = whC n (L ++ x) := by
  have hl : (x.take (min x.length (n - min n L.length))).length = min x.length (n - min n L.length) := by rw [List.length_take]; omega
  apply List.ext_getElem?
  intro p
  rw [putB_get _ _ _ (by rw [hl, whC_len]; omega), hl, whC_get, whC_get, List.length_append]
  by_cases hp : p < n
  · rw [if_pos hp, if_pos hp]
    by_cases h1 : p < L.length
    · rw [if_neg (by omega), if_pos h1, if_pos (by omega), List.getElem?_append_left h1]
    · rw [if_neg h1]
      by_cases h2 : p < L.length + x.length
      · rw [if_pos (by omega), if_pos h2, List.getElem?_append_right (by omega), List.getElem?_take, if_pos (by omega)]
        congr 1
        omega
      · rw [if_neg (by omega), if_neg h2]
  · rw [if_neg (by omega), if_neg hp, if_neg hp]
theorem copy_mid (t : ByteArray) (n g o m : Nat) (L : List UInt8) (W : World) (ho : min n L.length = o) (hm : n - o = m) (hB : Bk W g (rc (whC n L)) 5) :
    ∃ W2, (Builtin.copy_ #[44, 9] 3 #[.slice (some ⟨g, o, none⟩) m m, .string t]).run Try.prog W = .ok (.int .i64 ((min t.size m : Nat) : Int)) W2 ∧ Bk W2 g (rc (whC n (L ++ t.data.toList))) 5 ∧ W.grownBy W2 (some g) ∧ W2.heap.size = W.heap.size := by
  have hi : (Try.prog.info? 5).map (·.size) = some 1 := by kernel_rfl
  have hmin : Nat.min t.size m = min t.size m := rfl
  have h := copy_txt W 44 9 3 5 g o m m t (P := Try.prog) Try.underlying44 hi (fun j hj => by
      rw [hmin] at hj
      rw [hB.cell, rc_get, whC_get, if_pos (by omega)]
      split
      · rename_i h1; rw [List.getElem?_eq_getElem h1]; rfl
      · rfl) (fun j hj => hB.frozen _)
  refine ⟨_, h, ?_, gr_puts g _ _ (World.grownBy.refl _ _), setCells_size g _ _ _⟩
  have h2 := Bk.puts (rc (t.data.toList.take (Nat.min t.size m))).toList o _ W hB
  rw [hmin] at h2
  rw [putC_rc _ _ _ (by rw [List.length_take, whC_len]; omega)] at h2
  have e := whC_put n L t.data.toList
  rw [ho, hm, Array.length_toList] at e
  have e2 : min t.data.size m = min t.size m := rfl
  rw [e2] at e
  rw [e] at h2
  exact h2
theorem whC_full (n : Nat) (L x : List UInt8) (h : n ≤ L.length) : whC n (L ++ x) = whC n L := by
  apply List.ext_getElem?
  intro p
  rw [whC_get, whC_get, List.length_append]
  by_cases hp : p < n
  · rw [if_pos hp, if_pos hp, if_pos (by omega), if_pos (by omega), List.getElem?_append_left (by omega)]
  · rw [if_neg hp, if_neg hp]
theorem copy_rest (t : ByteArray) (n g o oa m : Nat) (L : List UInt8) (W : World) (ho : min n L.length = o) (hm : n - o = m) (hoa : m = 0 ∨ oa = o) (hB : Bk W g (rc (whC n L)) 5) :
    ∃ W2, (Builtin.copy_ #[44, 9] 3 #[.slice (some ⟨g, oa, none⟩) m m, .string t]).run Try.prog W = .ok (.int .i64 ((min t.size m : Nat) : Int)) W2 ∧ Bk W2 g (rc (whC n (L ++ t.data.toList))) 5 ∧ W.grownBy W2 (some g) ∧ W2.heap.size = W.heap.size := by
  rcases hoa with h0 | rfl
  · subst h0
    have hi : (Try.prog.info? 5).map (·.size) = some 1 := by kernel_rfl
    have hm0 : Nat.min t.size 0 = 0 := Nat.min_zero _
    have h := copy_txt W 44 9 3 5 g oa 0 0 t (P := Try.prog) Try.underlying44 hi (fun j hj => by rw [hm0] at hj; omega) (fun j hj => by rw [hm0] at hj; omega)
    refine ⟨_, h, ?_, gr_puts g _ _ (World.grownBy.refl _ _), setCells_size g _ _ _⟩
    rw [hm0, List.take_zero]
    rw [whC_full n L _ (by omega)]
    exact hB
  · exact copy_mid t n g oa m L W ho hm hB
theorem mk_empty : mkT [] = ⟨#[]⟩ := rfl
set_option maxHeartbeats 1000000 in
set_option maxRecDepth 100000 in
theorem whole_any (a : Option Addr) (c k : Nat) (xs : List ByteArray) (n : Int) (w : World) (hx : TxL w a xs) (nx : xs.length = k) (ln : k ≤ 4611686018427387904) (hp : k ≤ 32 → k * wid xs ≤ 281474976710656) (n1 : -9223372036854775808 ≤ n) (n2 : n ≤ 9223372036854775807) :
    Calls Try.prog 23 #[.slice a k c, .int .i64 n] w fun e w' => e = .returned (.tuple #[.string (woX xs n), .int .i64 (woE xs n)]) ∧ Below w.heap.size w w' := by
  have hh := hold_any (k : Int)
  have he := fun W hW => even_any a c xs W hW (by omega)
  rw [nx] at he
  have HX : Hid (TxL w a xs) := hx
  by_cases h1 : 1 ≤ k ∧ k ≤ 32
  · rw [hlB, decide_eq_true (by omega)] at hh
    have C1 : Hid _ := hh
    clear hh
    obtain ⟨h1a, h1b⟩ := h1
    obtain ⟨x0, hx0⟩ : ∃ x0, xs[0]? = some x0 := ⟨_, List.getElem?_eq_getElem (by omega)⟩
    have hwd : wid xs = x0.size := by simp [wid, hx0]
    have hpb := hp h1b
    rw [hwd] at hpb
    have hs0 : x0.size ≤ 281474976710656 := Nat.le_trans (Nat.le_mul_of_pos_left _ (by omega)) hpb
    have HX0 : Hid (∀ W, TxL W a xs → ∃ g o, a = some ⟨g, o, none⟩ ∧ W.cell? ⟨g, o, none⟩ = some (.string x0)) := fun W hW => by
      obtain ⟨g, o, e, _, hc⟩ := hW 0 x0 hx0
      exact ⟨g, o, e, by rw [Nat.add_zero] at hc; exact hc⟩
    by_cases h2 : evn xs = true
    · have SX : Hid (∀ x ∈ xs, x.size = x0.size) := by rw [← hwd]; exact evn_all xs h2
      have hok : woOk xs n ↔ 0 ≤ n ∧ n ≤ ((k * x0.size : Nat) : Int) := by
        unfold woOk
        rw [nx, hwd, h2]
        simp [h1a, h1b]
      rw [h2] at he
      have C2 : Hid _ := he
      clear he
      obtain ⟨d, hd⟩ : ∃ d, x0.size = d := ⟨_, rfl⟩
      obtain ⟨M, hM⟩ : ∃ M, k * d = M := ⟨_, rfl⟩
      have hMz : (k : Int) * (d : Int) = (M : Int) := by rw [← hM]; exact (Int.natCast_mul _ _).symm
      rw [hd, hM] at hok hpb
      rw [hd] at hs0
      rw [hd] at SX
      by_cases h3 : 0 ≤ n
      · have h3a : ¬ n < 0 := by omega
        by_cases h4 : n ≤ (M : Int)
        · have h4a : ¬ n > (M : Int) := by omega
          have e1 : woX xs n = mkT ((alB xs).take n.toNat) := if_pos (hok.2 ⟨h3, h4⟩)
          have e2 : woE xs n = 0 := if_pos (hok.2 ⟨h3, h4⟩)
          obtain ⟨N, rfl⟩ : ∃ N : Nat, n = N := ⟨n.toNat, by omega⟩
          rw [e1, e2, Int.toNat_natCast]
          have hmu := make_u8 N (by omega)
          have NX : Hid (xs.length = k) := nx
          have HM : Hid (k * d = M) := hM
          have HAL : Hid ((alB xs).length = M) := by show _ = M; rw [alB_len xs d SX.out, nx, hM]
          clear hok e1 e2 hwd hx0 hM nx hx h2 hp
          go_enter Try.func23, Try.ntmps23
          go_wp2_with fail
          refine Calls.mono (C1.out _) ?_
          rintro e w1 ⟨rfl, hw⟩
          subst hw
          go_wp2_with fail
          refine Calls.mono (C2.out _ HX.out) ?_
          rintro e w2 ⟨rfl, hb2⟩
          have B2 : Hid (Below w1.heap.size w1 w2) := hb2
          have HX2 : Hid (TxL w2 a xs) := HX.out.below hb2
          obtain ⟨ga, oa, rfl, hc0⟩ := HX0.out w2 HX2.out
          clear hb2
          have HT0 : Hid (Bk (w2.alloc (.cells (rc (fl N fun _ => 0)) 5)) w2.heap.size (rc (whC N (alB (xs.take 0)))) 5) := by
            show Bk _ _ _ _
            have e : whC N (alB (xs.take 0)) = fl N fun _ => 0 := by rw [fl_zero]; simp [whC, alB]
            rw [e]
            exact bk_new _ _ _
          go_wp2_with fail
          go_loopw [7, 39] (fun v t wr => ∃ (j o ob m : Nat), j ≤ k ∧ t = .int .i64 j ∧ v = .slice (some ⟨w2.heap.size, ob, none⟩) m m ∧ o + m = N ∧ Hid (m = 0 ∨ ob = o) ∧ Hid (min N (j * d) = o) ∧ Hid (Bk wr w2.heap.size (rc (whC N (alB (xs.take j)))) 5) ∧ Hid (Below w2.heap.size w2 wr) ∧ w2.heap.size < wr.heap.size) (fun _ t _ => k - (intOf t).toNat)
          case atStart => exact ⟨0, 0, 0, N, by omega, rfl, rfl, by omega, .inr rfl, by show min N (0 * d) = 0; omega, HT0.out, (Below.refl _ _).alloc (Nat.le_refl _) _, by rw [al_size]; omega⟩
          case round =>
            clear HT0
            obtain ⟨j, o, ob, m, hjk, rfl, rfl, hom, HOB, HO, HT, HW, hsz⟩ := hrel
            by_cases hlt : j < k
            · have hjz : (j : Int) < (k : Nat) := by omega
              obtain ⟨x, hxj⟩ : ∃ x, xs[j]? = some x := ⟨_, List.getElem?_eq_getElem (by rw [NX.out]; exact hlt)⟩
              have hxs := SX.out x (List.mem_of_getElem? hxj)
              have hc1 : wr.cell? ⟨ga, oa + j, none⟩ = some (.string x) := (HX2.out.below HW.out).cel hxj
              have hll : (alB (xs.take j)).length = j * d := by
                rw [alB_len (xs.take j) d (fun y hy => SX.out y (List.mem_of_mem_take hy)), List.length_take, NX.out, Nat.min_eq_left (by omega)]
              obtain ⟨W2, hcp, hB2, hG2, hs2⟩ := copy_rest x N w2.heap.size o ob m (alB (xs.take j)) wr (by rw [hll]; exact HO.out) (by omega) HOB.out HT.out
              rw [← alB_next xs j x hxj] at hB2
              have hjd : (j + 1) * d = j * d + d := by rw [Nat.add_mul, Nat.one_mul]
              obtain ⟨q, hq⟩ : ∃ q, min x.size m = q := ⟨_, rfl⟩
              rw [hq] at hcp
              have HOn : Hid (min N ((j + 1) * d) = o + q) := by
                have := HO.out
                show min N ((j + 1) * d) = o + q
                rw [hjd]; omega
              have hqm : q ≤ m := by omega
              have hqz : (q : Int) ≤ (m : Nat) := by omega
              have HTn : Hid (Bk W2 w2.heap.size (rc (whC N (alB (xs.take (j + 1))))) 5) := hB2
              have HWn : Hid (Below w2.heap.size w2 W2) := below_own HW.out (by omega) hG2 (Nat.le_refl _)
              have hszn : w2.heap.size < W2.heap.size := by omega
              clear hB2 hG2 hjd hll hxj HT HW HO hq
              by_cases hmq : m = q
              · subst hmq
                go_wp2
                go_roundw
                case rel => exact ⟨j + 1, o + m, ob, 0, by omega, by go_num, by simp, by omega, .inl rfl, HOn.out, HTn.out, HWn.out, hszn⟩
                case measure => simp [intOf]; omega
              · have HOBn : Hid (ob = o) := by
                  rcases HOB.out with h | h
                  · omega
                  · exact h
                go_wp2
                go_roundw
                case rel => exact ⟨j + 1, o + q, ob + q, m - q, by omega, by go_num, rfl, by omega, .inr (by rw [HOBn.out]), HOn.out, HTn.out, HWn.out, hszn⟩
                case measure => simp [intOf]; omega
            · have hjz : ¬ (j : Int) < (k : Nat) := by omega
              have hjk2 : j = k := by omega
              have hB2 : Bk wr w2.heap.size (rc ((alB xs).take N)) 5 := by
                have := HT.out
                have e : whC N (alB xs) = (alB xs).take N := by
                  unfold whC
                  rw [HAL.out, show N - M = 0 by omega, List.replicate_zero, List.append_nil]
                rw [hjk2, ← NX.out, List.take_length, e] at this
                exact this
              have hcv := conv_all ((alB xs).take N) w2.heap.size N N 5 wr (by rw [List.length_take, HAL.out]; omega) hB2
              obtain ⟨pt, hpt⟩ : ∃ pt, mkT ((alB xs).take N) = pt := ⟨_, rfl⟩
              rw [hpt] at hcv
              have HPT : Hid (mkT ((alB xs).take N) = pt) := hpt
              have HBn : Hid (Below w1.heap.size w1 wr) := B2.out.trans (HW.out.mono B2.out.size)
              clear hB2 hjk2 HT HW HO hpt
              go_wp2
              go_ret2
              exact ⟨by rw [HPT.out]; rfl, HBn.out⟩
        · have h4a : n > (M : Int) := by omega
          have e1 : woX xs n = mkT [] := if_neg (fun h => h4 (hok.1 h).2)
          have e2 : woE xs n = 1 := if_neg (fun h => h4 (hok.1 h).2)
          rw [e1, e2]
          clear e1 e2 nx hx hp hx0
          go_enter Try.func23, Try.ntmps23
          go_wp2_with fail
          refine Calls.mono (C1.out _) ?_
          rintro e w1 ⟨rfl, hw⟩
          subst hw
          go_wp2_with fail
          refine Calls.mono (C2.out _ HX.out) ?_
          rintro e w2 ⟨rfl, hb2⟩
          have B2 : Hid (Below w1.heap.size w1 w2) := hb2
          obtain ⟨ga, oa, rfl, hc0⟩ := HX0.out w2 (HX.out.below hb2)
          clear hb2
          go_wp2
          go_ret2
          exact ⟨rfl, B2.out⟩
      · have h3a : n < 0 := by omega
        have e1 : woX xs n = mkT [] := if_neg (fun h => h3 (hok.1 h).1)
        have e2 : woE xs n = 1 := if_neg (fun h => h3 (hok.1 h).1)
        rw [e1, e2]
        clear e1 e2 nx hx hp hx0
        go_enter Try.func23, Try.ntmps23
        go_wp2_with fail
        refine Calls.mono (C1.out _) ?_
        rintro e w1 ⟨rfl, hw⟩
        subst hw
        go_wp2_with fail
        refine Calls.mono (C2.out _ HX.out) ?_
        rintro e w2 ⟨rfl, hb2⟩
        have B2 : Hid (Below w1.heap.size w1 w2) := hb2
        clear hb2
        go_wp2
        go_ret2
        exact ⟨rfl, B2.out⟩
    · have h2z : evn xs = false := by simpa using h2
      rw [h2z] at he
      have C2 : Hid _ := he
      clear he
      have e1 : woX xs n = mkT [] := if_neg (fun h => h2 h.2.1)
      have e2 : woE xs n = 1 := if_neg (fun h => h2 h.2.1)
      rw [e1, e2]
      clear e1 e2 nx hx hp hx0 h2z
      go_enter Try.func23, Try.ntmps23
      go_wp2_with fail
      refine Calls.mono (C1.out _) ?_
      rintro e w1 ⟨rfl, hw⟩
      subst hw
      go_wp2_with fail
      refine Calls.mono (C2.out _ HX.out) ?_
      rintro e w2 ⟨rfl, hb2⟩
      have B2 : Hid (Below w1.heap.size w1 w2) := hb2
      clear hb2
      go_wp2
      go_ret2
      exact ⟨rfl, B2.out⟩
  · rw [hlB, decide_eq_false (by omega)] at hh
    have C1 : Hid _ := hh
    clear hh he
    have e1 : woX xs n = mkT [] := if_neg (fun h => h1 (by have := h.1; omega))
    have e2 : woE xs n = 1 := if_neg (fun h => h1 (by have := h.1; omega))
    rw [e1, e2]
    clear e1 e2 nx hx hp h1
    go_enter Try.func23, Try.ntmps23
    go_wp2_with fail
    refine Calls.mono (C1.out _) ?_
    rintro e w1 ⟨rfl, hw⟩
    subst hw
    go_wp2
    go_ret2
    exact ⟨rfl, Below.refl _ _⟩
end Go.Proofs.Ytblmblbkfdcbjaa
/- All shards come back. -/
namespace Go.Proofs.Ytblmblbkfdcbjaa
open Go.RowKit
set_option linter.unusedSimpArgs false
set_option linter.unusedVariables false
/-- Data and their parity. -/
def alX (D : List ByteArray) (n d : Nat) : List ByteArray := D ++ mixL (cyX (n - D.length) D.length) D d
theorem alX_mix (D : List ByteArray) (n k d : Nat) (hD : D.length = k) (h1 : 1 ≤ k) (h2 : k ≤ 64) (sD : ∀ x ∈ D, x.size = d) : alX D n d = mixL (ofD n k) D d := by
  have hu := mix_unit D k d hD h1 h2 sD
  rw [alX, hD, ofD]
  unfold mixL at hu ⊢
  rw [List.map_append, hu]
theorem alX_len (D : List ByteArray) (n k d : Nat) (hD : D.length = k) (h1 : 1 ≤ k) (h2 : k ≤ n) (h3 : n ≤ 64) : (alX D n d).length = n := by
  rw [alX, List.length_append, mixL_len, hD, cyX_len _ _ (by omega) h1 (by omega)]; omega
theorem alX_size (D : List ByteArray) (n d : Nat) (sD : ∀ x ∈ D, x.size = d) : ∀ x ∈ alX D n d, x.size = d := by
  intro x hx
  rcases List.mem_append.1 hx with h | h
  · exact sD x h
  · exact mixL_size _ _ _ x h
theorem sub_mix (R D : List ByteArray) (d : Nat) (idx : List Nat) (h : ∀ i ∈ idx, i < R.length) : (idx.map fun i => (mixL R D d).getD i (mkT [])) = mixL (idx.map fun i => R.getD i (mkT [])) D d := by
  rw [mixL, mixL, List.map_map]
  apply List.map_congr_left
  intro i hi
  have := h i hi
  simp only [Function.comp]
  rw [List.getD, List.getElem?_map, List.getElem?_eq_getElem this, List.getD, List.getElem?_eq_getElem this]
  rfl
theorem da_back (p : Nat → Bool) (D : List ByteArray) (n k d : Nat) (hD : D.length = k) (h1 : 1 ≤ k) (h2 : k ≤ n) (h3 : n ≤ 64) (sD : ∀ x ∈ D, x.size = d) (hn : k ≤ cnt p n) : daX p (alX D n d) k d = D := by
  have hl := alX_len D n k d hD h1 h2 h3
  have hr := idx_ris p n k
  have hil := idx_len p n k hn
  have hsq := usd_sq n k _ h1 h2 h3 hr hil
  have hs := usd_ok n k _ h1 h2 h3 hr hil
  obtain ⟨vsq, hvu, _⟩ := undo _ k hsq h1 (by omega) hs
  rw [daX, hl, pkd_take, hl, alX_mix D n k d hD h1 (by omega) sD, sub_mix _ _ _ _ (fun i hi => by rw [ofD_len n k h1 h2 h3]; exact hr.2 i hi)]
  show mixL (ivX (usd n k (idxU p n k))) (mixL (usd n k (idxU p n k)) D d) d = D
  obtain ⟨um, uw⟩ := hsq.isM h1 (by omega)
  obtain ⟨vm, vw⟩ := vsq.isM h1 (by omega)
  rw [← mix_mix _ _ _ d vm um (by rw [vw, hsq.1]) (by rw [uw, hD])]
  have e : pdX (ivX (usd n k (idxU p n k))) (usd n k (idxU p n k)) = txtL k (unL k) := by
    unfold pdX
    rw [if_pos ⟨vm, um, by rw [vw, hsq.1]⟩, uw, hvu]
  rw [e, mix_unit D k d hD h1 (by omega) sD]
theorem re_back (p : Nat → Bool) (D : List ByteArray) (n k d : Nat) (hD : D.length = k) (h1 : 1 ≤ k) (h2 : k ≤ n) (h3 : n ≤ 64) (sD : ∀ x ∈ D, x.size = d) (hn : k ≤ cnt p n) : reX p (alX D n d) k d = alX D n d := by
  rw [reX, da_back p D n k d hD h1 h2 h3 sD hn, alX_len D n k d hD h1 h2 h3, alX, hD]
/-- What is missing is not looked at. -/
theorem pkd_same (p : Nat → Bool) (X Y : List ByteArray) (hl : X.length = Y.length) (h : ∀ i, i < X.length → p i = true → X[i]? = Y[i]?) : pkd p X = pkd p Y := by
  rw [pkd, pkd, ← hl]
  apply List.map_congr_left
  intro i hi
  have h2 := List.mem_filter.1 hi
  have hil : i < X.length := by simpa using h2.1
  rw [List.getD, List.getD, h i hil h2.2]
theorem re_same (p : Nat → Bool) (X Y : List ByteArray) (k d : Nat) (hl : X.length = Y.length) (h : ∀ i, i < X.length → p i = true → X[i]? = Y[i]?) : reX p X k d = reX p Y k d := by
  rw [reX, reX, daX, daX, pkd_same p X Y hl h, hl]
/-- One less. -/
theorem cnt_same (p q : Nat → Bool) : ∀ n, (∀ j, j < n → p j = q j) → cnt p n = cnt q n
  | 0, _ => rfl
  | n + 1, h => by rw [cnt_next, cnt_next, cnt_same p q n (fun j hj => h j (by omega)), h n (by omega)]
theorem cnt_less (p q : Nat → Bool) (i : Nat) (hp : p i = true) (hq : q i = false) : ∀ n, i < n → (∀ j, j < n → j ≠ i → p j = q j) → cnt q n + 1 = cnt p n
  | 0, h, _ => by omega
  | n + 1, h, hj => by
    rw [cnt_next, cnt_next]
    by_cases e : i = n
    · subst e
      rw [cnt_same p q i (fun j hj2 => hj j (by omega) (by omega)), hp, hq]
      simp
    · have ih := cnt_less p q i hp hq n (by omega) (fun j h1 h2 => hj j (by omega) h2)
      rw [hj n (by omega) (fun e2 => e e2.symm)]
      omega
theorem cnt_none (p : Nat → Bool) : ∀ n, (∀ j, j < n → p j = false) → cnt p n = 0
  | 0, _ => rfl
  | n + 1, h => by rw [cnt_next, cnt_none p n (fun j hj => h j (by omega)), h n (by omega)]; rfl
theorem cnt_full (p : Nat → Bool) : ∀ n, (∀ j, j < n → p j = true) → cnt p n = n
  | 0, _ => rfl
  | n + 1, h => by rw [cnt_next, cnt_full p n (fun j hj => h j (by omega)), h n (by omega)]; rfl
theorem thr_get (ts : List Bool) (i : Nat) (h : i < ts.length) (hi : i < 64) : thr ts i = ts.getD i true := by
  rw [thr, nt, mis, List.getD, misK_get ts ts.length i hi, if_pos h]
  simp
theorem thr_val (ts : List Bool) (i : Nat) (t : Bool) (h : ts[i]? = some t) (hi : i < 64) : thr ts i = t := by
  rw [thr_get ts i (List.getElem?_eq_some_iff.1 h).1 hi, List.getD, h]; rfl
theorem thr_set (ts : List Bool) (i j : Nat) (hi : i < ts.length) (hj : j < ts.length) (h64 : ts.length ≤ 64) : thr (ts.set i false) j = if j = i then false else thr ts j := by
  rw [thr_get _ j (by rw [List.length_set]; exact hj) (by omega), thr_get ts j hj (by omega), List.getD, List.getElem?_set]
  by_cases e : i = j
  · subst e; rw [if_pos rfl, if_pos hi, if_pos rfl]; rfl
  · rw [if_neg e, if_neg (fun h => e h.symm)]; rfl
theorem cnt_set (ts : List Bool) (i n : Nat) (hn : ts.length = n) (h64 : n ≤ 64) (h : ts[i]? = some true) : cnt (thr (ts.set i false)) n + 1 = cnt (thr ts) n := by
  have hi : i < ts.length := (List.getElem?_eq_some_iff.1 h).1
  refine cnt_less (thr ts) (thr (ts.set i false)) i (thr_val ts i true h (by omega)) (by rw [thr_set ts i i hi hi (by omega), if_pos rfl]) n (by omega) (fun j hj hne => ?_)
  rw [thr_set ts i j hi (by omega) (by omega), if_neg hne]
/-- The text is whole. -/
theorem alB_at : ∀ (xs : List ByteArray) (d p : Nat), (∀ x ∈ xs, x.size = d) → p < xs.length * d → (alB xs)[p]? = some (dm xs (p / d) (p % d))
  | [], d, p, _, h => by simp at h
  | x :: xs, d, p, hs, h => by
    have hx := hs x (by simp)
    have hd : 0 < d := by
      rcases Nat.eq_zero_or_pos d with h0 | h0
      · rw [h0] at h; simp at h
      · exact h0
    have e : alB (x :: xs) = x.data.toList ++ alB xs := rfl
    have hxl : x.data.toList.length = d := by rw [Array.length_toList]; exact hx
    rw [e]
    by_cases hp : p < d
    · rw [List.getElem?_append_left (by omega), Nat.div_eq_of_lt hp, Nat.mod_eq_of_lt hp, dm_at (x :: xs) 0 p x rfl, bt, List.getD, List.getElem?_eq_getElem (by omega)]; rfl
    · rw [List.getElem?_append_right (by omega), hxl]
      rw [List.length_cons, Nat.add_mul, Nat.one_mul] at h
      rw [alB_at xs d (p - d) (fun y hy => hs y (by simp [hy])) (by omega)]
      have e1 : p / d = (p - d) / d + 1 := by
        conv => lhs; rw [show p = (p - d) + d by omega]
        rw [Nat.add_div_right _ hd]
      have e2 : p % d = (p - d) % d := by
        conv => lhs; rw [show p = (p - d) + d by omega]
        rw [Nat.add_mod_right]
      rw [e1, e2]
      rfl
theorem cutL_size (s : ByteArray) (k : Nat) : ∀ x ∈ cutL s k, x.size = cw s.size k := by
  intro x hx
  obtain ⟨i, _, rfl⟩ := List.mem_map.1 hx
  rw [mkT_size, fl_len]
theorem whole_cut (s : ByteArray) (k : Nat) (h : 1 ≤ k) : mkT ((alB (cutL s k)).take s.size) = s := by
  have hsz := cutL_size s k
  have hge := cw_ge s.size k h
  have e : (alB (cutL s k)).take s.size = s.data.toList := by
    apply List.ext_getElem?
    intro p
    by_cases hp : p < s.size
    · have hd : 0 < cw s.size k := by
        rcases Nat.eq_zero_or_pos (cw s.size k) with h0 | h0
        · rw [h0] at hge; omega
        · exact h0
      have hpk : p / cw s.size k < k := by rw [Nat.div_lt_iff_lt_mul hd]; omega
      rw [List.getElem?_take, if_pos hp, alB_at (cutL s k) (cw s.size k) p hsz (by rw [cutL_len]; omega), dm_at _ _ _ _ (cutL_at s k _ hpk), bt_mk, fl_getD _ _ _ (Nat.mod_lt _ hd), bt, List.getD]
      have e2 : p / cw s.size k * cw s.size k + p % cw s.size k = p := by rw [Nat.mul_comm]; exact Nat.div_add_mod _ _
      rw [e2, List.getElem?_eq_getElem (by rw [Array.length_toList]; exact hp)]; rfl
    · rw [List.getElem?_eq_none (by rw [List.length_take]; omega), List.getElem?_eq_none (by rw [Array.length_toList]; show s.size ≤ p; omega)]
  rw [e]
  cases s; simp [mkT]
end Go.Proofs.Ytblmblbkfdcbjaa
/- The law's size: numbers of data and parity shards, out of any. -/
namespace Go.Proofs.Ytblmblbkfdcbjaa
open Go.RowKit
set_option linter.unusedSimpArgs false
set_option linter.unusedVariables false
theorem tmod_bd (x : Int) (n : Nat) (hn : 1 ≤ n) : -(n : Int) < x.tmod n ∧ x.tmod n < n := by
  have h1 := Int.natAbs_tmod x n
  have h2 := Nat.mod_lt x.natAbs (show 0 < (n : Int).natAbs by omega)
  omega
theorem tmod_nat (x : Int) (n : Nat) (hn : 1 ≤ n) (hx : 0 ≤ x) : ∃ r : Nat, x.tmod n = r ∧ r < n := by
  refine ⟨(x.tmod n).toNat, ?_, ?_⟩
  · have := Int.tmod_nonneg (n : Int) hx; omega
  · have := (tmod_bd x n hn).2; have := Int.tmod_nonneg (n : Int) hx; omega
set_option maxHeartbeats 1000000 in
set_option maxRecDepth 100000 in
theorem size_any (k m : Int) (w : World) (k1 : -9223372036854775808 ≤ k) (k2 : k ≤ 9223372036854775807) (m1 : -9223372036854775808 ≤ m) (m2 : m ≤ 9223372036854775807) :
    Calls Try.prog 31 #[.int .i64 k, .int .i64 m] w fun e w' => ∃ K M : Nat, e = .returned (.tuple #[.int .i64 K, .int .i64 M]) ∧ (1 ≤ K ∧ K ≤ 32 ∧ K + M ≤ 64) ∧ Below w.heap.size w w' := by
  obtain ⟨t, ht⟩ : ∃ t, k.tmod 32 = t := ⟨_, rfl⟩
  have hb := tmod_bd k 32 (by omega)
  rw [show ((32 : Nat) : Int) = 32 from rfl, ht] at hb
  obtain ⟨r, hr, hr2⟩ := tmod_nat (t + 32) 32 (by omega) (by omega)
  rw [show ((32 : Nat) : Int) = 32 from rfl] at hr
  obtain ⟨N, hN⟩ : ∃ N : Nat, 65 - (1 + (r : Int)) = N := ⟨64 - r, by omega⟩
  obtain ⟨u, hu⟩ : ∃ u, m.tmod (N : Int) = u := ⟨_, rfl⟩
  have hub := tmod_bd m N (by omega)
  rw [hu] at hub
  obtain ⟨M, hM, hM2⟩ := tmod_nat (u + 65 - (1 + (r : Int))) N (by omega) (by omega)
  have hn0 : ((N : Int) == 0) = false := by rw [beq_eq_false_iff_ne]; omega
  have hK : (1 : Int) + (r : Int) = ((1 + r : Nat) : Int) := by omega
  have HF : Hid (1 ≤ 1 + r ∧ 1 + r ≤ 32 ∧ 1 + r + M ≤ 64) := ⟨by omega, by omega, by omega⟩
  obtain ⟨K, hKK⟩ : ∃ K, 1 + r = K := ⟨_, rfl⟩
  rw [hKK] at HF hK
  rw [hK] at hN hM
  have hKb : K ≤ 32 := HF.out.2.1
  clear hKK
  go_enter Try.func31, Try.ntmps31
  go_wp2_with fail
  go_region
  all_goals
    go_wp2
    go_ret2
    exact ⟨K, M, rfl, HF.out, (Below.refl _ _).drew⟩
end Go.Proofs.Ytblmblbkfdcbjaa
/- What the walk of ShardsBack wants besides. -/
namespace Go.Proofs.Ytblmblbkfdcbjaa
open Go.RowKit
set_option linter.unusedSimpArgs false
set_option linter.unusedVariables false
/-- The bytes of a slice that came in. -/
def BySb (w : World) (a : Option Addr) (n : Nat) : Prop := ∀ i, i < n → ∃ (g o : Nat) (x : UInt8), a = some ⟨g, o, none⟩ ∧ g < w.heap.size ∧ w.cell? ⟨g, o + i, none⟩ = some (c8 x)
theorem BySb.below {w w' : World} {a : Option Addr} {n : Nat} (h : BySb w a n) (hb : Below w.heap.size w w') : BySb w' a n := by
  intro i hi
  obtain ⟨g, o, x, e, hg, hc⟩ := h i hi
  exact ⟨g, o, x, e, Nat.lt_of_lt_of_le hg hb.size, by rw [hb.cell (p := ⟨g, o + i, none⟩) hg]; exact hc⟩
theorem own_all {w : World} {B : Nat} {v : Value} {xs : List ByteArray} {e : TypeId} (h : w.ownsRow B e 1 v xs.length (sv xs)) : ∃ a c, v = .slice a xs.length c ∧ TxL w a xs ∧ xs.length ≤ c ∧ c ≤ maxLen := by
  obtain ⟨a, c, rfl, ht, _⟩ := own_txl h
  refine ⟨a, c, rfl, ht, ?_⟩
  rcases h.2 with ⟨e, h0⟩ | ⟨g, cap, cur, e, _, _, h4, h5, _⟩
  · simp only [Value.slice.injEq] at e
    exact ⟨by omega, by unfold maxLen; omega⟩
  · simp only [Value.slice.injEq] at e
    rw [e.2.2]; exact ⟨h4, h5⟩
theorem infB : (Try.prog.info? 4).map (fun i => (i.zero, i.size, i.bytes)) = some (some (.bool false), 1, 1) := by kernel_rfl
theorem made_bs (n : Nat) : madeCells #[Value.bool false] n = bs (List.replicate n false) := by
  apply Array.ext_getElem?
  intro i
  rw [bs_get]
  simp only [madeCells]
  by_cases hi : i < n
  · rw [List.getElem?_replicate, if_pos hi]
    simp [hi, Nat.mod_one]
  · rw [List.getElem?_eq_none (by simp; omega), Array.getElem?_eq_none (by simp; omega)]; rfl
theorem make_bs (n : Nat) (hn : n ≤ 64) (u : World) : (Instr.makeSlice 38 (.int .i64 n) (.int .i64 n)).run Try.prog u =
    .ok (.slice (some ⟨u.heap.size, 0, none⟩) n n) (u.alloc (.cells (bs (List.replicate n false)) 4)) := by
  obtain ⟨i0, hi, hz0, hz1, hz2⟩ := info_parts infB
  have h := run_make (P := Try.prog) u 38 4 i0 (.bool false) Try.underlying38 hi hz0 .i64 .i64 (n : Int) (n : Int) (by omega) (Int.le_refl _) (by rw [hz2]; omega) (by omega)
  rw [Int.toNat_natCast, hz1, Nat.mul_one] at h
  rw [h, ← made_bs]; rfl
theorem bs_bol {w : World} {g : Nat} {l : List Bool} {T : TypeId} (h : Bk w g (bs l) T) : BoL w (some ⟨g, 0, none⟩) l := by
  intro i x hx
  exact ⟨g, 0, rfl, h.lt, by rw [Nat.zero_add, h.cell, bs_get, hx]; rfl⟩
/-- A list in a block of the call's own. -/
def Tn (w : World) (g : Nat) (us : List ByteArray) : Prop := ∃ cur, Bk w g cur 9 ∧ ∀ (j : Nat) (x : ByteArray), us[j]? = some x → cur[j]? = some (.string x)
theorem Tn.txl {w : World} {g : Nat} {us : List ByteArray} (h : Tn w g us) : TxL w (some ⟨g, 0, none⟩) us := by
  obtain ⟨cur, hB, hc⟩ := h
  intro i x hx
  exact ⟨g, 0, rfl, hB.lt, by rw [Nat.zero_add, hB.cell]; exact hc i x hx⟩
theorem Tn.grown {w w' : World} {g : Nat} {us : List ByteArray} {r : Option Nat} (h : Tn w g us) (hg : w.grownBy w' r) (hr : r ≠ some g) : Tn w' g us := by
  obtain ⟨cur, hB, hc⟩ := h
  exact ⟨cur, hB.grown hg hr, hc⟩
theorem Tn.below {w w' : World} {g : Nat} {us : List ByteArray} (h : Tn w g us) (hb : Below w.heap.size w w') : Tn w' g us := h.grown (gr_of_below hb none) (by simp)
theorem Tn.set {w : World} {g : Nat} {us : List ByteArray} (h : Tn w g us) (i : Nat) (hi : i < us.length) (x : ByteArray) : Tn (w.setCell ⟨g, i, none⟩ (.string x)) g (us.set i x) := by
  obtain ⟨cur, hB, hc⟩ := h
  refine ⟨_, hB.set i _, fun j y hy => ?_⟩
  have h0 := hc i us[i] (List.getElem?_eq_getElem hi)
  have hic : i < cur.size := (Array.getElem?_eq_some_iff.1 h0).1
  rw [List.getElem?_set] at hy
  rw [Array.getElem?_setIfInBounds]
  by_cases e : i = j
  · subst e
    rw [if_pos rfl, if_pos hi] at hy
    cases hy
    rw [if_pos rfl, if_pos hic]
  · rw [if_neg e] at hy ⊢
    exact hc j y hy
theorem Tn.lt {w : World} {g : Nat} {us : List ByteArray} (h : Tn w g us) : g < w.heap.size := by
  obtain ⟨cur, hB, _⟩ := h
  exact hB.lt
/-- So many truths laid. -/
def ftK (n i : Nat) : List Bool := (List.range n).map fun j => decide (j < i)
theorem ftK_len (n i : Nat) : (ftK n i).length = n := by simp [ftK]
theorem ftK_get (n i j : Nat) (h : j < n) : (ftK n i)[j]? = some (decide (j < i)) := by rw [ftK, List.getElem?_map, List.getElem?_range h]; rfl
theorem ftK_zero (n : Nat) : ftK n 0 = List.replicate n false := by
  apply List.ext_getElem?
  intro j
  by_cases h : j < n
  · rw [ftK_get n 0 j h, List.getElem?_replicate, if_pos h]; simp
  · rw [List.getElem?_eq_none (by rw [ftK_len]; omega), List.getElem?_eq_none (by rw [List.length_replicate]; omega)]
theorem ftK_next (n i : Nat) (h : i < n) : (ftK n i).set i true = ftK n (i + 1) := by
  apply List.ext_getElem?
  intro j
  rw [List.getElem?_set, ftK_len]
  by_cases hj : j < n
  · rw [ftK_get n i j hj, ftK_get n (i + 1) j hj]
    by_cases e : i = j
    · subst e; rw [if_pos rfl, if_pos h]; simp
    · rw [if_neg e]
      congr 1
      rw [decide_eq_decide]; omega
  · rw [if_neg (by omega), List.getElem?_eq_none (by rw [ftK_len]; omega), List.getElem?_eq_none (by rw [ftK_len]; omega)]
theorem cw_mul (N k : Nat) : k * cw N k ≤ N + k := by
  unfold cw
  have h := Nat.div_add_mod N k
  split
  · omega
  · rw [Nat.mul_add, Nat.mul_one]; omega
theorem wid_eq {xs : List ByteArray} (h : 1 ≤ xs.length) (d : Nat) (hs : ∀ x ∈ xs, x.size = d) : wid xs = d := by
  obtain ⟨x, hx⟩ : ∃ x, xs[0]? = some x := ⟨_, List.getElem?_eq_getElem (by omega)⟩
  rw [wid, hx]
  exact hs x (List.mem_of_getElem? hx)
theorem evn_eq {xs : List ByteArray} (d : Nat) (hs : ∀ x ∈ xs, x.size = d) : evn xs = true := by
  refine evn_yes xs (fun i x hx => ?_)
  have hi : i < xs.length := (List.getElem?_eq_some_iff.1 hx).1
  rw [wid_eq (by omega) d hs]
  exact hs x (List.mem_of_getElem? hx)
/-- What the law's Rebuild answers, of shards of which some are torn. -/
theorem rb_back (D us : List ByteArray) (ts : List Bool) (n k d : Nat) (hD : D.length = k) (h1 : 1 ≤ k) (h32 : k ≤ 32) (h2 : k ≤ n) (h3 : n ≤ 64) (sD : ∀ x ∈ D, x.size = d) (hu : us.length = n) (ht : ts.length = n)
    (hs : ∀ i, i < n → thr ts i = true → us[i]? = (alX D n d)[i]?) :
    (k ≤ cnt (thr ts) n → rbX us ts (k : Int) = alX D n d ∧ rbE us ts (k : Int) = 0) ∧ (cnt (thr ts) n < k → rbE us ts (k : Int) = 70) := by
  have hl := alX_len D n k d hD h1 h2 h3
  have hok : rbOk us ts (k : Int) := ⟨by rw [hu]; omega, by rw [ht, hu]⟩
  have hpk := pkd_same (thr ts) us (alX D n d) (by rw [hu, hl]) (fun i hi h => hs i (by omega) h)
  have hps : ∀ x ∈ pkd (thr ts) us, x.size = d := fun x hx => by rw [hpk] at hx; exact alX_size D n d sD x (pkd_mem _ _ x hx)
  have hev := evn_eq d hps
  have hpl : (pkd (thr ts) us).length = cnt (thr ts) n := by rw [pkd_len, hu]
  constructor
  · intro hc
    have hw : wid (pkd (thr ts) us) = d := wid_eq (by omega) d hps
    constructor
    · unfold rbX
      rw [if_pos ⟨hok, hev, by rw [hpl]; omega⟩, Int.toNat_natCast, hw, re_same (thr ts) us (alX D n d) k d (by rw [hu, hl]) (fun i hi h => hs i (by omega) h)]
      exact re_back (thr ts) D n k d hD h1 h2 h3 sD hc
    · unfold rbE
      rw [if_pos ⟨hok, hev⟩, if_pos (by rw [hpl]; omega)]
  · intro hc
    unfold rbE
    rw [if_pos ⟨hok, hev⟩, if_neg (by rw [hpl]; omega)]
theorem ft_back (D : List ByteArray) (n k d : Nat) (hD : D.length = k) (h1 : 1 ≤ k) (h32 : k ≤ 32) (h2 : k ≤ n) (h3 : n ≤ 64) (sD : ∀ x ∈ D, x.size = d) : ftB (alX D n d) (k : Int) = true ∧ ftE (alX D n d) (k : Int) = 0 := by
  have hl := alX_len D n k d hD h1 h2 h3
  have hs := alX_size D n d sD
  have hok : ftOk (alX D n d) (k : Int) := ⟨by rw [hl]; omega, evn_eq d hs⟩
  refine ⟨?_, if_pos hok⟩
  unfold ftB
  rw [if_pos hok, Int.toNat_natCast, hl, wid_eq (by omega) d hs, decide_eq_true_eq]
  have e1 : (alX D n d).take k = D := by rw [alX, List.take_left' hD]
  have e2 : (alX D n d).drop k = mixL (cyX (n - k) k) D d := by rw [alX, List.drop_left' hD, hD]
  rw [e1, e2]
end Go.Proofs.Ytblmblbkfdcbjaa
