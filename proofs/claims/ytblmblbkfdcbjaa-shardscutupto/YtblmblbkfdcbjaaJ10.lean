/- Shards made whole: shards.Whole. -/
import Derived.Test.YtblmblbkfdcbjaaJ8
namespace Go.Proofs.Ytblmblbkfdcbjaa
open Go.RowKit
set_option linter.unusedSimpArgs false
set_option linter.unusedVariables false
/-- All bytes of shards, one behind the other. -/
def alB (xs : List ByteArray) : List UInt8 := (xs.map fun x => x.data.toList).flatten
def woOk (xs : List ByteArray) (n : Int) : Prop := (1 ≤ xs.length ∧ xs.length ≤ 32) ∧ evn xs = true ∧ 0 ≤ n ∧ n ≤ ((xs.length * wid xs : Nat) : Int)
instance (xs : List ByteArray) (n : Int) : Decidable (woOk xs n) := by unfold woOk; infer_instance
def woX (xs : List ByteArray) (n : Int) : ByteArray := if woOk xs n then mkT ((alB xs).take n.toNat) else mkT []
def woE (xs : List ByteArray) (n : Int) : Nat := if woOk xs n then 0 else 1
theorem alB_len (xs : List ByteArray) (d : Nat) (h : ∀ x ∈ xs, x.size = d) : (alB xs).length = xs.length * d := by
  induction xs with
  | nil => simp [alB]
  | cons x xs ih =>
    have := ih (fun y hy => h y (by simp [hy]))
    unfold alB at this ⊢
    rw [List.map_cons, List.flatten_cons, List.length_append, this, Array.length_toList, List.length_cons, Nat.add_mul, Nat.one_mul, Nat.add_comm]
    congr 1
    exact h x (by simp)
theorem alB_next (xs : List ByteArray) (j : Nat) (x : ByteArray) (h : xs[j]? = some x) : alB (xs.take (j + 1)) = alB (xs.take j) ++ x.data.toList := by
  unfold alB
  rw [List.take_add_one, h, List.map_append, List.flatten_append]
  simp
/-- The first n bytes, laid into n bytes 0. -/
def whC (n : Nat) (L : List UInt8) : List UInt8 := L.take n ++ List.replicate (n - L.length) 0
theorem whC_get (n : Nat) (L : List UInt8) (p : Nat) : (whC n L)[p]? = if p < n then (if p < L.length then L[p]? else some 0) else none := by
  unfold whC
  by_cases hp : p < n
  · rw [if_pos hp]
    by_cases hl : p < L.length
    · rw [if_pos hl, List.getElem?_append_left (by rw [List.length_take]; omega), List.getElem?_take, if_pos hp]
    · rw [if_neg hl, List.getElem?_append_right (by rw [List.length_take]; omega), List.getElem?_replicate, List.length_take, if_pos (by omega)]
  · rw [if_neg hp, List.getElem?_eq_none]
    rw [List.length_append, List.length_take, List.length_replicate]; omega
theorem whC_len (n : Nat) (L : List UInt8) : (whC n L).length = n := by
  unfold whC
  rw [List.length_append, List.length_take, List.length_replicate]; omega
theorem whC_put (n : Nat) (L x : List UInt8) : putB (whC n L) (min n L.length) (x.take (min x.length (n - min n L.length))) = whC n (L ++ x) := by
  have hl : (x.take (min x.length (n - min n L.length))).length = min x.length (n - min n L.length) := by rw [List.length_take]; omega
  apply List.ext_getElem?
  intro p
  rw [putB_get _ _ _ (by rw [hl, whC_len]; omega), hl, whC_get, whC_get, List.length_append]
  by_cases hp : p < n
  · rw [if_pos hp, if_pos hp]
    by_cases h1 : p < L.length
    · rw [if_neg (by omega), if_pos h1, if_pos (by omega), List.getElem?_append_left h1]
    · rw [if_neg h1]
      by_cases h2 : p < L.length + x.length
      · rw [if_pos (by omega), if_pos h2, List.getElem?_append_right (by omega), List.getElem?_take, if_pos (by omega)]
        congr 1
        omega
      · rw [if_neg (by omega), if_neg h2]
  · rw [if_neg (by omega), if_neg hp, if_neg hp]
theorem copy_mid (t : ByteArray) (n g o m : Nat) (L : List UInt8) (W : World) (ho : min n L.length = o) (hm : n - o = m) (hB : Bk W g (rc (whC n L)) 5) :
    ∃ W2, (Builtin.copy_ #[44, 9] 3 #[.slice (some ⟨g, o, none⟩) m m, .string t]).run Try.prog W = .ok (.int .i64 ((min t.size m : Nat) : Int)) W2 ∧ Bk W2 g (rc (whC n (L ++ t.data.toList))) 5 ∧ W.grownBy W2 (some g) ∧ W2.heap.size = W.heap.size := by
  have hi : (Try.prog.info? 5).map (·.size) = some 1 := by kernel_rfl
  have hmin : Nat.min t.size m = min t.size m := rfl
  have h := copy_txt W 44 9 3 5 g o m m t (P := Try.prog) Try.underlying44 hi (fun j hj => by
      rw [hmin] at hj
      rw [hB.cell, rc_get, whC_get, if_pos (by omega)]
      split
      · rename_i h1; rw [List.getElem?_eq_getElem h1]; rfl
      · rfl) (fun j hj => hB.frozen _)
  refine ⟨_, h, ?_, gr_puts g _ _ (World.grownBy.refl _ _), setCells_size g _ _ _⟩
  have h2 := Bk.puts (rc (t.data.toList.take (Nat.min t.size m))).toList o _ W hB
  rw [hmin] at h2
  rw [putC_rc _ _ _ (by rw [List.length_take, whC_len]; omega)] at h2
  have e := whC_put n L t.data.toList
  rw [ho, hm, Array.length_toList] at e
  have e2 : min t.data.size m = min t.size m := rfl
  rw [e2] at e
  rw [e] at h2
  exact h2
theorem whC_full (n : Nat) (L x : List UInt8) (h : n ≤ L.length) : whC n (L ++ x) = whC n L := by
  apply List.ext_getElem?
  intro p
  rw [whC_get, whC_get, List.length_append]
  by_cases hp : p < n
  · rw [if_pos hp, if_pos hp, if_pos (by omega), if_pos (by omega), List.getElem?_append_left (by omega)]
  · rw [if_neg hp, if_neg hp]
theorem copy_rest (t : ByteArray) (n g o oa m : Nat) (L : List UInt8) (W : World) (ho : min n L.length = o) (hm : n - o = m) (hoa : m = 0 ∨ oa = o) (hB : Bk W g (rc (whC n L)) 5) :
    ∃ W2, (Builtin.copy_ #[44, 9] 3 #[.slice (some ⟨g, oa, none⟩) m m, .string t]).run Try.prog W = .ok (.int .i64 ((min t.size m : Nat) : Int)) W2 ∧ Bk W2 g (rc (whC n (L ++ t.data.toList))) 5 ∧ W.grownBy W2 (some g) ∧ W2.heap.size = W.heap.size := by
  rcases hoa with h0 | rfl
  · subst h0
    have hi : (Try.prog.info? 5).map (·.size) = some 1 := by kernel_rfl
    have hm0 : Nat.min t.size 0 = 0 := Nat.min_zero _
    have h := copy_txt W 44 9 3 5 g oa 0 0 t (P := Try.prog) Try.underlying44 hi (fun j hj => by rw [hm0] at hj; omega) (fun j hj => by rw [hm0] at hj; omega)
    refine ⟨_, h, ?_, gr_puts g _ _ (World.grownBy.refl _ _), setCells_size g _ _ _⟩
    rw [hm0, List.take_zero]
    rw [whC_full n L _ (by omega)]
    exact hB
  · exact copy_mid t n g oa m L W ho hm hB
theorem mk_empty : mkT [] = ⟨#[]⟩ := rfl
set_option maxHeartbeats 1000000 in
set_option maxRecDepth 100000 in
theorem whole_any (a : Option Addr) (c k : Nat) (xs : List ByteArray) (n : Int) (w : World) (hx : TxL w a xs) (nx : xs.length = k) (ln : k ≤ 4611686018427387904) (hp : k ≤ 32 → k * wid xs ≤ 281474976710656) (n1 : -9223372036854775808 ≤ n) (n2 : n ≤ 9223372036854775807) :
    Calls Try.prog 23 #[.slice a k c, .int .i64 n] w fun e w' => e = .returned (.tuple #[.string (woX xs n), .int .i64 (woE xs n)]) ∧ Below w.heap.size w w' := by
  have hh := hold_any (k : Int)
  have he := fun W hW => even_any a c xs W hW (by omega)
  rw [nx] at he
  have HX : Hid (TxL w a xs) := hx
  by_cases h1 : 1 ≤ k ∧ k ≤ 32
  · rw [hlB, decide_eq_true (by omega)] at hh
    have C1 : Hid _ := hh
    clear hh
    obtain ⟨h1a, h1b⟩ := h1
    obtain ⟨x0, hx0⟩ : ∃ x0, xs[0]? = some x0 := ⟨_, List.getElem?_eq_getElem (by omega)⟩
    have hwd : wid xs = x0.size := by simp [wid, hx0]
    have hpb := hp h1b
    rw [hwd] at hpb
    have hs0 : x0.size ≤ 281474976710656 := Nat.le_trans (Nat.le_mul_of_pos_left _ (by omega)) hpb
    have HX0 : Hid (∀ W, TxL W a xs → ∃ g o, a = some ⟨g, o, none⟩ ∧ W.cell? ⟨g, o, none⟩ = some (.string x0)) := fun W hW => by
      obtain ⟨g, o, e, _, hc⟩ := hW 0 x0 hx0
      exact ⟨g, o, e, by rw [Nat.add_zero] at hc; exact hc⟩
    by_cases h2 : evn xs = true
    · have SX : Hid (∀ x ∈ xs, x.size = x0.size) := by rw [← hwd]; exact evn_all xs h2
      have hok : woOk xs n ↔ 0 ≤ n ∧ n ≤ ((k * x0.size : Nat) : Int) := by
        unfold woOk
        rw [nx, hwd, h2]
        simp [h1a, h1b]
      rw [h2] at he
      have C2 : Hid _ := he
      clear he
      obtain ⟨d, hd⟩ : ∃ d, x0.size = d := ⟨_, rfl⟩
      obtain ⟨M, hM⟩ : ∃ M, k * d = M := ⟨_, rfl⟩
      have hMz : (k : Int) * (d : Int) = (M : Int) := by rw [← hM]; exact (Int.natCast_mul _ _).symm
      rw [hd, hM] at hok hpb
      rw [hd] at hs0
      rw [hd] at SX
      by_cases h3 : 0 ≤ n
      · have h3a : ¬ n < 0 := by omega
        by_cases h4 : n ≤ (M : Int)
        · have h4a : ¬ n > (M : Int) := by omega
          have e1 : woX xs n = mkT ((alB xs).take n.toNat) := if_pos (hok.2 ⟨h3, h4⟩)
          have e2 : woE xs n = 0 := if_pos (hok.2 ⟨h3, h4⟩)
          obtain ⟨N, rfl⟩ : ∃ N : Nat, n = N := ⟨n.toNat, by omega⟩
          rw [e1, e2, Int.toNat_natCast]
          have hmu := make_u8 N (by omega)
          have NX : Hid (xs.length = k) := nx
          have HM : Hid (k * d = M) := hM
          have HAL : Hid ((alB xs).length = M) := by show _ = M; rw [alB_len xs d SX.out, nx, hM]
          clear hok e1 e2 hwd hx0 hM nx hx h2 hp
          go_enter Try.func23, Try.ntmps23
          go_wp2_with fail
          refine Calls.mono (C1.out _) ?_
          rintro e w1 ⟨rfl, hw⟩
          subst hw
          go_wp2_with fail
          refine Calls.mono (C2.out _ HX.out) ?_
          rintro e w2 ⟨rfl, hb2⟩
          have B2 : Hid (Below w1.heap.size w1 w2) := hb2
          have HX2 : Hid (TxL w2 a xs) := HX.out.below hb2
          obtain ⟨ga, oa, rfl, hc0⟩ := HX0.out w2 HX2.out
          clear hb2
          have HT0 : Hid (Bk (w2.alloc (.cells (rc (fl N fun _ => 0)) 5)) w2.heap.size (rc (whC N (alB (xs.take 0)))) 5) := by
            show Bk _ _ _ _
            have e : whC N (alB (xs.take 0)) = fl N fun _ => 0 := by rw [fl_zero]; simp [whC, alB]
            rw [e]
            exact bk_new _ _ _
          go_wp2_with fail
          go_loopw [7, 39] (fun v t wr => ∃ (j o ob m : Nat), j ≤ k ∧ t = .int .i64 j ∧ v = .slice (some ⟨w2.heap.size, ob, none⟩) m m ∧ o + m = N ∧ Hid (m = 0 ∨ ob = o) ∧ Hid (min N (j * d) = o) ∧ Hid (Bk wr w2.heap.size (rc (whC N (alB (xs.take j)))) 5) ∧ Hid (Below w2.heap.size w2 wr) ∧ w2.heap.size < wr.heap.size) (fun _ t _ => k - (intOf t).toNat)
          case atStart => exact ⟨0, 0, 0, N, by omega, rfl, rfl, by omega, .inr rfl, by show min N (0 * d) = 0; omega, HT0.out, (Below.refl _ _).alloc (Nat.le_refl _) _, by rw [al_size]; omega⟩
          case round =>
            clear HT0
            obtain ⟨j, o, ob, m, hjk, rfl, rfl, hom, HOB, HO, HT, HW, hsz⟩ := hrel
            by_cases hlt : j < k
            · have hjz : (j : Int) < (k : Nat) := by omega
              obtain ⟨x, hxj⟩ : ∃ x, xs[j]? = some x := ⟨_, List.getElem?_eq_getElem (by rw [NX.out]; exact hlt)⟩
              have hxs := SX.out x (List.mem_of_getElem? hxj)
              have hc1 : wr.cell? ⟨ga, oa + j, none⟩ = some (.string x) := (HX2.out.below HW.out).cel hxj
              have hll : (alB (xs.take j)).length = j * d := by
                rw [alB_len (xs.take j) d (fun y hy => SX.out y (List.mem_of_mem_take hy)), List.length_take, NX.out, Nat.min_eq_left (by omega)]
              obtain ⟨W2, hcp, hB2, hG2, hs2⟩ := copy_rest x N w2.heap.size o ob m (alB (xs.take j)) wr (by rw [hll]; exact HO.out) (by omega) HOB.out HT.out
              rw [← alB_next xs j x hxj] at hB2
              have hjd : (j + 1) * d = j * d + d := by rw [Nat.add_mul, Nat.one_mul]
              obtain ⟨q, hq⟩ : ∃ q, min x.size m = q := ⟨_, rfl⟩
              rw [hq] at hcp
              have HOn : Hid (min N ((j + 1) * d) = o + q) := by
                have := HO.out
                show min N ((j + 1) * d) = o + q
                rw [hjd]; omega
              have hqm : q ≤ m := by omega
              have hqz : (q : Int) ≤ (m : Nat) := by omega
              have HTn : Hid (Bk W2 w2.heap.size (rc (whC N (alB (xs.take (j + 1))))) 5) := hB2
              have HWn : Hid (Below w2.heap.size w2 W2) := below_own HW.out (by omega) hG2 (Nat.le_refl _)
              have hszn : w2.heap.size < W2.heap.size := by omega
              clear hB2 hG2 hjd hll hxj HT HW HO hq
              by_cases hmq : m = q
              · subst hmq
                go_wp2
                go_roundw
                case rel => exact ⟨j + 1, o + m, ob, 0, by omega, by go_num, by simp, by omega, .inl rfl, HOn.out, HTn.out, HWn.out, hszn⟩
                case measure => simp [intOf]; omega
              · have HOBn : Hid (ob = o) := by
                  rcases HOB.out with h | h
                  · omega
                  · exact h
                go_wp2
                go_roundw
                case rel => exact ⟨j + 1, o + q, ob + q, m - q, by omega, by go_num, rfl, by omega, .inr (by rw [HOBn.out]), HOn.out, HTn.out, HWn.out, hszn⟩
                case measure => simp [intOf]; omega
            · have hjz : ¬ (j : Int) < (k : Nat) := by omega
              have hjk2 : j = k := by omega
              have hB2 : Bk wr w2.heap.size (rc ((alB xs).take N)) 5 := by
                have := HT.out
                have e : whC N (alB xs) = (alB xs).take N := by
                  unfold whC
                  rw [HAL.out, show N - M = 0 by omega, List.replicate_zero, List.append_nil]
                rw [hjk2, ← NX.out, List.take_length, e] at this
                exact this
              have hcv := conv_all ((alB xs).take N) w2.heap.size N N 5 wr (by rw [List.length_take, HAL.out]; omega) hB2
              obtain ⟨pt, hpt⟩ : ∃ pt, mkT ((alB xs).take N) = pt := ⟨_, rfl⟩
              rw [hpt] at hcv
              have HPT : Hid (mkT ((alB xs).take N) = pt) := hpt
              have HBn : Hid (Below w1.heap.size w1 wr) := B2.out.trans (HW.out.mono B2.out.size)
              clear hB2 hjk2 HT HW HO hpt
              go_wp2
              go_ret2
              exact ⟨by rw [HPT.out]; rfl, HBn.out⟩
        · have h4a : n > (M : Int) := by omega
          have e1 : woX xs n = mkT [] := if_neg (fun h => h4 (hok.1 h).2)
          have e2 : woE xs n = 1 := if_neg (fun h => h4 (hok.1 h).2)
          rw [e1, e2]
          clear e1 e2 nx hx hp hx0
          go_enter Try.func23, Try.ntmps23
          go_wp2_with fail
          refine Calls.mono (C1.out _) ?_
          rintro e w1 ⟨rfl, hw⟩
          subst hw
          go_wp2_with fail
          refine Calls.mono (C2.out _ HX.out) ?_
          rintro e w2 ⟨rfl, hb2⟩
          have B2 : Hid (Below w1.heap.size w1 w2) := hb2
          obtain ⟨ga, oa, rfl, hc0⟩ := HX0.out w2 (HX.out.below hb2)
          clear hb2
          go_wp2
          go_ret2
          exact ⟨rfl, B2.out⟩
      · have h3a : n < 0 := by omega
        have e1 : woX xs n = mkT [] := if_neg (fun h => h3 (hok.1 h).1)
        have e2 : woE xs n = 1 := if_neg (fun h => h3 (hok.1 h).1)
        rw [e1, e2]
        clear e1 e2 nx hx hp hx0
        go_enter Try.func23, Try.ntmps23
        go_wp2_with fail
        refine Calls.mono (C1.out _) ?_
        rintro e w1 ⟨rfl, hw⟩
        subst hw
        go_wp2_with fail
        refine Calls.mono (C2.out _ HX.out) ?_
        rintro e w2 ⟨rfl, hb2⟩
        have B2 : Hid (Below w1.heap.size w1 w2) := hb2
        clear hb2
        go_wp2
        go_ret2
        exact ⟨rfl, B2.out⟩
    · have h2z : evn xs = false := by simpa using h2
      rw [h2z] at he
      have C2 : Hid _ := he
      clear he
      have e1 : woX xs n = mkT [] := if_neg (fun h => h2 h.2.1)
      have e2 : woE xs n = 1 := if_neg (fun h => h2 h.2.1)
      rw [e1, e2]
      clear e1 e2 nx hx hp hx0 h2z
      go_enter Try.func23, Try.ntmps23
      go_wp2_with fail
      refine Calls.mono (C1.out _) ?_
      rintro e w1 ⟨rfl, hw⟩
      subst hw
      go_wp2_with fail
      refine Calls.mono (C2.out _ HX.out) ?_
      rintro e w2 ⟨rfl, hb2⟩
      have B2 : Hid (Below w1.heap.size w1 w2) := hb2
      clear hb2
      go_wp2
      go_ret2
      exact ⟨rfl, B2.out⟩
  · rw [hlB, decide_eq_false (by omega)] at hh
    have C1 : Hid _ := hh
    clear hh he
    have e1 : woX xs n = mkT [] := if_neg (fun h => h1 (by have := h.1; omega))
    have e2 : woE xs n = 1 := if_neg (fun h => h1 (by have := h.1; omega))
    rw [e1, e2]
    clear e1 e2 nx hx hp h1
    go_enter Try.func23, Try.ntmps23
    go_wp2_with fail
    refine Calls.mono (C1.out _) ?_
    rintro e w1 ⟨rfl, hw⟩
    subst hw
    go_wp2
    go_ret2
    exact ⟨rfl, Below.refl _ _⟩
end Go.Proofs.Ytblmblbkfdcbjaa
