/- bloom.Fit; the document's Size, New, Fit, Ones. -/
import Derived.Test.YtplfjfhpdfbpeaaDoorBR1
import Derived.OwnWalk
namespace Go.Proofs.YtplfjfhpdfbpeaaDoor
open Go.RowKit
set_option linter.unusedSimpArgs false
set_option linter.unusedVariables false
/-- A size on its way. -/
structure Dbl (m b k r : Nat) : Prop where
  pr : b * 2 ^ k = 67108864
  val : dbF k m b = r
theorem Dbl.le {m b k r : Nat} (h : Dbl m b k r) : b ≤ 67108864 := by
  have := h.pr
  have h2 : 1 ≤ 2 ^ k := Nat.one_le_two_pow
  have h3 : b * 1 ≤ b * 2 ^ k := Nat.mul_le_mul_left b h2
  omega
theorem Dbl.next {m b k r : Nat} (h : Dbl m b k r) (hlt : b < m) (hm : m ≤ 10485760) : ∃ k', Dbl m (2 * b) k' r := by
  cases k with
  | zero => have := h.pr; simp at this; omega
  | succ k =>
    refine ⟨k, ?_, ?_⟩
    · rw [← h.pr, Nat.pow_succ]; simp [Nat.mul_comm, Nat.mul_left_comm, Nat.mul_assoc]
    · have := h.val
      rw [dbF, if_pos hlt] at this
      exact this
theorem Dbl.done {m b k r : Nat} (h : Dbl m b k r) (hge : ¬ b < m) : b = r := by
  have := h.val
  cases k with
  | zero => exact this
  | succ k => rw [dbF, if_neg hge] at this; exact this
theorem dbl_zero (n : Nat) : Dbl (10 * n) 64 20 (fitN n) := ⟨rfl, rfl⟩
set_option maxHeartbeats 1000000 in
theorem fit_any14 (n : Nat) (hn : n ≤ 1048576) (w : World) : Calls Tryd.prog 25 #[.int .i64 (n : Int)] w fun e w' => e = .returned (.tuple #[.int .i64 (fitN n : Int), .int .i64 7, .int .i64 0]) ∧ w' = w := by
  obtain ⟨r, hr⟩ : ∃ r, fitN n = r := ⟨_, rfl⟩
  have HD : Hid (Dbl (10 * n) 64 20 r) := by rw [← hr]; exact dbl_zero n
  rw [hr]
  clear hr
  go_enter Tryd.func25, Tryd.ntmps25
  go_wp2
  go_loopw [2] (fun v wr => ∃ b k : Nat, v = .int .i64 b ∧ 64 ≤ b ∧ Hid (Dbl (10 * n) b k r) ∧ wr = w) (fun v _ => 134217728 - (intOf v).toNat)
  case atStart => exact ⟨64, 20, rfl, Nat.le_refl _, HD.out, rfl⟩
  case round =>
    clear HD
    obtain ⟨b, k, rfl, hb, HD, rfl⟩ := hrel
    have hbl := HD.out.le
    by_cases hlt : b < 10 * n
    · obtain ⟨k', hk'⟩ := HD.out.next hlt (by omega)
      have HN : Hid (Dbl (10 * n) (2 * b) k' r) := hk'
      clear hk' HD
      go_wp2
      go_roundw
      case rel => exact ⟨2 * b, k', by go_num, by omega, HN.out, trivial⟩
      case measure => simp [intOf]; omega
    · have HE : Hid (b = r) := HD.out.done hlt
      go_wp2
      go_ret3
      exact ⟨by rw [HE.out]; rfl, rfl⟩
set_option maxHeartbeats 1000000 in
theorem rfit_any14 (n : Nat) (hn : n ≤ 1048576) (w : World) : Calls Tryd.prog 24 #[.int .i64 (n : Int)] w fun e w' => e = .returned (.tuple #[.int .i64 (fitN n : Int), .int .i64 7, .int .i64 0]) ∧ w' = w := by
  obtain ⟨r, hr⟩ : ∃ r, fitN n = r := ⟨_, rfl⟩
  have HD : Hid (Dbl (10 * n) 64 20 r) := by rw [← hr]; exact dbl_zero n
  rw [hr]
  clear hr
  go_enter Tryd.func24, Tryd.ntmps24
  go_wp2
  go_loopw [5] (fun v wr => ∃ b k : Nat, v = .int .i64 b ∧ 64 ≤ b ∧ Hid (Dbl (10 * n) b k r) ∧ wr = w) (fun v _ => 134217728 - (intOf v).toNat)
  case atStart => exact ⟨64, 20, rfl, Nat.le_refl _, HD.out, rfl⟩
  case round =>
    clear HD
    obtain ⟨b, k, rfl, hb, HD, rfl⟩ := hrel
    have hbl := HD.out.le
    by_cases hlt : b < 10 * n
    · obtain ⟨k', hk'⟩ := HD.out.next hlt (by omega)
      have HN : Hid (Dbl (10 * n) (2 * b) k' r) := hk'
      clear hk' HD
      go_wp2
      go_roundw
      case rel => exact ⟨2 * b, k', by go_num, by omega, HN.out, trivial⟩
      case measure => simp [intOf]; omega
    · have HE : Hid (b = r) := HD.out.done hlt
      go_wp2
      go_ret3
      exact ⟨by rw [HE.out]; rfl, rfl⟩
theorem fit_no14 (x : Int) (hx : x < 0 ∨ 1048576 < x) (w : World) : Calls Tryd.prog 25 #[.int .i64 x] w fun e w' => e = .returned (.tuple #[.int .i64 0, .int .i64 0, .int .i64 1]) ∧ w' = w := by
  rcases hx with h | h
  · go_enter Tryd.func25, Tryd.ntmps25
    go_wp2
    go_ret3
    exact ⟨rfl, rfl⟩
  · have h2 : ¬ x < 0 := by omega
    go_enter Tryd.func25, Tryd.ntmps25
    go_wp2
    go_ret3
    exact ⟨rfl, rfl⟩
theorem rfit_no14 (x : Int) (hx : x < 0 ∨ 1048576 < x) (w : World) : Calls Tryd.prog 24 #[.int .i64 x] w fun e w' => e = .returned (.tuple #[.int .i64 0, .int .i64 0, .int .i64 1]) ∧ w' = w := by
  rcases hx with h | h
  · go_enter Tryd.func24, Tryd.ntmps24
    go_wp2
    go_ret3
    exact ⟨rfl, rfl⟩
  · have h2 : ¬ x < 0 := by omega
    go_enter Tryd.func24, Tryd.ntmps24
    go_wp2
    go_ret3
    exact ⟨rfl, rfl⟩
/-- Whether a filter may have that size. -/
def SzB (x y : Int) (b : Bool) : Prop := b = true ↔ ∃ n k : Nat, x = n ∧ y = k ∧ okF n k
theorem szB_no {x y : Int} {m j : Nat} (hj : j ≤ 18) (hm : 64 * 2 ^ j = m) (hb : ∀ i, i < j → ((64 * 2 ^ i : Nat) : Int) < x) (he : ¬ ((m : Int) < x ∧ j < 18)) (hne : (m : Int) ≠ x) : SzB x y false := by
  refine ⟨fun h => (by cases h), ?_⟩
  rintro ⟨n, k, rfl, rfl, h⟩
  exact absurd h (okF_not (j := j) hj (fun i hi => by have := hb i hi; omega) (by rw [hm]; omega) (by rw [hm]; omega))
theorem szB_out {x y : Int} (h : y < 1 ∨ 8 < y) : SzB x y false := by
  refine ⟨fun h => (by cases h), ?_⟩
  rintro ⟨n, k, rfl, rfl, _, h1, h2⟩
  omega
theorem szB_yes {x y : Int} {m j : Nat} (hj : j ≤ 18) (hm : 64 * 2 ^ j = m) (hx : (m : Int) = x) (h1 : 1 ≤ y) (h2 : y ≤ 8) : SzB x y true :=
  ⟨fun _ => ⟨m, y.toNat, hx.symm, by omega, ⟨⟨j, hj, hm.symm⟩, by omega, by omega⟩⟩, fun _ => rfl⟩
/-- What Size answers. -/
def SzE (x y : Int) (e : Ending) : Prop := ∃ b : Bool, e = .returned (.bool b) ∧ SzB x y b
theorem SzE.mk {x y : Int} {e : Ending} (b : Bool) (h1 : e = .returned (.bool b)) (h2 : SzB x y b) : SzE x y e := ⟨b, h1, h2⟩
set_option maxHeartbeats 1000000 in
theorem rsize_any (x y : Int) (w : World) : Calls Tryd.prog 33 #[.int .i64 x, .int .i64 y] w fun e w' => SzE x y e ∧ w' = w := by
  go_enter Tryd.func33, Tryd.ntmps33
  go_wp2
  go_loopw [5] (fun v wr => ∃ m j : Nat, v = .int .i64 m ∧ 64 ≤ m ∧ m ≤ 16777216 ∧ Hid (j ≤ 18 ∧ 64 * 2 ^ j = m ∧ ∀ i, i < j → ((64 * 2 ^ i : Nat) : Int) < x) ∧ wr = w) (fun v _ => 134217728 - (intOf v).toNat)
  case atStart => exact ⟨64, 0, rfl, by omega, by omega, ⟨by omega, rfl, fun i hi => by omega⟩, rfl⟩
  case round =>
    obtain ⟨m, j, rfl, hm1, hm2, HJ, rfl⟩ := hrel
    by_cases h1 : (m : Int) < x
    · by_cases h2 : m < 16777216
      · have h2z : (m : Int) < 16777216 := by omega
        have hj : j < 18 := by
          obtain ⟨a, b, _⟩ := HJ.out
          rcases Nat.lt_or_ge j 18 with h | h
          · exact h
          · have : j = 18 := by omega
            subst this; omega
        have HN : Hid (j + 1 ≤ 18 ∧ 64 * 2 ^ (j + 1) = 2 * m ∧ ∀ i, i < j + 1 → ((64 * 2 ^ i : Nat) : Int) < x) := by
          obtain ⟨a, b, c⟩ := HJ.out
          refine ⟨by omega, by rw [Nat.pow_succ]; omega, fun i hi => ?_⟩
          by_cases e : i = j
          · subst e; rw [b]; exact h1
          · exact c i (by omega)
        have hm3 : m ≤ 8388608 := by
          obtain ⟨a, b, _⟩ := HJ.out
          have := Nat.pow_le_pow_right (n := 2) (by omega) (show j ≤ 17 by omega)
          omega
        clear HJ hj
        go_wp2
        go_roundw
        case rel => exact ⟨2 * m, j + 1, by go_num, by omega, by omega, HN.out, trivial⟩
        case measure => simp [intOf]; omega
      · have h2z : ¬ (m : Int) < 16777216 := by omega
        have hne : ((m : Int) == x) = false := by rw [beq_eq_false_iff_ne]; omega
        have HE : Hid (SzB x y false) := by
          obtain ⟨a, b, c⟩ := HJ.out
          refine szB_no a b c ?_ (by omega)
          rintro ⟨_, hc⟩
          have := Nat.pow_lt_pow_right (a := 2) (by omega) hc
          omega
        go_wp2
        go_ret
        exact ⟨SzE.mk _ rfl HE.out, rfl⟩
    · by_cases h2 : (m : Int) = x
      · have he : ((m : Int) == x) = true := by rw [beq_iff_eq]; exact h2
        by_cases h3 : 1 ≤ y
        · by_cases h4 : y ≤ 8
          · have HE : Hid (SzB x y true) := szB_yes HJ.out.1 HJ.out.2.1 h2 h3 h4
            clear h2
            go_wp2
            go_ret
            exact ⟨SzE.mk _ rfl HE.out, rfl⟩
          · have HE : Hid (SzB x y false) := szB_out (by omega)
            clear h2
            go_wp2
            go_ret
            exact ⟨SzE.mk _ rfl HE.out, rfl⟩
        · have HE : Hid (SzB x y false) := szB_out (by omega)
          clear h2
          go_wp2
          go_ret
          exact ⟨SzE.mk _ rfl HE.out, rfl⟩
      · have he : ((m : Int) == x) = false := by rw [beq_eq_false_iff_ne]; exact h2
        have HE : Hid (SzB x y false) := szB_no HJ.out.1 HJ.out.2.1 HJ.out.2.2 (by omega) h2
        go_wp2
        go_ret
        exact ⟨SzE.mk _ rfl HE.out, rfl⟩
theorem info_bo : (Tryd.prog.info? 4).map (fun i => (i.zero, i.size, i.bytes)) = some (some (.bool false), 1, 1) := by kernel_rfl
theorem made_bo (n : Nat) : madeCells #[Value.bool false] n = bbF n (fun _ => false) := by
  apply Array.ext_getElem?
  intro i
  simp only [madeCells]
  by_cases hi : i < n
  · rw [bbF_get _ _ _ hi]; simp [hi, Nat.mod_one]
  · rw [Array.getElem?_eq_none (by simp; omega), Array.getElem?_eq_none (by rw [bbF_size]; omega)]
theorem make_bo (n : Nat) (hn : n ≤ 281474976710656) (u : World) : (Instr.makeSlice 49 (.int .i64 n) (.int .i64 n)).run Tryd.prog u =
    .ok (.slice (some ⟨u.heap.size, 0, none⟩) n n) (u.alloc (.cells (bbF n (fun _ => false)) 4)) := by
  obtain ⟨i0, hi, hz0, hz1, hz2⟩ := info_parts info_bo
  have h := run_make (P := Tryd.prog) u 49 4 i0 (.bool false) Tryd.underlying49 hi hz0 .i64 .i64 (n : Int) (n : Int) (by omega) (Int.le_refl _) (by rw [hz2]; omega) (by omega)
  rw [Int.toNat_natCast] at h
  rw [← made_bo]
  simpa [hz1, Value.cells] using h
theorem rfs_new (n k : Nat) (w : World) (h : okF n k) : RfS ((w.alloc (.cells (bbF n (fun _ => false)) 4)).alloc (.cells #[.int .i64 (n : Int), .int .i64 (k : Int), .slice (some ⟨w.heap.size, 0, none⟩) n n] 51)) (w.heap.size + 1) w.heap.size n k (zrR (n / 8)) := by
  refine ⟨h, ⟨n, ?_, Nat.le_refl _⟩, ?_⟩
  · have := bk_new (w.alloc (.cells (bbF n (fun _ => false)) 4)) #[.int .i64 (n : Int), .int .i64 (k : Int), .slice (some ⟨w.heap.size, 0, none⟩) n n] 51
    rw [al_size] at this
    exact this
  · rw [← bbF_congr (p := fun _ => false) (fun j _ => (btR_zr (n / 8) j).symm)]
    exact (bk_new _ _ _).alloc _
/-- The document's filter, made in the call. -/
structure NwR (w : World) (e : Ending) (w' : World) (f g n k : Nat) (s : List UInt8) : Prop where
  res : e = .returned (.tuple #[.pointer (some ⟨f, 0, none⟩), .int .i64 0])
  fil : RfS w' f g n k s
  bel : Below w.heap.size w w'
  lf : w.heap.size ≤ f
  lg : w.heap.size ≤ g
set_option maxHeartbeats 1000000 in
set_option maxRecDepth 100000 in
theorem rnew_yes14 (n k : Nat) (w : World) (h : okF n k) : Calls Tryd.prog 9 #[.int .i64 (n : Int), .int .i64 (k : Int)] w fun e w' => ∃ f g, NwR w e w' f g n k (zrR (n / 8)) := by
  have HS : Hid (∀ u, Calls Tryd.prog 33 #[.int .i64 (n : Int), .int .i64 (k : Int)] u fun e w' => e = .returned (.bool true) ∧ w' = u) := fun u => (rsize_any n k u).mono fun e w' ⟨⟨b, h1, h3⟩, h2⟩ => ⟨by rw [h1, h3.2 ⟨n, k, rfl, rfl, h⟩], h2⟩
  have h2 := okF_le h
  have h1 := okF_pos h
  have HF : Hid _ := rfs_new n k w h
  have hmk := make_bo n (by omega)
  clear h
  go_enter Tryd.func9, Tryd.ntmps9
  go_wp2_with fail
  refine (HS.out _).mono ?_
  rintro e w1 ⟨rfl, hw⟩
  subst hw
  go_wp2
  go_ret2
  exact ⟨_, _, rfl, HF.out, ((Below.refl _ _).alloc (Nat.le_refl _) _).alloc (by simp) _, by omega, Nat.le_refl _⟩
theorem rnew_no14 (x y : Int) (w : World) (h : ∀ n k : Nat, x = n → y = k → ¬ okF n k) :
    Calls Tryd.prog 9 #[.int .i64 x, .int .i64 y] w fun e w' => e = .returned (.tuple #[.pointer none, .int .i64 1]) ∧ w' = w := by
  have HS : Hid (∀ u, Calls Tryd.prog 33 #[.int .i64 x, .int .i64 y] u fun e w' => e = .returned (.bool false) ∧ w' = u) := fun u => (rsize_any x y u).mono fun e w' ⟨⟨b, h1, h3⟩, h2⟩ => by
    refine ⟨?_, h2⟩
    cases b with
    | false => exact h1
    | true => obtain ⟨n, k, a, b, c⟩ := h3.1 rfl; exact absurd c (h n k a b)
  clear h
  go_enter Tryd.func9, Tryd.ntmps9
  go_wp2_with fail
  refine (HS.out _).mono ?_
  rintro e w1 ⟨rfl, hw⟩
  subst hw
  go_wp2
  go_ret2
  exact ⟨rfl, rfl⟩
end Go.Proofs.YtplfjfhpdfbpeaaDoor
