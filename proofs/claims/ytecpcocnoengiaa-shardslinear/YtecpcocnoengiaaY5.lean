import Derived.Test.YtecpcocnoengiaaY4
import Derived.Test.YtecpcocnoengiaaY3
import Derived.Lib.SmallJoins
/- field.Unit, field.Cauchy. -/
namespace Go.Proofs.Ytecpcocnoengiaa
open Go.RowKit
set_option linter.unusedSimpArgs false
set_option linter.unusedVariables false
/-- The first k rows done. -/
def fil (F : List (List UInt8)) (k : Nat) : List (List UInt8) := F.take k ++ List.replicate (F.length - k) zr
theorem fil_len (F : List (List UInt8)) (k : Nat) (h : k ≤ F.length) : (fil F k).length = F.length := by simp [fil]; omega
theorem fil_wide (F : List (List UInt8)) (hF : ∀ r ∈ F, r.length = 64) (k : Nat) : ∀ r ∈ fil F k, r.length = 64 := by
  intro r hr
  rcases List.mem_append.1 hr with h1 | h1
  · exact hF r (List.mem_of_mem_take h1)
  · rw [(List.mem_replicate.1 h1).2]; exact zr_len
theorem fil_at (F : List (List UInt8)) (k : Nat) (h : k < F.length) : (fil F k)[k]? = some zr := by
  unfold fil
  rw [List.getElem?_append_right (by simp; omega)]
  simp [List.getElem?_replicate, Nat.min_eq_left (Nat.le_of_lt h)]
  omega
theorem fil_next (F : List (List UInt8)) (k : Nat) (r : List UInt8) (hr : F[k]? = some r) : (fil F k).set k r = fil F (k + 1) := by
  have hk := (List.getElem?_eq_some_iff.1 hr).1
  unfold fil
  rw [List.set_append_right _ _ (by simp; omega), List.length_take, Nat.min_eq_left (Nat.le_of_lt hk), Nat.sub_self, show F.length - k = (F.length - (k + 1)) + 1 from by omega, List.replicate_succ, List.set_cons_zero]
  rw [List.take_succ_eq_append_getElem hk, List.append_assoc, (List.getElem?_eq_some_iff.1 hr).2]; rfl
theorem fil_all (F : List (List UInt8)) : fil F F.length = F := by
  unfold fil
  rw [Nat.sub_self, List.replicate_zero, List.append_nil, List.take_length]
theorem fil_zero (F : List (List UInt8)) : fil F 0 = List.replicate F.length zr := by simp [fil]
/-- The unit's rows. -/
def unL (n : Nat) : List (List UInt8) := (List.range n).map ur
theorem unL_len (n : Nat) : (unL n).length = n := by simp [unL]
theorem unL_wide (n : Nat) : ∀ r ∈ unL n, r.length = 64 := by
  intro r hr
  obtain ⟨i, _, rfl⟩ := List.mem_map.1 hr
  exact ur_len i
theorem unL_at (n i : Nat) (h : i < n) : (unL n)[i]? = some (ur i) := by
  rw [unL, List.getElem?_map, List.getElem?_range h]; rfl
set_option maxHeartbeats 1000000 in
set_option maxRecDepth 100000 in
theorem unitP_yes (n : Nat) (w : World) (h1 : 1 ≤ n) (h2 : n ≤ 64) :
    Calls Try.prog 25 #[.int .i64 n] w fun e w' => ∃ g, e = .returned (.tuple #[.slice (some ⟨g, 0, none⟩) n n, .int .i64 0]) ∧ w.heap.size ≤ g ∧ Bk w' g (txc (txtL n (unL n))) 9 ∧ Below w.heap.size w w' := by
  have c1 := side_any (n : Int)
  rw [show sdB (n : Int) = true from decide_eq_true (by omega)] at c1
  have C1 : Hid _ := c1
  clear c1
  have hmk := make_rows n h2
  go_enter Try.func25, Try.ntmps25
  go_wp2_with fail
  refine Calls.mono (C1.out _) ?_
  rintro e w1 ⟨rfl, hw1⟩
  subst hw1
  go_wp2_with fail
  go_loopw [13] (fun v wr => ∃ i : Nat, i ≤ n ∧ v = .int .i64 i ∧ Hid (Bk wr w1.heap.size (rc (fil (unL n) i).flatten) 60) ∧ Hid (Below w1.heap.size w1 wr) ∧ w1.heap.size < wr.heap.size) (fun v _ => n - (intOf v).toNat)
  case atStart => exact ⟨0, by omega, rfl, by show Bk _ _ _ _; rw [fil_zero, unL_len]; exact bk_new w1 _ _, (Below.refl _ _).alloc (Nat.le_refl _) _, by rw [al_size]; omega⟩
  case round =>
    obtain ⟨i, hi, rfl, HB, HW, hs⟩ := hrel
    by_cases hlt : i < n
    · have hiz : (i : Int) < (n : Nat) := by omega
      have hu := fun W => unit_any i W (by omega)
      have HU : Hid _ := hu
      have HUL : Hid ((ur i).length = 64) := ur_len i
      have HIu := size_row (ur i) (ur_len i)
      have HN : Hid ((fil (unL n) i).set i (ur i) = fil (unL n) (i + 1)) := fil_next _ i _ (unL_at n i hlt)
      generalize ur i = u at *
      clear hu
      go_wp2_with fail
      refine Calls.mono (HU.out _) ?_
      rintro e w2 ⟨rfl, hb2⟩
      have HB2 : Hid (Bk w2 w1.heap.size (rc (fil (unL n) i).flatten) 60) := HB.out.below hb2 hs
      have HW2 : Hid (Below w1.heap.size w1 w2) := HW.out.trans (hb2.mono (by omega))
      have hs2 : w1.heap.size < w2.heap.size := Nat.lt_of_lt_of_le hs hb2.size
      clear hb2 HB HW
      go_wp2_with (first
        | (refine wpList_put rfl 60 (.tmp 20) (.tmp 19) rfl w1.heap.size (i * 64) (rc (fil (unL n) i).flatten) (rc u) 60 rfl rfl HB2.out HIu (by rw [Nat.mul_comm i 64]; exact row_fits 64 _ (fil_wide _ (unL_wide n) i) i (by rw [fil_len _ _ (by rw [unL_len]; omega), unL_len]; exact hlt) _ HUL.out) (rc_one _) ?_; intro w3 hb3 hg3 hs3
           have HB3 : Hid (Bk w3 w1.heap.size (rc (fil (unL n) (i + 1)).flatten) 60) := by
             have h := hb3.out
             rw [Nat.mul_comm i 64, row_put 64 _ (fil_wide _ (unL_wide n) i) i (by rw [fil_len _ _ (by rw [unL_len]; omega), unL_len]; exact hlt) _ HUL.out, HN.out] at h
             exact h
           have HW3 : Hid (Below w1.heap.size w1 w3) := below_own HW2.out (by omega) hg3.out (Nat.le_refl _)
           clear hb3 hg3)
        | fail)
      go_roundw
      case rel => exact ⟨i + 1, by omega, by go_num, HB3.out, HW3.out, by omega⟩
      case measure => simp [intOf]; omega
    · have hin : i = n := by omega
      have HBe : Hid (Bk wr w1.heap.size (rc (unL n).flatten) 60) := by
        have h := HB.out
        have e := fil_all (unL n)
        rw [unL_len] at e
        rw [hin, e] at h
        exact h
      have htx := texts_any (unL n) w1.heap.size n 60 wr HBe.out (unL_wide n) (by rw [unL_len]; exact h2) h2
      rw [unL_len] at htx
      have HTX : Hid _ := htx
      clear htx hin
      go_wp2_with fail
      refine Calls.mono HTX.out ?_
      rintro e w7 ⟨rfl, hb7, hl7⟩
      have HB7 : Hid _ := hb7
      have HL7 : Hid _ := hl7
      clear hb7 hl7
      go_wp2
      go_ret2
      exact ⟨wr.heap.size, rfl, by omega, HB7.out, HW.out.trans (HL7.out.mono (by omega))⟩
theorem unitP_no (n : Int) (w : World) (h : ¬ (1 ≤ n ∧ n ≤ 64)) :
    Calls Try.prog 25 #[.int .i64 n] w fun e w' => e = .returned (.tuple #[.slice none 0 0, .int .i64 1]) ∧ w' = w := by
  have c1 := side_any n
  rw [show sdB n = false from decide_eq_false h] at c1
  have C1 : Hid _ := c1
  clear c1 h
  go_enter Try.func25, Try.ntmps25
  go_wp2_with fail
  refine Calls.mono (C1.out _) ?_
  rintro e w1 ⟨rfl, hw1⟩
  subst hw1
  go_wp2
  go_ret2
  exact ⟨rfl, rfl⟩
/-- A row of Cauchy's matrix of c columns. -/
def caV (i j : Nat) : UInt8 := inv (UInt8.ofNat (128 + i) ^^^ UInt8.ofNat j)
def caR (c i : Nat) : List UInt8 := (List.range 64).map fun j => if j < c then caV i j else 0
theorem caR_len (c i : Nat) : (caR c i).length = 64 := by simp [caR]
def caL (r c : Nat) : List (List UInt8) := (List.range r).map (caR c)
theorem caL_len (r c : Nat) : (caL r c).length = r := by simp [caL]
theorem caL_wide (r c : Nat) : ∀ x ∈ caL r c, x.length = 64 := by
  intro x hx
  obtain ⟨i, _, rfl⟩ := List.mem_map.1 hx
  exact caR_len c i
theorem caL_at (r c i : Nat) (h : i < r) : (caL r c)[i]? = some (caR c i) := by
  rw [caL, List.getElem?_map, List.getElem?_range h]; rfl
/-- Its first k numbers done. -/
theorem caR_next (k i : Nat) (h : k < 64) : (caR k i).set k (caV i k) = caR (k + 1) i := by
  apply List.ext_getElem?
  intro j
  rw [List.getElem?_set, caR_len]
  by_cases hj : j < 64
  · simp only [caR, List.getElem?_map, List.getElem?_range hj, Option.map_some]
    by_cases e : k = j
    · subst e; rw [if_pos rfl, if_pos hj, if_pos (by omega)]
    · rw [if_neg e]
      by_cases e2 : j < k
      · rw [if_pos e2, if_pos (by omega)]
      · rw [if_neg e2, if_neg (by omega)]
  · rw [List.getElem?_eq_none (by rw [caR_len]; omega), List.getElem?_eq_none (by rw [caR_len]; omega)]
    split
    · omega
    · rfl
theorem caR_zero (i : Nat) : caR 0 i = zr := by
  apply List.ext_getElem?
  intro j
  by_cases hj : j < 64
  · simp only [caR, List.getElem?_map, List.getElem?_range hj, Option.map_some, zr, List.getElem?_replicate, if_pos hj, Nat.not_lt_zero, if_false]
  · rw [List.getElem?_eq_none (by rw [caR_len]; omega), List.getElem?_eq_none (by rw [zr_len]; omega)]
/-- One byte of a row in the middle of a block. -/
theorem flat_byte (k : Nat) (L : List (List UInt8)) (h : ∀ r ∈ L, r.length = k) (i j : Nat) (r : List UInt8) (hr : L[i]? = some r) (hj : j < k) (x : UInt8) : (rc L.flatten).setIfInBounds (k * i + j) (.int .u8 (x.toNat : Int)) = rc (L.set i (r.set j x)).flatten := by
  have hi := (List.getElem?_eq_some_iff.1 hr).1
  have hrl := h r (List.mem_of_getElem? hr)
  have hfit := row_fits k L h i hi r hrl
  rw [rc_size, rc_size, hrl] at hfit
  rw [rc_set]
  congr 1
  rw [← flat_set k L h i hi (r.set j x) (by rw [List.length_set]; exact hrl)]
  apply List.ext_getElem?
  intro q
  rw [putB_get _ _ _ (by rw [List.length_set, hrl]; omega), List.getElem?_set, List.length_set, hrl]
  by_cases e : k * i ≤ q ∧ q < k * i + k
  · rw [if_pos e, List.getElem?_set, hrl]
    by_cases e2 : k * i + j = q
    · rw [if_pos e2, if_pos (by omega), if_pos (by omega), if_pos hj]
    · rw [if_neg e2, if_neg (by omega), ← flat_get k L h i r hr (q - k * i) (by omega), show k * i + (q - k * i) = q from by omega]
  · rw [if_neg e, if_neg (by omega)]
set_option maxHeartbeats 2000000 in
set_option maxRecDepth 100000 in
theorem cauchyP_yes (r c : Nat) (w : World) (h1 : 1 ≤ r) (h2 : r ≤ 64) (h3 : 1 ≤ c) (h4 : c ≤ 64) :
    Calls Try.prog 24 #[.int .i64 r, .int .i64 c] w fun e w' => ∃ g, e = .returned (.tuple #[.slice (some ⟨g, 0, none⟩) r r, .int .i64 0]) ∧ w.heap.size ≤ g ∧ Bk w' g (txc (txtL c (caL r c))) 9 ∧ Below w.heap.size w w' := by
  have c1 := side_any (r : Int)
  rw [show sdB (r : Int) = true from decide_eq_true (by omega)] at c1
  have c2 := side_any (c : Int)
  rw [show sdB (c : Int) = true from decide_eq_true (by omega)] at c2
  have C1 : Hid _ := c1
  have C2 : Hid _ := c2
  clear c1 c2
  have hmk := make_rows r h2
  go_enter Try.func24, Try.ntmps24
  go_wp2_with fail
  refine Calls.mono (C1.out _) ?_
  rintro e w1 ⟨rfl, hw1⟩
  subst hw1
  go_wp2_with fail
  refine Calls.mono (C2.out _) ?_
  rintro e w1 ⟨rfl, hw1⟩
  subst hw1
  go_wp2_with fail
  go_loopw [21] (fun v wr => ∃ i : Nat, i ≤ r ∧ v = .int .i64 i ∧ Hid (Bk wr w1.heap.size (rc (fil (caL r c) i).flatten) 60) ∧ Hid (Below w1.heap.size w1 wr) ∧ w1.heap.size < wr.heap.size) (fun v _ => r - (intOf v).toNat)
  case atStart => exact ⟨0, by omega, rfl, by show Bk _ _ _ _; rw [fil_zero, caL_len]; exact bk_new w1 _ _, (Below.refl _ _).alloc (Nat.le_refl _) _, by rw [al_size]; omega⟩
  case round =>
    obtain ⟨i, hi, rfl, HB, HW, hs⟩ := hrel
    by_cases hlt : i < r
    · have hiz : (i : Int) < (r : Nat) := by omega
      have HFA : Hid ((fil (caL r c) i)[i]? = some zr) := fil_at _ i (by rw [caL_len]; exact hlt)
      have HFW : Hid (∀ x ∈ fil (caL r c) i, x.length = 64) := fil_wide _ (caL_wide r c) i
      have HFL : Hid ((fil (caL r c) i).length = r) := by show (fil (caL r c) i).length = r; rw [fil_len _ _ (by rw [caL_len]; omega), caL_len]
      have HFN : Hid ((fil (caL r c) i).set i (caR c i) = fil (caL r c) (i + 1)) := fil_next _ i _ (caL_at r c i hlt)
      generalize fil (caL r c) i = X at *
      go_wp2
      go_loopw [25] (fun v wr => ∃ k : Nat, k ≤ c ∧ v = .int .i64 k ∧ Hid (Bk wr w1.heap.size (rc (X.set i (caR k i)).flatten) 60) ∧ Hid (Below w1.heap.size w1 wr) ∧ w1.heap.size < wr.heap.size) (fun v _ => c - (intOf v).toNat)
      case atStart => exact ⟨0, by omega, rfl, by show Bk _ _ _ _; rw [caR_zero, set_self _ _ _ HFA.out]; exact HB.out, HW.out, hs⟩
      case round =>
        clear HB HW hs
        obtain ⟨k, hk, rfl, HB, HW, hs⟩ := hrel
        by_cases hlk : k < c
        · have hkz : (k : Int) < (c : Nat) := by omega
          have hk64 : (k : Int) < 64 := by omega
          obtain ⟨x, hx⟩ : ∃ x, x = UInt8.ofNat (128 + i) := ⟨_, rfl⟩
          obtain ⟨y, hy⟩ : ∃ y, y = UInt8.ofNat k := ⟨_, rfl⟩
          have hxz : (128 : Int) + (i : Int) = (x.toNat : Int) := by rw [hx]; simp; omega
          have hyz : (k : Int) = (y.toNat : Int) := by rw [hy]; simp; omega
          have HV : Hid (inv (x ^^^ y) = caV i k) := by show inv (x ^^^ y) = _; rw [hx, hy]; rfl
          have hx8 := x.toNat_lt
          have hy8 := y.toNat_lt
          have HYZ : Hid ((k : Int) = (y.toNat : Int)) := hyz
          have hw1 : IntKind.i64.wrap (x.toNat : Int) = (x.toNat : Int) := by rw [IntKind.wrap_i64]; omega
          have hw2 : IntKind.u8.wrap (x.toNat : Int) = (x.toNat : Int) := by rw [IntKind.wrap_u8]; omega
          have hw3 : IntKind.u8.wrap (y.toNat : Int) = (y.toNat : Int) := by rw [IntKind.wrap_u8]; omega
          clear hx hy hyz
          obtain ⟨z, hz⟩ : ∃ z, inv (x ^^^ y) = z := ⟨_, rfl⟩
          have HZ : Hid (z = caV i k) := by show z = _; rw [← hz, HV.out]
          have hiv := inverse_any (x ^^^ y)
          rw [hz] at hiv
          have HIV : Hid _ := hiv
          clear hiv hz HV
          have hXi : (X.set i (caR k i))[i]? = some (caR k i) := by rw [List.getElem?_set, if_pos rfl, if_pos (by rw [HFL.out]; exact hlt)]
          have HXi : Hid ((X.set i (caR k i))[i]? = some (caR k i)) := hXi
          have HXW : Hid (∀ q ∈ X.set i (caR k i), q.length = 64) := set_wide 64 X HFW.out i _ (caR_len k i)
          obtain ⟨old, hold⟩ : ∃ old, (caR k i)[k]? = some old := ⟨_, List.getElem?_eq_getElem (by rw [caR_len]; omega)⟩
          have hcell : wr.cell? ⟨w1.heap.size, i * 64 + k, none⟩ = some (c8 old) := by
            rw [HB.out.cell, rc_get, Nat.mul_comm i 64, flat_get 64 _ HXW.out i _ hXi k (by omega), hold]; rfl
          have hfr := HB.out.frozen (i * 64 + k)
          have HNX : Hid (∀ nq, Bk ((wr.drewN nq).setCell ⟨w1.heap.size, i * 64 + k, none⟩ (c8 z)) w1.heap.size (rc (X.set i (caR (k + 1) i)).flatten) 60) := by
            intro nq
            have h := (HB.out.drewN nq).set (i * 64 + k) (c8 z)
            rw [Nat.mul_comm i 64, flat_byte 64 _ HXW.out i k _ HXi.out (by omega) z, HZ.out, caR_next k i (by omega), set_set] at h
            rw [Nat.mul_comm i 64, HZ.out]
            exact h
          clear hXi hold
          go_wp2
          refine wp_region_tail (fun W => ∃ n, W = wr.drewN n) 11 (by kernel_rfl) (by kernel_rfl) ⟨1, rfl⟩ ?_
          simp only [List.take_succ_cons, List.take_zero, List.drop_succ_cons, List.drop_zero]
          iterate 4 (go_big_quiet_step (fail))
          go_big_quiet_want
          refine quiet_val (.int .i64 (x.toNat : Int)) ?_ ?_
          · intro W hW; go_simp; done
          go_big_quiet_on; simp only [Act.put, List.setIfInBounds_toArray, List.set_cons_zero, List.set_cons_succ]
          go_big_quiet_want
          refine quiet_val (c8 x) ?_ ?_
          · intro W hW; go_simp; done
          go_big_quiet_on; simp only [Act.put, List.setIfInBounds_toArray, List.set_cons_zero, List.set_cons_succ]
          go_big_quiet_step (fail)
          go_big_quiet_want
          refine quiet_val (c8 y) ?_ ?_
          · intro W hW; have hyz := HYZ.out; go_simp; done
          go_big_quiet_on; simp only [Act.put, List.setIfInBounds_toArray, List.set_cons_zero, List.set_cons_succ]
          go_big_quiet_want
          refine quiet_call (c8 (x ^^^ y)) 30 #[c8 x, c8 y] ?_ ?_ ?_
          · intro W hW; go_simp; done
          · intro W hW; exact (plus_any x y W).mono (fun _ _ h => ⟨h.1, by rw [h.2]; exact hW⟩)
          go_big_quiet_on; simp only [Act.put, List.setIfInBounds_toArray, List.set_cons_zero, List.set_cons_succ]
          go_big_quiet_want
          refine quiet_call (c8 z) 32 #[c8 (x ^^^ y)] ?_ ?_ ?_
          · intro W hW; go_simp; done
          · intro W hW; exact (HIV.out W).mono (fun _ _ h => ⟨h.1, by rw [h.2]; exact hW⟩)
          go_big_quiet_on; simp only [Act.put, List.setIfInBounds_toArray, List.set_cons_zero, List.set_cons_succ]
          go_big_quiet_want
          refine quiet_val (.pointer (some ⟨w1.heap.size, i * 64, none⟩)) ?_ ?_
          · intro W hW; go_simp; done
          go_big_quiet_on; simp only [Act.put, List.setIfInBounds_toArray, List.set_cons_zero, List.set_cons_succ]
          refine wpQuiet_nil ?_
          intro w9 hw9
          obtain ⟨nq, rfl⟩ := hw9
          go_wp2
          go_roundw
          case rel => exact ⟨k + 1, by omega, by go_num, HNX.out nq, below_own (below_drewN HW.out nq) (by have := HW.out.size; simpa using this) (Lib.grownBy_setB (World.grownBy.refl _ _) _ _) (Nat.le_refl _), by simpa [World.setCell] using hs⟩
          case measure => simp [intOf]; omega
        · have hkc : k = c := by omega
          have HBe : Hid (Bk wr w1.heap.size (rc (fil (caL r c) (i + 1)).flatten) 60) := by
            have h := HB.out
            rw [hkc, HFN.out] at h
            exact h
          clear hkc
          go_wp2
          go_roundw
          case rel => exact ⟨i + 1, by omega, by go_num, HBe.out, HW.out, hs⟩
          case measure => simp [intOf]; omega
    · have hin : i = r := by omega
      have HBe : Hid (Bk wr w1.heap.size (rc (caL r c).flatten) 60) := by
        have h := HB.out
        have e := fil_all (caL r c)
        rw [caL_len] at e
        rw [hin, e] at h
        exact h
      have htx := texts_any (caL r c) w1.heap.size c 60 wr HBe.out (caL_wide r c) (by rw [caL_len]; exact h2) h4
      rw [caL_len] at htx
      have HTX : Hid _ := htx
      clear htx hin
      go_wp2_with fail
      refine Calls.mono HTX.out ?_
      rintro e w7 ⟨rfl, hb7, hl7⟩
      have HB7 : Hid _ := hb7
      have HL7 : Hid _ := hl7
      clear hb7 hl7
      go_wp2
      go_ret2
      exact ⟨wr.heap.size, rfl, by omega, HB7.out, HW.out.trans (HL7.out.mono (by omega))⟩
set_option maxHeartbeats 1000000 in
theorem cauchyP_no (r c : Int) (w : World) (h : ¬ ((1 ≤ r ∧ r ≤ 64) ∧ (1 ≤ c ∧ c ≤ 64))) :
    Calls Try.prog 24 #[.int .i64 r, .int .i64 c] w fun e w' => e = .returned (.tuple #[.slice none 0 0, .int .i64 1]) ∧ w' = w := by
  by_cases hr : 1 ≤ r ∧ r ≤ 64
  · have c1 := side_any r
    rw [show sdB r = true from decide_eq_true hr] at c1
    have c2 := side_any c
    rw [show sdB c = false from decide_eq_false (fun e => h ⟨hr, e⟩)] at c2
    have C1 : Hid _ := c1
    have C2 : Hid _ := c2
    clear c1 c2 h hr
    go_enter Try.func24, Try.ntmps24
    go_wp2_with fail
    refine Calls.mono (C1.out _) ?_
    rintro e w1 ⟨rfl, hw1⟩
    subst hw1
    go_wp2_with fail
    refine Calls.mono (C2.out _) ?_
    rintro e w1 ⟨rfl, hw1⟩
    subst hw1
    go_wp2
    go_ret2
    exact ⟨rfl, rfl⟩
  · have c1 := side_any r
    rw [show sdB r = false from decide_eq_false hr] at c1
    have C1 : Hid _ := c1
    clear c1 h hr
    go_enter Try.func24, Try.ntmps24
    go_wp2_with fail
    refine Calls.mono (C1.out _) ?_
    rintro e w1 ⟨rfl, hw1⟩
    subst hw1
    go_wp2
    go_ret2
    exact ⟨rfl, rfl⟩
end Go.Proofs.Ytecpcocnoengiaa
/- field.Unit and field.Cauchy at any sizes. -/
namespace Go.Proofs.Ytecpcocnoengiaa
open Go.RowKit
set_option linter.unusedSimpArgs false
set_option linter.unusedVariables false
/-- The texts of a unit, of Cauchy's matrix; the errors. -/
def unX (n : Int) : List ByteArray := if 1 ≤ n ∧ n ≤ 64 then txtL n.toNat (unL n.toNat) else []
def unE (n : Int) : Nat := if 1 ≤ n ∧ n ≤ 64 then 0 else 1
def caX (r c : Int) : List ByteArray := if (1 ≤ r ∧ r ≤ 64) ∧ (1 ≤ c ∧ c ≤ 64) then txtL c.toNat (caL r.toNat c.toNat) else []
def caE (r c : Int) : Nat := if (1 ≤ r ∧ r ≤ 64) ∧ (1 ≤ c ∧ c ≤ 64) then 0 else 1
theorem unX_len (n : Int) : (unX n).length ≤ 64 := by
  unfold unX
  split
  · rw [txtL_len, unL_len]; omega
  · simp
theorem caX_len (r c : Int) : (caX r c).length ≤ 64 := by
  unfold caX
  split
  · rw [txtL_len, caL_len]; omega
  · simp
theorem fu_any (n : Int) (w : World) :
    Calls Try.prog 25 #[.int .i64 n] w fun e w' => ∃ ao, e = .returned (.tuple #[.slice ao (unX n).length (unX n).length, .int .i64 (unE n)]) ∧ Mad w ao (unX n) w' ∧ Below w.heap.size w w' := by
  by_cases h : 1 ≤ n ∧ n ≤ 64
  · obtain ⟨m, rfl⟩ : ∃ m : Nat, n = m := ⟨n.toNat, by omega⟩
    have e1 : unX (m : Int) = txtL m (unL m) := by unfold unX; rw [if_pos h, Int.toNat_natCast]
    have e2 : unE (m : Int) = 0 := if_pos h
    rw [e1, e2, txtL_len, unL_len]
    refine (unitP_yes m w (by omega) (by omega)).mono ?_
    rintro e w' ⟨g, rfl, hg, hB, hb⟩
    exact ⟨_, rfl, .inr ⟨g, rfl, hg, hB⟩, hb⟩
  · have e1 : unX n = [] := if_neg h
    have e2 : unE n = 1 := if_neg h
    rw [e1, e2]
    refine (unitP_no n w h).mono ?_
    rintro e w' ⟨rfl, rfl⟩
    exact ⟨none, rfl, .inl ⟨rfl, rfl⟩, Below.refl _ _⟩
theorem fc_any (r c : Int) (w : World) :
    Calls Try.prog 24 #[.int .i64 r, .int .i64 c] w fun e w' => ∃ ao, e = .returned (.tuple #[.slice ao (caX r c).length (caX r c).length, .int .i64 (caE r c)]) ∧ Mad w ao (caX r c) w' ∧ Below w.heap.size w w' := by
  by_cases h : (1 ≤ r ∧ r ≤ 64) ∧ (1 ≤ c ∧ c ≤ 64)
  · obtain ⟨m, rfl⟩ : ∃ m : Nat, r = m := ⟨r.toNat, by omega⟩
    obtain ⟨k, rfl⟩ : ∃ k : Nat, c = k := ⟨c.toNat, by omega⟩
    have e1 : caX (m : Int) (k : Int) = txtL k (caL m k) := by unfold caX; rw [if_pos h, Int.toNat_natCast, Int.toNat_natCast]
    have e2 : caE (m : Int) (k : Int) = 0 := if_pos h
    rw [e1, e2, txtL_len, caL_len]
    refine (cauchyP_yes m k w (by omega) (by omega) (by omega) (by omega)).mono ?_
    rintro e w' ⟨g, rfl, hg, hB, hb⟩
    exact ⟨_, rfl, .inr ⟨g, rfl, hg, hB⟩, hb⟩
  · have e1 : caX r c = [] := if_neg h
    have e2 : caE r c = 1 := if_neg h
    rw [e1, e2]
    refine (cauchyP_no r c w h).mono ?_
    rintro e w' ⟨rfl, rfl⟩
    exact ⟨none, rfl, .inl ⟨rfl, rfl⟩, Below.refl _ _⟩
end Go.Proofs.Ytecpcocnoengiaa
/- Parity: shards.parityRows, shards.Encode and the document's Encode. -/
namespace Go.Proofs.Ytecpcocnoengiaa
open Go.RowKit
set_option linter.unusedSimpArgs false
set_option linter.unusedVariables false
/-- The rows of the parity. -/
def cyX (m k : Nat) : List ByteArray := caX (m : Int) (k : Int)
theorem cyX_zero (k : Nat) : cyX 0 k = [] := by unfold cyX caX; rw [if_neg (by omega)]
theorem cyX_yes (m k : Nat) (h1 : 1 ≤ m) (h2 : m ≤ 64) (h3 : 1 ≤ k) (h4 : k ≤ 64) : cyX m k = txtL k (caL m k) := by
  unfold cyX caX
  rw [if_pos (by omega), Int.toNat_natCast, Int.toNat_natCast]
theorem cyX_len (m k : Nat) (h2 : m ≤ 64) (h3 : 1 ≤ k) (h4 : k ≤ 64) : (cyX m k).length = m := by
  by_cases h : 1 ≤ m
  · rw [cyX_yes m k h h2 h3 h4, txtL_len, caL_len]
  · obtain rfl : m = 0 := by omega
    rw [cyX_zero]; rfl
theorem cyX_size (m k : Nat) (h2 : m ≤ 64) (h3 : 1 ≤ k) (h4 : k ≤ 64) : ∀ r ∈ cyX m k, r.size = k := by
  intro r hr
  by_cases h : 1 ≤ m
  · rw [cyX_yes m k h h2 h3 h4, txtL, List.mem_map] at hr
    obtain ⟨l, hl, rfl⟩ := hr
    rw [mkT_size, List.length_take, caL_wide m k l hl]
    omega
  · obtain rfl : m = 0 := by omega
    rw [cyX_zero] at hr
    cases hr
theorem parity_any (m k : Nat) (w : World) (h2 : m ≤ 64) (h3 : 1 ≤ k) (h4 : k ≤ 64) :
    Calls Try.prog 16 #[.int .i64 m, .int .i64 k] w fun e w' => ∃ ao, e = .returned (.slice ao m m) ∧ Mad w ao (cyX m k) w' ∧ Below w.heap.size w w' := by
  by_cases h : 1 ≤ m
  · have hc := fc_any (m : Int) (k : Int)
    have e1 : (caX (m : Int) (k : Int)).length = m := cyX_len m k h2 h3 h4
    have e2 : caE (m : Int) (k : Int) = 0 := by unfold caE; rw [if_pos (by omega)]
    rw [e1, e2] at hc
    have C : Hid _ := hc
    clear hc e1 e2
    have hmz : ((m : Int) == 0) = false := by rw [beq_eq_false_iff_ne]; omega
    go_enter Try.func16, Try.ntmps16
    go_wp2_with fail
    refine Calls.mono (C.out _) ?_
    rintro e w1 ⟨ao, rfl, hA, hb⟩
    have HA : Hid (Mad w ao (cyX m k) w1) := hA
    have HB : Hid (Below w.heap.size w w1) := hb
    clear hA hb
    go_wp2
    go_ret
    exact ⟨ao, rfl, HA.out, HB.out⟩
  · obtain rfl : m = 0 := by omega
    go_enter Try.func16, Try.ntmps16
    go_wp2
    go_ret
    exact ⟨none, rfl, .inl ⟨rfl, by rw [cyX_zero]; rfl⟩, Below.refl _ _⟩
/-- May parity be made? What it is; the errors. -/
def enOk (xs : List ByteArray) (m : Int) : Prop := (1 ≤ xs.length ∧ xs.length ≤ 32) ∧ evn xs = true ∧ 0 ≤ m ∧ m ≤ 64 - (xs.length : Int)
instance (xs : List ByteArray) (m : Int) : Decidable (enOk xs m) := by unfold enOk; infer_instance
def enX (xs : List ByteArray) (m : Int) : List ByteArray := if enOk xs m then mixL (cyX m.toNat xs.length) xs (wid xs) else []
def enE (xs : List ByteArray) (m : Int) : Nat := if enOk xs m then 0 else 1
theorem enX_len (xs : List ByteArray) (m : Int) : (enX xs m).length ≤ 64 := by
  unfold enX
  split
  · rename_i h
    obtain ⟨h1, h2, h3, h4⟩ := h
    rw [mixL_len, cyX_len _ _ (by omega) (by omega) (by omega)]
    omega
  · simp
theorem wid_of {xs : List ByteArray} (h : 1 ≤ xs.length) (d : Nat) (hs : ∀ x ∈ xs, x.size ≤ d) : wid xs ≤ d := by
  have : xs[0]? = some xs[0] := List.getElem?_eq_getElem (by omega)
  rw [wid, this]
  exact hs _ (List.getElem_mem (by omega))
set_option maxHeartbeats 1000000 in
set_option maxRecDepth 100000 in
theorem encode_any (a : Option Addr) (c n : Nat) (xs : List ByteArray) (m : Int) (w : World) (hx : TxL w a xs) (nx : xs.length = n) (ln : n ≤ 4611686018427387904) (sx : ∀ x ∈ xs, x.size ≤ 281474976710656) (m1 : -9223372036854775808 ≤ m) (m2 : m ≤ 9223372036854775807) :
    Calls Try.prog 7 #[.slice a n c, .int .i64 m] w fun e w' => ∃ ao, e = .returned (.tuple #[.slice ao (enX xs m).length (enX xs m).length, .int .i64 (enE xs m)]) ∧ Mad w ao (enX xs m) w' ∧ Below w.heap.size w w' := by
  have hh := hold_any (n : Int)
  have he := fun W hW => even_any a c xs W hW (by omega)
  rw [nx] at he
  have HX : Hid (TxL w a xs) := hx
  by_cases h1 : 1 ≤ n ∧ n ≤ 32
  · rw [hlB, decide_eq_true (by omega)] at hh
    have C1 : Hid _ := hh
    clear hh
    by_cases h2 : evn xs = true
    · rw [h2] at he
      have C2 : Hid _ := he
      clear he
      by_cases h3 : 0 ≤ m
      · by_cases h4 : m ≤ 64 - (n : Int)
        · have hok : enOk xs m := ⟨by omega, h2, h3, by omega⟩
          obtain ⟨k, rfl⟩ : ∃ k : Nat, m = k := ⟨m.toNat, by omega⟩
          have e1 : enX xs (k : Int) = mixL (cyX k n) xs (wid xs) := by unfold enX; rw [if_pos hok, Int.toNat_natCast, nx]
          have e2 : enE xs (k : Int) = 0 := if_pos hok
          have hl := cyX_len k n (by omega) (by omega) (by omega)
          have hc3 := fun W => parity_any k n W (by omega) (by omega) (by omega)
          have hc4 := fun ao ca W hW hV => mixed_any ao a ca c k n (wid xs) (cyX k n) xs W hW hV hl nx (by omega) (by omega) (by omega) (cyX_size k n (by omega) (by omega) (by omega)) (evn_all xs h2) (wid_of (by omega) _ sx)
          rw [e1, e2, mixL_len, hl]
          have C3 : Hid _ := hc3
          have C4 : Hid _ := hc4
          clear hc3 hc4 hl e1 e2 hok h2 nx hx sx
          go_enter Try.func7, Try.ntmps7
          go_wp2_with fail
          refine Calls.mono (C1.out _) ?_
          rintro e w1 ⟨rfl, hw⟩
          subst hw
          go_wp2_with fail
          refine Calls.mono (C2.out _ HX.out) ?_
          rintro e w2 ⟨rfl, hb2⟩
          have B2 : Hid (Below w1.heap.size w1 w2) := hb2
          clear hb2
          go_wp2_with fail
          refine Calls.mono (C3.out _) ?_
          rintro e w3 ⟨ao, rfl, hM, hb3⟩
          have HM : Hid (Mad w2 ao (cyX k n) w3) := hM
          have B3 : Hid (Below w1.heap.size w1 w3) := B2.out.trans (hb3.mono B2.out.size)
          clear hM hb3
          go_wp2_with fail
          refine Calls.mono (C4.out _ _ _ HM.out.txl (HX.out.below B3.out)) ?_
          rintro e w4 ⟨q, rfl, hM, hb4⟩
          have HM4 : Hid (Mad w1 q (mixL (cyX k n) xs (wid xs)) w4) := by
            rcases hM with h | ⟨g, h1, h2, h3⟩
            · exact .inl h
            · exact .inr ⟨g, h1, Nat.le_trans B3.out.size h2, h3⟩
          have B4 : Hid (Below w1.heap.size w1 w4) := B3.out.trans (hb4.mono B3.out.size)
          clear hM hb4
          go_wp2
          go_ret2
          exact ⟨q, rfl, HM4.out, B4.out⟩
        · have h4z : m > 64 - (n : Int) := by omega
          have e1 : enX xs m = [] := if_neg (fun h => h4 (by have := h.2.2.2; omega))
          have e2 : enE xs m = 1 := if_neg (fun h => h4 (by have := h.2.2.2; omega))
          rw [e1, e2]
          clear e1 e2 nx hx sx h2
          go_enter Try.func7, Try.ntmps7
          go_wp2_with fail
          refine Calls.mono (C1.out _) ?_
          rintro e w1 ⟨rfl, hw⟩
          subst hw
          go_wp2_with fail
          refine Calls.mono (C2.out _ HX.out) ?_
          rintro e w2 ⟨rfl, hb2⟩
          have B2 : Hid (Below w1.heap.size w1 w2) := hb2
          clear hb2
          go_wp2
          go_ret2
          exact ⟨none, rfl, .inl ⟨rfl, rfl⟩, B2.out⟩
      · have h3z : m < 0 := by omega
        have e1 : enX xs m = [] := if_neg (fun h => h3 h.2.2.1)
        have e2 : enE xs m = 1 := if_neg (fun h => h3 h.2.2.1)
        rw [e1, e2]
        clear e1 e2 nx hx sx h2
        go_enter Try.func7, Try.ntmps7
        go_wp2_with fail
        refine Calls.mono (C1.out _) ?_
        rintro e w1 ⟨rfl, hw⟩
        subst hw
        go_wp2_with fail
        refine Calls.mono (C2.out _ HX.out) ?_
        rintro e w2 ⟨rfl, hb2⟩
        have B2 : Hid (Below w1.heap.size w1 w2) := hb2
        clear hb2
        go_wp2
        go_ret2
        exact ⟨none, rfl, .inl ⟨rfl, rfl⟩, B2.out⟩
    · have h2z : evn xs = false := by simpa using h2
      rw [h2z] at he
      have C2 : Hid _ := he
      clear he
      have e1 : enX xs m = [] := if_neg (fun h => h2 h.2.1)
      have e2 : enE xs m = 1 := if_neg (fun h => h2 h.2.1)
      rw [e1, e2]
      clear e1 e2 nx hx sx h2 h2z
      go_enter Try.func7, Try.ntmps7
      go_wp2_with fail
      refine Calls.mono (C1.out _) ?_
      rintro e w1 ⟨rfl, hw⟩
      subst hw
      go_wp2_with fail
      refine Calls.mono (C2.out _ HX.out) ?_
      rintro e w2 ⟨rfl, hb2⟩
      have B2 : Hid (Below w1.heap.size w1 w2) := hb2
      clear hb2
      go_wp2
      go_ret2
      exact ⟨none, rfl, .inl ⟨rfl, rfl⟩, B2.out⟩
  · rw [hlB, decide_eq_false (by omega)] at hh
    have C1 : Hid _ := hh
    clear hh he
    have e1 : enX xs m = [] := if_neg (fun h => h1 (by have := h.1; omega))
    have e2 : enE xs m = 1 := if_neg (fun h => h1 (by have := h.1; omega))
    rw [e1, e2]
    clear e1 e2 nx hx sx h1
    go_enter Try.func7, Try.ntmps7
    go_wp2_with fail
    refine Calls.mono (C1.out _) ?_
    rintro e w1 ⟨rfl, hw⟩
    subst hw
    go_wp2
    go_ret2
    exact ⟨none, rfl, .inl ⟨rfl, rfl⟩, Below.refl _ _⟩
end Go.Proofs.Ytecpcocnoengiaa
