import Derived.Test.YtpfknjnigcefgaaGreatDoorY8
import Derived.Sort.Grow
import Derived.Deep.Draws
import Derived.BigCall
import Derived.BigRegion
import Derived.RegionTactic
import Derived.Deep.RegionHeld3
/- idx.mayBeIndexed, digest.Less and idx.order with what they leave behind. -/
namespace Go.Proofs.YtpfknjnigcefgaaGreatDoor
open Go.RowKit
set_option linter.unusedSimpArgs false
set_option linter.unusedVariables false
theorem okX_eq (e : Xe) (r : Bool) (h : r = true ↔ (1 ≤ (e.k.toNat : Int) ∧ (e.k.toNat : Int) ≤ 5 ∧ 4 ≤ e.off ∧ e.off ≤ 67108864 ∧ 0 ≤ e.sz ∧ e.sz ≤ 2097152)) : r = okX e := by
  rw [Bool.eq_iff_iff, h, okX_iff]
  omega
theorem retBX {a b : Bool} (h : a = b) : Ending.returned (.bool a) = .returned (.bool b) := by rw [h]
set_option maxHeartbeats 4000000 in
set_option maxRecDepth 100000 in
theorem maybe_any (e : Xe) (w : World) (h : e.id.size = 32) : Calls Tryz.prog 24 #[.agg (xeC e)] w fun r w' => r = .returned (.bool (okX e)) ∧ w' = w.alloc (.cells (xeC e) 34) := by
  obtain ⟨c1, c2, c3⟩ := xeC_at e h
  have hb := bk_new w (xeC e) 34
  have k1 : (w.alloc (.cells (xeC e) 34)).cell? ⟨w.heap.size, 32, none⟩ = some (.int .u8 (e.k.toNat : Int)) := by rw [hb.cell]; exact c1
  have k2 : (w.alloc (.cells (xeC e) 34)).cell? ⟨w.heap.size, 33, none⟩ = some (.int .i64 e.off) := by rw [hb.cell]; exact c2
  have k3 : (w.alloc (.cells (xeC e) 34)).cell? ⟨w.heap.size, 34, none⟩ = some (.int .i64 e.sz) := by rw [hb.cell]; exact c3
  clear hb c1 c2 c3
  have HE := okX_eq e
  obtain ⟨r, hr⟩ : ∃ r, okX e = r := ⟨_, rfl⟩
  rw [hr] at HE ⊢
  obtain ⟨C, hC⟩ : ∃ C, xeC e = C := ⟨_, rfl⟩
  rw [hC] at k1 k2 k3 ⊢
  obtain ⟨ei, ek, eo, ez⟩ := e
  simp only at k1 k2 k3 HE
  obtain ⟨K, hK⟩ : ∃ K : Int, (ek.toNat : Int) = K := ⟨_, rfl⟩
  rw [hK] at k1 HE
  have HH : Hid (∀ (q : Bool), (q = true ↔ 1 ≤ K ∧ K ≤ 5 ∧ 4 ≤ eo ∧ eo ≤ 67108864 ∧ 0 ≤ ez ∧ ez ≤ 2097152) → q = r) := HE
  clear HE hr hC h hK
  by_cases g1 : 1 ≤ K
  · by_cases g2 : K ≤ 5
    · by_cases g3 : 4 ≤ eo
      · by_cases g4 : eo ≤ 67108864
        · by_cases g5 : 0 ≤ ez
          · go_enter Tryz.func24, Tryz.ntmps24
            go_wp2
            go_ret
            exact ⟨retBX (HH.out _ (by simp [g1, g2, g3, g4, g5] <;> omega)), rfl⟩
          · go_enter Tryz.func24, Tryz.ntmps24
            go_wp2
            go_ret
            exact ⟨retBX (HH.out _ (by simp [g1, g2, g3, g4, g5] <;> omega)), rfl⟩
        · go_enter Tryz.func24, Tryz.ntmps24
          go_wp2
          go_ret
          exact ⟨retBX (HH.out _ (by simp [g1, g2, g3, g4] <;> omega)), rfl⟩
      · go_enter Tryz.func24, Tryz.ntmps24
        go_wp2
        go_ret
        exact ⟨retBX (HH.out _ (by simp [g1, g2, g3] <;> omega)), rfl⟩
    · go_enter Tryz.func24, Tryz.ntmps24
      go_wp2
      go_ret
      exact ⟨retBX (HH.out _ (by simp [g1, g2] <;> omega)), rfl⟩
  · go_enter Tryz.func24, Tryz.ntmps24
    go_wp2
    go_ret
    exact ⟨retBX (HH.out _ (by simp [g1] <;> omega)), rfl⟩
set_option maxHeartbeats 400000 in
set_option maxRecDepth 100000 in
/-- digest.Less, with what it leaves behind. -/
theorem less_grow (a b : ByteArray) (w : World) (ha : a.size = 32) (hb : b.size = 32) :
    Calls Tryz.prog 59 #[.agg (idc a), .agg (idc b)] w fun e w' => e = .returned (.bool (ltN a b)) ∧ ∃ q os, w' = Sort.grow (w.drewN q) os := by
  have h1 := slice32 w.heap.size
  have h2 := slice32 (w.heap.size + 1)
  go_enter Tryz.func59, Tryz.ntmps59
  go_wp2
  have hA : Blk ((w.alloc (.cells (idc a) 23)).alloc (.cells (idc b) 23)) w.heap.size (idc a) 23 := Blk.grown (blk_new w _) (World.grownBy_alloc _ _ none) (by simp)
  have hB : Blk ((w.alloc (.cells (idc a) 23)).alloc (.cells (idc b) 23)) (w.heap.size + 1) (idc b) 23 := by
    have e := blk_new (w.alloc (.cells (idc a) 23)) (.cells (idc b) 23)
    rwa [alloc_size] at e
  have HAB : Hid (Blk ((w.alloc (.cells (idc a) 23)).alloc (.cells (idc b) 23)) w.heap.size (idc a) 23 ∧ Blk ((w.alloc (.cells (idc a) 23)).alloc (.cells (idc b) 23)) (w.heap.size + 1) (idc b) 23) := ⟨hA, hB⟩
  clear hA hB
  go_quiet ((go_at_call 101; exact Calls.quiet_of_same (bcompare_any a b _ _ 23 23 _ ha hb (HAB.out.1.drewN _) (HAB.out.2.drewN _))))
  go_wp2
  go_ret
  refine ⟨rfl, nq, #[.cells (idc a) 23, .cells (idc b) 23], ?_⟩
  rw [Sort.alloc_eq_grow, Sort.alloc_eq_grow, Sort.grow_grow]
  rfl
/-- What order says. -/
def ordI (a b : Xe) : Int := if a.id = b.id then 0 else if ltN a.id b.id = true then -1 else 1
theorem grow_below (w : World) (q : Nat) (os : Array Obj) : Below w.heap.size w (Sort.grow (w.drewN q) os) := by
  refine ⟨rfl, rfl, rfl, ?_, fun i hi => ?_⟩
  · show w.heap.size ≤ (w.heap ++ os).size
    rw [Array.size_append]; omega
  · show (w.heap ++ os)[i]? = _
    rw [Array.getElem?_append_left hi]
theorem retIX {a b : Int} (h : a = b) : Ending.returned (.int .i64 a) = .returned (.int .i64 b) := by rw [h]
set_option maxHeartbeats 4000000 in
set_option maxRecDepth 100000 in
theorem order_any (a b : Xe) (w : World) (ha : a.id.size = 32) (hb : b.id.size = 32) :
    Calls Tryz.prog 27 #[.agg (xeC a), .agg (xeC b)] w fun e w' => e = .returned (.int .i64 (ordI a b)) ∧ ∃ q os, w' = Sort.grow (w.drewN q) os := by
  have HE : Hid (∀ u, (binOp .eql 23 (.agg (idc a.id)) (.agg (idc b.id))).run Tryz.prog u = .ok (.bool (decide (a.id = b.id))) u) := eql_ids a.id b.id ha hb
  have HL : Hid (∀ u, Calls Tryz.prog 59 #[.agg (idc a.id), .agg (idc b.id)] u fun e w' => e = .returned (.bool (ltN a.id b.id)) ∧ ∃ q os, w' = Sort.grow (u.drewN q) os) := fun u => less_grow a.id b.id u ha hb
  have HI : Hid ((Tryz.prog.info? 23).map (·.size) = some (idc a.id).size ∧ (Tryz.prog.info? 23).map (·.size) = some (idc b.id).size) := ⟨info_32 (by rw [idc_size, ha]), info_32 (by rw [idc_size, hb])⟩
  obtain ⟨A, hA⟩ : ∃ A, idc a.id = A := ⟨_, rfl⟩
  obtain ⟨B, hB⟩ : ∃ B, idc b.id = B := ⟨_, rfl⟩
  have HCA : Hid (∀ j v, A[j]? = some v → (xeC a)[0 + j]? = some v) := fun j v hv => xeC_id a ha j v (by rw [hA]; exact hv)
  have HCB : Hid (∀ j v, B[j]? = some v → (xeC b)[0 + j]? = some v) := fun j v hv => xeC_id b hb j v (by rw [hB]; exact hv)
  rw [hA, hB] at HE HL HI
  obtain ⟨O, hO⟩ : ∃ O, ordI a b = O := ⟨_, rfl⟩
  rw [hO]
  obtain ⟨D, hD⟩ : ∃ D, decide (a.id = b.id) = D := ⟨_, rfl⟩
  obtain ⟨L, hL⟩ : ∃ L, ltN a.id b.id = L := ⟨_, rfl⟩
  have HOO : Hid (O = if D = true then 0 else if L = true then -1 else 1) := by
    show O = _
    rw [← hO, ← hD, ← hL, ordI]
    by_cases h : a.id = b.id <;> simp [h]
  rw [hD] at HE
  rw [hL] at HL
  obtain ⟨XA, hXA⟩ : ∃ X, xeC a = X := ⟨_, rfl⟩
  obtain ⟨XB, hXB⟩ : ∃ X, xeC b = X := ⟨_, rfl⟩
  rw [hXA] at HCA ⊢
  rw [hXB] at HCB ⊢
  clear hA hB hO hD hL hXA hXB ha hb a b
  have b1 := (bk_new w XA 34).alloc (.cells XB 34)
  have b2 := bk_new (w.alloc (.cells XA 34)) XB 34
  rw [al_size] at b2
  have HB1 : Hid (Bk ((w.alloc (.cells XA 34)).alloc (.cells XB 34)) w.heap.size XA 34) := b1
  have HB2 : Hid (Bk ((w.alloc (.cells XA 34)).alloc (.cells XB 34)) (w.heap.size + 1) XB 34) := b2
  have HW0 : Hid (∃ os, (w.alloc (.cells XA 34)).alloc (.cells XB 34) = Sort.grow w os) := ⟨_, by rw [Sort.alloc_eq_grow, Sort.alloc_eq_grow, Sort.grow_grow]⟩
  have hE := HE.out
  clear b1 b2 HE
  have arm1 := Tryz.underlying23
  cases D with
  | true =>
    have hO : O = 0 := HOO.out
    subst hO
    go_enter Tryz.func27, Tryz.ntmps27
    go_wp2_with (first
      | (refine wpList_get rfl 23 (.tmp 6) rfl w.heap.size 0 XA A 34 _ rfl HB1.out HCA.out arm1 rfl HI.out.1 ?_)
      | (refine wpList_get rfl 23 (.tmp 8) rfl (w.heap.size + 1) 0 XB B 34 _ rfl HB2.out HCB.out arm1 rfl HI.out.2 ?_))
    go_ret
    obtain ⟨os, h⟩ := HW0.out
    rw [h]
    exact ⟨rfl, 0, os, rfl⟩
  | false =>
    have hO' : O = if L = true then -1 else 1 := HOO.out
    cases L with
    | true =>
      have hO : O = -1 := hO'
      subst hO
      go_enter Tryz.func27, Tryz.ntmps27
      go_wp2_with (first
        | (go_at_call 59; refine (HL.out _).mono ?_; rintro e w1 ⟨rfl, q, os, rfl⟩)
        | (refine wpList_get rfl 23 (.tmp 6) rfl w.heap.size 0 XA A 34 _ rfl HB1.out HCA.out arm1 rfl HI.out.1 ?_)
        | (refine wpList_get rfl 23 (.tmp 8) rfl (w.heap.size + 1) 0 XB B 34 _ rfl HB2.out HCB.out arm1 rfl HI.out.2 ?_)
        | (refine wpList_get rfl 23 (.tmp 12) rfl w.heap.size 0 XA A 34 _ rfl HB1.out HCA.out arm1 rfl HI.out.1 ?_)
        | (refine wpList_get rfl 23 (.tmp 14) rfl (w.heap.size + 1) 0 XB B 34 _ rfl HB2.out HCB.out arm1 rfl HI.out.2 ?_))
      go_ret
      obtain ⟨os0, h⟩ := HW0.out
      rw [h]
      exact ⟨rfl, q, os0 ++ os, by rw [← Sort.grow_grow]; rfl⟩
    | false =>
      have hO : O = 1 := hO'
      subst hO
      go_enter Tryz.func27, Tryz.ntmps27
      go_wp2_with (first
        | (go_at_call 59; refine (HL.out _).mono ?_; rintro e w1 ⟨rfl, q, os, rfl⟩)
        | (refine wpList_get rfl 23 (.tmp 6) rfl w.heap.size 0 XA A 34 _ rfl HB1.out HCA.out arm1 rfl HI.out.1 ?_)
        | (refine wpList_get rfl 23 (.tmp 8) rfl (w.heap.size + 1) 0 XB B 34 _ rfl HB2.out HCB.out arm1 rfl HI.out.2 ?_)
        | (refine wpList_get rfl 23 (.tmp 12) rfl w.heap.size 0 XA A 34 _ rfl HB1.out HCA.out arm1 rfl HI.out.1 ?_)
        | (refine wpList_get rfl 23 (.tmp 14) rfl (w.heap.size + 1) 0 XB B 34 _ rfl HB2.out HCB.out arm1 rfl HI.out.2 ?_))
      go_ret
      obtain ⟨os0, h⟩ := HW0.out
      rw [h]
      exact ⟨rfl, q, os0 ++ os, by rw [← Sort.grow_grow]; rfl⟩
end Go.Proofs.YtpfknjnigcefgaaGreatDoor
/- idx.indexOf: an index in memory. -/
namespace Go.Proofs.YtpfknjnigcefgaaGreatDoor
open Go.RowKit
set_option linter.unusedSimpArgs false
set_option linter.unusedVariables false
/-- The fan-out's cells. -/
def fnC (f : Nat → Nat) : List Value := (List.range 256).map (fun b => Value.int .i64 (f b : Int))
theorem fnC_len (f : Nat → Nat) : (fnC f).length = 256 := by simp [fnC]
theorem fnC_get (f : Nat → Nat) (j : Nat) (h : j < 256) : (fnC f)[j]? = some (.int .i64 (f j : Int)) := by
  simp [fnC, h]
theorem fnC_set (f : Nat → Nat) (j m : Nat) (h : j < 256) : (fnC f).set j (.int .i64 (m : Int)) = fnC (fun b => if b = j then m else f b) := by
  apply List.ext_getElem?
  intro i
  rw [List.getElem?_set]
  by_cases hi : i < 256
  · rw [fnC_get (fun b => if b = j then m else f b) i hi]
    by_cases e : j = i
    · subst e
      rw [if_pos rfl, if_pos (by rw [fnC_len]; exact h)]
      simp
    · rw [if_neg e, fnC_get f i hi]
      have e2 : ¬ i = j := fun q => e q.symm
      simp [e2]
  · rw [List.getElem?_eq_none (by rw [fnC_len]; omega), List.getElem?_eq_none (by rw [fnC_len]; omega)]
    split
    · rw [if_neg (by rw [fnC_len]; omega)]
    · rfl
/-- An index's cells. -/
def ixC (s : ByteArray) (f : Nat → Nat) (v : Value) : Array Value := ((idc s).toList ++ (fnC f ++ [v])).toArray
theorem ixC_size (s : ByteArray) (f : Nat → Nat) (v : Value) (h : s.size = 32) : (ixC s f v).size = 289 := by simp [ixC, idc_size, fnC_len, h]
theorem ixC_id (s : ByteArray) (f : Nat → Nat) (v : Value) (h : s.size = 32) (j : Nat) (u : Value) (hu : (idc s)[j]? = some u) : (ixC s f v)[0 + j]? = some u := by
  have hj : j < 32 := by
    have := (Array.getElem?_eq_some_iff.1 hu).1
    rwa [idc_size, h] at this
  rw [Nat.zero_add, ixC, List.getElem?_toArray, List.getElem?_append_left (by rw [Array.length_toList, idc_size]; omega), Array.getElem?_toList]
  exact hu
theorem ixC_fan (s : ByteArray) (f : Nat → Nat) (v : Value) (h : s.size = 32) (j : Nat) (hj : j < 256) : (ixC s f v)[32 + j]? = some (.int .i64 (f j : Int)) := by
  have hl : (idc s).toList.length = 32 := by rw [Array.length_toList, idc_size, h]
  rw [ixC, List.getElem?_toArray, List.getElem?_append_right (by omega), hl, show 32 + j - 32 = j from by omega, List.getElem?_append_left (by rw [fnC_len]; exact hj), fnC_get f j hj]
theorem ixC_row (s : ByteArray) (f : Nat → Nat) (v : Value) (h : s.size = 32) : (ixC s f v)[288]? = some v := by
  have hl : (idc s).toList.length = 32 := by rw [Array.length_toList, idc_size, h]
  rw [ixC, List.getElem?_toArray, List.getElem?_append_right (by omega), hl, List.getElem?_append_right (by rw [fnC_len]; omega), fnC_len]
  rfl
theorem ixC_set (s : ByteArray) (f : Nat → Nat) (v : Value) (h : s.size = 32) (j m : Nat) (hj : j < 256) : (ixC s f v).setIfInBounds (32 + j) (.int .i64 (m : Int)) = ixC s (fun b => if b = j then m else f b) v := by
  have hl : (idc s).toList.length = 32 := by rw [Array.length_toList, idc_size, h]
  unfold ixC
  rw [List.setIfInBounds_toArray, List.set_append_right _ _ (by omega), hl, show 32 + j - 32 = j from by omega, List.set_append_left _ _ (by rw [fnC_len]; exact hj), fnC_set f j m hj]
/-- How many have this first byte among the first of them; sums. -/
def cnt8 (l : List Xe) (b : Nat) : Nat := l.countP (fun e => decide (fst8 e = b))
theorem cnt8_snoc (l : List Xe) (e : Xe) (b : Nat) : cnt8 (l ++ [e]) b = if b = fst8 e then cnt8 l b + 1 else cnt8 l b := by
  unfold cnt8
  rw [List.countP_append]
  by_cases h : b = fst8 e
  · rw [if_pos h]; simp [h]
  · rw [if_neg h]; simp; exact fun q => h q.symm
theorem fanL_zero (l : List Xe) : fanL l 0 = cnt8 l 0 := by
  unfold fanL cnt8
  congr 1
  funext e
  exact decide_eq_decide.2 (by omega)
theorem fanL_step (l : List Xe) (b : Nat) : fanL l (b + 1) = cnt8 l (b + 1) + fanL l b := by
  induction l with
  | nil => rfl
  | cons e l ih =>
    unfold fanL cnt8 at *
    rw [List.countP_cons, List.countP_cons, List.countP_cons, ih]
    by_cases h1 : fst8 e ≤ b
    · have d1 : decide (fst8 e ≤ b) = true := decide_eq_true h1
      have d2 : decide (fst8 e ≤ b + 1) = true := decide_eq_true (by omega)
      have d3 : decide (fst8 e = b + 1) = false := decide_eq_false (by omega)
      rw [d1, d2, d3]; simp; omega
    · have d1 : decide (fst8 e ≤ b) = false := decide_eq_false h1
      by_cases h2 : fst8 e = b + 1
      · have d2 : decide (fst8 e ≤ b + 1) = true := decide_eq_true (by omega)
        have d3 : decide (fst8 e = b + 1) = true := decide_eq_true h2
        rw [d1, d2, d3]; simp; omega
      · have d2 : decide (fst8 e ≤ b + 1) = false := decide_eq_false (by omega)
        have d3 : decide (fst8 e = b + 1) = false := decide_eq_false h2
        rw [d1, d2, d3]; simp
/-- An address that a slice of entries may have. -/
def AdS (a : Option Addr) : Prop := a = none ∨ ∃ g o, a = some ⟨g, o, none⟩
/-- An index that lies in memory. -/
structure IxS (w : World) (g : Nat) (s : ByteArray) (l : List Xe) : Prop where
  row : ∃ a n c, Bk w g (ixC s (fanL l) (.slice a n c)) 104 ∧ XeL w a l ∧ l.length = n ∧ n ≤ c ∧ AdS a
  id : s.size = 32
theorem IxS.below {w w' : World} {g : Nat} {s : ByteArray} {l : List Xe} (h : IxS w g s l) (hb : Below w.heap.size w w') : IxS w' g s l := by
  obtain ⟨a, n, c, h1, h2, h3, h4, h5⟩ := h.row
  exact ⟨⟨a, n, c, h1.below hb h1.lt, h2.below hb, h3, h4, h5⟩, h.id⟩
theorem inf_ix : (Tryz.prog.info? 104).map (·.size) = some 289 := by kernel_rfl
end Go.Proofs.YtpfknjnigcefgaaGreatDoor
/- Plain facts of indexes: places by the first byte and by halving; rising step by step. -/
namespace Go.Proofs.YtpfknjnigcefgaaGreatDoor
set_option linter.unusedSimpArgs false
set_option linter.unusedVariables false
/-- A name's first byte. -/
def f8 (x : ByteArray) : Nat := ((bl x).headD 0).toNat
theorem fst8_f8 (e : Xe) : fst8 e = f8 e.id := rfl
theorem f8_lt (x : ByteArray) : f8 x < 256 := UInt8.toNat_lt _
theorem cmpB_head : ∀ a b : List UInt8, Lib.compareBytes a b < 0 → (a.headD 0).toNat ≤ (b.headD 0).toNat
  | [], _, _ => by simp
  | _ :: _, [], h => by simp [Lib.compareBytes] at h
  | x :: a, y :: b, h => by
    rw [Lib.compareBytes] at h
    show x.toNat ≤ y.toNat
    by_cases h1 : x < y
    · rw [UInt8.lt_iff_toNat_lt] at h1; omega
    · rw [if_neg h1] at h
      by_cases h2 : y < x
      · rw [if_pos h2] at h; omega
      · rw [UInt8.lt_iff_toNat_lt] at h2; omega
theorem f8_le {a b : ByteArray} (h : ltN a b = true) : f8 a ≤ f8 b := cmpB_head _ _ (of_decide_eq_true h)
theorem f8_ltN {a b : ByteArray} (h : f8 a < f8 b) : ltN a b = true := by
  refine ltN_ne (fun e => ?_) ?_
  · rw [e] at h; omega
  · rw [Bool.eq_false_iff]; intro g; have := f8_le g; omega
/-- Places and counts, where what holds behind holds ahead. -/
theorem place_cnt {α : Type} {p : α → Bool} : ∀ {l : List α}, l.Pairwise (fun a b => p b = true → p a = true) → ∀ {i : Nat} {a : α}, l[i]? = some a → (p a = true ↔ i < l.countP p)
  | [], _, i, a, h => by simp at h
  | x :: r, hp, i, a, h => by
    obtain ⟨h1, h2⟩ := List.pairwise_cons.1 hp
    cases hx : p x with
    | true =>
      rw [List.countP_cons_of_pos hx]
      cases i with
      | zero => rw [List.getElem?_cons_zero] at h; injection h with h; subst h; simp [hx]
      | succ i => rw [List.getElem?_cons_succ] at h; rw [place_cnt h2 h]; omega
    | false =>
      have hr : r.countP p = 0 := List.countP_eq_zero.2 (fun b hb q => by rw [h1 b hb q] at hx; cases hx)
      rw [List.countP_cons_of_neg (by rw [hx]; simp), hr]
      cases i with
      | zero => rw [List.getElem?_cons_zero] at h; injection h with h; subst h; simp [hx]
      | succ i =>
        rw [List.getElem?_cons_succ] at h
        constructor
        · intro q; rw [h1 a (List.mem_of_getElem? h) q] at hx; cases hx
        · intro q; omega
theorem range_cnt (k : Nat) : ∀ n, (List.range n).countP (fun i => decide (i < k)) = min n k
  | 0 => by simp
  | n + 1 => by
    rw [List.range_succ, List.countP_append, range_cnt k n, List.countP_cons, List.countP_nil]
    by_cases h : n < k
    · simp [h]; omega
    · simp [h]; omega
/-- How many names stand ahead of this one. -/
def cntN (l : List Xe) (x : ByteArray) : Nat := l.countP (fun e => ltN e.id x)
theorem Rise.fan {l : List Xe} (h : Rise l) {i : Nat} {e : Xe} (he : l[i]? = some e) (b : Nat) : fst8 e ≤ b ↔ i < fanL l b := by
  have q := place_cnt (p := fun e : Xe => decide (fst8 e ≤ b)) (h.imp (fun {a c} r s => decide_eq_true (Nat.le_trans (f8_le r) (of_decide_eq_true s)))) he
  rw [← decide_eq_true_iff (p := fst8 e ≤ b)]; exact q
theorem Rise.fanb {l : List Xe} (h : Rise l) {i : Nat} {e : Xe} (he : l[i]? = some e) (b : Nat) : fst8 e < b ↔ i < fanB l b := by
  have q := place_cnt (p := fun e : Xe => decide (fst8 e < b)) (h.imp (fun {a c} r s => decide_eq_true (Nat.lt_of_le_of_lt (f8_le r) (of_decide_eq_true s)))) he
  rw [← decide_eq_true_iff (p := fst8 e < b)]; exact q
theorem Rise.cnt {l : List Xe} (h : Rise l) {i : Nat} {e : Xe} (he : l[i]? = some e) (x : ByteArray) : ltN e.id x = true ↔ i < cntN l x :=
  place_cnt (p := fun e : Xe => ltN e.id x) (h.imp (fun {a c} r s => ltN_trans r s)) he
theorem cntN_ge (l : List Xe) (x : ByteArray) : fanB l (f8 x) ≤ cntN l x := by
  refine List.countP_mono_left (fun e _ q => ?_)
  exact f8_ltN (of_decide_eq_true q)
theorem cntN_le (l : List Xe) (x : ByteArray) : cntN l x ≤ fanL l (f8 x) := by
  refine List.countP_mono_left (fun e _ q => ?_)
  exact decide_eq_true (f8_le q)
theorem cntN_len (l : List Xe) (x : ByteArray) : cntN l x ≤ l.length := List.countP_le_length
/-- The halving's answer. -/
theorem half_cnt {l : List Xe} (h : Rise l) (x : ByteArray) (q : Nat → Bool) (hq : ∀ i e, l[fanB l (f8 x) + i]? = some e → q i = ltN e.id x) :
    fanB l (f8 x) + (List.range (fanL l (f8 x) - fanB l (f8 x))).countP q = cntN l x := by
  have h1 := cntN_ge l x
  have h2 := cntN_le l x
  have h3 := fanL_le l (f8 x)
  have e : (List.range (fanL l (f8 x) - fanB l (f8 x))).countP q = (List.range (fanL l (f8 x) - fanB l (f8 x))).countP (fun i => decide (i < cntN l x - fanB l (f8 x))) := by
    refine List.countP_congr (fun i hi => ?_)
    rw [List.mem_range] at hi
    obtain ⟨e, he⟩ : ∃ e, l[fanB l (f8 x) + i]? = some e := ⟨_, List.getElem?_eq_getElem (by omega)⟩
    rw [hq i e he, h.cnt he, decide_eq_true_iff]
    omega
  rw [e, range_cnt]
  omega
/-- What Find finds. -/
def fnd (l : List Xe) (x : ByteArray) : Option Xe := l.find? (fun e => decide (e.id = x))
theorem fnd_some {l : List Xe} {x : ByteArray} {e : Xe} (h : fnd l x = some e) : e ∈ l ∧ e.id = x := ⟨List.mem_of_find?_eq_some h, of_decide_eq_true (List.find?_some (p := fun e : Xe => decide (e.id = x)) h)⟩
theorem fnd_mem {l : List Xe} (h : Aprt l) {e : Xe} (he : e ∈ l) : fnd l e.id = some e := by
  cases q : fnd l e.id with
  | none =>
    have := List.find?_eq_none.1 q e he
    simp at this
  | some d =>
    obtain ⟨h1, h2⟩ := fnd_some q
    obtain ⟨i, hi⟩ := List.mem_iff_getElem?.1 he
    obtain ⟨j, hj⟩ := List.mem_iff_getElem?.1 h1
    have := apart_one h hj hi h2
    subst this
    rw [hi] at hj; injection hj with hj; rw [hj]
theorem fnd_none {l : List Xe} {x : ByteArray} : fnd l x = none ↔ ∀ e ∈ l, e.id ≠ x := by
  unfold fnd
  rw [List.find?_eq_none]
  simp
theorem fnd_at {l : List Xe} (h : Rise l) (x : ByteArray) {e : Xe} (he : l[cntN l x]? = some e) (hx : e.id = x) : fnd l x = some e := by
  rw [← hx]; exact fnd_mem h.apart (List.mem_of_getElem? he)
theorem fnd_end {l : List Xe} (h : Rise l) (x : ByteArray) (he : cntN l x = fanL l (f8 x)) : fnd l x = none := by
  rw [fnd_none]
  intro e hm hx
  obtain ⟨i, hi⟩ := List.mem_iff_getElem?.1 hm
  have h1 := (h.fan hi (f8 x)).1 (by rw [fst8_f8, hx]; exact Nat.le_refl _)
  have h2 := (h.cnt hi x).2 (by omega)
  rw [hx, ltN_irr] at h2
  cases h2
theorem fnd_ne {l : List Xe} (h : Rise l) (x : ByteArray) {e : Xe} (he : l[cntN l x]? = some e) (hx : e.id ≠ x) : fnd l x = none := by
  rw [fnd_none]
  intro d hm hd
  obtain ⟨i, hi⟩ := List.mem_iff_getElem?.1 hm
  have h1 : ¬ i < cntN l x := fun q => by
    have := (h.cnt hi x).2 q
    rw [hd, ltN_irr] at this; cases this
  by_cases q : i = cntN l x
  · subst q; rw [he] at hi; injection hi with hi; exact hx (hi ▸ hd)
  · have hlt : cntN l x < i := by omega
    obtain ⟨hi2, rfl⟩ := List.getElem?_eq_some_iff.1 hi
    obtain ⟨hj2, rfl⟩ := List.getElem?_eq_some_iff.1 he
    have := List.pairwise_iff_getElem.1 h (cntN l x) i hj2 hi2 hlt
    rw [hd] at this
    have q2 := (h.cnt he x).1 this
    omega
/-- Do they rise, each against the one ahead of it? -/
def okR : Option Xe → List Xe → Bool
  | _, [] => true
  | o, e :: r => (okX e && (match o with | none => true | some d => ltN d.id e.id)) && okR (some e) r
theorem okR_some : ∀ (l : List Xe) (d : Xe), okR (some d) l = true ↔ (∀ e ∈ l, okX e = true) ∧ Rise (d :: l)
  | [], d => by simp [okR, Rise]
  | e :: r, d => by
    rw [okR, Bool.and_eq_true, Bool.and_eq_true, okR_some r e]
    show (okX e = true ∧ ltN d.id e.id = true) ∧ _ ↔ _
    constructor
    · rintro ⟨⟨h1, h2⟩, h3, h4⟩
      refine ⟨fun x hx => ?_, ?_⟩
      · rcases List.mem_cons.1 hx with rfl | hx
        · exact h1
        · exact h3 x hx
      · refine List.pairwise_cons.2 ⟨fun x hx => ?_, h4⟩
        rcases List.mem_cons.1 hx with rfl | hx
        · exact h2
        · exact ltN_trans h2 ((List.pairwise_cons.1 h4).1 x hx)
    · rintro ⟨h1, h2⟩
      obtain ⟨h3, h4⟩ := List.pairwise_cons.1 h2
      exact ⟨⟨h1 e List.mem_cons_self, h3 e List.mem_cons_self⟩, fun x hx => h1 x (List.mem_cons_of_mem _ hx), h4⟩
theorem okR_iff (l : List Xe) : okR none l = true ↔ (∀ e ∈ l, okX e = true) ∧ Rise l := by
  cases l with
  | nil => simp [okR, Rise]
  | cons e r =>
    rw [okR, Bool.and_eq_true, Bool.and_eq_true, okR_some r e]
    constructor
    · rintro ⟨⟨h1, _⟩, h3, h4⟩
      refine ⟨fun x hx => ?_, h4⟩
      rcases List.mem_cons.1 hx with rfl | hx
      · exact h1
      · exact h3 x hx
    · rintro ⟨h1, h2⟩
      exact ⟨⟨h1 e List.mem_cons_self, rfl⟩, fun x hx => h1 x (List.mem_cons_of_mem _ hx), h2⟩
/-- An index's bytes. -/
def IsIx (S : ByteArray) (s : ByteArray) (l : List Xe) : Prop := s.size = 32 ∧ OkL l ∧ bl S = ixB s l
theorem IsIx.take {S s : ByteArray} {l : List Xe} (h : IsIx S s l) : rdS (bl S) = s ∧ rdA (bl S) = l := by rw [h.2.2]; exact rd_ix h.1 h.2.1
end Go.Proofs.YtpfknjnigcefgaaGreatDoor
/- Plain facts of merging: two sorted lists of entries, taken one by one. -/
namespace Go.Proofs.YtpfknjnigcefgaaGreatDoor
set_option linter.unusedSimpArgs false
set_option linter.unusedVariables false
/-- Names do not fall. -/
def Srt (l : List Xe) : Prop := l.Pairwise (fun a b => ltN b.id a.id = false)
theorem leN_trans {a b c : ByteArray} (h : ltN b a = false) (g : ltN c b = false) : ltN c a = false := by
  rw [Bool.eq_false_iff]
  intro q
  by_cases e : b = a
  · subst e; rw [g] at q; cases q
  · by_cases e2 : c = b
    · subst e2; rw [h] at q; cases q
    · have h1 : ltN a b = true := ltN_ne (fun x => e x.symm) h
      have h2 := ltN_trans q h1
      rw [g] at h2
      cases h2
/-- How the merging stands: out, and what is left of both. -/
structure Mg (l O A B : List Xe) : Prop where
  pm : (O ++ (A ++ B)).Perm l
  so : Srt O
  sa : Srt A
  sb : Srt B
  oa : ∀ x ∈ O, ∀ y ∈ A, ltN y.id x.id = false
  ob : ∀ x ∈ O, ∀ y ∈ B, ltN y.id x.id = false
theorem Mg.start {l A B : List Xe} (h : (A ++ B).Perm l) (ha : Srt A) (hb : Srt B) : Mg l [] A B := ⟨h, List.Pairwise.nil, ha, hb, by simp, by simp⟩
theorem Srt.snoc {O : List Xe} {e : Xe} (h : Srt O) (he : ∀ x ∈ O, ltN e.id x.id = false) : Srt (O ++ [e]) := by
  refine List.pairwise_append.2 ⟨h, by simp, fun x hx y hy => ?_⟩
  rw [List.mem_singleton.1 hy]
  exact he x hx
theorem Srt.head {e : Xe} {r : List Xe} (h : Srt (e :: r)) : Srt r ∧ ∀ y ∈ r, ltN y.id e.id = false := ⟨(List.pairwise_cons.1 h).2, (List.pairwise_cons.1 h).1⟩
/-- The first of B is less than the first of A. -/
theorem Mg.right {l O A B : List Xe} {a b : Xe} (h : Mg l O (a :: A) (b :: B)) (hlt : ltN b.id a.id = true) : Mg l (O ++ [b]) (a :: A) B := by
  obtain ⟨q1, q2⟩ := h.sb.head
  obtain ⟨r1, r2⟩ := h.sa.head
  have hab : ltN a.id b.id = false := ltN_asym hlt
  refine ⟨?_, h.so.snoc (fun x hx => h.ob x hx b List.mem_cons_self), h.sa, q1, fun x hx y hy => ?_, fun x hx y hy => ?_⟩
  · refine List.Perm.trans ?_ h.pm
    rw [List.append_assoc]
    refine List.Perm.append_left O ?_
    rw [List.singleton_append]
    exact List.perm_middle.symm
  · rcases List.mem_append.1 hx with hx | hx
    · exact h.oa x hx y hy
    · rw [List.mem_singleton.1 hx]
      rcases List.mem_cons.1 hy with rfl | hy
      · exact hab
      · exact leN_trans hab (r2 y hy)
  · rcases List.mem_append.1 hx with hx | hx
    · exact h.ob x hx y (List.mem_cons_of_mem _ hy)
    · rw [List.mem_singleton.1 hx]; exact q2 y hy
/-- It is not. -/
theorem Mg.left {l O A B : List Xe} {a b : Xe} (h : Mg l O (a :: A) (b :: B)) (hlt : ltN b.id a.id = false) : Mg l (O ++ [a]) A (b :: B) := by
  obtain ⟨q1, q2⟩ := h.sb.head
  obtain ⟨r1, r2⟩ := h.sa.head
  refine ⟨?_, h.so.snoc (fun x hx => h.oa x hx a List.mem_cons_self), r1, h.sb, fun x hx y hy => ?_, fun x hx y hy => ?_⟩
  · refine List.Perm.trans ?_ h.pm
    rw [List.append_assoc]
    exact List.Perm.refl _
  · rcases List.mem_append.1 hx with hx | hx
    · exact h.oa x hx y (List.mem_cons_of_mem _ hy)
    · rw [List.mem_singleton.1 hx]; exact r2 y hy
  · rcases List.mem_append.1 hx with hx | hx
    · exact h.ob x hx y hy
    · rw [List.mem_singleton.1 hx]
      rcases List.mem_cons.1 hy with rfl | hy
      · exact hlt
      · exact leN_trans hlt (q2 y hy)
/-- One of them is at its end. -/
theorem Mg.done {l O A B : List Xe} (h : Mg l O A B) (hn : A = [] ∨ B = []) : Srt (O ++ A ++ B) ∧ (O ++ A ++ B).Perm l := by
  refine ⟨?_, by rw [List.append_assoc]; exact h.pm⟩
  rcases hn with rfl | rfl
  · rw [List.append_nil]
    exact List.pairwise_append.2 ⟨h.so, h.sb, h.ob⟩
  · rw [List.append_nil]
    exact List.pairwise_append.2 ⟨h.so, h.sa, h.oa⟩
/-- Sorted, and apart: the one rising order. -/
theorem Srt.one {L l M : List Xe} (h : Srt L) (hp : L.Perm l) (ha : Aprt l) (hM : Rise M) (hq : M.Perm l) : L = M := by
  refine rise_one (hp.trans hq.symm) ?_ hM
  have hap : Aprt L := ha.perm hp.symm
  exact (h.and hap).imp (fun {a b} q => ltN_ne q.2 q.1)
end Go.Proofs.YtpfknjnigcefgaaGreatDoor
