import Derived.Test.YtpfknjnigcefgaaGreatDoorY8
import Derived.Sort.Grow
import Derived.Deep.Draws
import Derived.BigCall
import Derived.BigRegion
import Derived.RegionTactic
import Derived.Deep.RegionHeld3
import Derived.Test.YtpfknjnigcefgaaGreatDoorRows
import Derived.WalkKit
import Derived.Handy
import Derived.Maps.OwnSet
import Derived.Maps.OwnOps
import Derived.Maps.RangeWalk
import Derived.Maps.Ext
import Derived.StringKeys
/- idx.mayBeIndexed, digest.Less and idx.order with what they leave behind. -/
namespace Go.Proofs.YtpfknjnigcefgaaGreatDoor
open Go.RowKit
set_option linter.unusedSimpArgs false
set_option linter.unusedVariables false
theorem okX_eq (e : Xe) (r : Bool) (h : r = true ↔ (1 ≤ (e.k.toNat : Int) ∧ (e.k.toNat : Int) ≤ 5 ∧ 4 ≤ e.off ∧ e.off ≤ 67108864 ∧ 0 ≤ e.sz ∧ e.sz ≤ 2097152)) : r = okX e := by
  rw [Bool.eq_iff_iff, h, okX_iff]
  omega
theorem retBX {a b : Bool} (h : a = b) : Ending.returned (.bool a) = .returned (.bool b) := by rw [h]
set_option maxHeartbeats 4000000 in
set_option maxRecDepth 100000 in
theorem maybe_any (e : Xe) (w : World) (h : e.id.size = 32) : Calls Tryz.prog 24 #[.agg (xeC e)] w fun r w' => r = .returned (.bool (okX e)) ∧ w' = w.alloc (.cells (xeC e) 34) := by
  obtain ⟨c1, c2, c3⟩ := xeC_at e h
  have hb := bk_new w (xeC e) 34
  have k1 : (w.alloc (.cells (xeC e) 34)).cell? ⟨w.heap.size, 32, none⟩ = some (.int .u8 (e.k.toNat : Int)) := by rw [hb.cell]; exact c1
  have k2 : (w.alloc (.cells (xeC e) 34)).cell? ⟨w.heap.size, 33, none⟩ = some (.int .i64 e.off) := by rw [hb.cell]; exact c2
  have k3 : (w.alloc (.cells (xeC e) 34)).cell? ⟨w.heap.size, 34, none⟩ = some (.int .i64 e.sz) := by rw [hb.cell]; exact c3
  clear hb c1 c2 c3
  have HE := okX_eq e
  obtain ⟨r, hr⟩ : ∃ r, okX e = r := ⟨_, rfl⟩
  rw [hr] at HE ⊢
  obtain ⟨C, hC⟩ : ∃ C, xeC e = C := ⟨_, rfl⟩
  rw [hC] at k1 k2 k3 ⊢
  obtain ⟨ei, ek, eo, ez⟩ := e
  simp only at k1 k2 k3 HE
  obtain ⟨K, hK⟩ : ∃ K : Int, (ek.toNat : Int) = K := ⟨_, rfl⟩
  rw [hK] at k1 HE
  have HH : Hid (∀ (q : Bool), (q = true ↔ 1 ≤ K ∧ K ≤ 5 ∧ 4 ≤ eo ∧ eo ≤ 67108864 ∧ 0 ≤ ez ∧ ez ≤ 2097152) → q = r) := HE
  clear HE hr hC h hK
  by_cases g1 : 1 ≤ K
  · by_cases g2 : K ≤ 5
    · by_cases g3 : 4 ≤ eo
      · by_cases g4 : eo ≤ 67108864
        · by_cases g5 : 0 ≤ ez
          · go_enter Tryz.func24, Tryz.ntmps24
            go_wp2
            go_ret
            exact ⟨retBX (HH.out _ (by simp [g1, g2, g3, g4, g5] <;> omega)), rfl⟩
          · go_enter Tryz.func24, Tryz.ntmps24
            go_wp2
            go_ret
            exact ⟨retBX (HH.out _ (by simp [g1, g2, g3, g4, g5] <;> omega)), rfl⟩
        · go_enter Tryz.func24, Tryz.ntmps24
          go_wp2
          go_ret
          exact ⟨retBX (HH.out _ (by simp [g1, g2, g3, g4] <;> omega)), rfl⟩
      · go_enter Tryz.func24, Tryz.ntmps24
        go_wp2
        go_ret
        exact ⟨retBX (HH.out _ (by simp [g1, g2, g3] <;> omega)), rfl⟩
    · go_enter Tryz.func24, Tryz.ntmps24
      go_wp2
      go_ret
      exact ⟨retBX (HH.out _ (by simp [g1, g2] <;> omega)), rfl⟩
  · go_enter Tryz.func24, Tryz.ntmps24
    go_wp2
    go_ret
    exact ⟨retBX (HH.out _ (by simp [g1] <;> omega)), rfl⟩
set_option maxHeartbeats 400000 in
set_option maxRecDepth 100000 in
/-- digest.Less, with what it leaves behind. -/
theorem less_grow (a b : ByteArray) (w : World) (ha : a.size = 32) (hb : b.size = 32) :
    Calls Tryz.prog 59 #[.agg (idc a), .agg (idc b)] w fun e w' => e = .returned (.bool (ltN a b)) ∧ ∃ q os, w' = Sort.grow (w.drewN q) os := by
  have h1 := slice32 w.heap.size
  have h2 := slice32 (w.heap.size + 1)
  go_enter Tryz.func59, Tryz.ntmps59
  go_wp2
  have hA : Blk ((w.alloc (.cells (idc a) 23)).alloc (.cells (idc b) 23)) w.heap.size (idc a) 23 := Blk.grown (blk_new w _) (World.grownBy_alloc _ _ none) (by simp)
  have hB : Blk ((w.alloc (.cells (idc a) 23)).alloc (.cells (idc b) 23)) (w.heap.size + 1) (idc b) 23 := by
    have e := blk_new (w.alloc (.cells (idc a) 23)) (.cells (idc b) 23)
    rwa [alloc_size] at e
  have HAB : Hid (Blk ((w.alloc (.cells (idc a) 23)).alloc (.cells (idc b) 23)) w.heap.size (idc a) 23 ∧ Blk ((w.alloc (.cells (idc a) 23)).alloc (.cells (idc b) 23)) (w.heap.size + 1) (idc b) 23) := ⟨hA, hB⟩
  clear hA hB
  go_quiet ((go_at_call 101; exact Calls.quiet_of_same (bcompare_any a b _ _ 23 23 _ ha hb (HAB.out.1.drewN _) (HAB.out.2.drewN _))))
  go_wp2
  go_ret
  refine ⟨rfl, nq, #[.cells (idc a) 23, .cells (idc b) 23], ?_⟩
  rw [Sort.alloc_eq_grow, Sort.alloc_eq_grow, Sort.grow_grow]
  rfl
/-- What order says. -/
def ordI (a b : Xe) : Int := if a.id = b.id then 0 else if ltN a.id b.id = true then -1 else 1
theorem grow_below (w : World) (q : Nat) (os : Array Obj) : Below w.heap.size w (Sort.grow (w.drewN q) os) := by
  refine ⟨rfl, rfl, rfl, ?_, fun i hi => ?_⟩
  · show w.heap.size ≤ (w.heap ++ os).size
    rw [Array.size_append]; omega
  · show (w.heap ++ os)[i]? = _
    rw [Array.getElem?_append_left hi]
theorem retIX {a b : Int} (h : a = b) : Ending.returned (.int .i64 a) = .returned (.int .i64 b) := by rw [h]
set_option maxHeartbeats 4000000 in
set_option maxRecDepth 100000 in
theorem order_any (a b : Xe) (w : World) (ha : a.id.size = 32) (hb : b.id.size = 32) :
    Calls Tryz.prog 27 #[.agg (xeC a), .agg (xeC b)] w fun e w' => e = .returned (.int .i64 (ordI a b)) ∧ ∃ q os, w' = Sort.grow (w.drewN q) os := by
  have HE : Hid (∀ u, (binOp .eql 23 (.agg (idc a.id)) (.agg (idc b.id))).run Tryz.prog u = .ok (.bool (decide (a.id = b.id))) u) := eql_ids a.id b.id ha hb
  have HL : Hid (∀ u, Calls Tryz.prog 59 #[.agg (idc a.id), .agg (idc b.id)] u fun e w' => e = .returned (.bool (ltN a.id b.id)) ∧ ∃ q os, w' = Sort.grow (u.drewN q) os) := fun u => less_grow a.id b.id u ha hb
  have HI : Hid ((Tryz.prog.info? 23).map (·.size) = some (idc a.id).size ∧ (Tryz.prog.info? 23).map (·.size) = some (idc b.id).size) := ⟨info_32 (by rw [idc_size, ha]), info_32 (by rw [idc_size, hb])⟩
  obtain ⟨A, hA⟩ : ∃ A, idc a.id = A := ⟨_, rfl⟩
  obtain ⟨B, hB⟩ : ∃ B, idc b.id = B := ⟨_, rfl⟩
  have HCA : Hid (∀ j v, A[j]? = some v → (xeC a)[0 + j]? = some v) := fun j v hv => xeC_id a ha j v (by rw [hA]; exact hv)
  have HCB : Hid (∀ j v, B[j]? = some v → (xeC b)[0 + j]? = some v) := fun j v hv => xeC_id b hb j v (by rw [hB]; exact hv)
  rw [hA, hB] at HE HL HI
  obtain ⟨O, hO⟩ : ∃ O, ordI a b = O := ⟨_, rfl⟩
  rw [hO]
  obtain ⟨D, hD⟩ : ∃ D, decide (a.id = b.id) = D := ⟨_, rfl⟩
  obtain ⟨L, hL⟩ : ∃ L, ltN a.id b.id = L := ⟨_, rfl⟩
  have HOO : Hid (O = if D = true then 0 else if L = true then -1 else 1) := by
    show O = _
    rw [← hO, ← hD, ← hL, ordI]
    by_cases h : a.id = b.id <;> simp [h]
  rw [hD] at HE
  rw [hL] at HL
  obtain ⟨XA, hXA⟩ : ∃ X, xeC a = X := ⟨_, rfl⟩
  obtain ⟨XB, hXB⟩ : ∃ X, xeC b = X := ⟨_, rfl⟩
  rw [hXA] at HCA ⊢
  rw [hXB] at HCB ⊢
  clear hA hB hO hD hL hXA hXB ha hb a b
  have b1 := (bk_new w XA 34).alloc (.cells XB 34)
  have b2 := bk_new (w.alloc (.cells XA 34)) XB 34
  rw [al_size] at b2
  have HB1 : Hid (Bk ((w.alloc (.cells XA 34)).alloc (.cells XB 34)) w.heap.size XA 34) := b1
  have HB2 : Hid (Bk ((w.alloc (.cells XA 34)).alloc (.cells XB 34)) (w.heap.size + 1) XB 34) := b2
  have HW0 : Hid (∃ os, (w.alloc (.cells XA 34)).alloc (.cells XB 34) = Sort.grow w os) := ⟨_, by rw [Sort.alloc_eq_grow, Sort.alloc_eq_grow, Sort.grow_grow]⟩
  have hE := HE.out
  clear b1 b2 HE
  have arm1 := Tryz.underlying23
  cases D with
  | true =>
    have hO : O = 0 := HOO.out
    subst hO
    go_enter Tryz.func27, Tryz.ntmps27
    go_wp2_with (first
      | (refine wpList_get rfl 23 (.tmp 6) rfl w.heap.size 0 XA A 34 _ rfl HB1.out HCA.out arm1 rfl HI.out.1 ?_)
      | (refine wpList_get rfl 23 (.tmp 8) rfl (w.heap.size + 1) 0 XB B 34 _ rfl HB2.out HCB.out arm1 rfl HI.out.2 ?_))
    go_ret
    obtain ⟨os, h⟩ := HW0.out
    rw [h]
    exact ⟨rfl, 0, os, rfl⟩
  | false =>
    have hO' : O = if L = true then -1 else 1 := HOO.out
    cases L with
    | true =>
      have hO : O = -1 := hO'
      subst hO
      go_enter Tryz.func27, Tryz.ntmps27
      go_wp2_with (first
        | (go_at_call 59; refine (HL.out _).mono ?_; rintro e w1 ⟨rfl, q, os, rfl⟩)
        | (refine wpList_get rfl 23 (.tmp 6) rfl w.heap.size 0 XA A 34 _ rfl HB1.out HCA.out arm1 rfl HI.out.1 ?_)
        | (refine wpList_get rfl 23 (.tmp 8) rfl (w.heap.size + 1) 0 XB B 34 _ rfl HB2.out HCB.out arm1 rfl HI.out.2 ?_)
        | (refine wpList_get rfl 23 (.tmp 12) rfl w.heap.size 0 XA A 34 _ rfl HB1.out HCA.out arm1 rfl HI.out.1 ?_)
        | (refine wpList_get rfl 23 (.tmp 14) rfl (w.heap.size + 1) 0 XB B 34 _ rfl HB2.out HCB.out arm1 rfl HI.out.2 ?_))
      go_ret
      obtain ⟨os0, h⟩ := HW0.out
      rw [h]
      exact ⟨rfl, q, os0 ++ os, by rw [← Sort.grow_grow]; rfl⟩
    | false =>
      have hO : O = 1 := hO'
      subst hO
      go_enter Tryz.func27, Tryz.ntmps27
      go_wp2_with (first
        | (go_at_call 59; refine (HL.out _).mono ?_; rintro e w1 ⟨rfl, q, os, rfl⟩)
        | (refine wpList_get rfl 23 (.tmp 6) rfl w.heap.size 0 XA A 34 _ rfl HB1.out HCA.out arm1 rfl HI.out.1 ?_)
        | (refine wpList_get rfl 23 (.tmp 8) rfl (w.heap.size + 1) 0 XB B 34 _ rfl HB2.out HCB.out arm1 rfl HI.out.2 ?_)
        | (refine wpList_get rfl 23 (.tmp 12) rfl w.heap.size 0 XA A 34 _ rfl HB1.out HCA.out arm1 rfl HI.out.1 ?_)
        | (refine wpList_get rfl 23 (.tmp 14) rfl (w.heap.size + 1) 0 XB B 34 _ rfl HB2.out HCB.out arm1 rfl HI.out.2 ?_))
      go_ret
      obtain ⟨os0, h⟩ := HW0.out
      rw [h]
      exact ⟨rfl, q, os0 ++ os, by rw [← Sort.grow_grow]; rfl⟩
end Go.Proofs.YtpfknjnigcefgaaGreatDoor
/- idx.indexOf: an index in memory. -/
namespace Go.Proofs.YtpfknjnigcefgaaGreatDoor
open Go.RowKit
set_option linter.unusedSimpArgs false
set_option linter.unusedVariables false
/-- The fan-out's cells. -/
def fnC (f : Nat → Nat) : List Value := (List.range 256).map (fun b => Value.int .i64 (f b : Int))
theorem fnC_len (f : Nat → Nat) : (fnC f).length = 256 := by simp [fnC]
theorem fnC_get (f : Nat → Nat) (j : Nat) (h : j < 256) : (fnC f)[j]? = some (.int .i64 (f j : Int)) := by
  simp [fnC, h]
theorem fnC_set (f : Nat → Nat) (j m : Nat) (h : j < 256) : (fnC f).set j (.int .i64 (m : Int)) = fnC (fun b => if b = j then m else f b) := by
  apply List.ext_getElem?
  intro i
  rw [List.getElem?_set]
  by_cases hi : i < 256
  · rw [fnC_get (fun b => if b = j then m else f b) i hi]
    by_cases e : j = i
    · subst e
      rw [if_pos rfl, if_pos (by rw [fnC_len]; exact h)]
      simp
    · rw [if_neg e, fnC_get f i hi]
      have e2 : ¬ i = j := fun q => e q.symm
      simp [e2]
  · rw [List.getElem?_eq_none (by rw [fnC_len]; omega), List.getElem?_eq_none (by rw [fnC_len]; omega)]
    split
    · rw [if_neg (by rw [fnC_len]; omega)]
    · rfl
/-- An index's cells. -/
def ixC (s : ByteArray) (f : Nat → Nat) (v : Value) : Array Value := ((idc s).toList ++ (fnC f ++ [v])).toArray
theorem ixC_size (s : ByteArray) (f : Nat → Nat) (v : Value) (h : s.size = 32) : (ixC s f v).size = 289 := by simp [ixC, idc_size, fnC_len, h]
theorem ixC_id (s : ByteArray) (f : Nat → Nat) (v : Value) (h : s.size = 32) (j : Nat) (u : Value) (hu : (idc s)[j]? = some u) : (ixC s f v)[0 + j]? = some u := by
  have hj : j < 32 := by
    have := (Array.getElem?_eq_some_iff.1 hu).1
    rwa [idc_size, h] at this
  rw [Nat.zero_add, ixC, List.getElem?_toArray, List.getElem?_append_left (by rw [Array.length_toList, idc_size]; omega), Array.getElem?_toList]
  exact hu
theorem ixC_fan (s : ByteArray) (f : Nat → Nat) (v : Value) (h : s.size = 32) (j : Nat) (hj : j < 256) : (ixC s f v)[32 + j]? = some (.int .i64 (f j : Int)) := by
  have hl : (idc s).toList.length = 32 := by rw [Array.length_toList, idc_size, h]
  rw [ixC, List.getElem?_toArray, List.getElem?_append_right (by omega), hl, show 32 + j - 32 = j from by omega, List.getElem?_append_left (by rw [fnC_len]; exact hj), fnC_get f j hj]
theorem ixC_row (s : ByteArray) (f : Nat → Nat) (v : Value) (h : s.size = 32) : (ixC s f v)[288]? = some v := by
  have hl : (idc s).toList.length = 32 := by rw [Array.length_toList, idc_size, h]
  rw [ixC, List.getElem?_toArray, List.getElem?_append_right (by omega), hl, List.getElem?_append_right (by rw [fnC_len]; omega), fnC_len]
  rfl
theorem ixC_set (s : ByteArray) (f : Nat → Nat) (v : Value) (h : s.size = 32) (j m : Nat) (hj : j < 256) : (ixC s f v).setIfInBounds (32 + j) (.int .i64 (m : Int)) = ixC s (fun b => if b = j then m else f b) v := by
  have hl : (idc s).toList.length = 32 := by rw [Array.length_toList, idc_size, h]
  unfold ixC
  rw [List.setIfInBounds_toArray, List.set_append_right _ _ (by omega), hl, show 32 + j - 32 = j from by omega, List.set_append_left _ _ (by rw [fnC_len]; exact hj), fnC_set f j m hj]
/-- How many have this first byte among the first of them; sums. -/
def cnt8 (l : List Xe) (b : Nat) : Nat := l.countP (fun e => decide (fst8 e = b))
theorem cnt8_snoc (l : List Xe) (e : Xe) (b : Nat) : cnt8 (l ++ [e]) b = if b = fst8 e then cnt8 l b + 1 else cnt8 l b := by
  unfold cnt8
  rw [List.countP_append]
  by_cases h : b = fst8 e
  · rw [if_pos h]; simp [h]
  · rw [if_neg h]; simp; exact fun q => h q.symm
theorem fanL_zero (l : List Xe) : fanL l 0 = cnt8 l 0 := by
  unfold fanL cnt8
  congr 1
  funext e
  exact decide_eq_decide.2 (by omega)
theorem fanL_step (l : List Xe) (b : Nat) : fanL l (b + 1) = cnt8 l (b + 1) + fanL l b := by
  induction l with
  | nil => rfl
  | cons e l ih =>
    unfold fanL cnt8 at *
    rw [List.countP_cons, List.countP_cons, List.countP_cons, ih]
    by_cases h1 : fst8 e ≤ b
    · have d1 : decide (fst8 e ≤ b) = true := decide_eq_true h1
      have d2 : decide (fst8 e ≤ b + 1) = true := decide_eq_true (by omega)
      have d3 : decide (fst8 e = b + 1) = false := decide_eq_false (by omega)
      rw [d1, d2, d3]; simp; omega
    · have d1 : decide (fst8 e ≤ b) = false := decide_eq_false h1
      by_cases h2 : fst8 e = b + 1
      · have d2 : decide (fst8 e ≤ b + 1) = true := decide_eq_true (by omega)
        have d3 : decide (fst8 e = b + 1) = true := decide_eq_true h2
        rw [d1, d2, d3]; simp; omega
      · have d2 : decide (fst8 e ≤ b + 1) = false := decide_eq_false (by omega)
        have d3 : decide (fst8 e = b + 1) = false := decide_eq_false h2
        rw [d1, d2, d3]; simp
/-- An address that a slice of entries may have. -/
def AdS (a : Option Addr) : Prop := a = none ∨ ∃ g o, a = some ⟨g, o, none⟩
/-- An index that lies in memory. -/
structure IxS (w : World) (g : Nat) (s : ByteArray) (l : List Xe) : Prop where
  row : ∃ a n c, Bk w g (ixC s (fanL l) (.slice a n c)) 104 ∧ XeL w a l ∧ l.length = n ∧ n ≤ c ∧ AdS a
  id : s.size = 32
theorem IxS.below {w w' : World} {g : Nat} {s : ByteArray} {l : List Xe} (h : IxS w g s l) (hb : Below w.heap.size w w') : IxS w' g s l := by
  obtain ⟨a, n, c, h1, h2, h3, h4, h5⟩ := h.row
  exact ⟨⟨a, n, c, h1.below hb h1.lt, h2.below hb, h3, h4, h5⟩, h.id⟩
theorem inf_ix : (Tryz.prog.info? 104).map (·.size) = some 289 := by kernel_rfl
end Go.Proofs.YtpfknjnigcefgaaGreatDoor
/- Maps whose elements are held as they lie: what a look-up, a store, a delete, a count do to them. -/
namespace Go.Proofs.YtpfknjnigcefgaaGreatDoor
open Go.RowKit Go.Maps
set_option linter.unusedSimpArgs false
set_option linter.unusedVariables false
/-- An element, read as it lies. -/
def hE : Value → Option (DataW Value × List MemPlace) := fun v => some (.held v, [])
theorem hE_mk (v : Value) : hE v = some (.held v, []) := rfl
theorem hE_inv {v : Value} {d : DataW Value} {ps : List MemPlace} (h : hE v = some (d, ps)) : d = .held v := by
  simp only [hE, Option.some.injEq, Prod.mk.injEq] at h; exact h.1.symm
/-- A map in memory, of keys of the type k. -/
def Mp (w : World) (k : TypeId) (b : Nat) (D : DataW Value) : Prop := w.ownsMap Tryz.prog k hE b (Maps.size D) D
theorem owns_size {w : World} {P : Program} {k : TypeId} {R : Value → Option (DataW Value × List MemPlace)} {b n : Nat} {D : DataW Value} (h : w.ownsMap P k R b n D) : w.ownsMap P k R b (Maps.size D) D := by
  obtain ⟨es, clock, hb, F, hs, rfl⟩ := h
  exact ⟨es, clock, hb, F, by simp [Maps.size, length_sorted], rfl⟩
theorem Mp.lt {w : World} {k : TypeId} {b : Nat} {D : DataW Value} (h : Mp w k b D) : b < w.heap.size := World.ownsMap.lt h
theorem Mp.grown {w w' : World} {k : TypeId} {b : Nat} {D : DataW Value} {r : Option Nat} (h : Mp w k b D) (hg : w.grownBy w' r) (hr : r ≠ some b) : Mp w' k b D := World.ownsMap.kept h hg (fun e => hr e.symm)
theorem Mp.made (w : World) (k : TypeId) : Mp (w.alloc (.map #[] 0)) k w.heap.size (.map []) := World.ownsMap_made w _ k hE
/-- A key that is a text; one that is a number. -/
theorem sKey : Keyed Tryz.prog 9 := string_keyed Tryz.underlying9
theorem iKey : Keyed Tryz.prog 3 := int_keyed Tryz.underlying3
def sL (s : ByteArray) : Lit := .string s.data.toList
def iL (n : Int) : Lit := .int .i64 n
theorem sL_inj {s t : ByteArray} (h : sL s = sL t) : s = t := by
  simp only [sL, Lit.string.injEq] at h
  exact ByteArray.ext (Array.ext' h)
theorem sL_key (s : ByteArray) (h : s.size ≤ maxLen) : keyOf Tryz.prog 9 (.string s) = some (sL s) := WideMaps.keyOf_string_mk Tryz.underlying9 h
theorem wf_int (n : Int) (h1 : -9223372036854775808 ≤ n) (h2 : n ≤ 9223372036854775807) : (Lit.int .i64 n).wf = true := by
  show (decide (IntKind.i64.min ≤ n) && decide (n ≤ IntKind.i64.max)) = true
  have e1 : IntKind.i64.min = -9223372036854775808 := by decide
  have e2 : IntKind.i64.max = 9223372036854775807 := by decide
  rw [e1, e2]; simp [h1, h2]
theorem iL_key (n : Int) (h1 : -9223372036854775808 ≤ n) (h2 : n ≤ 9223372036854775807) : keyOf Tryz.prog 3 (.int .i64 n) = some (iL n) := keyOf_int_mk Tryz.underlying3 (wf_int n h1 h2)
theorem zero_int (w : World) : (zeroValue 3).run Tryz.prog w = .ok (.int .i64 0) w := by kernel_rfl
/-- What lies at a key. -/
def hAt (D : DataW Value) (k : Lit) : Option Value := if Maps.has D k then (match D.atKey k .nil with | .held v => some v | _ => none) else none
section
variable {w : World} {b : Nat} {D : DataW Value} {k e t : TypeId}
theorem Mp.at_held (h : Mp w k b D) (K : Keyed Tryz.prog k) (ht : Tryz.prog.underlying t = some (.map k e)) {z : Value} (hz : (zeroValue e).run Tryz.prog w = .ok z w) {key : Value} {kl : Lit} (hkey : keyOf Tryz.prog k key = some kl) :
    (Instr.lookup t (.map (some b)) key true).run Tryz.prog w = .ok (.tuple #[(hAt D kl).getD z, .bool (hAt D kl).isSome]) w ∧ (Instr.lookup t (.map (some b)) key false).run Tryz.prog w = .ok ((hAt D kl).getD z) w := by
  obtain ⟨v, ps, h1, h2⟩ := World.ownsMap.look_ok h K ht hz (hE_mk z) hkey
  obtain ⟨v', ps', h3, h4⟩ := World.ownsMap.lookup h K ht hz (hE_mk z) hkey
  have e2 := hE_inv h2
  have e4 := hE_inv h4
  have hv : v' = v := by rw [e2] at e4; simpa using e4.symm
  have key : Maps.has D kl = (hAt D kl).isSome ∧ (hAt D kl).getD z = v := by
    unfold hAt
    cases hh : Maps.has D kl with
    | false =>
      rw [Maps.atKey_of_not_has hh] at e2
      simp at e2
      simp [e2]
    | true =>
      have ind : D.atKey kl .nil = .held v := by
        rw [← e2]
        obtain ⟨es, rfl⟩ := World.ownsMap.isMap h
        have h5 : es.any (fun p => p.1.sameKey kl) = true := hh
        obtain ⟨p, hp, hs⟩ := List.any_eq_true.1 h5
        unfold DataW.atKey
        simp only
        cases hf : es.find? (fun p => p.1.sameKey kl) with
        | none => exact absurd hs (by simpa using List.find?_eq_none.1 hf p hp)
        | some q => rfl
      rw [ind]; simp
  rw [key.2, ← key.1]
  exact ⟨h1, by rw [← hv]; exact h3⟩
theorem Mp.canon (h : Mp w k b D) (K : Keyed Tryz.prog k) : Canon D := World.ownsMap.canon h K
theorem Mp.put (h : Mp w k b D) (K : Keyed Tryz.prog k) (ht : Tryz.prog.underlying t = some (.map k e)) (hn : Maps.size D < maxLen) {key : Value} {kl : Lit} (hkey : keyOf Tryz.prog k key = some kl) (v : Value) :
    ∃ w', (Instr.mapUpdate t (.map (some b)) key v).run Tryz.prog w = .ok () w' ∧ Mp w' k b (D.put kl (.held v)) ∧ w.grownBy w' (some b) := by
  obtain ⟨w', h1, h2, h3⟩ := World.ownsMap.store h K ht hn hkey (hE_mk v)
  exact ⟨w', h1, owns_size h2, h3.grown⟩
theorem Mp.del (h : Mp w k b D) (K : Keyed Tryz.prog k) (ht : Tryz.prog.underlying t = some (.map k e)) {key : Value} {kl : Lit} (hkey : keyOf Tryz.prog k key = some kl) (ty : TypeId) :
    ∃ w', (Builtin.delete_ #[t, k] ty #[.map (some b), key]).run Tryz.prog w = .ok (.tuple #[]) w' ∧ Mp w' k b (D.del kl) ∧ w.grownBy w' (some b) := by
  obtain ⟨w', h1, h2, h3⟩ := World.ownsMap.drop h K ht hkey ty
  exact ⟨w', h1, owns_size h2, h3.grown⟩
theorem Mp.len (h : Mp w k b D) (ht : Tryz.prog.underlying t = some (.map k e)) (ty : TypeId) : (Builtin.len_ #[t] ty #[.map (some b)]).run Tryz.prog w = .ok (.int .i64 (Maps.size D)) w := World.ownsMap.len h ht ty
end
/-- A view of a map: what lies at each key. -/
theorem hAt_has {D : DataW Value} {k : Lit} {v : Value} (h : hAt D k = some v) : Maps.has D k = true := by
  unfold hAt at h
  split at h
  · assumption
  · cases h
theorem hAt_put_same {D : DataW Value} (hD : IsMap D) {k : Lit} (hk : WideAt.IsKeyLit k) (v : Value) : hAt (D.put k (.held v)) k = some v := by
  unfold hAt
  rw [has_put_same hD hk, atKey_put_same hD hk]; rfl
theorem hAt_put_other {D : DataW Value} {k k' : Lit} (hne : k' ≠ k) (v : Value) : hAt (D.put k (.held v)) k' = hAt D k' := by
  unfold hAt
  rw [has_put_other hne, atKey_put_other hne]
theorem hAt_del_same (D : DataW Value) (k : Lit) : hAt (D.del k) k = none := by
  unfold hAt
  rw [has_del_same]; rfl
theorem hAt_del_other {D : DataW Value} {k k' : Lit} (hne : k' ≠ k) : hAt (D.del k) k' = hAt D k' := by
  unfold hAt
  rw [has_del_other hne, atKey_del_other hne]
theorem hAt_empty (k : Lit) : hAt (.map []) k = none := rfl
theorem sL_lit (s : ByteArray) : WideAt.IsKeyLit (sL s) := trivial
theorem iL_lit (n : Int) : WideAt.IsKeyLit (iL n) := trivial
/-- A nil map. -/
theorem nil_at {w : World} {k e t : TypeId} (K : Keyed Tryz.prog k) (ht : Tryz.prog.underlying t = some (.map k e)) {z : Value} (hz : (zeroValue e).run Tryz.prog w = .ok z w) {key : Value} {kl : Lit} (hkey : keyOf Tryz.prog k key = some kl) :
    (Instr.lookup t (.map none) key true).run Tryz.prog w = .ok (.tuple #[z, .bool false]) w ∧ (Instr.lookup t (.map none) key false).run Tryz.prog w = .ok z w :=
  ⟨Maps.look_nil true K ht hz hkey, Maps.look_nil false K ht hz hkey⟩
end Go.Proofs.YtpfknjnigcefgaaGreatDoor
