/- Rows of 64 bytes: unit, sum, first. -/
import Derived.Test.YtblmblbkfdcbjabF2
import Derived.Test.YtblmblbkfdcbjabM2
import Derived.Deep.RegionWith
import Derived.Deep.RegionHeld3
namespace Go.Proofs.Ytblmblbkfdcbjab
open Go.RowKit
set_option linter.unusedSimpArgs false
set_option linter.unusedVariables false
/-- The row of nothing. -/
def zr : List UInt8 := List.replicate 64 0
/-- The unit's row. -/
def ur (i : Nat) : List UInt8 := zr.set i 1
theorem zr_len : zr.length = 64 := by simp [zr]
theorem ur_len (i : Nat) : (ur i).length = 64 := by simp [ur, zr_len]
theorem info_row : (Try.prog.info? 56).map (fun i => (i.zero, i.size)) = some (some (.agg (rc zr)), 64) := by kernel_rfl
theorem size_row (r : List UInt8) (h : r.length = 64) : (Try.prog.info? 56).map (·.size) = some (rc r).size := by
  have : (Try.prog.info? 56).map (·.size) = some 64 := by kernel_rfl
  rw [this, rc_size, h]
theorem results_row {P : Program} {fn : Func} {p : Tmp} {ty : TypeId} (h : fn.results = #[.cell p ty]) (tmps : Array Value) (w : World) (g : Nat) (t : TypeId) (cs : Array Value) (d : TypeDesc)
    (hp : tmps.getD p undef = .pointer (some ⟨g, 0, none⟩)) (hg : Bk w g cs t) (hu : P.underlying ty = some d) (hd : (match d with | .struct _ | .array _ _ => true | _ => false) = true) (hi : (P.info? ty).map (·.size) = some cs.size) :
    (results fn tmps).run P w = .ok (.agg cs) w := results_cell_row h tmps w g t cs (0, 0) d hp hg hu hd hi
set_option maxHeartbeats 400000 in
set_option maxRecDepth 100000 in
theorem unit_any (i : Nat) (w : World) (hi : i < 64) :
    Calls Try.prog 31 #[.int .i64 i] w fun e w' => e = .returned (.agg (rc (ur i))) ∧ Below w.heap.size w w' := by
  have hz := (zero_of_info info_row).1
  have HI := size_row
  go_enter Try.func31, Try.ntmps31
  go_wp2_with (first
    | (refine wpList_put rfl 56 (.tmp 3) (.tmp 4) rfl (w.heap.size + 1) 0 _ (rc zr) 56 rfl rfl (by have := bk_new (w.alloc (.cells (rc zr) 56)) (rc zr) 56; rw [al_size] at this; exact this) (HI _ zr_len) (by simp) (rc_one _) ?_; intro w1 HB1 HG1 hs1
       have hs2 : w1.heap.size = w.heap.size + 2 := by rw [hs1, al_size, al_size]
       have HB2 : Hid (Bk w1 (w.heap.size + 1) (rc zr) 56) := by have := HB1.out; rw [putC_all _ _ rfl] at this; exact this
       have HBW : Hid (Below w.heap.size w w1) := below_own (((Below.refl _ _).alloc (Nat.le_refl _) _).alloc (by simp) _) (by simp; omega) HG1.out (by omega)
       have HR : Hid (Bk w1 w.heap.size (rc zr) 56) := ((bk_new w (rc zr) 56).alloc _).grown HG1.out (by simp)
       clear hs1 HB1 HG1
       have hc1 : w1.cell? ⟨w.heap.size + 1, i, none⟩ = some (.int .u8 0) := by rw [HB2.out.cell, rc_get, zr, List.getElem?_replicate, if_pos hi]; rfl
       have hf1 := HB2.out.frozen i)
    | (refine wpList_get rfl 56 (.tmp 3) rfl (w.heap.size + 1) 0 _ (rc (ur i)) 56 _ rfl (HB2.out.set i _) (by intro j v hv; rw [Nat.zero_add, show (Value.int .u8 1) = c8 1 from rfl, rc_set]; exact hv) Try.underlying56 rfl (HI _ (ur_len _)) ?_)
    | (refine wpList_put rfl 56 (.tmp 2) (.tmp 7) rfl w.heap.size 0 (rc zr) (rc (ur i)) 56 rfl rfl (HR.out.grown (Lib.grownBy_setB (World.grownBy.refl _ _) i _) (by simp)) (HI _ (ur_len _)) (by rw [rc_size, rc_size, zr_len, ur_len]; omega) (rc_one _) ?_; intro w2 HB3 HG3 hs3))
  refine bodyPost_ret (results_row rfl _ _ w.heap.size 56 (rc (ur i)) _ rfl (by have := HB3.out; rw [putC_all _ _ (by rw [zr_len, ur_len])] at this; exact this) Try.underlying56 rfl (HI _ (ur_len _))) rfl ⟨rfl, ?_⟩
  exact below_own (below_own HBW.out (by omega) (Lib.grownBy_setB (World.grownBy.refl _ _) i _) (by omega)) (by simp [World.setCell]; omega) HG3.out (Nat.le_refl _)
/-- A row with so many times another one. -/
def addR (a b : List UInt8) (t : UInt8) : List UInt8 := List.zipWith (fun x y => x ^^^ mul y t) a b
theorem addR_len (a b : List UInt8) (t : UInt8) (ha : a.length = 64) (hb : b.length = 64) : (addR a b t).length = 64 := by simp [addR, ha, hb]
theorem addR_zero : ∀ (a b : List UInt8), a.length = b.length → addR a b 0 = a
  | [], [], _ => rfl
  | x :: a, y :: b, h => by
    have := addR_zero a b (by simpa using h)
    unfold addR at *
    rw [List.zipWith_cons_cons, this, mul_zero_right, UInt8.xor_zero]
/-- The first j places done. -/
def addP (a b : List UInt8) (t : UInt8) (j : Nat) : List UInt8 := (addR a b t).take j ++ a.drop j
theorem addP_len (a b : List UInt8) (t : UInt8) (j : Nat) (ha : a.length = 64) (hb : b.length = 64) (hj : j ≤ 64) : (addP a b t j).length = 64 := by
  simp [addP, addR_len a b t ha hb, ha]; omega
theorem addP_at (a b : List UInt8) (t : UInt8) (j : Nat) (ha : a.length = 64) (hb : b.length = 64) (hj : j < 64) : (addP a b t j)[j]? = a[j]? := by
  unfold addP
  rw [List.getElem?_append_right (by simp [addR_len a b t ha hb]; omega), List.getElem?_drop]
  simp [addR_len a b t ha hb, Nat.min_eq_left (Nat.le_of_lt hj)]
theorem addP_next (a b : List UInt8) (t x y : UInt8) (j : Nat) (ha : a.length = 64) (hb : b.length = 64) (hj : j < 64) (hx : a[j]? = some x) (hy : b[j]? = some y) : (addP a b t j).set j (x ^^^ mul y t) = addP a b t (j + 1) := by
  have hr : (addR a b t)[j]? = some (x ^^^ mul y t) := by simp [addR, List.getElem?_zipWith, hx, hy]
  have hl := addR_len a b t ha hb
  apply List.ext_getElem?
  intro i
  rw [List.getElem?_set, addP_len a b t j ha hb (by omega)]
  by_cases e : j = i
  · subst e
    rw [if_pos rfl, if_pos hj]
    unfold addP
    rw [List.getElem?_append_left (by simp [hl]; omega), List.getElem?_take, if_pos (by omega), hr]
  · rw [if_neg e]
    unfold addP
    by_cases h1 : i < j
    · rw [List.getElem?_append_left (by simp [hl]; omega), List.getElem?_append_left (by simp [hl]; omega), List.getElem?_take, List.getElem?_take, if_pos h1, if_pos (by omega)]
    · rw [List.getElem?_append_right (by simp [hl]; omega), List.getElem?_append_right (by simp [hl]; omega), List.getElem?_drop, List.getElem?_drop]
      simp only [List.length_take, hl]
      congr 1
      omega
/-- Three rows of the call's own. -/
structure Sm (w : World) (a b z : List UInt8) (wr : World) : Prop where
  a : Bk wr w.heap.size (rc a) 56
  b : Bk wr (w.heap.size + 1) (rc b) 56
  z : Bk wr (w.heap.size + 2) (rc z) 56
  bel : Below w.heap.size w wr
  sz : w.heap.size + 3 ≤ wr.heap.size
theorem sm_new (w : World) (a b : List UInt8) : Sm w a b zr (((w.alloc (.cells (rc a) 56)).alloc (.cells (rc b) 56)).alloc (.cells (rc zr) 56)) where
  a := ((bk_new w _ _).alloc _).alloc _
  b := by have := bk_new (w.alloc (.cells (rc a) 56)) (rc b) 56; rw [al_size] at this; exact this.alloc _
  z := by have := bk_new ((w.alloc (.cells (rc a) 56)).alloc (.cells (rc b) 56)) (rc zr) 56; rw [al_size, al_size] at this; exact this
  bel := (((Below.refl _ _).alloc (Nat.le_refl _) _).alloc (by simp) _).alloc (by simp; omega) _
  sz := by rw [al_size, al_size, al_size]; omega
theorem Sm.fin {w wr w2 : World} {a b z : List UInt8} (h : Sm w a b z wr) (hg : wr.grownBy w2 (some (w.heap.size + 2))) : Below w.heap.size w w2 := below_own h.bel (by have := h.sz; omega) hg (by omega)
theorem Sm.step {w wr : World} {a b z : List UInt8} (h : Sm w a b z wr) (j : Nat) (v : UInt8) : Sm w (a.set j v) b z (wr.setCell ⟨w.heap.size, j, none⟩ (c8 v)) where
  a := by rw [← rc_set]; exact h.a.set j _
  b := h.b.grown (Lib.grownBy_setB (World.grownBy.refl _ _) j _) (by simp)
  z := h.z.grown (Lib.grownBy_setB (World.grownBy.refl _ _) j _) (by simp)
  bel := below_own h.bel (by have := h.sz; omega) (Lib.grownBy_setB (World.grownBy.refl _ _) j _) (Nat.le_refl _)
  sz := by have := h.sz; simp [World.setCell]; omega
theorem Sm.drewN {w wr : World} {a b z : List UInt8} (h : Sm w a b z wr) (n : Nat) : Sm w a b z (wr.drewN n) :=
  ⟨h.a, h.b, h.z, below_drewN h.bel n, h.sz⟩
theorem Sm.drew {w wr : World} {a b z : List UInt8} (h : Sm w a b z wr) : Sm w a b z wr.drew := ⟨h.a, h.b, h.z, h.bel.drew, h.sz⟩
set_option maxHeartbeats 1000000 in
set_option maxRecDepth 100000 in
theorem sum_any (a b : List UInt8) (t : UInt8) (w : World) (ha : a.length = 64) (hb : b.length = 64) :
    Calls Try.prog 36 #[.agg (rc a), .agg (rc b), c8 t] w fun e w' => e = .returned (.agg (rc (addR a b t))) ∧ Below w.heap.size w w' := by
  have hz := (zero_of_info info_row).1
  have HI := size_row
  have ht8 := t.toNat_lt
  have HS : Hid _ := sm_new w a b
  have HL : Hid (a.length = 64 ∧ b.length = 64) := ⟨ha, hb⟩
  by_cases h0 : t = 0
  · subst h0
    rw [addR_zero a b (by rw [ha, hb])]
    clear ha hb
    go_enter Try.func36, Try.ntmps36
    go_wp2_with (first
      | (refine wpList_get rfl 56 (.tmp 3) rfl w.heap.size 0 (rc a) (rc a) 56 _ rfl HS.out.a (by intro j v hv; rw [Nat.zero_add]; exact hv) Try.underlying56 rfl (HI _ HL.out.1) ?_)
      | (refine wpList_put rfl 56 (.tmp 6) (.tmp 10) rfl (w.heap.size + 2) 0 (rc zr) (rc a) 56 rfl rfl HS.out.z (HI _ HL.out.1) (by rw [rc_size, rc_size, zr_len, HL.out.1]; omega) (rc_one _) ?_; intro w2 HB3 HG3 hs3))
    refine bodyPost_ret (results_row rfl _ _ (w.heap.size + 2) 56 (rc a) _ rfl (by have := HB3.out; rw [putC_all _ _ (by rw [zr_len, HL.out.1])] at this; exact this) Try.underlying56 rfl (HI _ HL.out.1)) rfl ⟨rfl, HS.out.fin HG3.out⟩
  · have hn : ¬ t.toNat = 0 := fun e => h0 (UInt8.toNat_inj.1 (by simpa using e))
    have h0' : (((t.toNat : Int)) == 0) = false := by rw [beq_eq_false_iff_ne]; omega
    clear h0 hn ha hb
    go_enter Try.func36, Try.ntmps36
    go_wp2_with fail
    go_loopw [11] (fun v wr => ∃ j : Nat, j ≤ 64 ∧ v = .int .i64 j ∧ Hid (Sm w (addP a b t j) b zr wr)) (fun v _ => 64 - (intOf v).toNat)
    case atStart => exact ⟨0, by omega, rfl, by have := HS.out; exact (show Sm w (addP a b t 0) b zr _ from by unfold addP; simpa using this)⟩
    case round =>
      obtain ⟨j, hj, rfl, HR⟩ := hrel
      clear HS
      by_cases hlt : j < 64
      · obtain ⟨x, hx⟩ : ∃ x, a[j]? = some x := ⟨a[j]'(by rw [HL.out.1]; exact hlt), List.getElem?_eq_getElem _⟩
        obtain ⟨y, hy⟩ : ∃ y, b[j]? = some y := ⟨b[j]'(by rw [HL.out.2]; exact hlt), List.getElem?_eq_getElem _⟩
        have hc1 : wr.cell? ⟨w.heap.size, j, none⟩ = some (c8 x) := by rw [HR.out.a.cell, rc_get, addP_at a b t j HL.out.1 HL.out.2 hlt, hx]; rfl
        have hc2 : wr.cell? ⟨w.heap.size + 1, j, none⟩ = some (c8 y) := by rw [HR.out.b.cell, rc_get, hy]; rfl
        have hf1 := HR.out.a.frozen j
        have HN : Hid ((addP a b t j).set j (x ^^^ mul y t) = addP a b t (j + 1)) := addP_next a b t x y j HL.out.1 HL.out.2 hlt hx hy
        clear hx hy
        have hx8 := x.toNat_lt
        have hm8 := (mul y t).toNat_lt
        have HX := xor8 x (mul y t)
        go_wp2
        go_region_with (go_at_call 37; refine (times_any y t _).mono ?_; rintro e w' ⟨rfl, rfl⟩)
        all_goals
          go_wp2
          go_roundw
          case rel => exact ⟨j + 1, by omega, by go_num, by show Sm _ _ _ _ _; rw [← HN.out]; exact HR.out.drew.step j _⟩
          case measure => simp [intOf]; omega
      · have hj64 : j = 64 := by omega
        have HF : Hid (addP a b t j = addR a b t) := by
          show addP a b t j = _
          unfold addP
          rw [hj64, List.drop_eq_nil_of_le (by rw [HL.out.1]; omega), List.take_of_length_le (by rw [addR_len a b t HL.out.1 HL.out.2]; omega), List.append_nil]
        have HRL : Hid ((addR a b t).length = 64) := addR_len a b t HL.out.1 HL.out.2
        have HR2 : Hid (Sm w (addR a b t) b zr wr) := by show Sm _ _ _ _ _; rw [← HF.out]; exact HR.out
        clear HR HF hj64
        go_wp2_with (first
          | (refine wpList_get rfl 56 (.tmp 3) rfl w.heap.size 0 (rc (addR a b t)) (rc (addR a b t)) 56 _ rfl HR2.out.a (by intro j v hv; rw [Nat.zero_add]; exact hv) Try.underlying56 rfl (HI _ HRL.out) ?_)
          | (refine wpList_put rfl 56 (.tmp 6) (.tmp 25) rfl (w.heap.size + 2) 0 (rc zr) (rc (addR a b t)) 56 rfl rfl HR2.out.z (HI _ HRL.out) (by rw [rc_size, rc_size, zr_len, HRL.out]; omega) (rc_one _) ?_; intro w2 HB3 HG3 hs3))
        refine bodyPost_ret (results_row rfl _ _ (w.heap.size + 2) 56 (rc (addR a b t)) _ rfl (by have := HB3.out; rw [putC_all _ _ (by rw [zr_len, HRL.out])] at this; exact this) Try.underlying56 rfl (HI _ HRL.out)) rfl ⟨rfl, HR2.out.fin HG3.out⟩
end Go.Proofs.Ytblmblbkfdcbjab
