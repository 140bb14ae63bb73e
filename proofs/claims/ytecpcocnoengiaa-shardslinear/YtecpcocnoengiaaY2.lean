import Derived.Test.YtecpcocnoengiaaY1
import Derived.Laws.MakeOwn
import Derived.Deep.RegionWith
import Derived.Deep.RegionHeld3
import Derived.ChangeKeysEq
/- Rows one behind the other in one block; bytes of a text copied into a block. No program is named here. -/
namespace Go.Proofs.Ytecpcocnoengiaa
open Go.RowKit
set_option linter.unusedSimpArgs false
set_option linter.unusedVariables false
/-- Bytes as cells. -/
def rc (r : List UInt8) : Array Value := (r.map fun x : UInt8 => Value.int .u8 (x.toNat : Int)).toArray
theorem rc_size (r : List UInt8) : (rc r).size = r.length := by simp [rc]
theorem rc_one (r : List UInt8) : (rc r).all (·.oneCell') = true := by simp [rc, List.all_eq_true, Value.oneCell']
theorem rc_get (r : List UInt8) (j : Nat) : (rc r)[j]? = (r[j]?).map fun x : UInt8 => Value.int .u8 (x.toNat : Int) := by simp [rc]
theorem rc_set (r : List UInt8) (j : Nat) (x : UInt8) : (rc r).setIfInBounds j (.int .u8 (x.toNat : Int)) = rc (r.set j x) := by
  simp only [rc, List.setIfInBounds_toArray, List.map_set]
theorem rc_list (r : List UInt8) : (rc r).toList = r.map fun x : UInt8 => Value.int .u8 (x.toNat : Int) := by simp [rc]
/-- Bytes laid over others from a place on. -/
def putB (l : List UInt8) (o : Nat) (r : List UInt8) : List UInt8 := l.take o ++ r ++ l.drop (o + r.length)
theorem putB_len (l : List UInt8) (o : Nat) (r : List UInt8) (h : o + r.length ≤ l.length) : (putB l o r).length = l.length := by
  simp [putB]; omega
theorem putB_get (l : List UInt8) (o : Nat) (r : List UInt8) (h : o + r.length ≤ l.length) (i : Nat) : (putB l o r)[i]? = if o ≤ i ∧ i < o + r.length then r[i - o]? else l[i]? := by
  unfold putB
  by_cases h1 : i < o
  · rw [if_neg (by omega), List.append_assoc, List.getElem?_append_left (by simp; omega), List.getElem?_take, if_pos h1]
  · by_cases h2 : i < o + r.length
    · rw [if_pos (by omega), List.append_assoc, List.getElem?_append_right (by simp; omega), List.getElem?_append_left (by simp; omega)]
      simp only [List.length_take]
      congr 1
      omega
    · rw [if_neg (by omega), List.getElem?_append_right (by simp; omega), List.getElem?_drop]
      simp only [List.length_append, List.length_take]
      congr 1
      omega
theorem putC_rc (l : List UInt8) (o : Nat) (r : List UInt8) (h : o + r.length ≤ l.length) : putC (rc l) o (rc r).toList = rc (putB l o r) := by
  apply Array.ext_getElem?
  intro i
  rw [putC_get _ _ _ _ (by rw [rc_list, rc_size]; simpa using h), rc_get, rc_get, putB_get l o r h, rc_list]
  simp only [List.length_map]
  by_cases e : o ≤ i ∧ i < o + r.length
  · rw [if_pos e, if_pos e, List.getElem?_map]
  · rw [if_neg e, if_neg e]
theorem putB_all (l r : List UInt8) (h : l.length = r.length) : putB l 0 r = r := by
  unfold putB
  rw [List.take_zero, List.nil_append, List.drop_eq_nil_of_le (by omega), List.append_nil]
theorem putC_all (l r : List UInt8) (h : l.length = r.length) : putC (rc l) 0 (rc r).toList = rc r := by
  rw [putC_rc l 0 r (by omega), putB_all l r h]
theorem flat_len (k : Nat) : ∀ (L : List (List UInt8)), (∀ r ∈ L, r.length = k) → L.flatten.length = k * L.length
  | [], _ => by simp
  | r :: L, h => by
    rw [List.flatten_cons, List.length_append, flat_len k L (fun x hx => h x (by simp [hx])), h r (by simp), List.length_cons, Nat.mul_succ]
    omega
theorem flat_get (k : Nat) : ∀ (L : List (List UInt8)), (∀ r ∈ L, r.length = k) → ∀ (i : Nat) (r : List UInt8), L[i]? = some r → ∀ j, j < k → L.flatten[k * i + j]? = r[j]?
  | [], _, i, r, hi, _, _ => by simp at hi
  | x :: L, h, 0, r, hi, j, hj => by
    simp only [List.getElem?_cons_zero, Option.some.injEq] at hi
    subst hi
    rw [List.flatten_cons, Nat.mul_zero, Nat.zero_add, List.getElem?_append_left (by rw [h x (by simp)]; exact hj)]
  | x :: L, h, i + 1, r, hi, j, hj => by
    have hx := h x (by simp)
    rw [List.flatten_cons, List.getElem?_append_right (by rw [hx, Nat.mul_succ]; omega), hx, show k * (i + 1) + j - k = k * i + j from by rw [Nat.mul_succ]; omega]
    exact flat_get k L (fun y hy => h y (by simp [hy])) i r (by simpa using hi) j hj
theorem flat_set (k : Nat) : ∀ (L : List (List UInt8)), (∀ r ∈ L, r.length = k) → ∀ (i : Nat), i < L.length → ∀ (r : List UInt8), r.length = k → putB L.flatten (k * i) r = (L.set i r).flatten
  | [], _, i, hi, _, _ => by simp at hi
  | x :: L, h, 0, _, r, hr => by
    have hx := h x (by simp)
    unfold putB
    rw [Nat.mul_zero, List.take_zero, List.nil_append, Nat.zero_add, List.set_cons_zero, List.flatten_cons, List.flatten_cons, List.drop_append, hr, ← hx, List.drop_length, Nat.sub_self, List.drop_zero, List.nil_append]
  | x :: L, h, i + 1, hi, r, hr => by
    have hx := h x (by simp)
    have ih := flat_set k L (fun y hy => h y (by simp [hy])) i (by simpa using hi) r hr
    rw [List.set_cons_succ, List.flatten_cons, List.flatten_cons, ← ih]
    unfold putB
    rw [List.take_append, List.drop_append, hx, List.take_of_length_le (by rw [hx, Nat.mul_succ]; omega), List.drop_eq_nil_of_le (by rw [hx, Nat.mul_succ]; omega), List.nil_append, List.append_assoc, List.append_assoc, List.append_assoc]
    rw [show k * (i + 1) - k = k * i from by rw [Nat.mul_succ]; omega, show k * (i + 1) + r.length - k = k * i + r.length from by rw [Nat.mul_succ]; omega]
theorem flat_part (k : Nat) : ∀ (L : List (List UInt8)), (∀ r ∈ L, r.length = k) → ∀ (i : Nat) (r : List UInt8), L[i]? = some r → ∀ (x : List UInt8), x.length ≤ k → putB L.flatten (k * i) x = (L.set i (putB r 0 x)).flatten
  | [], _, i, r, hi, _, _ => by simp at hi
  | y :: L, h, 0, r, hi, x, hx => by
    simp only [List.getElem?_cons_zero, Option.some.injEq] at hi
    subst hi
    have hy := h y (by simp)
    unfold putB
    rw [Nat.mul_zero, List.take_zero, List.take_zero, List.nil_append, Nat.zero_add, List.set_cons_zero, List.flatten_cons, List.flatten_cons, List.drop_append, show x.length - y.length = 0 from by omega, List.drop_zero, List.append_assoc]
  | y :: L, h, i + 1, r, hi, x, hx => by
    have hy := h y (by simp)
    have ih := flat_part k L (fun z hz => h z (by simp [hz])) i r (by simpa using hi) x hx
    rw [List.set_cons_succ, List.flatten_cons, List.flatten_cons, ← ih]
    unfold putB
    rw [List.take_append, List.drop_append, hy, List.take_of_length_le (by rw [hy, Nat.mul_succ]; omega), List.drop_eq_nil_of_le (by rw [hy, Nat.mul_succ]; omega), List.nil_append, List.append_assoc, List.append_assoc, List.append_assoc]
    rw [show k * (i + 1) - k = k * i from by rw [Nat.mul_succ]; omega, show k * (i + 1) + x.length - k = k * i + x.length from by rw [Nat.mul_succ]; omega]
/-- The cells of rows of one width. -/
theorem row_get (k : Nat) (L : List (List UInt8)) (h : ∀ r ∈ L, r.length = k) (i : Nat) (r : List UInt8) (hi : L[i]? = some r) (j : Nat) (v : Value) (hv : (rc r)[j]? = some v) : (rc L.flatten)[k * i + j]? = some v := by
  have hr := h r (List.mem_of_getElem? hi)
  have hj : j < k := by
    have := (Array.getElem?_eq_some_iff.1 hv).1
    rw [rc_size, hr] at this
    exact this
  rw [rc_get, flat_get k L h i r hi j hj, ← rc_get]
  exact hv
theorem row_fits (k : Nat) (L : List (List UInt8)) (h : ∀ r ∈ L, r.length = k) (i : Nat) (hi : i < L.length) (r : List UInt8) (hr : r.length = k) : k * i + (rc r).size ≤ (rc L.flatten).size := by
  rw [rc_size, rc_size, hr, flat_len k L h, ← Nat.mul_succ]
  exact Nat.mul_le_mul_left k hi
theorem row_put (k : Nat) (L : List (List UInt8)) (h : ∀ r ∈ L, r.length = k) (i : Nat) (hi : i < L.length) (r : List UInt8) (hr : r.length = k) : putC (rc L.flatten) (k * i) (rc r).toList = rc (L.set i r).flatten := by
  have := row_fits k L h i hi r hr
  rw [rc_size, rc_size] at this
  rw [putC_rc _ _ _ this, flat_set k L h i hi r hr]
theorem set_wide (k : Nat) (L : List (List UInt8)) (h : ∀ r ∈ L, r.length = k) (i : Nat) (r : List UInt8) (hr : r.length = k) : ∀ x ∈ L.set i r, x.length = k := by
  intro x hx
  rcases List.mem_or_eq_of_mem_set hx with h1 | h1
  · exact h x h1
  · rw [h1]; exact hr
/-- Rows of nothing, made. -/
theorem made_rows (k n : Nat) (hk : 0 < k) : madeCells (rc (List.replicate k 0)) (n * k) = rc (List.replicate n (List.replicate k (0 : UInt8))).flatten := by
  apply Array.ext_getElem?
  intro i
  have hl : (List.replicate n (List.replicate k (0 : UInt8))).flatten = List.replicate (n * k) 0 := by
    rw [List.flatten_replicate_replicate]
  rw [hl, rc_get]
  simp only [madeCells]
  by_cases hi : i < n * k
  · rw [List.getElem?_replicate, if_pos hi]
    simp [rc, hi, Nat.mod_lt _ hk]
  · rw [List.getElem?_eq_none (by simp; omega), Array.getElem?_eq_none (by simp; omega)]; rfl
/-- 'copy(x[..], s)': the bytes of a text into the middle of a block. -/
theorem copy_txt (w : World) (dT sT ty elem : TypeId) (b o dLen dCap : Nat) (s : ByteArray) {P : Program}
    (hu : P.underlying dT = some (.slice elem)) (hs : (P.info? elem).map (·.size) = some 1)
    (hc : ∀ j, j < Nat.min s.size dLen → (w.cell? ⟨b, o + j, none⟩).isSome = true) (hf : ∀ j, j < Nat.min s.size dLen → w.frozen? ⟨b, o + j, none⟩ = false) :
    (Builtin.copy_ #[dT, sT] ty #[.slice (some ⟨b, o, none⟩) dLen dCap, .string s]).run P w = .ok (goInt (Nat.min s.size dLen)) (w.setCells b o (rc (s.data.toList.take (Nat.min s.size dLen))).toList) := by
  have hl : (rc (s.data.toList.take (Nat.min s.size dLen))).toList.length = Nat.min s.size dLen := by
    simp only [rc_list, List.length_map, List.length_take, Array.length_toList]
    exact Nat.min_eq_left (Nat.min_le_left _ _)
  have hst := run_storeCells_cells (P := P) b o (rc (s.data.toList.take (Nat.min s.size dLen))).toList 0 w (by rw [hl]; simpa using hc) (by rw [hl]; simpa using hf) (by intro v hv; rw [rc_list, List.mem_map] at hv; obtain ⟨x, _, rfl⟩ := hv; rfl)
  cases hq : P.info? elem with
  | none => simp [hq] at hs
  | some i =>
    have hi : i.size = 1 := by simpa [hq] using hs
    simp only [Nat.add_zero] at hst
    simp [Builtin.copy_, run_underlying hu, Builtin.lenOf, Builtin.firstCells, sizeOf, typeInfo, hq, hi]
    have e2 : List.take (s.size.min dLen) (List.map (fun b => Value.int IntKind.u8 (b.toNat : Int)) s.data.toList) = (rc (s.data.toList.take (Nat.min s.size dLen))).toList := by
      rw [rc_list, ← List.map_take]
    rw [e2, hst]
    rfl
end Go.Proofs.Ytecpcocnoengiaa
/- Rows of 64 bytes: unit, sum, first. -/
namespace Go.Proofs.Ytecpcocnoengiaa
open Go.RowKit
set_option linter.unusedSimpArgs false
set_option linter.unusedVariables false
/-- The row of nothing. -/
def zr : List UInt8 := List.replicate 64 0
/-- The unit's row. -/
def ur (i : Nat) : List UInt8 := zr.set i 1
theorem zr_len : zr.length = 64 := by simp [zr]
theorem ur_len (i : Nat) : (ur i).length = 64 := by simp [ur, zr_len]
theorem info_row : (Try.prog.info? 60).map (fun i => (i.zero, i.size)) = some (some (.agg (rc zr)), 64) := by kernel_rfl
theorem size_row (r : List UInt8) (h : r.length = 64) : (Try.prog.info? 60).map (·.size) = some (rc r).size := by
  have : (Try.prog.info? 60).map (·.size) = some 64 := by kernel_rfl
  rw [this, rc_size, h]
theorem results_row {P : Program} {fn : Func} {p : Tmp} {ty : TypeId} (h : fn.results = #[.cell p ty]) (tmps : Array Value) (w : World) (g : Nat) (t : TypeId) (cs : Array Value) (d : TypeDesc)
    (hp : tmps.getD p undef = .pointer (some ⟨g, 0, none⟩)) (hg : Bk w g cs t) (hu : P.underlying ty = some d) (hd : (match d with | .struct _ | .array _ _ => true | _ => false) = true) (hi : (P.info? ty).map (·.size) = some cs.size) :
    (results fn tmps).run P w = .ok (.agg cs) w := results_cell_row h tmps w g t cs (0, 0) d hp hg hu hd hi
set_option maxHeartbeats 400000 in
set_option maxRecDepth 100000 in
theorem unit_any (i : Nat) (w : World) (hi : i < 64) :
    Calls Try.prog 34 #[.int .i64 i] w fun e w' => e = .returned (.agg (rc (ur i))) ∧ Below w.heap.size w w' := by
  have hz := (zero_of_info info_row).1
  have HI := size_row
  go_enter Try.func34, Try.ntmps34
  go_wp2_with (first
    | (refine wpList_put rfl 60 (.tmp 3) (.tmp 4) rfl (w.heap.size + 1) 0 _ (rc zr) 60 rfl rfl (by have := bk_new (w.alloc (.cells (rc zr) 60)) (rc zr) 60; rw [al_size] at this; exact this) (HI _ zr_len) (by simp) (rc_one _) ?_; intro w1 HB1 HG1 hs1
       have hs2 : w1.heap.size = w.heap.size + 2 := by rw [hs1, al_size, al_size]
       have HB2 : Hid (Bk w1 (w.heap.size + 1) (rc zr) 60) := by have := HB1.out; rw [putC_all _ _ rfl] at this; exact this
       have HBW : Hid (Below w.heap.size w w1) := below_own (((Below.refl _ _).alloc (Nat.le_refl _) _).alloc (by simp) _) (by simp; omega) HG1.out (by omega)
       have HR : Hid (Bk w1 w.heap.size (rc zr) 60) := ((bk_new w (rc zr) 60).alloc _).grown HG1.out (by simp)
       clear hs1 HB1 HG1
       have hc1 : w1.cell? ⟨w.heap.size + 1, i, none⟩ = some (.int .u8 0) := by rw [HB2.out.cell, rc_get, zr, List.getElem?_replicate, if_pos hi]; rfl
       have hf1 := HB2.out.frozen i)
    | (refine wpList_get rfl 60 (.tmp 3) rfl (w.heap.size + 1) 0 _ (rc (ur i)) 60 _ rfl (HB2.out.set i _) (by intro j v hv; rw [Nat.zero_add, show (Value.int .u8 1) = c8 1 from rfl, rc_set]; exact hv) Try.underlying60 rfl (HI _ (ur_len _)) ?_)
    | (refine wpList_put rfl 60 (.tmp 2) (.tmp 7) rfl w.heap.size 0 (rc zr) (rc (ur i)) 60 rfl rfl (HR.out.grown (Lib.grownBy_setB (World.grownBy.refl _ _) i _) (by simp)) (HI _ (ur_len _)) (by rw [rc_size, rc_size, zr_len, ur_len]; omega) (rc_one _) ?_; intro w2 HB3 HG3 hs3))
  refine bodyPost_ret (results_row rfl _ _ w.heap.size 60 (rc (ur i)) _ rfl (by have := HB3.out; rw [putC_all _ _ (by rw [zr_len, ur_len])] at this; exact this) Try.underlying60 rfl (HI _ (ur_len _))) rfl ⟨rfl, ?_⟩
  exact below_own (below_own HBW.out (by omega) (Lib.grownBy_setB (World.grownBy.refl _ _) i _) (by omega)) (by simp [World.setCell]; omega) HG3.out (Nat.le_refl _)
/-- A row with so many times another one. -/
def addR (a b : List UInt8) (t : UInt8) : List UInt8 := List.zipWith (fun x y => x ^^^ mul y t) a b
theorem addR_len (a b : List UInt8) (t : UInt8) (ha : a.length = 64) (hb : b.length = 64) : (addR a b t).length = 64 := by simp [addR, ha, hb]
theorem addR_zero : ∀ (a b : List UInt8), a.length = b.length → addR a b 0 = a
  | [], [], _ => rfl
  | x :: a, y :: b, h => by
    have := addR_zero a b (by simpa using h)
    unfold addR at *
    rw [List.zipWith_cons_cons, this, mul_zero_right, UInt8.xor_zero]
/-- The first j places done. -/
def addP (a b : List UInt8) (t : UInt8) (j : Nat) : List UInt8 := (addR a b t).take j ++ a.drop j
theorem addP_len (a b : List UInt8) (t : UInt8) (j : Nat) (ha : a.length = 64) (hb : b.length = 64) (hj : j ≤ 64) : (addP a b t j).length = 64 := by
  simp [addP, addR_len a b t ha hb, ha]; omega
theorem addP_at (a b : List UInt8) (t : UInt8) (j : Nat) (ha : a.length = 64) (hb : b.length = 64) (hj : j < 64) : (addP a b t j)[j]? = a[j]? := by
  unfold addP
  rw [List.getElem?_append_right (by simp [addR_len a b t ha hb]; omega), List.getElem?_drop]
  simp [addR_len a b t ha hb, Nat.min_eq_left (Nat.le_of_lt hj)]
theorem addP_next (a b : List UInt8) (t x y : UInt8) (j : Nat) (ha : a.length = 64) (hb : b.length = 64) (hj : j < 64) (hx : a[j]? = some x) (hy : b[j]? = some y) : (addP a b t j).set j (x ^^^ mul y t) = addP a b t (j + 1) := by
  have hr : (addR a b t)[j]? = some (x ^^^ mul y t) := by simp [addR, List.getElem?_zipWith, hx, hy]
  have hl := addR_len a b t ha hb
  apply List.ext_getElem?
  intro i
  rw [List.getElem?_set, addP_len a b t j ha hb (by omega)]
  by_cases e : j = i
  · subst e
    rw [if_pos rfl, if_pos hj]
    unfold addP
    rw [List.getElem?_append_left (by simp [hl]; omega), List.getElem?_take, if_pos (by omega), hr]
  · rw [if_neg e]
    unfold addP
    by_cases h1 : i < j
    · rw [List.getElem?_append_left (by simp [hl]; omega), List.getElem?_append_left (by simp [hl]; omega), List.getElem?_take, List.getElem?_take, if_pos h1, if_pos (by omega)]
    · rw [List.getElem?_append_right (by simp [hl]; omega), List.getElem?_append_right (by simp [hl]; omega), List.getElem?_drop, List.getElem?_drop]
      simp only [List.length_take, hl]
      congr 1
      omega
/-- Three rows of the call's own. -/
structure Sm (w : World) (a b z : List UInt8) (wr : World) : Prop where
  a : Bk wr w.heap.size (rc a) 60
  b : Bk wr (w.heap.size + 1) (rc b) 60
  z : Bk wr (w.heap.size + 2) (rc z) 60
  bel : Below w.heap.size w wr
  sz : w.heap.size + 3 ≤ wr.heap.size
theorem sm_new (w : World) (a b : List UInt8) : Sm w a b zr (((w.alloc (.cells (rc a) 60)).alloc (.cells (rc b) 60)).alloc (.cells (rc zr) 60)) where
  a := ((bk_new w _ _).alloc _).alloc _
  b := by have := bk_new (w.alloc (.cells (rc a) 60)) (rc b) 60; rw [al_size] at this; exact this.alloc _
  z := by have := bk_new ((w.alloc (.cells (rc a) 60)).alloc (.cells (rc b) 60)) (rc zr) 60; rw [al_size, al_size] at this; exact this
  bel := (((Below.refl _ _).alloc (Nat.le_refl _) _).alloc (by simp) _).alloc (by simp; omega) _
  sz := by rw [al_size, al_size, al_size]; omega
theorem Sm.fin {w wr w2 : World} {a b z : List UInt8} (h : Sm w a b z wr) (hg : wr.grownBy w2 (some (w.heap.size + 2))) : Below w.heap.size w w2 := below_own h.bel (by have := h.sz; omega) hg (by omega)
theorem Sm.step {w wr : World} {a b z : List UInt8} (h : Sm w a b z wr) (j : Nat) (v : UInt8) : Sm w (a.set j v) b z (wr.setCell ⟨w.heap.size, j, none⟩ (c8 v)) where
  a := by rw [← rc_set]; exact h.a.set j _
  b := h.b.grown (Lib.grownBy_setB (World.grownBy.refl _ _) j _) (by simp)
  z := h.z.grown (Lib.grownBy_setB (World.grownBy.refl _ _) j _) (by simp)
  bel := below_own h.bel (by have := h.sz; omega) (Lib.grownBy_setB (World.grownBy.refl _ _) j _) (Nat.le_refl _)
  sz := by have := h.sz; simp [World.setCell]; omega
theorem Sm.drewN {w wr : World} {a b z : List UInt8} (h : Sm w a b z wr) (n : Nat) : Sm w a b z (wr.drewN n) :=
  ⟨h.a, h.b, h.z, below_drewN h.bel n, h.sz⟩
theorem Sm.drew {w wr : World} {a b z : List UInt8} (h : Sm w a b z wr) : Sm w a b z wr.drew := ⟨h.a, h.b, h.z, h.bel.drew, h.sz⟩
set_option maxHeartbeats 1000000 in
set_option maxRecDepth 100000 in
theorem sum_any (a b : List UInt8) (t : UInt8) (w : World) (ha : a.length = 64) (hb : b.length = 64) :
    Calls Try.prog 39 #[.agg (rc a), .agg (rc b), c8 t] w fun e w' => e = .returned (.agg (rc (addR a b t))) ∧ Below w.heap.size w w' := by
  have hz := (zero_of_info info_row).1
  have HI := size_row
  have ht8 := t.toNat_lt
  have HS : Hid _ := sm_new w a b
  have HL : Hid (a.length = 64 ∧ b.length = 64) := ⟨ha, hb⟩
  by_cases h0 : t = 0
  · subst h0
    rw [addR_zero a b (by rw [ha, hb])]
    clear ha hb
    go_enter Try.func39, Try.ntmps39
    go_wp2_with (first
      | (refine wpList_get rfl 60 (.tmp 3) rfl w.heap.size 0 (rc a) (rc a) 60 _ rfl HS.out.a (by intro j v hv; rw [Nat.zero_add]; exact hv) Try.underlying60 rfl (HI _ HL.out.1) ?_)
      | (refine wpList_put rfl 60 (.tmp 6) (.tmp 10) rfl (w.heap.size + 2) 0 (rc zr) (rc a) 60 rfl rfl HS.out.z (HI _ HL.out.1) (by rw [rc_size, rc_size, zr_len, HL.out.1]; omega) (rc_one _) ?_; intro w2 HB3 HG3 hs3))
    refine bodyPost_ret (results_row rfl _ _ (w.heap.size + 2) 60 (rc a) _ rfl (by have := HB3.out; rw [putC_all _ _ (by rw [zr_len, HL.out.1])] at this; exact this) Try.underlying60 rfl (HI _ HL.out.1)) rfl ⟨rfl, HS.out.fin HG3.out⟩
  · have hn : ¬ t.toNat = 0 := fun e => h0 (UInt8.toNat_inj.1 (by simpa using e))
    have h0' : (((t.toNat : Int)) == 0) = false := by rw [beq_eq_false_iff_ne]; omega
    clear h0 hn ha hb
    go_enter Try.func39, Try.ntmps39
    go_wp2_with fail
    go_loopw [11] (fun v wr => ∃ j : Nat, j ≤ 64 ∧ v = .int .i64 j ∧ Hid (Sm w (addP a b t j) b zr wr)) (fun v _ => 64 - (intOf v).toNat)
    case atStart => exact ⟨0, by omega, rfl, by have := HS.out; exact (show Sm w (addP a b t 0) b zr _ from by unfold addP; simpa using this)⟩
    case round =>
      obtain ⟨j, hj, rfl, HR⟩ := hrel
      clear HS
      by_cases hlt : j < 64
      · obtain ⟨x, hx⟩ : ∃ x, a[j]? = some x := ⟨a[j]'(by rw [HL.out.1]; exact hlt), List.getElem?_eq_getElem _⟩
        obtain ⟨y, hy⟩ : ∃ y, b[j]? = some y := ⟨b[j]'(by rw [HL.out.2]; exact hlt), List.getElem?_eq_getElem _⟩
        have hc1 : wr.cell? ⟨w.heap.size, j, none⟩ = some (c8 x) := by rw [HR.out.a.cell, rc_get, addP_at a b t j HL.out.1 HL.out.2 hlt, hx]; rfl
        have hc2 : wr.cell? ⟨w.heap.size + 1, j, none⟩ = some (c8 y) := by rw [HR.out.b.cell, rc_get, hy]; rfl
        have hf1 := HR.out.a.frozen j
        have HN : Hid ((addP a b t j).set j (x ^^^ mul y t) = addP a b t (j + 1)) := addP_next a b t x y j HL.out.1 HL.out.2 hlt hx hy
        clear hx hy
        have hx8 := x.toNat_lt
        have hm8 := (mul y t).toNat_lt
        have HX := xor8 x (mul y t)
        go_wp2
        go_region_with (go_at_call 40; refine (times_any y t _).mono ?_; rintro e w' ⟨rfl, rfl⟩)
        all_goals
          go_wp2
          go_roundw
          case rel => exact ⟨j + 1, by omega, by go_num, by show Sm _ _ _ _ _; rw [← HN.out]; exact HR.out.drew.step j _⟩
          case measure => simp [intOf]; omega
      · have hj64 : j = 64 := by omega
        have HF : Hid (addP a b t j = addR a b t) := by
          show addP a b t j = _
          unfold addP
          rw [hj64, List.drop_eq_nil_of_le (by rw [HL.out.1]; omega), List.take_of_length_le (by rw [addR_len a b t HL.out.1 HL.out.2]; omega), List.append_nil]
        have HRL : Hid ((addR a b t).length = 64) := addR_len a b t HL.out.1 HL.out.2
        have HR2 : Hid (Sm w (addR a b t) b zr wr) := by show Sm _ _ _ _ _; rw [← HF.out]; exact HR.out
        clear HR HF hj64
        go_wp2_with (first
          | (refine wpList_get rfl 60 (.tmp 3) rfl w.heap.size 0 (rc (addR a b t)) (rc (addR a b t)) 60 _ rfl HR2.out.a (by intro j v hv; rw [Nat.zero_add]; exact hv) Try.underlying60 rfl (HI _ HRL.out) ?_)
          | (refine wpList_put rfl 60 (.tmp 6) (.tmp 25) rfl (w.heap.size + 2) 0 (rc zr) (rc (addR a b t)) 60 rfl rfl HR2.out.z (HI _ HRL.out) (by rw [rc_size, rc_size, zr_len, HRL.out]; omega) (rc_one _) ?_; intro w2 HB3 HG3 hs3))
        refine bodyPost_ret (results_row rfl _ _ (w.heap.size + 2) 60 (rc (addR a b t)) _ rfl (by have := HB3.out; rw [putC_all _ _ (by rw [zr_len, HRL.out])] at this; exact this) Try.underlying60 rfl (HI _ HRL.out)) rfl ⟨rfl, HR2.out.fin HG3.out⟩
end Go.Proofs.Ytecpcocnoengiaa
/- shards.multiples: a number times each byte. -/
namespace Go.Proofs.Ytecpcocnoengiaa
open Go.RowKit
set_option linter.unusedSimpArgs false
set_option linter.unusedVariables false
/-- A number times the first j bytes. -/
def tb (b : UInt8) (j : Nat) : List UInt8 := (List.range 256).map fun n => if n < j then mul b (UInt8.ofNat n) else 0
def zt : List UInt8 := List.replicate 256 0
theorem zt_len : zt.length = 256 := by rw [zt, List.length_replicate]
theorem tb_len (b : UInt8) (j : Nat) : (tb b j).length = 256 := by simp [tb]
theorem tb_get (b : UInt8) (j n : Nat) (h : n < 256) : (tb b j)[n]? = some (if n < j then mul b (UInt8.ofNat n) else 0) := by
  rw [tb, List.getElem?_map, List.getElem?_range h]; rfl
theorem tb_one (b : UInt8) : tb b 1 = zt := by
  apply List.ext_getElem?
  intro n
  by_cases h : n < 256
  · rw [tb_get b 1 n h, zt, List.getElem?_replicate, if_pos h]
    by_cases h1 : n < 1
    · rw [if_pos h1]
      have : n = 0 := by omega
      subst this
      rw [show UInt8.ofNat 0 = 0 from rfl, mul_comm, zero_mul]
    · rw [if_neg h1]
  · rw [List.getElem?_eq_none (by rw [tb_len]; omega), List.getElem?_eq_none (by rw [zt_len]; omega)]
theorem tb_next (b : UInt8) (j : Nat) (h : j < 256) : (tb b j).set j (mul b (UInt8.ofNat j)) = tb b (j + 1) := by
  apply List.ext_getElem?
  intro n
  rw [List.getElem?_set]
  by_cases hn : n < 256
  · rw [tb_get b j n hn, tb_get b (j + 1) n hn, tb_len]
    by_cases e : j = n
    · subst e
      rw [if_pos rfl, if_pos h, if_pos (by omega)]
    · rw [if_neg e]
      by_cases h1 : n < j
      · rw [if_pos h1, if_pos (by omega)]
      · rw [if_neg h1, if_neg (by omega)]
  · rw [if_neg (by omega), List.getElem?_eq_none (by rw [tb_len]; omega), List.getElem?_eq_none (by rw [tb_len]; omega)]
/-- The powers of 2. -/
def isP (n : Nat) : Prop := ∃ e : Fin 9, n = 2 ^ e.val
theorem isP_next (n : Nat) (h : isP n) (hn : n < 256) : n ≤ 128 ∧ 1 ≤ n ∧ isP (2 * n) := by
  obtain ⟨e, rfl⟩ := h
  have key : ∀ e : Fin 9, 2 ^ e.val < 256 → (2 ^ e.val ≤ 128 ∧ 1 ≤ 2 ^ e.val) ∧ e.val < 8 := by decide +kernel
  obtain ⟨k, h8⟩ := key e hn
  exact ⟨k.1, k.2, ⟨⟨e.val + 1, by omega⟩, by rw [Nat.pow_succ, Nat.mul_comm]⟩⟩
theorem isP_le (n : Nat) (h : isP n) : n ≤ 256 := by
  obtain ⟨e, rfl⟩ := h
  have key : ∀ e : Fin 9, 2 ^ e.val ≤ 256 := by decide +kernel
  exact key e
theorem isP_add (n m : Nat) (h : isP n) (hn : n < 256) (hm : m < n) : UInt8.ofNat (n + m) = UInt8.ofNat n ^^^ UInt8.ofNat m := by
  obtain ⟨e, rfl⟩ := h
  have key : ∀ e : Fin 9, ∀ m : Fin 256, 2 ^ e.val < 256 → m.val < 2 ^ e.val → UInt8.ofNat (2 ^ e.val + m.val) = UInt8.ofNat (2 ^ e.val) ^^^ UInt8.ofNat m.val := by decide +kernel
  exact key e ⟨m, by omega⟩ hn hm
theorem tb_val (b : UInt8) (n m : Nat) (h : isP n) (hn : n < 256) (hm : m < n) : mul b (UInt8.ofNat n) ^^^ mul b (UInt8.ofNat m) = mul b (UInt8.ofNat (n + m)) := by
  rw [isP_add n m h hn hm, mul_xor_right]
theorem info_tab : (Try.prog.info? 54).map (fun i => (i.zero, i.size)) = some (some (.agg (rc zt)), 256) := by kernel_rfl
theorem size_tab (r : List UInt8) (h : r.length = 256) : (Try.prog.info? 54).map (·.size) = some (rc r).size := by
  have : (Try.prog.info? 54).map (·.size) = some 256 := by kernel_rfl
  rw [this, rc_size, h]
/-- The table under way. -/
structure Tb (w : World) (l : List UInt8) (wr : World) : Prop where
  r : Bk wr w.heap.size (rc zt) 54
  a : Bk wr (w.heap.size + 1) (rc l) 54
  bel : Below w.heap.size w wr
  sz : w.heap.size + 2 ≤ wr.heap.size
theorem Tb.step {w wr : World} {l : List UInt8} (h : Tb w l wr) (j : Nat) (v : UInt8) : Tb w (l.set j v) (wr.setCell ⟨w.heap.size + 1, j, none⟩ (c8 v)) where
  a := by rw [← rc_set]; exact h.a.set j _
  r := h.r.grown (Lib.grownBy_setB (World.grownBy.refl _ _) j _) (by simp)
  bel := below_own h.bel (by have := h.sz; omega) (Lib.grownBy_setB (World.grownBy.refl _ _) j _) (by omega)
  sz := by have := h.sz; simp [World.setCell]; omega
set_option maxHeartbeats 1000000 in
set_option maxRecDepth 100000 in
theorem multiples_any (b : UInt8) (w : World) :
    Calls Try.prog 29 #[c8 b] w fun e w' => e = .returned (.agg (rc (tb b 256))) ∧ Below w.heap.size w w' := by
  have hz := (zero_of_info info_tab).1
  have HI := size_tab
  have hb8 := b.toNat_lt
  go_enter Try.func29, Try.ntmps29
  go_wp2_with (first
    | (refine wpList_put rfl 54 (.tmp 3) (.tmp 7) rfl (w.heap.size + 1) 0 _ (rc zt) 54 rfl rfl (by have := bk_new (w.alloc (.cells (rc zt) 54)) (rc zt) 54; rw [al_size] at this; exact this) (HI _ zt_len) (by simp) (rc_one _) ?_; intro w1 HB1 HG1 hs1))
  have hs2 : w1.heap.size = w.heap.size + 2 := by rw [hs1, al_size, al_size]
  have HT : Hid (Tb w (tb b 1) w1) := by
    refine ⟨((bk_new w (rc zt) 54).alloc _).grown HG1.out (by simp), ?_, below_own (((Below.refl _ _).alloc (Nat.le_refl _) _).alloc (by simp) _) (by simp; omega) HG1.out (by omega), by omega⟩
    have := HB1.out
    rw [putC_all _ _ rfl] at this
    rw [tb_one]
    exact this
  clear hs1 HB1 HG1 hs2
  go_wp2_with fail
  go_loopw [4] (fun t wr => ∃ n : Nat, t = .int .i64 n ∧ Hid (isP n) ∧ Hid (Tb w (tb b n) wr)) (fun t _ => 512 - (intOf t).toNat)
  case atStart => exact ⟨1, rfl, ⟨0, rfl⟩, HT.out⟩
  case round =>
    clear HT
    obtain ⟨n, rfl, HP, HT⟩ := hrel
    have hle := isP_le n HP.out
    by_cases hlt : n < 256
    · obtain ⟨u, rfl⟩ : ∃ u : UInt8, n = u.toNat := ⟨UInt8.ofNat n, by simp [UInt8.toNat_ofNat']; omega⟩
      obtain ⟨q1, q2, q3⟩ := isP_next _ HP.out hlt
      have HP2 : Hid (isP (2 * u.toNat)) := q3
      have hm8 := (mul b u).toNat_lt
      clear q3
      go_wp2_with fail
      refine (times_any b u _).mono ?_
      rintro e w2 ⟨rfl, hw⟩
      subst hw
      go_wp2_with fail
      go_loopw [17] (fun t wr => ∃ m : Nat, m ≤ u.toNat ∧ t = .int .i64 m ∧ Hid (Tb w (tb b (u.toNat + m)) wr)) (fun t _ => u.toNat - (intOf t).toNat)
      case atStart => exact ⟨0, by omega, rfl, HT.out⟩
      case round =>
        clear HT
        obtain ⟨m, hm, rfl, HT⟩ := hrel
        by_cases hlm : m < u.toNat
        · have hmz : (m : Int) < (u.toNat : Int) := by omega
          have hc1 : wr.cell? ⟨w.heap.size + 1, m, none⟩ = some (c8 (mul b (UInt8.ofNat m))) := by rw [HT.out.a.cell, rc_get, tb_get b _ m (by omega), if_pos (by omega)]; rfl
          have hc2 : wr.cell? ⟨w.heap.size + 1, u.toNat + m, none⟩ = some (.int .u8 0) := by rw [HT.out.a.cell, rc_get, tb_get b _ _ (by omega), if_neg (by omega)]; rfl
          have hf2 := HT.out.a.frozen (u.toNat + m)
          have HV : Hid (mul b u ^^^ mul b (UInt8.ofNat m) = mul b (UInt8.ofNat (u.toNat + m))) := by
            have := tb_val b u.toNat m HP.out hlt hlm
            rwa [UInt8.ofNat_toNat] at this
          have HN : Hid (Tb w (tb b (u.toNat + (m + 1))) (wr.setCell ⟨w.heap.size + 1, u.toNat + m, none⟩ (c8 (mul b u ^^^ mul b (UInt8.ofNat m))))) := by
            have := HT.out.step (u.toNat + m) (mul b u ^^^ mul b (UInt8.ofNat m))
            rw [HV.out, tb_next b _ (by omega)] at this
            show Tb _ _ _
            rw [HV.out]
            exact this
          clear HV
          obtain ⟨y, hy⟩ : ∃ y, mul b (UInt8.ofNat m) = y := ⟨_, rfl⟩
          obtain ⟨x, hx⟩ : ∃ x, mul b u = x := ⟨_, rfl⟩
          rw [hy] at hc1 HN
          rw [hx] at HN hm8 ⊢
          have hy8 := y.toNat_lt
          clear hy hx
          go_wp2_with fail
          refine (plus_any x y _).mono ?_
          rintro e w2 ⟨rfl, hw⟩
          subst hw
          go_wp2
          go_roundw
          case rel => exact ⟨m + 1, by omega, by go_num, HN.out⟩
          case measure => simp [intOf]; omega
        · have hmz : ¬ (m : Int) < (u.toNat : Int) := by omega
          have HT2 : Hid (Tb w (tb b (2 * u.toNat)) wr) := by
            have := HT.out
            rw [show u.toNat + m = 2 * u.toNat by omega] at this
            exact this
          clear HT
          go_wp2
          go_roundw
          case rel => exact ⟨2 * u.toNat, by go_num, HP2.out, HT2.out⟩
          case measure => simp [intOf]; omega
    · have hn : n = 256 := by omega
      subst hn
      go_wp2_with (first
        | (refine wpList_get rfl 54 (.tmp 3) rfl (w.heap.size + 1) 0 (rc (tb b 256)) (rc (tb b 256)) 54 _ rfl HT.out.a (by intro j v hv; rw [Nat.zero_add]; exact hv) Try.underlying54 rfl (HI _ (tb_len _ _)) ?_)
        | (refine wpList_put rfl 54 (.tmp 2) (.tmp 30) rfl w.heap.size 0 (rc zt) (rc (tb b 256)) 54 rfl rfl HT.out.r (HI _ (tb_len _ _)) (by rw [rc_size, rc_size, zt_len, tb_len]; omega) (rc_one _) ?_; intro w2 HB3 HG3 hs3))
      refine bodyPost_ret (results_row rfl _ _ w.heap.size 54 (rc (tb b 256)) _ rfl (by have := HB3.out; rw [putC_all _ _ (by rw [zt_len, tb_len])] at this; exact this) Try.underlying54 rfl (HI _ (tb_len _ _))) rfl ⟨rfl, ?_⟩
      exact below_own HT.out.bel (by have := HT.out.sz; omega) HG3.out (Nat.le_refl _)
end Go.Proofs.Ytecpcocnoengiaa
/- shards.add: a shard, times a number, laid over a sum. -/
namespace Go.Proofs.Ytecpcocnoengiaa
open Go.RowKit
set_option linter.unusedSimpArgs false
set_option linter.unusedVariables false
/-- The first n values of a function; the bytes of a text. -/
def fl (n : Nat) (f : Nat → UInt8) : List UInt8 := (List.range n).map f
def bt (s : ByteArray) (p : Nat) : UInt8 := s.data.toList.getD p 0
theorem fl_len (n : Nat) (f : Nat → UInt8) : (fl n f).length = n := by simp [fl]
theorem fl_get (n : Nat) (f : Nat → UInt8) (p : Nat) (h : p < n) : (fl n f)[p]? = some (f p) := by rw [fl, List.getElem?_map, List.getElem?_range h]; rfl
theorem fl_congr (n : Nat) (f g : Nat → UInt8) (h : ∀ p, p < n → f p = g p) : fl n f = fl n g := by
  apply List.map_congr_left
  intro p hp
  exact h p (by simpa using hp)
theorem fl_set (n : Nat) (f : Nat → UInt8) (i : Nat) (v : UInt8) : (fl n f).set i v = fl n (fun p => if p = i then v else f p) := by
  apply List.ext_getElem?
  intro p
  rw [List.getElem?_set, fl_len]
  by_cases hp : p < n
  · rw [fl_get n _ p hp, fl_get n _ p hp]
    by_cases e : i = p
    · subst e; simp [hp]
    · rw [if_neg e, if_neg (fun h => e h.symm)]
  · rw [List.getElem?_eq_none (by rw [fl_len]; omega), List.getElem?_eq_none (by rw [fl_len]; omega)]
    split
    · rw [if_neg (by omega)]
    · rfl
theorem fl_zero (n : Nat) : fl n (fun _ => 0) = List.replicate n 0 := by
  apply List.ext_getElem?
  intro p
  by_cases hp : p < n
  · rw [fl_get n _ p hp, List.getElem?_replicate, if_pos hp]
  · rw [List.getElem?_eq_none (by rw [fl_len]; omega), List.getElem?_eq_none (by simp; omega)]
theorem bt_at (s : ByteArray) (p : Nat) (h : p < s.size) : s[p] = bt s p := by
  unfold bt
  rw [List.getD, List.getElem?_eq_getElem (by simpa using h), Option.getD_some, Array.getElem_toList]
  rfl
theorem bt_out (s : ByteArray) (p : Nat) (h : s.size ≤ p) : bt s p = 0 := by
  unfold bt
  rw [List.getD, List.getElem?_eq_none (by simpa using h)]; rfl
/-- A sum under way. -/
structure Ad (w : World) (g gt : Nat) (l : List UInt8) (b : UInt8) (wr : World) : Prop where
  a : Bk wr g (rc l) 5
  t : Bk wr gt (rc (tb b 256)) 54
  gr : w.grownBy wr (some g)
theorem Ad.step {w wr : World} {g gt : Nat} {l : List UInt8} {b : UInt8} (h : Ad w g gt l b wr) (hne : g ≠ gt) (j : Nat) (v : UInt8) : Ad w g gt (l.set j v) b (wr.setCell ⟨g, j, none⟩ (c8 v)) where
  a := by rw [← rc_set]; exact h.a.set j _
  t := h.t.grown (Lib.grownBy_setB (World.grownBy.refl _ _) j _) (by simpa using hne)
  gr := Lib.grownBy_setB h.gr j _
theorem Ad.drew {w wr : World} {g gt : Nat} {l : List UInt8} {b : UInt8} (h : Ad w g gt l b wr) : Ad w g gt l b wr.drew := ⟨h.a, h.t, h.gr.trans ⟨rfl, rfl, rfl, Nat.le_refl _, fun _ _ _ => rfl⟩⟩
set_option maxHeartbeats 1000000 in
set_option maxRecDepth 100000 in
theorem add_any (g n : Nat) (f : Nat → UInt8) (s : ByteArray) (b : UInt8) (w : World) (hB : Bk w g (rc (fl n f)) 5) (hs : s.size = n) (hn : n ≤ 4611686018427387904) :
    Calls Try.prog 23 #[.slice (some ⟨g, 0, none⟩) n n, .string s, c8 b] w fun e w' => e = .returned (.tuple #[]) ∧ Bk w' g (rc (fl n (fun p => f p ^^^ mul b (bt s p)))) 5 ∧ w.grownBy w' (some g) := by
  have HI := size_tab
  have hz := (zero_of_info info_tab).1
  have HB : Hid (Bk w g (rc (fl n f)) 5) := hB
  have hgl : g < w.heap.size := hB.lt
  clear hB
  go_enter Try.func23, Try.ntmps23
  go_wp2_with fail
  refine (multiples_any b _).mono ?_
  rintro e w1 ⟨rfl, hb1⟩
  have B1 : Hid (Below w.heap.size w w1) := hb1
  have hz1 : w.heap.size ≤ w1.heap.size := hb1.size
  clear hb1
  go_wp2_with (first
    | (refine wpList_put rfl 54 (.tmp 6) (.tmp 9) rfl w1.heap.size 0 (rc zt) (rc (tb b 256)) 54 rfl rfl (bk_new w1 (rc zt) 54) (HI _ (tb_len _ _)) (by rw [rc_size, rc_size, zt_len, tb_len]; omega) (rc_one _) ?_; intro w2 HB2 HG2 hs2))
  have HA : Hid (Ad w g w1.heap.size (fl n f) b w2) := by
    refine ⟨((HB.out.below B1.out hgl).alloc _).grown HG2.out (by simp; omega), ?_, ?_⟩
    · have := HB2.out
      rwa [putC_all _ _ (by rw [zt_len, tb_len])] at this
    · exact gr_of_below (below_own (B1.out.alloc hz1 _) (by simp; omega) HG2.out hz1) _
  clear HB2 HG2 hs2
  have hne : g ≠ w1.heap.size := by omega
  go_wp2_with fail
  go_loopw [12] (fun t wr => ∃ i : Nat, i ≤ n ∧ t = .int .i64 i ∧ Hid (Ad w g w1.heap.size (fl n (fun p => if p < i then f p ^^^ mul b (bt s p) else f p)) b wr)) (fun t _ => n - (intOf t).toNat)
  case atStart => exact ⟨0, by omega, rfl, by
    have : fl n (fun p => if p < 0 then f p ^^^ mul b (bt s p) else f p) = fl n f := fl_congr n _ _ (fun p _ => by rw [if_neg (by omega)])
    show Ad _ _ _ _ _ _
    rw [this]
    exact HA.out⟩
  case round =>
    clear HA
    obtain ⟨i, hi, rfl, HA⟩ := hrel
    by_cases hlt : i < n
    · have hiz : (i : Int) < (n : Nat) := by omega
      have his : i < s.size := by omega
      have hc1 : wr.cell? ⟨g, i, none⟩ = some (c8 (f i)) := by rw [HA.out.a.cell, rc_get, fl_get n _ i hlt, if_neg (by omega)]; rfl
      have hf1 := HA.out.a.frozen i
      have hy8 := (s[i]).toNat_lt
      have hc2 : wr.cell? ⟨w1.heap.size, s[i].toNat, none⟩ = some (c8 (mul b s[i])) := by rw [HA.out.t.cell, rc_get, tb_get b 256 _ (by omega), if_pos (by omega), UInt8.ofNat_toNat]; rfl
      have HN : Hid (Ad w g w1.heap.size (fl n (fun p => if p < i + 1 then f p ^^^ mul b (bt s p) else f p)) b (wr.drew.setCell ⟨g, i, none⟩ (c8 (f i ^^^ mul b s[i])))) := by
        have h1 := HA.out.drew.step hne i (f i ^^^ mul b s[i])
        rw [fl_set] at h1
        have e : fl n (fun p => if p < i + 1 then f p ^^^ mul b (bt s p) else f p) = fl n (fun p => if p = i then f i ^^^ mul b s[i] else if p < i then f p ^^^ mul b (bt s p) else f p) := fl_congr n _ _ (fun p hp => by
          by_cases e : p = i
          · subst e; rw [if_pos (by omega), if_pos rfl, bt_at]
          · rw [if_neg e]
            by_cases h2 : p < i
            · rw [if_pos h2, if_pos (by omega)]
            · rw [if_neg h2, if_neg (by omega)])
        show Ad _ _ _ _ _ _
        rw [e]
        exact h1
      have hx8 := (f i).toNat_lt
      have hm8 := (mul b s[i]).toNat_lt
      have HX := xor8 (f i) (mul b s[i])
      go_wp2
      go_region_with (go_at_call 30; refine (plus_any (f i) (mul b s[i]) _).mono ?_; rintro e w' ⟨rfl, rfl⟩)
      all_goals
        go_wp2
        go_roundw
        case rel => exact ⟨i + 1, by omega, by go_num, HN.out⟩
        case measure => simp [intOf]; omega
    · have hiz : ¬ (i : Int) < (n : Nat) := by omega
      have HF : Hid (Ad w g w1.heap.size (fl n (fun p => f p ^^^ mul b (bt s p))) b wr) := by
        have e : fl n (fun p => f p ^^^ mul b (bt s p)) = fl n (fun p => if p < i then f p ^^^ mul b (bt s p) else f p) := fl_congr n _ _ (fun p hp => by rw [if_pos (by omega)])
        show Ad _ _ _ _ _ _
        rw [e]
        exact HA.out
      go_wp2
      go_end0
      exact ⟨rfl, HF.out.a, HF.out.gr⟩
end Go.Proofs.Ytecpcocnoengiaa
/- field.first, field.side, field.Check, the document's Check and Same. -/
namespace Go.Proofs.Ytecpcocnoengiaa
open Go.RowKit
set_option linter.unusedSimpArgs false
set_option linter.unusedVariables false
/-- The place of a row's first number but 0 (0, if there is none). -/
def fst (r : List UInt8) : Nat := if r.all (· == 0) then 0 else r.findIdx (· != 0)
theorem fst_hit (r : List UInt8) (j : Nat) (x : UInt8) (hx : r[j]? = some x) (h0 : x ≠ 0) (hb : ∀ i, i < j → r[i]? = some 0) : fst r = j := by
  have hj : j < r.length := (List.getElem?_eq_some_iff.1 hx).1
  have hjx : r[j] = x := (List.getElem?_eq_some_iff.1 hx).2
  have h1 : ¬ r.all (· == 0) = true := by
    intro h
    rw [List.all_eq_true] at h
    have := h _ (List.getElem_mem hj)
    rw [hjx] at this
    simp at this
    exact h0 this
  unfold fst
  rw [if_neg h1, List.findIdx_eq hj]
  constructor
  · rw [hjx]; simp [h0]
  · intro i hi
    have := hb i hi
    rw [List.getElem?_eq_getElem (by omega)] at this
    rw [Option.some.inj this]; rfl
theorem fst_none (r : List UInt8) (hb : ∀ i, i < r.length → r[i]? = some 0) : fst r = 0 := by
  have h1 : r.all (· == 0) = true := by
    rw [List.all_eq_true]
    intro x hx
    obtain ⟨i, hi, e⟩ := List.mem_iff_getElem.1 hx
    have := hb i hi
    rw [List.getElem?_eq_getElem hi, e] at this
    rw [Option.some.inj this]; rfl
  unfold fst
  rw [if_pos h1]
theorem sizeOf_byte (w : World) : (sizeOf 5).run Try.prog w = .ok 1 w := by
  have h : (Try.prog.info? 5).map (·.size) = some 1 := by kernel_rfl
  cases hq : Try.prog.info? 5 with
  | none => simp [hq] at h
  | some i => simp [hq] at h; simp [sizeOf, typeInfo, hq, h]
theorem index_row (r : List UInt8) (j : Nat) (x : UInt8) (w : World) (hr : r.length = 64) (hx : r[j]? = some x) : (Instr.index 60 (.agg (rc r)) (.int .i64 j)).run Try.prog w = .ok (c8 x) w := by
  have hl : (j : Int) < 64 := by have := (List.getElem?_eq_some_iff.1 hx).1; omega
  have e1 : (rc r)[j]? = some (c8 x) := by rw [rc_get, hx]; rfl
  have hp : (part 5 (rc r) j).run Try.prog w = .ok (c8 x) w := run_part_plain w (by kernel_rfl) e1
  have e2 := sizeOf_byte w
  simp only [Instr.index, asIntOf, Sem.run_bind, Sem.run_pure, Result.andThen_ok, run_underlying Try.underlying60 w]
  simp [hl, e2, hp]
set_option maxHeartbeats 400000 in
set_option maxRecDepth 100000 in
theorem first_any (r : List UInt8) (w : World) (hr : r.length = 64) :
    Calls Try.prog 37 #[.agg (rc r)] w fun e w' => e = .returned (.int .i64 (fst r)) ∧ Below w.heap.size w w' := by
  have HI := size_row r hr
  have HL : Hid (r.length = 64) := hr
  clear hr
  go_enter Try.func37, Try.ntmps37
  go_wp2_with (first
      | (refine wpList_get rfl 60 (.tmp 1) rfl w.heap.size 0 (rc r) (rc r) 60 _ rfl (bk_new _ _ _) (by intro j v hv; rw [Nat.zero_add]; exact hv) Try.underlying60 rfl HI ?_))
  go_loop [6] (fun v => ∃ j : Nat, j ≤ 64 ∧ v = .int .i64 j ∧ Hid (∀ i, i < j → r[i]? = some 0)) (fun v => 64 - (intOf v).toNat)
  case atStart => exact ⟨0, by omega, rfl, fun i hi => by omega⟩
  case round =>
    obtain ⟨j, hj, rfl, HZ⟩ := hrel
    by_cases hlt : j < 64
    · obtain ⟨x, hx⟩ : ∃ x, r[j]? = some x := ⟨r[j]'(by rw [HL.out]; exact hlt), List.getElem?_eq_getElem _⟩
      have hx8 := x.toNat_lt
      have hix := fun W => index_row r j x W HL.out hx
      have HX : Hid (r[j]? = some x) := hx
      clear hx
      by_cases h0 : x = 0
      · have h0' : ((x.toNat : Int) == 0) = true := by rw [h0]; rfl
        have HN : Hid (∀ i, i < j + 1 → r[i]? = some 0) := by
          intro i hi
          by_cases e : i < j
          · exact HZ.out i e
          · obtain rfl : i = j := by omega
            rw [HX.out, h0]
        clear h0
        go_wp2
        go_round
        case rel => exact ⟨j + 1, by omega, by go_num, HN.out⟩
        case measure => simp [intOf]; omega
      · have hn : ¬ x.toNat = 0 := fun e => h0 (UInt8.toNat_inj.1 (by simpa using e))
        have h0' : ((x.toNat : Int) == 0) = false := by rw [beq_eq_false_iff_ne]; omega
        have HF : Hid (fst r = j) := fst_hit r j x HX.out h0 HZ.out
        clear h0 hn
        go_wp2
        go_ret
        exact ⟨ret_n (by rw [HF.out]), (Below.refl _ _).alloc (Nat.le_refl _) _⟩
    · have HF : Hid (fst r = 0) := fst_none r (fun i hi => HZ.out i (by rw [HL.out] at hi; omega))
      go_wp2
      go_ret
      exact ⟨ret_n (by rw [HF.out]; rfl), (Below.refl _ _).alloc (Nat.le_refl _) _⟩
/-- May a matrix have so many rows? -/
def sdB (n : Int) : Bool := decide (1 ≤ n ∧ n ≤ 64)
set_option maxHeartbeats 400000 in
theorem side_any (n : Int) (w : World) :
    Calls Try.prog 31 #[.int .i64 n] w fun e w' => e = .returned (.bool (sdB n)) ∧ w' = w := by
  by_cases h1 : 1 ≤ n
  · by_cases h2 : n ≤ 64
    · have HD : Hid (sdB n = true) := decide_eq_true ⟨h1, h2⟩
      go_enter Try.func31, Try.ntmps31
      go_wp2
      go_ret
      exact ⟨by rw [HD.out]; rfl, rfl⟩
    · have HD : Hid (sdB n = false) := decide_eq_false (fun h => h2 h.2)
      go_enter Try.func31, Try.ntmps31
      go_wp2
      go_ret
      exact ⟨by rw [HD.out]; rfl, rfl⟩
  · have HD : Hid (sdB n = false) := decide_eq_false (fun h => h1 h.1)
    go_enter Try.func31, Try.ntmps31
    go_wp2
    go_ret
    exact ⟨by rw [HD.out]; rfl, rfl⟩
end Go.Proofs.Ytecpcocnoengiaa
