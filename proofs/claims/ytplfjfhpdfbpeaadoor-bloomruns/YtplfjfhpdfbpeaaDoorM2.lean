/- Rows one behind the other in one block; bytes of a text copied into a block. No program is named here. -/
import Derived.Test.YtplfjfhpdfbpeaaDoorM1
import Derived.Laws.MakeOwn
namespace Go.Proofs.YtplfjfhpdfbpeaaDoor
open Go.RowKit
set_option linter.unusedSimpArgs false
set_option linter.unusedVariables false
/-- Bytes as cells. -/
def rc (r : List UInt8) : Array Value := (r.map fun x : UInt8 => Value.int .u8 (x.toNat : Int)).toArray
theorem rc_size (r : List UInt8) : (rc r).size = r.length := by simp [rc]
theorem rc_one (r : List UInt8) : (rc r).all (·.oneCell') = true := by simp [rc, List.all_eq_true, Value.oneCell']
theorem rc_get (r : List UInt8) (j : Nat) : (rc r)[j]? = (r[j]?).map fun x : UInt8 => Value.int .u8 (x.toNat : Int) := by simp [rc]
theorem rc_set (r : List UInt8) (j : Nat) (x : UInt8) : (rc r).setIfInBounds j (.int .u8 (x.toNat : Int)) = rc (r.set j x) := by
  simp only [rc, List.setIfInBounds_toArray, List.map_set]
theorem rc_list (r : List UInt8) : (rc r).toList = r.map fun x : UInt8 => Value.int .u8 (x.toNat : Int) := by simp [rc]
/-- Bytes laid over others from a place on. -/
def putB (l : List UInt8) (o : Nat) (r : List UInt8) : List UInt8 := l.take o ++ r ++ l.drop (o + r.length)
theorem putB_len (l : List UInt8) (o : Nat) (r : List UInt8) (h : o + r.length ≤ l.length) : (putB l o r).length = l.length := by
  simp [putB]; omega
theorem putB_get (l : List UInt8) (o : Nat) (r : List UInt8) (h : o + r.length ≤ l.length) (i : Nat) : (putB l o r)[i]? = if o ≤ i ∧ i < o + r.length then r[i - o]? else l[i]? := by
  unfold putB
  by_cases h1 : i < o
  · rw [if_neg (by omega), List.append_assoc, List.getElem?_append_left (by simp; omega), List.getElem?_take, if_pos h1]
  · by_cases h2 : i < o + r.length
    · rw [if_pos (by omega), List.append_assoc, List.getElem?_append_right (by simp; omega), List.getElem?_append_left (by simp; omega)]
      simp only [List.length_take]
      congr 1
      omega
    · rw [if_neg (by omega), List.getElem?_append_right (by simp; omega), List.getElem?_drop]
      simp only [List.length_append, List.length_take]
      congr 1
      omega
theorem putC_rc (l : List UInt8) (o : Nat) (r : List UInt8) (h : o + r.length ≤ l.length) : putC (rc l) o (rc r).toList = rc (putB l o r) := by
  apply Array.ext_getElem?
  intro i
  rw [putC_get _ _ _ _ (by rw [rc_list, rc_size]; simpa using h), rc_get, rc_get, putB_get l o r h, rc_list]
  simp only [List.length_map]
  by_cases e : o ≤ i ∧ i < o + r.length
  · rw [if_pos e, if_pos e, List.getElem?_map]
  · rw [if_neg e, if_neg e]
theorem putB_all (l r : List UInt8) (h : l.length = r.length) : putB l 0 r = r := by
  unfold putB
  rw [List.take_zero, List.nil_append, List.drop_eq_nil_of_le (by omega), List.append_nil]
theorem putC_all (l r : List UInt8) (h : l.length = r.length) : putC (rc l) 0 (rc r).toList = rc r := by
  rw [putC_rc l 0 r (by omega), putB_all l r h]
theorem flat_len (k : Nat) : ∀ (L : List (List UInt8)), (∀ r ∈ L, r.length = k) → L.flatten.length = k * L.length
  | [], _ => by simp
  | r :: L, h => by
    rw [List.flatten_cons, List.length_append, flat_len k L (fun x hx => h x (by simp [hx])), h r (by simp), List.length_cons, Nat.mul_succ]
    omega
theorem flat_get (k : Nat) : ∀ (L : List (List UInt8)), (∀ r ∈ L, r.length = k) → ∀ (i : Nat) (r : List UInt8), L[i]? = some r → ∀ j, j < k → L.flatten[k * i + j]? = r[j]?
  | [], _, i, r, hi, _, _ => by simp at hi
  | x :: L, h, 0, r, hi, j, hj => by
    simp only [List.getElem?_cons_zero, Option.some.injEq] at hi
    subst hi
    rw [List.flatten_cons, Nat.mul_zero, Nat.zero_add, List.getElem?_append_left (by rw [h x (by simp)]; exact hj)]
  | x :: L, h, i + 1, r, hi, j, hj => by
    have hx := h x (by simp)
    rw [List.flatten_cons, List.getElem?_append_right (by rw [hx, Nat.mul_succ]; omega), hx, show k * (i + 1) + j - k = k * i + j from by rw [Nat.mul_succ]; omega]
    exact flat_get k L (fun y hy => h y (by simp [hy])) i r (by simpa using hi) j hj
theorem flat_set (k : Nat) : ∀ (L : List (List UInt8)), (∀ r ∈ L, r.length = k) → ∀ (i : Nat), i < L.length → ∀ (r : List UInt8), r.length = k → putB L.flatten (k * i) r = (L.set i r).flatten
  | [], _, i, hi, _, _ => by simp at hi
  | x :: L, h, 0, _, r, hr => by
    have hx := h x (by simp)
    unfold putB
    rw [Nat.mul_zero, List.take_zero, List.nil_append, Nat.zero_add, List.set_cons_zero, List.flatten_cons, List.flatten_cons, List.drop_append, hr, ← hx, List.drop_length, Nat.sub_self, List.drop_zero, List.nil_append]
  | x :: L, h, i + 1, hi, r, hr => by
    have hx := h x (by simp)
    have ih := flat_set k L (fun y hy => h y (by simp [hy])) i (by simpa using hi) r hr
    rw [List.set_cons_succ, List.flatten_cons, List.flatten_cons, ← ih]
    unfold putB
    rw [List.take_append, List.drop_append, hx, List.take_of_length_le (by rw [hx, Nat.mul_succ]; omega), List.drop_eq_nil_of_le (by rw [hx, Nat.mul_succ]; omega), List.nil_append, List.append_assoc, List.append_assoc, List.append_assoc]
    rw [show k * (i + 1) - k = k * i from by rw [Nat.mul_succ]; omega, show k * (i + 1) + r.length - k = k * i + r.length from by rw [Nat.mul_succ]; omega]
theorem flat_part (k : Nat) : ∀ (L : List (List UInt8)), (∀ r ∈ L, r.length = k) → ∀ (i : Nat) (r : List UInt8), L[i]? = some r → ∀ (x : List UInt8), x.length ≤ k → putB L.flatten (k * i) x = (L.set i (putB r 0 x)).flatten
  | [], _, i, r, hi, _, _ => by simp at hi
  | y :: L, h, 0, r, hi, x, hx => by
    simp only [List.getElem?_cons_zero, Option.some.injEq] at hi
    subst hi
    have hy := h y (by simp)
    unfold putB
    rw [Nat.mul_zero, List.take_zero, List.take_zero, List.nil_append, Nat.zero_add, List.set_cons_zero, List.flatten_cons, List.flatten_cons, List.drop_append, show x.length - y.length = 0 from by omega, List.drop_zero, List.append_assoc]
  | y :: L, h, i + 1, r, hi, x, hx => by
    have hy := h y (by simp)
    have ih := flat_part k L (fun z hz => h z (by simp [hz])) i r (by simpa using hi) x hx
    rw [List.set_cons_succ, List.flatten_cons, List.flatten_cons, ← ih]
    unfold putB
    rw [List.take_append, List.drop_append, hy, List.take_of_length_le (by rw [hy, Nat.mul_succ]; omega), List.drop_eq_nil_of_le (by rw [hy, Nat.mul_succ]; omega), List.nil_append, List.append_assoc, List.append_assoc, List.append_assoc]
    rw [show k * (i + 1) - k = k * i from by rw [Nat.mul_succ]; omega, show k * (i + 1) + x.length - k = k * i + x.length from by rw [Nat.mul_succ]; omega]
/-- The cells of rows of one width. -/
theorem row_get (k : Nat) (L : List (List UInt8)) (h : ∀ r ∈ L, r.length = k) (i : Nat) (r : List UInt8) (hi : L[i]? = some r) (j : Nat) (v : Value) (hv : (rc r)[j]? = some v) : (rc L.flatten)[k * i + j]? = some v := by
  have hr := h r (List.mem_of_getElem? hi)
  have hj : j < k := by
    have := (Array.getElem?_eq_some_iff.1 hv).1
    rw [rc_size, hr] at this
    exact this
  rw [rc_get, flat_get k L h i r hi j hj, ← rc_get]
  exact hv
theorem row_fits (k : Nat) (L : List (List UInt8)) (h : ∀ r ∈ L, r.length = k) (i : Nat) (hi : i < L.length) (r : List UInt8) (hr : r.length = k) : k * i + (rc r).size ≤ (rc L.flatten).size := by
  rw [rc_size, rc_size, hr, flat_len k L h, ← Nat.mul_succ]
  exact Nat.mul_le_mul_left k hi
theorem row_put (k : Nat) (L : List (List UInt8)) (h : ∀ r ∈ L, r.length = k) (i : Nat) (hi : i < L.length) (r : List UInt8) (hr : r.length = k) : putC (rc L.flatten) (k * i) (rc r).toList = rc (L.set i r).flatten := by
  have := row_fits k L h i hi r hr
  rw [rc_size, rc_size] at this
  rw [putC_rc _ _ _ this, flat_set k L h i hi r hr]
theorem set_wide (k : Nat) (L : List (List UInt8)) (h : ∀ r ∈ L, r.length = k) (i : Nat) (r : List UInt8) (hr : r.length = k) : ∀ x ∈ L.set i r, x.length = k := by
  intro x hx
  rcases List.mem_or_eq_of_mem_set hx with h1 | h1
  · exact h x h1
  · rw [h1]; exact hr
/-- Rows of nothing, made. -/
theorem made_rows (k n : Nat) (hk : 0 < k) : madeCells (rc (List.replicate k 0)) (n * k) = rc (List.replicate n (List.replicate k (0 : UInt8))).flatten := by
  apply Array.ext_getElem?
  intro i
  have hl : (List.replicate n (List.replicate k (0 : UInt8))).flatten = List.replicate (n * k) 0 := by
    rw [List.flatten_replicate_replicate]
  rw [hl, rc_get]
  simp only [madeCells]
  by_cases hi : i < n * k
  · rw [List.getElem?_replicate, if_pos hi]
    simp [rc, hi, Nat.mod_lt _ hk]
  · rw [List.getElem?_eq_none (by simp; omega), Array.getElem?_eq_none (by simp; omega)]; rfl
/-- 'copy(x[..], s)': the bytes of a text into the middle of a block. -/
theorem copy_txt (w : World) (dT sT ty elem : TypeId) (b o dLen dCap : Nat) (s : ByteArray) {P : Program}
    (hu : P.underlying dT = some (.slice elem)) (hs : (P.info? elem).map (·.size) = some 1)
    (hc : ∀ j, j < Nat.min s.size dLen → (w.cell? ⟨b, o + j, none⟩).isSome = true) (hf : ∀ j, j < Nat.min s.size dLen → w.frozen? ⟨b, o + j, none⟩ = false) :
    (Builtin.copy_ #[dT, sT] ty #[.slice (some ⟨b, o, none⟩) dLen dCap, .string s]).run P w = .ok (goInt (Nat.min s.size dLen)) (w.setCells b o (rc (s.data.toList.take (Nat.min s.size dLen))).toList) := by
  have hl : (rc (s.data.toList.take (Nat.min s.size dLen))).toList.length = Nat.min s.size dLen := by
    simp only [rc_list, List.length_map, List.length_take, Array.length_toList]
    exact Nat.min_eq_left (Nat.min_le_left _ _)
  have hst := run_storeCells_cells (P := P) b o (rc (s.data.toList.take (Nat.min s.size dLen))).toList 0 w (by rw [hl]; simpa using hc) (by rw [hl]; simpa using hf) (by intro v hv; rw [rc_list, List.mem_map] at hv; obtain ⟨x, _, rfl⟩ := hv; rfl)
  cases hq : P.info? elem with
  | none => simp [hq] at hs
  | some i =>
    have hi : i.size = 1 := by simpa [hq] using hs
    simp only [Nat.add_zero] at hst
    simp [Builtin.copy_, run_underlying hu, Builtin.lenOf, Builtin.firstCells, sizeOf, typeInfo, hq, hi]
    have e2 : List.take (s.size.min dLen) (List.map (fun b => Value.int IntKind.u8 (b.toNat : Int)) s.data.toList) = (rc (s.data.toList.take (Nat.min s.size dLen))).toList := by
      rw [rc_list, ← List.map_take]
    rw [e2, hst]
    rfl
end Go.Proofs.YtplfjfhpdfbpeaaDoor
