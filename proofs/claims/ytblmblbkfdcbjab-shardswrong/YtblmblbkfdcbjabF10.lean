/- field.Product. -/
import Derived.Test.YtblmblbkfdcbjabF9
import Derived.Test.YtblmblbkfdcbjabS0L
namespace Go.Proofs.Ytblmblbkfdcbjab
open Go.RowKit
set_option linter.unusedSimpArgs false
set_option linter.unusedVariables false
/-- The first k terms of a row's product with a matrix. -/
def prodK (r : List UInt8) (B : List (List UInt8)) : Nat → List UInt8
  | 0 => zr
  | k + 1 => addR (prodK r B k) (B.getD k zr) (r.getD k 0)
def prodR (B : List (List UInt8)) (r : List UInt8) : List UInt8 := prodK r B B.length
def prodL (A B : List (List UInt8)) : List (List UInt8) := A.map (prodR B)
theorem getD_wide (B : List (List UInt8)) (hB : ∀ r ∈ B, r.length = 64) (k : Nat) : (B.getD k zr).length = 64 := by
  rw [List.getD]
  cases h : B[k]? with
  | none => exact zr_len
  | some x => exact hB x (List.mem_of_getElem? h)
theorem prodK_len (r : List UInt8) (B : List (List UInt8)) (hB : ∀ r ∈ B, r.length = 64) : ∀ k, (prodK r B k).length = 64
  | 0 => zr_len
  | k + 1 => addR_len _ _ _ (prodK_len r B hB k) (getD_wide B hB k)
/-- The first i rows done. -/
def prT (A B : List (List UInt8)) (i : Nat) : List (List UInt8) := (prodL A B).take i ++ List.replicate (A.length - i) zr
theorem prT_len (A B : List (List UInt8)) (i : Nat) (h : i ≤ A.length) : (prT A B i).length = A.length := by
  simp [prT, prodL]; omega
theorem prT_wide (A B : List (List UInt8)) (hB : ∀ r ∈ B, r.length = 64) (i : Nat) : ∀ r ∈ prT A B i, r.length = 64 := by
  intro r hr
  rcases List.mem_append.1 hr with h1 | h1
  · obtain ⟨x, _, rfl⟩ := List.mem_map.1 (List.mem_of_mem_take h1)
    exact prodK_len x B hB _
  · rw [(List.mem_replicate.1 h1).2]; exact zr_len
theorem prT_at (A B : List (List UInt8)) (i : Nat) (h : i < A.length) : (prT A B i)[i]? = some zr := by
  unfold prT
  rw [List.getElem?_append_right (by simp [prodL]; omega)]
  simp [prodL, List.getElem?_replicate, Nat.min_eq_left (Nat.le_of_lt h)]
  omega
theorem prT_next (A B : List (List UInt8)) (i : Nat) (r : List UInt8) (hr : A[i]? = some r) : (prT A B i).set i (prodR B r) = prT A B (i + 1) := by
  have hk := (List.getElem?_eq_some_iff.1 hr).1
  unfold prT
  rw [List.set_append_right _ _ (by simp [prodL]; omega)]
  have hl : ((prodL A B).take i).length = i := by simp [prodL]; omega
  rw [hl, Nat.sub_self, show A.length - i = (A.length - (i + 1)) + 1 from by omega, List.replicate_succ, List.set_cons_zero]
  rw [List.take_succ_eq_append_getElem (by simp [prodL]; omega), List.append_assoc]
  have : (prodL A B)[i]'(by simp [prodL]; omega) = prodR B r := by
    simp only [prodL, List.getElem_map]
    rw [(List.getElem?_eq_some_iff.1 hr).2]
  rw [this]; rfl
theorem prT_all (A B : List (List UInt8)) : prT A B A.length = prodL A B := by
  unfold prT
  rw [Nat.sub_self, List.replicate_zero, List.append_nil, List.take_of_length_le (by simp [prodL])]
theorem set_self (X : List (List UInt8)) (i : Nat) (r : List UInt8) (h : X[i]? = some r) : X.set i r = X := by
  apply List.ext_getElem?
  intro j
  rw [List.getElem?_set]
  by_cases e : i = j
  · subst e
    rw [if_pos rfl, if_pos (List.getElem?_eq_some_iff.1 h).1, h]
  · rw [if_neg e]
theorem set_set (X : List (List UInt8)) (i : Nat) (r s : List UInt8) : (X.set i r).set i s = X.set i s := by simp
/-- The worlds of the innermost region. -/
structure Pc (wi : World) (R ob : Nat) (X : List (List UInt8)) (o : List UInt8) (W : World) : Prop where
  x : Bk W R (rc X.flatten) 56
  o : Bk W ob (rc o) 56
  g : wi.grownBy W (some R)
theorem Pc.below {wi W W' : World} {R ob : Nat} {X : List (List UInt8)} {o : List UInt8} (h : Pc wi R ob X o W) (hb : Below W.heap.size W W') : Pc wi R ob X o W' :=
  ⟨h.x.grown (gr_of_below hb none) (by simp), h.o.grown (gr_of_below hb none) (by simp), h.g.trans (gr_of_below hb _)⟩
theorem Pc.drew {wi W : World} {R ob : Nat} {X : List (List UInt8)} {o : List UInt8} (h : Pc wi R ob X o W) : Pc wi R ob X o W.drew := h.below (Below.refl _ _).drew
theorem quiet_row {o : Oper} {a : Act} {C : World → Prop} {K : Act → Prop} (x : Operand) (ho : o.op = .load 56 x) (g f : Nat) (r : List UInt8) (hx : a.eval x = .pointer (some ⟨g, f, none⟩))
    (hr : r.length = 64) (hc : ∀ w, C w → ∀ j v, (rc r)[j]? = some v → w.cell? ⟨g, f + j, none⟩ = some v) (hn : K (a.put o.dst (.agg (rc r)))) : o.quiet Try.prog a C K :=
  quiet_val (.agg (rc r)) (fun w hw => by
    have h := run_loadAt_mid (P := Try.prog) w g f 56 (rc r).toList _ (fun j v hv => hc w hw j v (by rwa [Array.getElem?_toList] at hv)) Try.underlying56 rfl (by rw [size_row r hr]; simp)
    unfold execOp
    simp [ho, hx, h]) hn
theorem quiet_byte {o : Oper} {a : Act} {C : World → Prop} {K : Act → Prop} (x : Operand) (ho : o.op = .load 5 x) (g f : Nat) (v : UInt8) (hx : a.eval x = .pointer (some ⟨g, f, none⟩))
    (hc : ∀ w, C w → w.cell? ⟨g, f, none⟩ = some (c8 v)) (hn : K (a.put o.dst (c8 v))) : o.quiet Try.prog a C K :=
  quiet_val (c8 v) (fun w hw => by
    have h := hc w hw
    have ha : (isAgg 5).run Try.prog w = .ok false w := by kernel_rfl
    unfold execOp
    simp [ho, hx, Instr.loadAt, Instr.sureAddr, loadVar, ha, h]) hn
end Go.Proofs.Ytblmblbkfdcbjab
