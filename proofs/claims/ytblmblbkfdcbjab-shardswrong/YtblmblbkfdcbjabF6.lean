/- field.first, field.side, field.Check, the document's Check and Same. -/
import Derived.Test.YtblmblbkfdcbjabF5
import Derived.ChangeKeysEq
namespace Go.Proofs.Ytblmblbkfdcbjab
open Go.RowKit
set_option linter.unusedSimpArgs false
set_option linter.unusedVariables false
/-- The place of a row's first number but 0 (0, if there is none). -/
def fst (r : List UInt8) : Nat := if r.all (· == 0) then 0 else r.findIdx (· != 0)
theorem fst_hit (r : List UInt8) (j : Nat) (x : UInt8) (hx : r[j]? = some x) (h0 : x ≠ 0) (hb : ∀ i, i < j → r[i]? = some 0) : fst r = j := by
  have hj : j < r.length := (List.getElem?_eq_some_iff.1 hx).1
  have hjx : r[j] = x := (List.getElem?_eq_some_iff.1 hx).2
  have h1 : ¬ r.all (· == 0) = true := by
    intro h
    rw [List.all_eq_true] at h
    have := h _ (List.getElem_mem hj)
    rw [hjx] at this
    simp at this
    exact h0 this
  unfold fst
  rw [if_neg h1, List.findIdx_eq hj]
  constructor
  · rw [hjx]; simp [h0]
  · intro i hi
    have := hb i hi
    rw [List.getElem?_eq_getElem (by omega)] at this
    rw [Option.some.inj this]; rfl
theorem fst_none (r : List UInt8) (hb : ∀ i, i < r.length → r[i]? = some 0) : fst r = 0 := by
  have h1 : r.all (· == 0) = true := by
    rw [List.all_eq_true]
    intro x hx
    obtain ⟨i, hi, e⟩ := List.mem_iff_getElem.1 hx
    have := hb i hi
    rw [List.getElem?_eq_getElem hi, e] at this
    rw [Option.some.inj this]; rfl
  unfold fst
  rw [if_pos h1]
theorem sizeOf_byte (w : World) : (sizeOf 5).run Try.prog w = .ok 1 w := by
  have h : (Try.prog.info? 5).map (·.size) = some 1 := by kernel_rfl
  cases hq : Try.prog.info? 5 with
  | none => simp [hq] at h
  | some i => simp [hq] at h; simp [sizeOf, typeInfo, hq, h]
theorem index_row (r : List UInt8) (j : Nat) (x : UInt8) (w : World) (hr : r.length = 64) (hx : r[j]? = some x) : (Instr.index 56 (.agg (rc r)) (.int .i64 j)).run Try.prog w = .ok (c8 x) w := by
  have hl : (j : Int) < 64 := by have := (List.getElem?_eq_some_iff.1 hx).1; omega
  have e1 : (rc r)[j]? = some (c8 x) := by rw [rc_get, hx]; rfl
  have hp : (part 5 (rc r) j).run Try.prog w = .ok (c8 x) w := run_part_plain w (by kernel_rfl) e1
  have e2 := sizeOf_byte w
  simp only [Instr.index, asIntOf, Sem.run_bind, Sem.run_pure, Result.andThen_ok, run_underlying Try.underlying56 w]
  simp [hl, e2, hp]
set_option maxHeartbeats 400000 in
set_option maxRecDepth 100000 in
theorem first_any (r : List UInt8) (w : World) (hr : r.length = 64) :
    Calls Try.prog 34 #[.agg (rc r)] w fun e w' => e = .returned (.int .i64 (fst r)) ∧ Below w.heap.size w w' := by
  have HI := size_row r hr
  have HL : Hid (r.length = 64) := hr
  clear hr
  go_enter Try.func34, Try.ntmps34
  go_wp2_with (first
      | (refine wpList_get rfl 56 (.tmp 1) rfl w.heap.size 0 (rc r) (rc r) 56 _ rfl (bk_new _ _ _) (by intro j v hv; rw [Nat.zero_add]; exact hv) Try.underlying56 rfl HI ?_))
  go_loop [6] (fun v => ∃ j : Nat, j ≤ 64 ∧ v = .int .i64 j ∧ Hid (∀ i, i < j → r[i]? = some 0)) (fun v => 64 - (intOf v).toNat)
  case atStart => exact ⟨0, by omega, rfl, fun i hi => by omega⟩
  case round =>
    obtain ⟨j, hj, rfl, HZ⟩ := hrel
    by_cases hlt : j < 64
    · obtain ⟨x, hx⟩ : ∃ x, r[j]? = some x := ⟨r[j]'(by rw [HL.out]; exact hlt), List.getElem?_eq_getElem _⟩
      have hx8 := x.toNat_lt
      have hix := fun W => index_row r j x W HL.out hx
      have HX : Hid (r[j]? = some x) := hx
      clear hx
      by_cases h0 : x = 0
      · have h0' : ((x.toNat : Int) == 0) = true := by rw [h0]; rfl
        have HN : Hid (∀ i, i < j + 1 → r[i]? = some 0) := by
          intro i hi
          by_cases e : i < j
          · exact HZ.out i e
          · obtain rfl : i = j := by omega
            rw [HX.out, h0]
        clear h0
        go_wp2
        go_round
        case rel => exact ⟨j + 1, by omega, by go_num, HN.out⟩
        case measure => simp [intOf]; omega
      · have hn : ¬ x.toNat = 0 := fun e => h0 (UInt8.toNat_inj.1 (by simpa using e))
        have h0' : ((x.toNat : Int) == 0) = false := by rw [beq_eq_false_iff_ne]; omega
        have HF : Hid (fst r = j) := fst_hit r j x HX.out h0 HZ.out
        clear h0 hn
        go_wp2
        go_ret
        exact ⟨ret_n (by rw [HF.out]), (Below.refl _ _).alloc (Nat.le_refl _) _⟩
    · have HF : Hid (fst r = 0) := fst_none r (fun i hi => HZ.out i (by rw [HL.out] at hi; omega))
      go_wp2
      go_ret
      exact ⟨ret_n (by rw [HF.out]; rfl), (Below.refl _ _).alloc (Nat.le_refl _) _⟩
/-- May a matrix have so many rows? -/
def sdB (n : Int) : Bool := decide (1 ≤ n ∧ n ≤ 64)
set_option maxHeartbeats 400000 in
theorem side_any (n : Int) (w : World) :
    Calls Try.prog 28 #[.int .i64 n] w fun e w' => e = .returned (.bool (sdB n)) ∧ w' = w := by
  by_cases h1 : 1 ≤ n
  · by_cases h2 : n ≤ 64
    · have HD : Hid (sdB n = true) := decide_eq_true ⟨h1, h2⟩
      go_enter Try.func28, Try.ntmps28
      go_wp2
      go_ret
      exact ⟨by rw [HD.out]; rfl, rfl⟩
    · have HD : Hid (sdB n = false) := decide_eq_false (fun h => h2 h.2)
      go_enter Try.func28, Try.ntmps28
      go_wp2
      go_ret
      exact ⟨by rw [HD.out]; rfl, rfl⟩
  · have HD : Hid (sdB n = false) := decide_eq_false (fun h => h1 h.1)
    go_enter Try.func28, Try.ntmps28
    go_wp2
    go_ret
    exact ⟨by rw [HD.out]; rfl, rfl⟩
end Go.Proofs.Ytblmblbkfdcbjab
