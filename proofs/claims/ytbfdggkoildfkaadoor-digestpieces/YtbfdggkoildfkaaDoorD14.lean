/- Two names compared with '=='. -/
import Derived.Test.YtbfdggkoildfkaaDoorD13
import Derived.ChangeKeysEq
import Derived.Laws.StructEq
namespace Go.Proofs.YtbfdggkoildfkaaDoor
open Go.RowKit
set_option linter.unusedSimpArgs false
set_option linter.unusedVariables false
theorem part_id (s : ByteArray) (i : Nat) (h : i < s.size) (w : World) : (part 5 (idc s) i).run Tryd.prog w = .ok (.int .u8 (s[i].toNat : Int)) w := by
  have ha : (isAgg 5).run Tryd.prog w = .ok false w := by kernel_rfl
  simp [part, ha, idc_get s i h]
theorem eqItems_ids (a b : ByteArray) (ha : a.size = 32) (hb : b.size = 32) (w : World) : ∀ is : List Nat, (∀ i ∈ is, i < 32) →
    (Op.eqItems 9999 5 1 (idc a) (idc b) is).run Tryd.prog w = .ok (is.all fun i => (byl a).getD i 0 == (byl b).getD i 0) w
  | [], _ => by simp [Op.eqItems]
  | i :: is, h => by
    have hi : i < 32 := h i (List.mem_cons_self ..)
    have ih := eqItems_ids a b ha hb w is (fun j hj => h j (List.mem_cons_of_mem _ hj))
    have e1 : (byl a).getD i 0 = a[i].toNat := by rw [List.getD, byl_getD a i (by omega)]; rfl
    have e2 : (byl b).getD i 0 = b[i].toNat := by rw [List.getD, byl_getD b i (by omega)]; rfl
    have e3 := run_equalIn_int (P := Tryd.prog) w 9998 5 .u8 .u8 (a[i].toNat : Int) (b[i].toNat : Int) Tryd.underlying5
    simp only [Op.eqItems, Sem.run_bind, Nat.mul_one, part_id a i (by omega), part_id b i (by omega), Result.andThen_ok, e3, List.all_cons, e1, e2]
    by_cases e : a[i].toNat = b[i].toNat
    · have e4 : ((a[i].toNat : Int) == (b[i].toNat : Int)) = true := by rw [e]; simp
      simp only [e4, Bool.not_true, Bool.false_eq_true, if_false, ih, e, beq_self_eq_true, Bool.true_and]
    · have e4 : ((a[i].toNat : Int) == (b[i].toNat : Int)) = false := by rw [beq_eq_false_iff_ne]; omega
      have e5 : (a[i].toNat == b[i].toNat) = false := by rw [beq_eq_false_iff_ne]; exact e
      simp only [e4, Bool.not_false, if_true, Sem.run_pure, e5, Bool.false_and]
theorem ids_all (a b : ByteArray) (ha : a.size = 32) (hb : b.size = 32) : ((List.range 32).all fun i => (byl a).getD i 0 == (byl b).getD i 0) = decide (a = b) := by
  rw [Bool.eq_iff_iff, List.all_eq_true, decide_eq_true_iff]
  constructor
  · intro h
    have : byl a = byl b := list_ext_getD _ _ (by rw [byl_length, byl_length, ha, hb]) (fun j hj => by
      have := h j (by rw [List.mem_range]; rw [byl_length, ha] at hj; exact hj)
      exact eq_of_beq this)
    rw [← sb_byl a, ← sb_byl b, this]
  · rintro rfl i _
    exact beq_self_eq_true _
theorem equalIn_ids (a b : ByteArray) (ha : a.size = 32) (hb : b.size = 32) (w : World) : (Op.equalIn 10000 23 (.agg (idc a)) (.agg (idc b))).run Tryd.prog w = .ok (decide (a = b)) w := by
  have hc : Tryd.prog.cellsOf 5 = 1 := by kernel_rfl
  obtain ⟨i0, hi⟩ := info_of_underlying Tryd.underlying5
  have hu : Tryd.prog.underlying 23 = some (.array 32 5) := Tryd.underlying23
  rw [run_equalIn_array w 9999 (idc a) (idc b) hu hi, hc, eqItems_ids a b ha hb w _ (fun i hi => by simpa using hi), ids_all a b ha hb]
theorem eql_ids (a b : ByteArray) (ha : a.size = 32) (hb : b.size = 32) (w : World) : (binOp .eql 23 (.agg (idc a)) (.agg (idc b))).run Tryd.prog w = .ok (.bool (decide (a = b))) w := by
  rw [run_eql_struct, equalIn_ids a b ha hb]; rfl
theorem neq_ids (a b : ByteArray) (ha : a.size = 32) (hb : b.size = 32) (w : World) : (binOp .neq 23 (.agg (idc a)) (.agg (idc b))).run Tryd.prog w = .ok (.bool (!decide (a = b))) w := by
  rw [run_neq_struct, equalIn_ids a b ha hb]; rfl
end Go.Proofs.YtbfdggkoildfkaaDoor
