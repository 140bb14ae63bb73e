/- The walk of wire.digitValue and of the document's own digit. -/
import Derived.Test.YtbfdggkoildfkaaDoorP5
import Derived.Test.YtbfdggkoildfkaaDoorW1F
import Derived.Lib.LaidTab
namespace Go.Proofs.YtbfdggkoildfkaaDoor
open Go.RowKit
set_option linter.unusedSimpArgs false
set_option linter.unusedVariables false
/-- The table of digits, as a value. -/
abbrev DIG : Value := .agg #[.int .u8 48, .int .u8 49, .int .u8 50, .int .u8 51, .int .u8 52, .int .u8 53, .int .u8 54, .int .u8 55, .int .u8 56, .int .u8 57, .int .u8 97, .int .u8 98, .int .u8 99, .int .u8 100, .int .u8 101, .int .u8 102]
/-- The cells of the table of digits, in their block. -/
def TabIs (w : World) : Prop := ∀ v, v < 16 → w.cell? ⟨1, v, none⟩ = some (.int .u8 (dg v))
theorem TabIs.below {B : Nat} {w w' : World} (h : TabIs w) (hb : Below B w w') (hB : 1 < B) : TabIs w' := fun v hv => (hb.cell (p := ⟨1, v, none⟩) hB).trans (h v hv)
theorem idx16 (w : World) : ∀ (k : Nat) (_ : k < 16), (Instr.index 75 DIG (.int .i64 k)).run Tryd.prog w = .ok (.int .u8 (dg k)) w
  | 0, _ => by kernel_rfl
  | 1, _ => by kernel_rfl
  | 2, _ => by kernel_rfl
  | 3, _ => by kernel_rfl
  | 4, _ => by kernel_rfl
  | 5, _ => by kernel_rfl
  | 6, _ => by kernel_rfl
  | 7, _ => by kernel_rfl
  | 8, _ => by kernel_rfl
  | 9, _ => by kernel_rfl
  | 10, _ => by kernel_rfl
  | 11, _ => by kernel_rfl
  | 12, _ => by kernel_rfl
  | 13, _ => by kernel_rfl
  | 14, _ => by kernel_rfl
  | 15, _ => by kernel_rfl
  | k + 16, h => absurd h (by omega)
theorem dvl_found {c k : Nat} (hk : k < 16) (h : dg k = c) : dvl c = some k := by rw [← h]; exact dvl_dg k hk
theorem dvl_missed {c : Nat} (h : ∀ v, v < 16 → dg v ≠ c) : dvl c = none := by
  cases e : dvl c with
  | none => rfl
  | some v => obtain ⟨a, b⟩ := dvl_some e; exact absurd b (h v a)
theorem ret_dv {c : Nat} {a : Int} {b : Bool} (h : a = ((dvl c).getD 0 : Nat) ∧ b = (dvl c).isSome) : Ending.returned (.tuple #[.int .u8 a, .bool b]) = .returned (.tuple #[.int .u8 ((dvl c).getD 0 : Nat), .bool (dvl c).isSome]) := by rw [h.1, h.2]
set_option maxHeartbeats 400000 in
theorem digitValue_any (c : Nat) (w : World) (hc : c < 256) (hT : TabIs w) :
    Calls Tryd.prog 38 #[.int .u8 c] w fun e w' => e = .returned (.tuple #[.int .u8 ((dvl c).getD 0 : Nat), .bool (dvl c).isSome]) ∧ w' = w := by
  have t0 : w.cell? ⟨1, 0, none⟩ = some (.int .u8 48) := hT 0 (by omega)
  have t1 : w.cell? ⟨1, 1, none⟩ = some (.int .u8 49) := hT 1 (by omega)
  have t2 : w.cell? ⟨1, 2, none⟩ = some (.int .u8 50) := hT 2 (by omega)
  have t3 : w.cell? ⟨1, 3, none⟩ = some (.int .u8 51) := hT 3 (by omega)
  have t4 : w.cell? ⟨1, 4, none⟩ = some (.int .u8 52) := hT 4 (by omega)
  have t5 : w.cell? ⟨1, 5, none⟩ = some (.int .u8 53) := hT 5 (by omega)
  have t6 : w.cell? ⟨1, 6, none⟩ = some (.int .u8 54) := hT 6 (by omega)
  have t7 : w.cell? ⟨1, 7, none⟩ = some (.int .u8 55) := hT 7 (by omega)
  have t8 : w.cell? ⟨1, 8, none⟩ = some (.int .u8 56) := hT 8 (by omega)
  have t9 : w.cell? ⟨1, 9, none⟩ = some (.int .u8 57) := hT 9 (by omega)
  have t10 : w.cell? ⟨1, 10, none⟩ = some (.int .u8 97) := hT 10 (by omega)
  have t11 : w.cell? ⟨1, 11, none⟩ = some (.int .u8 98) := hT 11 (by omega)
  have t12 : w.cell? ⟨1, 12, none⟩ = some (.int .u8 99) := hT 12 (by omega)
  have t13 : w.cell? ⟨1, 13, none⟩ = some (.int .u8 100) := hT 13 (by omega)
  have t14 : w.cell? ⟨1, 14, none⟩ = some (.int .u8 101) := hT 14 (by omega)
  have t15 : w.cell? ⟨1, 15, none⟩ = some (.int .u8 102) := hT 15 (by omega)
  clear hT
  go_enter Tryd.func38, Tryd.ntmps38
  go_wp2
  clear t0 t1 t2 t3 t4 t5 t6 t7 t8 t9 t10 t11 t12 t13 t14 t15
  go_loop [7] (fun i => ∃ (k : Nat), k ≤ 16 ∧ i = .int .i64 k ∧ Hid (∀ v, v < k → dg v ≠ c)) (fun i => 16 - (intOf i).toNat)
  case atStart => exact ⟨0, by omega, rfl, fun v hv => by omega⟩
  case round =>
    obtain ⟨k, hk, rfl, HR⟩ := hrel
    by_cases hlt : k < 16
    · have hi := idx16 w k hlt
      by_cases he : dg k = c
      · have he' : ((dg k : Int) == (c : Int)) = true := by rw [beq_iff_eq]; omega
        have HE : Hid (dg k = c) := he
        clear he
        go_wp2
        go_ret2
        refine ⟨ret_dv ?_, rfl⟩
        rw [dvl_found hlt HE.out]
        exact ⟨by simp, rfl⟩
      · have he' : ((dg k : Int) == (c : Int)) = false := by rw [beq_eq_false_iff_ne]; omega
        have HE : Hid (¬ dg k = c) := he
        clear he
        go_wp2
        go_round
        case rel => exact ⟨k + 1, by omega, by go_num, fun v hv => by
          rcases Nat.lt_succ_iff_lt_or_eq.1 hv with h | h
          · exact HR.out v h
          · subst h; exact HE.out⟩
        case measure => simp [intOf]; omega
    · go_wp2
      go_ret2
      refine ⟨ret_dv ?_, rfl⟩
      rw [dvl_missed (fun v hv => HR.out v (by omega))]
      exact ⟨by simp, rfl⟩
set_option maxHeartbeats 400000 in
theorem digit_any (c : Nat) (w : World) (hc : c < 256) :
    Calls Tryd.prog 39 #[.int .u8 c] w fun e w' => e = .returned (.int .u8 ((dvl c).getD 16 : Nat)) ∧ w' = w := by
  by_cases h1 : 48 ≤ c
  · by_cases h2 : c ≤ 57
    · have e : (dvl c).getD 16 = c - 48 := by unfold dvl; rw [if_pos ⟨h1, h2⟩]; rfl
      rw [e]
      clear e
      go_enter Tryd.func39, Tryd.ntmps39
      go_wp2
      go_ret
      exact ⟨ret_int (by omega), rfl⟩
    · by_cases h3 : 97 ≤ c
      · by_cases h4 : c ≤ 102
        · have e : (dvl c).getD 16 = c - 87 := by unfold dvl; rw [if_neg (by omega), if_pos ⟨h3, h4⟩]; rfl
          rw [e]
          clear e
          go_enter Tryd.func39, Tryd.ntmps39
          go_wp2
          go_ret
          exact ⟨ret_int (by omega), rfl⟩
        · have e : (dvl c).getD 16 = 16 := by unfold dvl; rw [if_neg (by omega), if_neg (by omega)]; rfl
          rw [e]
          clear e
          go_enter Tryd.func39, Tryd.ntmps39
          go_wp2
          go_ret
          exact ⟨rfl, rfl⟩
      · have e : (dvl c).getD 16 = 16 := by unfold dvl; rw [if_neg (by omega), if_neg (by omega)]; rfl
        rw [e]
        clear e
        go_enter Tryd.func39, Tryd.ntmps39
        go_wp2
        go_ret
        exact ⟨rfl, rfl⟩
  · have e : (dvl c).getD 16 = 16 := by unfold dvl; rw [if_neg (by omega), if_neg (by omega)]; rfl
    rw [e]
    clear e
    go_enter Tryd.func39, Tryd.ntmps39
    go_wp2
    go_ret
    exact ⟨rfl, rfl⟩
end Go.Proofs.YtbfdggkoildfkaaDoor
