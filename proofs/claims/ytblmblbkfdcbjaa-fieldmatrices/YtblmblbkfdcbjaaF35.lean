/- The document's Inverse, where it refuses; Inverse at all, Product at all. -/
import Derived.Test.YtblmblbkfdcbjaaF34
import Derived.Test.YtblmblbkfdcbjaaF27
import Derived.Test.YtblmblbkfdcbjaaF20
import Derived.Test.YtblmblbkfdcbjaaF11
import Derived.Test.YtblmblbkfdcbjaaM4
import Derived.Test.YtblmblbkfdcbjaaK12
namespace Go.Proofs.Ytblmblbkfdcbjaa
open Go.RowKit
set_option linter.unusedSimpArgs false
set_option linter.unusedVariables false
set_option maxHeartbeats 1000000 in
set_option maxRecDepth 100000 in
theorem rinverse_no (a : Option Addr) (ca : Nat) (xs : List ByteArray) (w : World) (hx : TxL w a xs) (nx : xs.length ≤ 4611686018427387904) (sx : ∀ x ∈ xs, x.size ≤ 4611686018427387904)
    (h : ¬ (isM xs = true ∧ wid xs = xs.length)) :
    Calls Try.prog 14 #[.slice a xs.length ca] w fun e w' => e = .returned (.tuple #[.slice none 0 0, .int .i64 1]) ∧ Below w.heap.size w w' := by
  have hcx := rcheck_any a ca xs w hx nx sx
  by_cases mx : isM xs = true
  · obtain ⟨k1, k2, k3⟩ := ck_yes xs mx
    rw [k1, k2, k3] at hcx
    have hne : ((xs.length : Int) == (wid xs : Int)) = false := by
      rw [beq_eq_false_iff_ne]
      intro e
      exact h ⟨mx, by omega⟩
    have hnn : ((xs.length : Int) != (wid xs : Int)) = true := by rw [bne, hne]; rfl
    have C1 : Hid _ := hcx
    clear hcx hx h sx k1 k2 k3
    generalize wid xs = wx at *
    go_enter Try.func14, Try.ntmps14
    go_wp2_with fail
    refine Calls.mono C1.out ?_
    rintro e w1 ⟨rfl, hb1⟩
    have B1 : Hid (Below w.heap.size w w1) := hb1
    clear hb1
    go_wp2
    go_ret2
    exact ⟨rfl, B1.out⟩
  · obtain ⟨k1, k2, k3⟩ := ck_no xs (by simpa using mx)
    rw [k1, k2, k3] at hcx
    have C1 : Hid _ := hcx
    clear hcx hx h sx k1 k2 k3
    go_enter Try.func14, Try.ntmps14
    go_wp2_with fail
    refine Calls.mono C1.out ?_
    rintro e w1 ⟨rfl, hb1⟩
    have B1 : Hid (Below w.heap.size w w1) := hb1
    clear hb1
    go_wp2
    go_ret2
    exact ⟨rfl, B1.out⟩
/-- What Product answers. -/
def pdX (xs ys : List ByteArray) : List ByteArray := if isM xs = true ∧ isM ys = true ∧ wid xs = ys.length then txtL (wid ys) (prodL (arrL xs) (arrL ys)) else []
def pdE (xs ys : List ByteArray) : Nat := if isM xs = true ∧ isM ys = true ∧ wid xs = ys.length then 0 else 1
theorem pdX_len (xs ys : List ByteArray) : (pdX xs ys).length ≤ 64 := by
  unfold pdX
  split
  · rename_i h
    rw [txtL_len, prodL_len, arrL, List.length_map]
    exact (isM_small xs h.1).1
  · simp
theorem fp_any (a b : Option Addr) (ca cb : Nat) (xs ys : List ByteArray) (w : World) (hx : TxL w a xs) (hy : TxL w b ys) (nx : xs.length ≤ 4611686018427387904) (sx : ∀ x ∈ xs, x.size ≤ 4611686018427387904) (ny : ys.length ≤ 4611686018427387904) (sy : ∀ x ∈ ys, x.size ≤ 4611686018427387904) :
    Calls Try.prog 12 #[.slice a xs.length ca, .slice b ys.length cb] w fun e w' => ∃ ao, e = .returned (.tuple #[.slice ao (pdX xs ys).length (pdX xs ys).length, .int .i64 (pdE xs ys)]) ∧ Mad w ao (pdX xs ys) w' ∧ Below w.heap.size w w' := by
  by_cases h : isM xs = true ∧ isM ys = true ∧ wid xs = ys.length
  · have e1 : pdX xs ys = txtL (wid ys) (prodL (arrL xs) (arrL ys)) := if_pos h
    have e2 : pdE xs ys = 0 := if_pos h
    have e3 : (txtL (wid ys) (prodL (arrL xs) (arrL ys))).length = xs.length := by rw [txtL_len, prodL_len, arrL, List.length_map]
    rw [e1, e2, e3]
    refine (product_yes a b ca cb xs ys w hx hy h.1 h.2.1 h.2.2).mono ?_
    rintro e w' ⟨g, rfl, hg, hB, hb⟩
    exact ⟨_, rfl, .inr ⟨g, rfl, hg, hB⟩, hb⟩
  · have e1 : pdX xs ys = [] := if_neg h
    have e2 : pdE xs ys = 1 := if_neg h
    rw [e1, e2]
    refine (product_no a b ca cb xs ys w hx hy nx sx ny sy h).mono ?_
    rintro e w' ⟨rfl, hb⟩
    exact ⟨none, rfl, .inl ⟨rfl, rfl⟩, hb⟩
theorem rp_any (a b : Option Addr) (ca cb : Nat) (xs ys : List ByteArray) (w : World) (hx : TxL w a xs) (hy : TxL w b ys) (nx : xs.length ≤ 4611686018427387904) (sx : ∀ x ∈ xs, x.size ≤ 4611686018427387904) (ny : ys.length ≤ 4611686018427387904) (sy : ∀ x ∈ ys, x.size ≤ 4611686018427387904) :
    Calls Try.prog 11 #[.slice a xs.length ca, .slice b ys.length cb] w fun e w' => ∃ ao c, e = .returned (.tuple #[.slice ao (pdX xs ys).length c, .int .i64 (pdE xs ys)]) ∧ Ans w ao (pdX xs ys) w' ∧ Below w.heap.size w w' := by
  by_cases h : isM xs = true ∧ isM ys = true ∧ wid xs = ys.length
  · have e1 : pdX xs ys = txtL (wid ys) (prodL (arrL xs) (arrL ys)) := if_pos h
    have e2 : pdE xs ys = 0 := if_pos h
    have e3 : (txtL (wid ys) (prodL (arrL xs) (arrL ys))).length = xs.length := by rw [txtL_len, prodL_len, arrL, List.length_map]
    rw [e1, e2]
    refine (rproduct_yes a b ca cb xs ys w hx hy h.1 h.2.1 h.2.2).mono ?_
    rintro e w' ⟨v, rfl, ho, hb⟩
    obtain ⟨a, c, rfl, hA⟩ := ans_of (xs := txtL (wid ys) (prodL (arrL xs) (arrL ys))) (by rw [e3]; exact ho)
    exact ⟨a, c, rfl, hA, hb⟩
  · have e1 : pdX xs ys = [] := if_neg h
    have e2 : pdE xs ys = 1 := if_neg h
    rw [e1, e2]
    refine (rproduct_no a b ca cb xs ys w hx hy nx sx ny sy h).mono ?_
    rintro e w' ⟨rfl, hb⟩
    exact ⟨none, 0, rfl, ⟨fun i x hx => by simp at hx, fun b o s e => by cases e⟩, hb⟩
theorem ri_any (a : Option Addr) (ca : Nat) (xs : List ByteArray) (w : World) (hx : TxL w a xs) (nx : xs.length ≤ 4611686018427387904) (sx : ∀ x ∈ xs, x.size ≤ 4611686018427387904) :
    Calls Try.prog 14 #[.slice a xs.length ca] w fun e w' => ∃ ao c, e = .returned (.tuple #[.slice ao (ivX xs).length c, .int .i64 (ivE xs)]) ∧ Ans w ao (ivX xs) w' ∧ Below w.heap.size w w' := by
  by_cases h : isM xs = true ∧ wid xs = xs.length
  · obtain ⟨p1, p2, p3⟩ := isM_parts xs h.1
    refine (rinverse_sq xs.length a ca xs w hx ⟨rfl, fun x hx => by rw [p3 x hx, h.2]⟩ p1.1 p1.2).mono ?_
    rintro e w' ⟨v, rfl, ho, hb⟩
    obtain ⟨a, c, rfl, hA⟩ := ans_of ho
    exact ⟨a, c, rfl, hA, hb⟩
  · have h0 : (isM xs && decide (wid xs = xs.length)) = false := by
      rw [Bool.eq_false_iff]
      intro e
      rw [Bool.and_eq_true, decide_eq_true_eq] at e
      exact h e
    have e1 : ivX xs = [] := by unfold ivX; rw [h0]; rfl
    have e2 : ivE xs = 1 := by unfold ivE; rw [h0]; rfl
    rw [e1, e2]
    refine (rinverse_no a ca xs w hx nx sx h).mono ?_
    rintro e w' ⟨rfl, hb⟩
    exact ⟨none, 0, rfl, ⟨fun i x hx => by simp at hx, fun b o s e => by cases e⟩, hb⟩
end Go.Proofs.Ytblmblbkfdcbjaa
