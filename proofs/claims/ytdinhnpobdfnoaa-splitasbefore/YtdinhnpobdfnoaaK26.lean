/- The mathematics of SplitAsBefore: a text's beginning, cut by itself. -/
import Derived.Test.YtdinhnpobdfnoaaK24
namespace Go.Proofs.Ytdinhnpobdfnoaa
open Go.RowKit
set_option linter.unusedSimpArgs false
set_option linter.unusedVariables false
theorem Fi.front {ct : List UInt8 → Option Nat} {s : List UInt8} {q v n : Nat} (h : Fi ct s q v) (hn : q ≤ n) (hl : n ≤ s.length) : Fi ct (s.take n) q v := by
  have e : ∀ k, k ≤ q → (s.take n).take k = s.take k := fun k hk => by rw [List.take_take, show min k n = k from by omega]
  refine ⟨h.pos, by rw [List.length_take]; omega, fun k a b => by rw [e k (by omega)]; exact h.no k a b, ?_⟩
  rw [e q (Nat.le_refl _)]
  rcases h.yes with c | ⟨c1, c2, c3⟩
  · exact .inl c
  · exact .inr ⟨by rw [List.length_take]; omega, c2, c3⟩
/-- Chunks one behind the other: so many of them take so many bytes. -/
inductive Cp (ct : List UInt8 → Option Nat) : List UInt8 → Nat → Nat → Prop
  | nil (s) : Cp ct s 0 0
  | cons {s q v i n} : Fi ct s q v → Cp ct (s.drop q) i n → Cp ct s (i + 1) (q + n)
theorem Cp.le {ct : List UInt8 → Option Nat} {s : List UInt8} {i n : Nat} (h : Cp ct s i n) : n ≤ s.length := by
  induction h with
  | nil s => omega
  | cons hf _ ih => have := hf.le; rw [List.length_drop] at ih; omega
theorem Cp.drop {ct : List UInt8 → Option Nat} {s : List UInt8} {i n : Nat} (h : Cp ct s i n) : (chk ct s).drop i = chk ct (s.drop n) := by
  induction h with
  | nil s => rfl
  | cons hf _ ih => rw [chk_fi hf, List.drop_succ_cons, ih, List.drop_drop]
theorem Cp.take {ct : List UInt8 → Option Nat} {s : List UInt8} {i n : Nat} (h : Cp ct s i n) : chk ct (s.take n) = (chk ct s).take i := by
  induction h with
  | nil s => rw [List.take_zero, List.take_zero, chk_nil]
  | @cons s q v i n hf hc ih =>
    have hl := hc.le
    have h1 := hf.le
    rw [List.length_drop] at hl
    rw [chk_fi (hf.front (n := q + n) (by omega) (by omega)), chk_fi hf, List.take_succ_cons, ← ih, List.drop_take, show q + n - q = n from by omega]
theorem Cp.snoc {ct : List UInt8 → Option Nat} {s : List UInt8} {i n : Nat} (h : Cp ct s i n) : ∀ {q v : Nat}, Fi ct (s.drop n) q v → Cp ct s (i + 1) (n + q) := by
  induction h with
  | nil s =>
    intro q v hf
    rw [List.drop_zero] at hf
    have := Cp.cons hf (Cp.nil _)
    rwa [Nat.add_zero, ← Nat.zero_add q] at this
  | @cons s q0 v0 i n hf0 hc ih =>
    intro q v hf
    rw [← List.drop_drop] at hf
    have := Cp.cons hf0 (ih hf)
    rwa [← Nat.add_assoc] at this
theorem Cp.len {ct : List UInt8 → Option Nat} {s : List UInt8} {i n : Nat} (h : Cp ct s i n) : i ≤ (chk ct s).length := by
  induction h with
  | nil s => omega
  | cons hf _ ih => rw [chk_fi hf, List.length_cons]; omega
end Go.Proofs.Ytdinhnpobdfnoaa
