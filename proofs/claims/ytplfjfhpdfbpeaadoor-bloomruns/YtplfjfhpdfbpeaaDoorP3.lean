/- Plain facts: what was put is read, what is read was put. -/
import Derived.Test.YtplfjfhpdfbpeaaDoorP2
namespace Go.Proofs.YtplfjfhpdfbpeaaDoor
set_option linter.unusedSimpArgs false
set_option linter.unusedVariables false
open Go
theorem dec_bounds : ∀ (l : List UInt8) (i acc n k : Nat), dec i acc l = some (n, k) → acc < 128 ^ i → i + 1 ≤ k ∧ k ≤ i + l.length ∧ k ≤ 10 ∧ n < 2 ^ 64
  | [], i, acc, n, k, h, _ => by simp [dec] at h
  | b :: r, i, acc, n, k, h, ha => by
    rw [dec] at h
    split at h
    · simp at h
    · rename_i hi
      split at h
      · have := dec_bounds r (i + 1) _ n k h (accNext _ _ _ ha)
        simp only [List.length_cons]
        omega
      · rename_i hb
        split at h
        · simp at h
        · rename_i hc
          simp only [Option.some.injEq, Prod.mk.injEq] at h
          obtain ⟨rfl, rfl⟩ := h
          refine ⟨by omega, by simp only [List.length_cons]; omega, by omega, ?_⟩
          have e := (accStep acc b.toNat i (by omega) ha (by omega)).2
          rwa [Nat.mod_eq_of_lt (by omega)] at e
theorem shK_le (s : ByteArray) : shK s ≤ s.size := by
  unfold shK
  cases h : decS (bl s) with
  | none => simp
  | some p =>
    have := dec_bounds (bl s) 0 0 p.1 p.2 h (by omega)
    rw [bl_length] at this
    simp only [Option.getD_some]
    omega
theorem shN_lt (s : ByteArray) : shN s < 18446744073709551616 := by
  unfold shN
  cases h : decS (bl s) with
  | none => simp
  | some p =>
    have := dec_bounds (bl s) 0 0 p.1 p.2 h (by omega)
    simp only [Option.getD_some]
    omega
theorem extract_take (s : ByteArray) (d : Nat) (h : d ≤ s.size) : bl (s.extract 0 d) = (bl s).take d := by
  simp [bl, ByteArray.data_extract]
/-- What bytes say as a number, the highest first. -/
def fixV (l : List UInt8) : Nat := l.foldl (fun a c => a * 256 + c.toNat) 0
theorem fixV_snoc (l : List UInt8) (c : UInt8) : fixV (l ++ [c]) = fixV l * 256 + c.toNat := by simp [fixV]
theorem fixV_lt (l : List UInt8) : fixV l < 256 ^ l.length := by
  obtain ⟨n, hn⟩ : ∃ n, n = l.length := ⟨_, rfl⟩
  rw [← hn]
  induction n generalizing l with
  | zero => have : l = [] := by cases l with | nil => rfl | cons a b => simp at hn
            subst this; simp [fixV]
  | succ n ih =>
    obtain ⟨l', c, rfl⟩ : ∃ l' c, l = l' ++ [c] := ⟨l.dropLast, l.getLast (by intro e; subst e; simp at hn), (List.dropLast_concat_getLast _).symm⟩
    have := ih l' (by simp at hn; omega)
    have hc := c.toNat_lt
    rw [fixV_snoc, Nat.pow_succ]
    omega
theorem take_snoc (s : ByteArray) (k : Nat) (h : k < s.size) : (bl s).take (k + 1) = (bl s).take k ++ [s[k]] := by
  rw [List.take_succ_eq_append_getElem (by rw [bl_length]; exact h)]; rfl
theorem fixStep (acc c k : Nat) (hc : c < 256) (hk : k ≤ 7) (ha : acc < 256 ^ k) :
    bits .or .u64 (IntKind.u64.wrap ((acc : Int) * 256)) (c : Int) = ((acc * 256 + c : Nat) : Int) ∧ acc * 256 + c < 2 ^ 64 := by
  have h7 : 256 ^ k ≤ 256 ^ 7 := Nat.pow_le_pow_right (by omega) hk
  have e1 : IntKind.u64.wrap ((acc : Int) * 256) = ((acc * 256 : Nat) : Int) := by rw [IntKind.wrap_u64]; omega
  rw [e1, u64_or_nat _ _ (by omega) (by omega), Nat.or_comm]
  have := or_add c acc 8 (by omega)
  rw [show (2 : Nat) ^ 8 = 256 from rfl] at this
  rw [this]
  exact ⟨by rw [Nat.add_comm], by omega⟩
end Go.Proofs.YtplfjfhpdfbpeaaDoor
