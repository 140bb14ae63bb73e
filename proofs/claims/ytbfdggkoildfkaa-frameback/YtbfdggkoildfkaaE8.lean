/- Frames one behind the other. -/
import Derived.Test.YtbfdggkoildfkaaE5
namespace Go.Proofs.Ytbfdggkoildfkaa
set_option linter.unusedSimpArgs false
set_option linter.unusedVariables false
/-- The frames of payloads, one behind the other. -/
def catF : List ByteArray → ByteArray
  | [] => ⟨#[]⟩
  | p :: ps => frm p ++ catF ps
theorem catF_snoc : ∀ (ps : List ByteArray) (p : ByteArray), catF (ps ++ [p]) = catF ps ++ frm p
  | [], p => by
    show frm p ++ (⟨#[]⟩ : ByteArray) = (⟨#[]⟩ : ByteArray) ++ frm p
    apply bl_inj; rw [bl_append, bl_append]; simp [bl]
  | q :: ps, p => by
    show frm q ++ catF (ps ++ [p]) = frm q ++ catF ps ++ frm p
    rw [catF_snoc ps p]
    apply bl_inj; simp [bl_append]
theorem catF_size : ∀ (ps : List ByteArray), (∀ p ∈ ps, p.size ≤ 67108864) → (catF ps).size ≤ 67108872 * ps.length
  | [], _ => by simp [catF]; rfl
  | p :: ps, h => by
    have := catF_size ps (fun q hq => h q (List.mem_cons_of_mem _ hq))
    have hp := h p (List.mem_cons_self ..)
    show (frm p ++ catF ps).size ≤ _
    rw [ByteArray.size_append, frm_size, List.length_cons]
    omega
theorem allP_cat : ∀ (ps : List ByteArray) (t s : ByteArray), (∀ p ∈ ps, p.size ≤ 67108864) → ufB t = false → s = catF ps ++ t → allP s = ps ∧ allR s = t
  | [], t, s, _, ht, hs => by
    have e : s = t := by rw [hs]; apply bl_inj; rw [bl_append]; simp [catF, bl]
    subst e
    exact all_no ht
  | p :: ps, t, s, h, ht, hs => by
    have hp := h p (List.mem_cons_self ..)
    obtain ⟨k1, k2, k3⟩ := frame_uf p s (catF ps ++ t) (by rw [hs]; apply bl_inj; simp [catF, bl_append]) hp
    obtain ⟨a1, a2⟩ := all_yes k1
    obtain ⟨b1, b2⟩ := allP_cat ps t (ufR s) (fun q hq => h q (List.mem_cons_of_mem _ hq)) ht k3
    exact ⟨by rw [a1, b1, k2], by rw [a2, b2]⟩
/-- The first texts of a list. -/
def firstT (T : Nat → ByteArray) (k : Nat) : List ByteArray := (List.range k).map T
theorem firstT_succ (T : Nat → ByteArray) (k : Nat) : firstT T (k + 1) = firstT T k ++ [T k] := by simp [firstT, List.range_succ]
theorem firstT_length (T : Nat → ByteArray) (k : Nat) : (firstT T k).length = k := by simp [firstT]
theorem firstT_mem {T : Nat → ByteArray} {k : Nat} {p : ByteArray} (h : p ∈ firstT T k) : ∃ i, i < k ∧ p = T i := by
  simp only [firstT, List.mem_map, List.mem_range] at h
  obtain ⟨i, hi, rfl⟩ := h
  exact ⟨i, hi, rfl⟩
end Go.Proofs.Ytbfdggkoildfkaa
