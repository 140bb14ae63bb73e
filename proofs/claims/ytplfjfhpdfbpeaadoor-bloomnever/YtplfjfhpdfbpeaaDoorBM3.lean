/- The mathematics of filters: what never is forgotten. No program is named here. -/
import Derived.Test.YtplfjfhpdfbpeaaDoorBQ7
namespace Go.Proofs.YtplfjfhpdfbpeaaDoor
set_option linter.unusedSimpArgs false
set_option linter.unusedVariables false
open Go
theorem btR_md (n k q : Nat) (xs : List ByteArray) (hn : 0 < n) (hd : 8 * (n / 8) = n) : btR (mdR n k xs) q = true ↔ ∃ x ∈ xs, ∃ i, i < k ∧ q = plc n (idF x) i := by
  rw [mdR, btR_adL n k q hn _ _ (by rw [zrR_len]; exact hd), btR_zr]
  constructor
  · rintro (h | ⟨x, hx, h⟩)
    · cases h
    · obtain ⟨y, hy, rfl⟩ := List.mem_map.1 hx
      exact ⟨y, hy, h⟩
  · rintro ⟨x, hx, h⟩
    exact .inr ⟨idF x, List.mem_map.2 ⟨x, hx, rfl⟩, h⟩
/-- Joined, it is as if all names had been added. -/
theorem jn_md (n k : Nat) (xs ys zs : List ByteArray) (hn : 0 < n) (hd : 8 * (n / 8) = n) (hz : ∀ x, x ∈ zs ↔ x ∈ ys ++ xs) : jnR (mdR n k xs) (mdR n k ys) = mdR n k zs := by
  apply row_ext
  · rw [jnR_len, mdR_len, mdR_len]
  · intro q _
    rw [btR_jnR _ _ _ (by rw [mdR_len, mdR_len]), Bool.eq_iff_iff, Bool.or_eq_true, btR_md n k q xs hn hd, btR_md n k q ys hn hd, btR_md n k q zs hn hd]
    constructor
    · rintro (⟨x, hx, h⟩ | ⟨x, hx, h⟩)
      · exact ⟨x, (hz x).2 (List.mem_append_right _ hx), h⟩
      · exact ⟨x, (hz x).2 (List.mem_append_left _ hx), h⟩
    · rintro ⟨x, hx, h⟩
      rcases List.mem_append.1 ((hz x).1 hx) with h1 | h1
      · exact .inr ⟨x, h1, h⟩
      · exact .inl ⟨x, h1, h⟩
theorem onR_md (n k : Nat) (xs : List ByteArray) (hn : 0 < n) (hd : 8 * (n / 8) = n) : onR (mdR n k xs) ≤ xs.length * k := by
  have h := onR_adL n k hn (xs.map idF) (zrR (n / 8)) (by rw [zrR_len]; exact hd)
  rw [onR_zr, List.length_map] at h
  rw [mdR]; omega
theorem onR_md_zero (n k : Nat) (xs : List ByteArray) (hn : 0 < n) (hd : 8 * (n / 8) = n) (hk : 0 < k) : onR (mdR n k xs) = 0 ↔ xs = [] := by
  rw [onR_eq, smB_zero, mdR_len, hd]
  constructor
  · intro h
    cases xs with
    | nil => rfl
    | cons x l =>
      have h1 := h (plc n (idF x) 0) (Nat.mod_lt _ hn)
      have h2 := (btR_md n k (plc n (idF x) 0) (x :: l) hn hd).2 ⟨x, by simp, 0, hk, rfl⟩
      rw [h1] at h2
      cases h2
  · rintro rfl q _
    rw [Bool.eq_false_iff]
    intro h
    obtain ⟨x, hx, _⟩ := (btR_md n k q [] hn hd).1 h
    simp at hx
theorem had_md (n k : Nat) (xs : List ByteArray) (hn : 0 < n) (hd : 8 * (n / 8) = n) (x : ByteArray) (hx : x ∈ xs) : haK n (idF x) (mdR n k xs) k = true := by
  rw [haK_iff]
  intro i hi
  exact (btR_md n k _ xs hn hd).2 ⟨x, hx, i, hi, rfl⟩
theorem none_md (n k : Nat) (hn : 0 < n) (hd : 8 * (n / 8) = n) (hk : 0 < k) (y : ByteArray) : haK n y (mdR n k []) k = false := by
  rw [Bool.eq_false_iff]
  intro h
  rw [haK_iff] at h
  obtain ⟨x, hx, _⟩ := (btR_md n k _ [] hn hd).1 (h 0 hk)
  simp at hx
end Go.Proofs.YtplfjfhpdfbpeaaDoor
