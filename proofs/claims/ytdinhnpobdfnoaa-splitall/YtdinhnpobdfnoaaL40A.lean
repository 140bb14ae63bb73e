/- A text cut, as it is read. -/
import Derived.Test.YtdinhnpobdfnoaaU8A
namespace Go.Proofs.Ytdinhnpobdfnoaa
open Go.RowKit
set_option linter.unusedSimpArgs false
set_option linter.unusedVariables false
theorem chk_len {α : Type} (ct : List α → Option Nat) (s : List α) : (chk ct s).length ≤ s.length + 1 := by
  unfold chk
  have := pcs_le ct s []
  rw [List.length_append, List.length_map]
  split <;> simp <;> omega
theorem tby_app (a b : ByteArray) : tby (a ++ b) = tby a ++ tby b := by
  show (a ++ b).data.toList = _
  rw [ByteArray.data_append, Array.toList_append]
/-- A list cut, as it is read. -/
theorem cut_ck (p : Pl) (hp : p.ok) (s : ByteArray) (hs : s.size ≤ 1048576) (w : World) : Calls Try.prog 10 #[plV p.B p.F p.M, .string s] w fun e w' => ∃ a c, e = .returned (.tuple #[.slice a (chk (ctA p) (tby s)).length c, .int .i64 0]) ∧ CkL w' a (chk (ctA p) (tby s)) ∧ Below w.heap.size w w' := by
  refine (cut_yes p hp s hs w).mono ?_
  rintro e w' ⟨v, rfl, ho, hb⟩
  obtain ⟨a, c, rfl, hk⟩ := own_ckl ho rfl
  exact ⟨a, c, rfl, hk, hb⟩
end Go.Proofs.Ytdinhnpobdfnoaa
