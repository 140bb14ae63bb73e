/- The document's own fits, and a byte as a string. -/
import Derived.Test.YtbfdggkoildfkaaDoorW1F
import Derived.Test.YtbfdggkoildfkaaDoorP7
namespace Go.Proofs.YtbfdggkoildfkaaDoor
open Go.RowKit
set_option linter.unusedSimpArgs false
set_option linter.unusedVariables false
/-- One byte, as a slice of its own, as a string. -/
theorem conv1 (w : World) (v : Int) : (convert 47 9 (.slice (some ⟨w.heap.size, 0, none⟩) 1 1)).run Tryd.prog (w.alloc (.cells #[.int .u8 v] 5)) = .ok (.string (strOfNums [v])) (w.alloc (.cells #[.int .u8 v] 5)) :=
  run_convert_bytes_arg _ 47 5 Tryd.underlying47 Tryd.underlying5 _ 0 1 1 [v] rfl (fun i hi => by
    have : i = 0 := by omega
    subst this
    rw [World.cell?_alloc_new]; rfl) 9 Tryd.underlying9
theorem one_size (v : Int) : (strOfNums [v]).size = 1 := strOfNums_size _
theorem one_is (n : Nat) (v : Int) (h : v = n) : strOfNums [v] = sb [n] := by rw [h]; exact sb_nums [n]
/-- Whether a number fits a width of 1 to 8 bytes. -/
def fitB (n d : Nat) : Bool := decide (n < 256 ^ d)
theorem fitB_yes {n d : Nat} (h : n < 256 ^ d) : fitB n d = true := decide_eq_true h
theorem fitB_no {n d : Nat} (h : 256 ^ d ≤ n) : fitB n d = false := decide_eq_false (by omega)
set_option maxHeartbeats 400000 in
theorem fits_any (n d : Nat) (w : World) (hn : n < 18446744073709551616) (hd1 : 1 ≤ d) (hd2 : d ≤ 8) :
    Calls Tryd.prog 51 #[.int .u64 n, .int .i64 d] w fun e w' => e = .returned (.bool (fitB n d)) ∧ w' = w := by
  have hb : (fitB n d = true ∧ n < 256 ^ d) ∨ (fitB n d = false ∧ 256 ^ d ≤ n) := by
    rcases Nat.lt_or_ge n (256 ^ d) with h | h
    · exact Or.inl ⟨fitB_yes h, h⟩
    · exact Or.inr ⟨fitB_no h, h⟩
  have h8 : d = 1 ∨ d = 2 ∨ d = 3 ∨ d = 4 ∨ d = 5 ∨ d = 6 ∨ d = 7 ∨ d = 8 := by omega
  rcases h8 with h | h | h | h | h | h | h | h
  all_goals subst h
  all_goals rcases hb with ⟨e, h⟩ | ⟨e, h⟩
  all_goals rw [e]
  all_goals clear e
  all_goals simp only [Nat.reducePow] at h
  all_goals first
    | (exfalso; omega)
    | (go_enter Tryd.func51, Tryd.ntmps51
       go_wp2
       go_ret
       refine ⟨ret_bool ?_, rfl⟩
       first | (simp; done) | (simp; omega))
end Go.Proofs.YtbfdggkoildfkaaDoor
