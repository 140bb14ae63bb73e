/- The leaf walks of package wire: isWidth, bits.Len64, Len: what each call returns, the world as it was. -/
import Derived.Test.YtplfjfhpdfbpeaaDoorRows
import Derived.WalkKit
import Derived.WalkSpells
import Derived.WalkLawsBesides
import Derived.Handy
import Derived.Test.YtplfjfhpdfbpeaaDoorP1
namespace Go.Proofs.YtplfjfhpdfbpeaaDoor
open Go.RowKit
set_option linter.unusedSimpArgs false
set_option linter.unusedVariables false
theorem ret_int {k : IntKind} {a b : Int} (h : a = b) : Ending.returned (.int k a) = .returned (.int k b) := by rw [h]
theorem len8_get (i : Nat) (h : i < Lib.len8tab.size) : ((Lib.len8tab[i]'h).toNat : Int) = (Lib.bitLen i : Int) := by
  have hz := Lib.len8tab_size
  have e := Lib.len8_eq ⟨i, by omega⟩
  simp only [Lib.len8, Int.toNat_natCast] at e
  rw [← e]
  simp [h]
theorem bitLen_le8n (i : Nat) (h : i < 256) : Lib.bitLen i ≤ 8 := Lib.bitLen_le8 ⟨i, h⟩
theorem len64_fin (x i : Nat) (k : Nat) (b : Int) (hi : i = x / 2 ^ k) (hk : k ≤ 56) (hx : x < 2 ^ 64) (h8 : i < 256) (hb : b = (Lib.bitLen i : Int)) (hsh : k = 0 ∨ 2 ^ k ≤ x) :
    wrap64 ((k : Int) + wrap64 b) = (Lib.bitLen x : Int) := by
  have l := bitLen_le8n i h8
  have e : Lib.bitLen x = k + Lib.bitLen i := by
    rcases hsh with h | h
    · subst h; simp at hi; subst hi; simp
    · rw [hi]; exact Lib.bitLen_shift k x h hx
  subst hb
  unfold wrap64
  omega
theorem len64_fin0 (x : Nat) (b : Int) (h8 : x < 256) (hb : b = (Lib.bitLen x : Int)) : wrap64 (wrap64 b) = (Lib.bitLen x : Int) := by
  have l := bitLen_le8n x h8
  subst hb
  unfold wrap64
  omega
set_option maxHeartbeats 400000 in
set_option maxRecDepth 100000 in
theorem len64_any (x : Int) (w : World) (h0 : 0 ≤ x) (h1 : x ≤ 18446744073709551615) :
    Calls Tryd.prog 67 #[.int .u64 x] w fun e w' => e = .returned (.int .i64 (Lib.bitLen x.toNat)) ∧ w' = w := by
  have hz := Lib.len8tab_size
  go_enter Tryd.func67, Tryd.ntmps67
  go_wp2
  all_goals first | (exfalso; omega) | skip
  all_goals go_ret
  all_goals refine ⟨ret_int ?_, rfl⟩
  · exact len64_fin x.toNat (x / 4294967296 / 65536 / 256).toNat 56 _ (by omega) (by omega) (by omega) (by omega) (len8_get _ _) (by omega)
  · exact len64_fin x.toNat (x / 4294967296 / 65536).toNat 48 _ (by omega) (by omega) (by omega) (by omega) (len8_get _ _) (by omega)
  · exact len64_fin x.toNat (x / 4294967296 / 256).toNat 40 _ (by omega) (by omega) (by omega) (by omega) (len8_get _ _) (by omega)
  · exact len64_fin x.toNat (x / 4294967296).toNat 32 _ (by omega) (by omega) (by omega) (by omega) (len8_get _ _) (by omega)
  · exact len64_fin x.toNat (x / 65536 / 256).toNat 24 _ (by omega) (by omega) (by omega) (by omega) (len8_get _ _) (by omega)
  · exact len64_fin x.toNat (x / 65536).toNat 16 _ (by omega) (by omega) (by omega) (by omega) (len8_get _ _) (by omega)
  · exact len64_fin x.toNat (x / 256).toNat 8 _ (by omega) (by omega) (by omega) (by omega) (len8_get _ _) (by omega)
  · exact len64_fin0 x.toNat _ (by omega) (len8_get _ _)
/-- Whether a number is a width. -/
def isW (n : Int) : Bool := decide (1 ≤ n ∧ n ≤ 8)
theorem isW_yes {n : Int} (h1 : 1 ≤ n) (h2 : n ≤ 8) : isW n = true := decide_eq_true ⟨h1, h2⟩
theorem isW_no {n : Int} (h : n < 1 ∨ 8 < n) : isW n = false := decide_eq_false (by omega)
theorem isW_iff {n : Int} : isW n = true ↔ 1 ≤ n ∧ n ≤ 8 := by unfold isW; simp
theorem ret_bool {a b : Bool} (h : a = b) : Ending.returned (.bool a) = .returned (.bool b) := by rw [h]
set_option maxHeartbeats 400000 in
theorem isWidth_any (n : Int) (w : World) :
    Calls Tryd.prog 80 #[.int .i64 n] w fun e w' => e = .returned (.bool (isW n)) ∧ w' = w := by
  by_cases h1 : 1 ≤ n
  · by_cases h2 : n ≤ 8
    · go_enter Tryd.func80, Tryd.ntmps80
      go_wp2
      go_ret
      exact ⟨ret_bool (isW_yes h1 h2).symm, rfl⟩
    · go_enter Tryd.func80, Tryd.ntmps80
      go_wp2
      go_ret
      exact ⟨ret_bool (isW_no (by omega)).symm, rfl⟩
  · go_enter Tryd.func80, Tryd.ntmps80
    go_wp2
    go_ret
    exact ⟨ret_bool (isW_no (by omega)).symm, rfl⟩
theorem sizeOf_u8 (w : World) : (sizeOf 5).run Tryd.prog w = .ok 1 w := by kernel_rfl
theorem ret_str {a b : ByteArray} (h : a = b) : Ending.returned (.string a) = .returned (.string b) := by rw [h]
theorem append_size (a b : ByteArray) : (a ++ b).size = a.size + b.size := by simp
end Go.Proofs.YtplfjfhpdfbpeaaDoor
