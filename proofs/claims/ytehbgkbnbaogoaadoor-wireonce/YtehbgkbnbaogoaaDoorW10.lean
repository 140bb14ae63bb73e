/- The walk of the law's own helper width; a reader's calls where what was put stands at the front. -/
import Derived.Test.YtehbgkbnbaogoaaDoorW9
namespace Go.Proofs.YtehbgkbnbaogoaaDoor
open Go.RowKit
set_option linter.unusedSimpArgs false
set_option linter.unusedVariables false
/-- The width that a number stands for: from 1 to 8. -/
def wd (n : Int) : Nat := (n % 8).toNat + 1
theorem wd_pos (n : Int) : 1 ≤ wd n := by unfold wd; omega
theorem wd_le (n : Int) : wd n ≤ 8 := by unfold wd; omega
theorem tmod8 (n : Int) : n.tmod 8 = if 0 ≤ n then n % 8 else -((-n) % 8) := by
  split
  · rename_i h; exact Int.tmod_eq_emod_of_nonneg h
  · rename_i h
    have e : n = -(-n) := by omega
    rw [e, Int.neg_tmod, Int.tmod_eq_emod_of_nonneg (by omega)]
    simp
theorem wd_is (n : Int) : wrap64 ((wrap64 (n.tmod 8 + 8)).tmod 8 + 1) = (wd n : Int) := by
  have e1 := tmod8 n
  have e2 : wrap64 (n.tmod 8 + 8) = n.tmod 8 + 8 := by unfold wrap64; split at e1 <;> omega
  rw [e2, Int.tmod_eq_emod_of_nonneg (by split at e1 <;> omega)]
  unfold wd wrap64
  split at e1 <;> omega
set_option maxHeartbeats 400000 in
theorem width_any (n : Int) (w : World) (h0 : -9223372036854775808 ≤ n) (h1 : n ≤ 9223372036854775807) :
    Calls Tryd.prog 19 #[.int .i64 n] w fun e w' => e = .returned (.int .i64 (wd n)) ∧ w' = w := by
  go_enter Tryd.func19, Tryd.ntmps19
  go_wp2
  go_ret
  refine ⟨ret_int ?_, rfl⟩
  exact wd_is n
theorem app_size {s a r : ByteArray} (h : s = a ++ r) : s.size = a.size + r.size := by subst h; simp
theorem app_take {s a r : ByteArray} (h : s = a ++ r) : (bl s).take a.size = bl a := by
  subst h; rw [bl_append, List.take_append_of_le_length (by rw [bl_length]; exact Nat.le_refl _), List.take_of_length_le (by rw [bl_length]; exact Nat.le_refl _)]
/-- Fixed, where a number of that width stands at the front. -/
theorem fixed_front (s r : ByteArray) (d n : Nat) (b : Nat) (w : World) (hf : w.frozen? ⟨b, 0, none⟩ = false) (hb : b < w.heap.size) (hs : s.size ≤ maxLen) (hc : w.cell? ⟨b, 0, none⟩ = some (.string s)) (hd1 : 1 ≤ d) (hd2 : d ≤ 8) (hn : n < 256 ^ d) (he : s = sb (fixN d n) ++ r) :
    Calls Tryd.prog 20 #[.pointer (some ⟨b, 0, none⟩), .int .i64 d] w fun e w' => e = .returned (.tuple #[.int .u64 n, .int .i64 0]) ∧ Step b w w' r := by
  have hz : (sb (fixN d n)).size = d := by rw [sb_size, fixN_length]
  have h := fixed_ok s b w hs hc hf hb d hd1 hd2 (by rw [app_size he, hz]; omega)
  have e1 := app_take he
  rw [hz] at e1
  have e2 := drop_front s _ r d he hz.symm
  rw [e1, bl_sb, fixV_fixN d n hn, e2] at h
  exact h
/-- Uint, where a short number stands at the front. -/
theorem uint_front (s r : ByteArray) (n : Nat) (b : Nat) (w : World) (hf : w.frozen? ⟨b, 0, none⟩ = false) (hb : b < w.heap.size) (hs : s.size ≤ maxLen) (hc : w.cell? ⟨b, 0, none⟩ = some (.string s)) (hn : n < 2 ^ 64) (he : s = sb (encS n) ++ r) :
    Calls Tryd.prog 22 #[.pointer (some ⟨b, 0, none⟩)] w fun e w' => e = .returned (.tuple #[.int .u64 n, .int .i64 0]) ∧ Step b w w' r := by
  obtain ⟨e1, e2⟩ := sh_enc n s r hn he
  have h := uint_ok s b w hs hc hf hb (by have := slen_pos n; omega)
  have hz : (sb (encS n)).size = slen n := by rw [sb_size, encS_length]
  rw [e1, e2, drop_front s _ r (slen n) he hz.symm] at h
  exact h
/-- Text, where a text stands at the front. -/
theorem text_front (s t r : ByteArray) (b : Nat) (w : World) (hf : w.frozen? ⟨b, 0, none⟩ = false) (hb : b < w.heap.size) (hs : s.size ≤ maxLen) (hc : w.cell? ⟨b, 0, none⟩ = some (.string s)) (he : s = sb (encS t.size) ++ t ++ r) :
    Calls Tryd.prog 21 #[.pointer (some ⟨b, 0, none⟩), .int .i64 t.size] w fun e w' => e = .returned (.tuple #[.string t, .int .i64 0]) ∧ Step b w w' r := by
  have he' : s = sb (encS t.size) ++ (t ++ r) := by rw [he]; apply bl_inj; simp [bl_append]
  have hz : (sb (encS t.size)).size = slen t.size := by rw [sb_size, encS_length]
  have ht : t.size ≤ s.size := by rw [app_size he]; simp; omega
  unfold maxLen at hs
  have hl : slen t.size + t.size ≤ s.size := by rw [app_size he]; simp [hz]
  obtain ⟨e1, e2⟩ := sh_enc t.size s _ (by omega) he'
  have h := text_ok s b w hs hc hf hb t.size (by omega) (by have := slen_pos t.size; omega) (by omega) (by omega)
  have hz2 : (sb (encS t.size) ++ t).size = slen t.size + t.size := by simp [hz]
  have e3 : s.extract (slen t.size) (slen t.size + t.size) = t := by
    apply bl_inj
    have e4 := app_take he
    rw [hz2] at e4
    rw [bl_extract, e4, bl_append, ← hz, List.drop_append_of_le_length (by rw [bl_length]; exact Nat.le_refl _), List.drop_of_length_le (by rw [bl_length]; exact Nat.le_refl _)]
    rfl
  rw [e1, e2, e3, drop_front s _ r (slen t.size + t.size) he hz2.symm] at h
  exact h
end Go.Proofs.YtehbgkbnbaogoaaDoor
