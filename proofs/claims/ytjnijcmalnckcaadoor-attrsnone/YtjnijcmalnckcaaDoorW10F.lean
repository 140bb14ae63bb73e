/- The walk of the law's own helper width; a reader's calls where what was put stands at the front. -/
import Derived.Test.YtjnijcmalnckcaaDoorW7
import Derived.Test.YtjnijcmalnckcaaDoorW8
import Derived.Test.YtjnijcmalnckcaaDoorP4
namespace Go.Proofs.YtjnijcmalnckcaaDoor
open Go.RowKit
set_option linter.unusedSimpArgs false
set_option linter.unusedVariables false
theorem app_size {s a r : ByteArray} (h : s = a ++ r) : s.size = a.size + r.size := by subst h; simp
theorem app_take {s a r : ByteArray} (h : s = a ++ r) : (bl s).take a.size = bl a := by
  subst h; rw [bl_append, List.take_append_of_le_length (by rw [bl_length]; exact Nat.le_refl _), List.take_of_length_le (by rw [bl_length]; exact Nat.le_refl _)]
/-- Fixed, where a number of that width stands at the front. -/
theorem fixed_front (s r : ByteArray) (d n : Nat) (b : Nat) (w : World) (hf : w.frozen? ⟨b, 0, none⟩ = false) (hb : b < w.heap.size) (hs : s.size ≤ maxLen) (hc : w.cell? ⟨b, 0, none⟩ = some (.string s)) (hd1 : 1 ≤ d) (hd2 : d ≤ 8) (hn : n < 256 ^ d) (he : s = sb (fixN d n) ++ r) :
    Calls Tryd.prog 55 #[.pointer (some ⟨b, 0, none⟩), .int .i64 d] w fun e w' => e = .returned (.tuple #[.int .u64 n, .int .i64 0]) ∧ Step b w w' r := by
  have hz : (sb (fixN d n)).size = d := by rw [sb_size, fixN_length]
  have h := fixed_ok s b w hs hc hf hb d hd1 hd2 (by rw [app_size he, hz]; omega)
  have e1 := app_take he
  rw [hz] at e1
  have e2 := drop_front s _ r d he hz.symm
  rw [e1, bl_sb, fixV_fixN d n hn, e2] at h
  exact h
/-- Uint, where a short number stands at the front. -/
theorem uint_front (s r : ByteArray) (n : Nat) (b : Nat) (w : World) (hf : w.frozen? ⟨b, 0, none⟩ = false) (hb : b < w.heap.size) (hs : s.size ≤ maxLen) (hc : w.cell? ⟨b, 0, none⟩ = some (.string s)) (hn : n < 2 ^ 64) (he : s = sb (encS n) ++ r) :
    Calls Tryd.prog 56 #[.pointer (some ⟨b, 0, none⟩)] w fun e w' => e = .returned (.tuple #[.int .u64 n, .int .i64 0]) ∧ Step b w w' r := by
  obtain ⟨e1, e2⟩ := sh_enc n s r hn he
  have h := uint_ok s b w hs hc hf hb (by have := slen_pos n; omega)
  have hz : (sb (encS n)).size = slen n := by rw [sb_size, encS_length]
  rw [e1, e2, drop_front s _ r (slen n) he hz.symm] at h
  exact h
/-- Text, where a text stands at the front. -/
theorem text_front (s t r : ByteArray) (b : Nat) (w : World) (hf : w.frozen? ⟨b, 0, none⟩ = false) (hb : b < w.heap.size) (hs : s.size ≤ maxLen) (hc : w.cell? ⟨b, 0, none⟩ = some (.string s)) (he : s = sb (encS t.size) ++ t ++ r) :
    Calls Tryd.prog 57 #[.pointer (some ⟨b, 0, none⟩), .int .i64 t.size] w fun e w' => e = .returned (.tuple #[.string t, .int .i64 0]) ∧ Step b w w' r := by
  have he' : s = sb (encS t.size) ++ (t ++ r) := by rw [he]; apply bl_inj; simp [bl_append]
  have hz : (sb (encS t.size)).size = slen t.size := by rw [sb_size, encS_length]
  have ht : t.size ≤ s.size := by rw [app_size he]; simp; omega
  unfold maxLen at hs
  have hl : slen t.size + t.size ≤ s.size := by rw [app_size he]; simp [hz]
  obtain ⟨e1, e2⟩ := sh_enc t.size s _ (by omega) he'
  have h := text_ok s b w hs hc hf hb t.size (by omega) (by have := slen_pos t.size; omega) (by omega) (by omega)
  have hz2 : (sb (encS t.size) ++ t).size = slen t.size + t.size := by simp [hz]
  have e3 : s.extract (slen t.size) (slen t.size + t.size) = t := by
    apply bl_inj
    have e4 := app_take he
    rw [hz2] at e4
    rw [bl_extract, e4, bl_append, ← hz, List.drop_append_of_le_length (by rw [bl_length]; exact Nat.le_refl _), List.drop_of_length_le (by rw [bl_length]; exact Nat.le_refl _)]
    rfl
  rw [e1, e2, e3, drop_front s _ r (slen t.size + t.size) he hz2.symm] at h
  exact h
end Go.Proofs.YtjnijcmalnckcaaDoor
