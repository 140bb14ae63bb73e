/- Plain facts: a short number's bytes, one after another. -/
import Derived.Test.YtplfjfhpdfbpeaaDoorP4
namespace Go.Proofs.YtplfjfhpdfbpeaaDoor
set_option linter.unusedSimpArgs false
set_option linter.unusedVariables false
open Go
theorem encS_small (n : Nat) (h : n < 128) : encS n = [n] := by
  have e : slen n = 1 := by
    have h1 := slen_pos n
    rcases Nat.lt_or_ge 1 (slen n) with g | g
    · have h2 := slen_lo n (by omega) g
      have h3 : 128 ^ 1 ≤ 128 ^ (slen n - 1) := Nat.pow_le_pow_right (by omega) (by omega)
      omega
    · omega
  unfold encS; rw [e]; rfl
theorem encS_step (n : Nat) (h : 128 ≤ n) (hn : n < 2 ^ 64) : encS n = (n % 128 + 128) :: encS (n / 128) := by
  have a1 := slen_pos n
  have a2 := slen_hi n hn
  have q1 := slen_pos (n / 128)
  have q2 := slen_hi (n / 128) (by omega)
  have g : 1 < slen n := by
    rcases Nat.lt_or_ge 1 (slen n) with g | g
    · exact g
    · have : slen n = 1 := by omega
      rw [this] at a2; omega
  have a3 := slen_lo n hn g
  have e : slen n = slen (n / 128) + 1 := by
    rcases Nat.lt_trichotomy (slen n) (slen (n / 128) + 1) with c | c | c
    · have q3 := slen_lo (n / 128) (by omega) (by omega)
      have x1 : 128 ^ (slen n - 1) ≤ 128 ^ (slen (n / 128) - 1) := Nat.pow_le_pow_right (by omega) (by omega)
      have x2 : 128 ^ slen n = 128 ^ (slen n - 1) * 128 := by rw [← Nat.pow_succ]; congr 1; omega
      omega
    · exact c
    · have x1 : 128 ^ slen (n / 128) ≤ 128 ^ (slen n - 2) := Nat.pow_le_pow_right (by omega) (by omega)
      have x2 : 128 ^ (slen n - 1) = 128 ^ (slen n - 2) * 128 := by rw [← Nat.pow_succ]; congr 1; omega
      omega
  unfold encS
  rw [e, show slen (n / 128) + 1 - 1 = (slen (n / 128) - 1) + 1 from by omega, encN]
end Go.Proofs.YtplfjfhpdfbpeaaDoor
