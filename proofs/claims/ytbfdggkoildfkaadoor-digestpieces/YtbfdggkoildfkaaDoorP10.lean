/- Plain facts: two sums. -/
import Derived.Test.YtbfdggkoildfkaaDoorP8
namespace Go.Proofs.YtbfdggkoildfkaaDoor
set_option linter.unusedSimpArgs false
set_option linter.unusedVariables false
/-- The sum, reckoned with its numbers handed on. -/
def rdsL : List (BitVec 32) → List (BitVec 32) → V8 → V8
  | k :: ks, w :: ws, v => rdsL ks ws (v.rnd k w)
  | _, _, v => v
theorem rds_L (m : List Nat) (v : V8) : ∀ n t, n + t = 64 → rdsL (KL.drop t) ((sch m 64).drop t) (rds m v t) = rds m v 64
  | 0, t, h => by
    have : t = 64 := by omega
    subst this
    rw [show KL.drop 64 = [] from rfl]; rfl
  | n + 1, t, h => by
    have hk : KL.drop t = KT t :: KL.drop (t + 1) := by
      have hl : t < KL.length := by show t < 64; omega
      rw [List.drop_eq_getElem_cons hl]
      simp [KT, List.getD, hl]
    have hw : (sch m 64).drop t = wt m t :: (sch m 64).drop (t + 1) := by
      have hl : t < (sch m 64).length := by rw [sch_length]; omega
      rw [List.drop_eq_getElem_cons hl]
      simp [wt, List.getD, hl]
    rw [hk, hw, rdsL]
    exact rds_L m v n (t + 1) (by omega)
def compL (m : List Nat) (v : V8) : V8 := v.add (rdsL KL (sch m 64) v)
theorem comp_L (m : List Nat) (v : V8) : comp m v = compL m v := by
  have := rds_L m v 64 0 rfl
  simp only [List.drop_zero] at this
  rw [comp, compL, ← this]; rfl
theorem sha_one (m : List Nat) (h : (padded m).length / 64 = 1) : sha m = outB (compL (blk (padded m) 0) H0) := by
  rw [sha, shaV, h, hs, comp_L]; rfl
theorem sha_abc : sha [97, 98, 99] = [186, 120, 22, 191, 143, 1, 207, 234, 65, 65, 64, 222, 93, 174, 34, 35, 176, 3, 97, 163, 150, 23, 122, 156, 180, 16, 255, 97, 242, 0, 21, 173] := by
  rw [sha_one _ (by decide)]
  decide +kernel
theorem sha_nil : sha [] = [227, 176, 196, 66, 152, 252, 28, 20, 154, 251, 244, 200, 153, 111, 185, 36, 39, 174, 65, 228, 100, 155, 147, 76, 164, 149, 153, 27, 120, 82, 184, 85] := by
  rw [sha_one _ (by decide)]
  decide +kernel
end Go.Proofs.YtbfdggkoildfkaaDoor
