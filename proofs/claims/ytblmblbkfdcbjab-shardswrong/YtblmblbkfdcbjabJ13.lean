/- shards.firstOf: the first k that are not missing. -/
import Derived.Test.YtblmblbkfdcbjabJ12
namespace Go.Proofs.Ytblmblbkfdcbjab
open Go.RowKit
set_option linter.unusedSimpArgs false
set_option linter.unusedVariables false
structure Fo (w : World) (l : List Bool) (e : Nat) (wr : World) : Prop where
  t : Bk wr w.heap.size (bs l) 41
  c : Bk wr (w.heap.size + 1) #[.int .i64 (e : Int)] 3
  b : Below w.heap.size w wr
theorem Fo.step {w wr : World} {l : List Bool} {e : Nat} (h : Fo w l e wr) : Fo w l (e + 1) (wr.setCell ⟨w.heap.size + 1, 0, none⟩ (.int .i64 ((e : Int) + 1))) := by
  refine ⟨h.t.grown (Lib.grownBy_setB (World.grownBy.refl _ _) 0 _) (by simp), ?_, below_own h.b h.b.size (Lib.grownBy_setB (World.grownBy.refl _ _) _ _) (by omega)⟩
  have := h.c.set 0 (.int .i64 ((e : Int) + 1))
  exact this
set_option maxHeartbeats 1000000 in
set_option maxRecDepth 100000 in
theorem firstOf_any (l : List Bool) (k : Nat) (w : World) (hl : l.length = 64) (hk : k ≤ 64) :
    Calls Try.prog 19 #[.agg (bs l), .int .i64 k] w fun e2 w' => ∃ e : Nat, e2 = .returned (.func (.func 25) #[] #[.pointer (some ⟨w.heap.size + 1, 0, none⟩), .pointer (some ⟨w.heap.size, 0, none⟩)]) ∧ Fo w l e w' ∧ e ≤ 64 ∧ (k ≤ cnt (nt l) 64 → cnt (nt l) e = k) := by
  have HL : Hid (l.length = 64) := hl
  clear hl
  have HF0 : Hid (Fo w l 0 ((w.alloc (.cells (bs l) 41)).alloc (.cells #[.int .i64 0] 3))) := by
    refine ⟨(bk_new w _ _).alloc _, ?_, ((Below.refl _ _).alloc (Nat.le_refl _) _).alloc (by simp) _⟩
    have := bk_new (w.alloc (.cells (bs l) 41)) #[.int .i64 0] 3
    rw [al_size] at this
    exact this
  go_enter Try.func19, Try.ntmps19
  go_wp2_with fail
  go_loopw [6] (fun t wr => ∃ e m : Nat, e ≤ 64 ∧ m ≤ 64 ∧ t = .int .i64 m ∧ Hid (cnt (nt l) e + m = k) ∧ Hid (Fo w l e wr)) (fun t wr => (intOf t).toNat + (64 - (match wr.cell? ⟨w.heap.size + 1, 0, none⟩ with | some v => (intOf v).toNat | none => 0)))
  case atStart => exact ⟨0, k, by omega, hk, rfl, by show cnt (nt l) 0 + k = k; simp [cnt], HF0.out⟩
  case round =>
    clear HF0
    obtain ⟨e, m, he, hm, rfl, HC, HF⟩ := hrel
    have hce : wr.cell? ⟨w.heap.size + 1, 0, none⟩ = some (.int .i64 (e : Int)) := by rw [HF.out.c.cell]; rfl
    have hfe := HF.out.c.frozen 0
    by_cases hm0 : 0 < m
    · have hmz : (m : Int) > 0 := by omega
      by_cases he6 : e < 64
      · have hez : (e : Int) < 64 := by omega
        have hct := bs_cell HF.out.t HL.out e he6
        have hcn := cnt_next (nt l) e
        have hce2 : (wr.setCell ⟨w.heap.size + 1, 0, none⟩ (.int .i64 ((e : Int) + 1))).cell? ⟨w.heap.size + 1, 0, none⟩ = some (.int .i64 ((e : Int) + 1)) := by rw [HF.out.step.c.cell]; rfl
        have HFn : Hid _ := HF.out.step
        cases hb : nt l e with
        | true =>
          rw [hb] at hct hcn
          have HCn : Hid (cnt (nt l) (e + 1) + (m - 1) = k) := by
            have := HC.out
            show _ = k
            rw [hcn]
            simp
            omega
          have hm1z : (m : Int) - 1 = ((m - 1 : Nat) : Int) := by omega
          clear hb hcn HF HC
          go_wp2
          go_roundw
          case rel => exact ⟨e + 1, m - 1, by omega, by omega, rfl, HCn.out, HFn.out⟩
          case measure => rw [hce, hce2]; simp [intOf]; omega
        | false =>
          rw [hb] at hct hcn
          have HCn : Hid (cnt (nt l) (e + 1) + m = k) := by
            have := HC.out
            show _ = k
            rw [hcn]
            simp
            omega
          clear hb hcn HF HC
          go_wp2
          go_roundw
          case rel => exact ⟨e + 1, m, by omega, by omega, rfl, HCn.out, HFn.out⟩
          case measure => rw [hce, hce2]; simp [intOf]; omega
      · have hez : ¬ (e : Int) < 64 := by omega
        have HE : Hid (k ≤ cnt (nt l) 64 → cnt (nt l) e = k) := fun h => by
          have := HC.out
          rw [show e = 64 by omega] at this ⊢
          omega
        go_wp2
        go_ret
        exact ⟨rfl, e, HF.out, he, HE.out⟩
    · have hmz : ¬ (m : Int) > 0 := by omega
      have HE : Hid (k ≤ cnt (nt l) 64 → cnt (nt l) e = k) := fun h => by
        have := HC.out
        omega
      go_wp2
      go_ret
      exact ⟨rfl, e, HF.out, he, HE.out⟩
end Go.Proofs.Ytblmblbkfdcbjab
