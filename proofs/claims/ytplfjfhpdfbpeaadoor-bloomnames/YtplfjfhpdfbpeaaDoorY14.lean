import Derived.Test.YtplfjfhpdfbpeaaDoorY13
import Derived.Laws.AppendOwn
/- The document's own times (munimentref02). -/
namespace Go.Proofs.YtplfjfhpdfbpeaaDoor
open Go.RowKit
set_option linter.unusedSimpArgs false
set_option linter.unusedVariables false
/-- Limbs times a number, so many of them done. -/
def timesF (l : List Nat) (x : Nat) : Nat → List Nat
  | 0 => [0, 0, 0, 0, 0]
  | k + 1 => putF 6 (putF 6 (timesF l x k) k (l.getD k 0 * (x % 4294967296))) (k + 1) (l.getD k 0 * (x / 4294967296))
theorem info_u64 : (Tryd.prog.info? 67).map (fun i => (i.zero, i.size, i.bytes)) = some (some (.int .u64 0), 1, 8) := by kernel_rfl
theorem make_5 (u : World) : (Instr.makeSlice 105 (.int .i64 5) (.int .i64 5)).run Tryd.prog u =
    .ok (.slice (some ⟨u.heap.size, 0, none⟩) 5 5) (u.alloc (.cells (lc [0, 0, 0, 0, 0]) 67)) := by
  obtain ⟨i0, hi, hz0, hz1, hz2⟩ := info_parts info_u64
  have h := run_make (P := Tryd.prog) u 105 67 i0 (.int .u64 0) Tryd.underlying105 hi hz0 .i64 .i64 5 5 (by omega) (Int.le_refl _) (by rw [hz2]; decide) (by omega)
  have e : madeCells #[Value.int .u64 0] 5 = lc [0, 0, 0, 0, 0] := by kernel_rfl
  rw [← e]
  simpa [hz1, Value.cells] using h
/-- Five limbs in memory, whatever came before. -/
structure Lb (w : World) (g : Nat) (l : List Nat) : Prop where
  blk : Blk w g (lc l) 67
  len : l.length = 5
  lt : ∀ x ∈ l, x < 4294967296
theorem Lb.lm {w : World} {g : Nat} {l : List Nat} (h : Lb w g l) : Lm w g l w := ⟨h.blk, h.len, h.lt, World.grownBy.refl _ _⟩
theorem Lm.lb {w : World} {g : Nat} {l : List Nat} {wr : World} (h : Lm w g l wr) : Lb wr g l := ⟨h.blk, h.len, h.lt⟩
theorem Lm.next {w wr w' : World} {g : Nat} {s s' : List Nat} (h : Lm w g s wr) (h' : Lm wr g s' w') : Lm w g s' w' := ⟨h'.blk, h'.len, h'.lt, h.grown.trans h'.grown⟩
theorem mul_small (a b : Nat) (ha : a < 4294967296) (hb : b < 4294967296) : a * b < 18446744073709551616 := by
  have := Nat.mul_le_mul (show a ≤ 4294967295 by omega) (show b ≤ 4294967295 by omega)
  omega
theorem wlow (y x : Nat) (hy : y < 4294967296) : IntKind.u64.wrap ((y : Int) * ((x : Int) % 4294967296)) = ((y * (x % 4294967296) : Nat) : Int) := by
  have e : (y : Int) * ((x : Int) % 4294967296) = ((y * (x % 4294967296) : Nat) : Int) := by rw [Int.natCast_mul, Int.natCast_emod]; rfl
  have := mul_small y (x % 4294967296) hy (Nat.mod_lt _ (by omega))
  rw [e, IntKind.wrap_u64]
  omega
theorem whigh (y x : Nat) (hy : y < 4294967296) (hx : x < 274877906944) : IntKind.u64.wrap ((y : Int) * ((x : Int) / 4294967296)) = ((y * (x / 4294967296) : Nat) : Int) := by
  have e : (y : Int) * ((x : Int) / 4294967296) = ((y * (x / 4294967296) : Nat) : Int) := by rw [Int.natCast_mul, Int.natCast_ediv]; rfl
  have := mul_small y (x / 4294967296) hy (by omega)
  rw [e, IntKind.wrap_u64]
  omega
set_option maxHeartbeats 400000 in
set_option maxRecDepth 100000 in
theorem times_any (l : List Nat) (x g1 : Nat) (w : World) (hx : x < 274877906944) (hL : Lb w g1 l) :
    Calls Tryd.prog 81 #[.slice (some ⟨g1, 0, none⟩) 5 5, .int .u64 x] w fun e w' =>
      ∃ g, e = .returned (.slice (some ⟨g, 0, none⟩) 5 5) ∧ w.heap.size ≤ g ∧ Lb w' g (timesF l x 5) ∧ Below w.heap.size w w' := by
  have HL : Hid (Lb w g1 l) := hL
  have hg1 : g1 < w.heap.size := blk_lt hL.blk
  have hm5 := make_5 w
  clear hL
  go_enter Tryd.func81, Tryd.ntmps81
  go_wp2
  obtain ⟨w1, hw1⟩ : ∃ w1, w1 = w.alloc (.cells (lc [0, 0, 0, 0, 0]) 67) := ⟨_, rfl⟩
  rw [← hw1]
  have HS : Hid (Lm w1 w.heap.size (timesF l x 0) w1 ∧ Below w.heap.size w w1) := by
    rw [hw1]
    exact ⟨⟨blk_new _ _, rfl, by intro y hy; simp [timesF] at hy; omega, World.grownBy.refl _ _⟩, (Below.refl _ _).alloc (Nat.le_refl _) _⟩
  have z1 : w.heap.size < w1.heap.size := blk_lt HS.out.1.blk
  clear hw1 hm5
  go_loopw [8] (fun i wr => ∃ (k : Nat), k ≤ 5 ∧ i = .int .i64 k ∧ Hid (Lm w1 w.heap.size (timesF l x k) wr)) (fun i _ => 10 - (intOf i).toNat)
  case atStart => exact ⟨0, by omega, rfl, HS.out.1⟩
  case round =>
    obtain ⟨k, hk, rfl, HR⟩ := hrel
    by_cases hlt : k < 5
    · obtain ⟨y, hy⟩ : ∃ y, y = l.getD k 0 := ⟨_, rfl⟩
      have hyl : y < 4294967296 := by rw [hy]; exact getD_lt HL.out.lt k
      have hcw : w1.cell? ⟨g1, k, none⟩ = some (.int .u64 (y : Int)) := by rw [HS.out.2.cell (p := ⟨g1, k, none⟩) hg1, HL.out.blk.cell, lc_get _ _ (by rw [HL.out.len]; omega), hy]
      have hc : wr.cell? ⟨g1, k, none⟩ = some (.int .u64 (y : Int)) := HR.out.grown.cell hcw (by simp; omega)
      have HY : Hid (y = l.getD k 0) := hy
      clear hy
      go_wp2_with fail
      rw [wlow y x hyl]
      obtain ⟨pl, hpl⟩ : ∃ pl, pl = y * (x % 4294967296) := ⟨_, rfl⟩
      rw [← hpl]
      have HPL : Hid (pl = y * (x % 4294967296)) := hpl
      have hpl2 : pl < 18446744073709551616 := by rw [hpl]; exact mul_small y _ hyl (Nat.mod_lt _ (by omega))
      clear hpl
      refine (cput_any (timesF l x k) k pl w.heap.size wr (by omega) hpl2 HR.out.lb.lm).mono ?_
      rintro e w2 ⟨rfl, h2⟩
      have H2 : Hid (Lm w1 w.heap.size (putF 6 (timesF l x k) k pl) w2) := HR.out.next h2
      have hc2 : w2.cell? ⟨g1, k, none⟩ = some (.int .u64 (y : Int)) := h2.grown.cell hc (by simp; omega)
      clear h2 hc hcw
      go_wp2_with fail
      rw [whigh y x hyl hx]
      obtain ⟨ph, hph⟩ : ∃ ph, ph = y * (x / 4294967296) := ⟨_, rfl⟩
      rw [← hph]
      have HPH : Hid (ph = y * (x / 4294967296)) := hph
      have hph2 : ph < 18446744073709551616 := by rw [hph]; exact mul_small y _ hyl (by omega)
      clear hph
      rw [show ((k : Int) + 1) = ((k + 1 : Nat) : Int) from by omega]
      refine (cput_any (putF 6 (timesF l x k) k pl) (k + 1) ph w.heap.size w2 (by omega) hph2 H2.out.lb.lm).mono ?_
      rintro e w3 ⟨rfl, h3⟩
      have H3 : Hid (Lm w1 w.heap.size (timesF l x (k + 1)) w3) := by
        have e : timesF l x (k + 1) = putF 6 (putF 6 (timesF l x k) k pl) (k + 1) ph := by rw [timesF, HPL.out, HPH.out, HY.out]
        show Lm _ _ _ _
        rw [e]; exact H2.out.next h3
      clear h3 H2 hc2 HR
      go_wp2
      go_roundw
      case rel => exact ⟨k + 1, by omega, by go_num, H3.out⟩
      case measure => simp [intOf]; omega
    · have hke : k = 5 := by omega
      subst hke
      go_wp2
      go_ret
      refine ⟨w.heap.size, rfl, Nat.le_refl _, HR.out.lb, ?_⟩
      exact HS.out.2.grown HR.out.grown (by omega) (fun j hj => by cases hj; exact Nat.le_refl _)
end Go.Proofs.YtplfjfhpdfbpeaaDoor
/- The document's own within (munimentref02). -/
namespace Go.Proofs.YtplfjfhpdfbpeaaDoor
open Go.RowKit
set_option linter.unusedSimpArgs false
set_option linter.unusedVariables false
/-- A number's power, by limbs. -/
def powF (x : Nat) : Nat → List Nat
  | 0 => [1, 0, 0, 0, 0]
  | k + 1 => timesF (powF x k) x 5
/-- Two rows of limbs, the highest first: is the one not above the other? -/
def cmpF (a b : List Nat) : Nat → Bool
  | 0 => true
  | i + 1 => if a.getD i 0 = b.getD i 0 then cmpF a b i else decide (a.getD i 0 < b.getD i 0)
def topF (p power : Nat) : List Nat := [0, 0, 0, 0, 0].set power p
def withinB (x p power : Nat) : Bool := cmpF (powF x power) (topF p power) 5
theorem Lb.grown {w w' : World} {g : Nat} {l : List Nat} {r : Option Nat} (h : Lb w g l) (hg : w.grownBy w' r) (hr : r ≠ some g) : Lb w' g l := by
  have hlt := blk_lt h.blk
  refine ⟨?_, h.len, h.lt⟩
  unfold Blk
  rw [hg.block g hlt (fun e => hr e.symm)]; exact h.blk
theorem Lb.cell {w : World} {g : Nat} {l : List Nat} (h : Lb w g l) (j : Nat) (hj : j < 5) : w.cell? ⟨g, j, none⟩ = some (.int .u64 (l.getD j 0 : Nat)) := by
  rw [h.blk.cell, lc_get _ _ (by rw [h.len]; exact hj)]
theorem Lb.one (w : World) : Lb (w.alloc (.cells (lc [1, 0, 0, 0, 0]) 67)) w.heap.size [1, 0, 0, 0, 0] := ⟨blk_new _ _, rfl, by decide⟩
set_option maxHeartbeats 1000000 in
set_option maxRecDepth 100000 in
theorem within_any (x p power : Nat) (w : World) (hx : x < 274877906944) (hp : p < 4294967296) (hpw : power ≤ 4) :
    Calls Tryd.prog 71 #[.int .u64 x, .int .u64 p, .int .i64 power] w fun e w' => e = .returned (.bool (withinB x p power)) ∧ Below w.heap.size w w' := by
  go_enter Tryd.func71, Tryd.ntmps71
  go_wp2
  obtain ⟨w1, hw1⟩ : ∃ w1, w1 = w.alloc (.cells (lc [1, 0, 0, 0, 0]) 67) := ⟨_, rfl⟩
  have HS : Hid (Lb w1 w.heap.size (powF x 0) ∧ Below w.heap.size w w1) := by rw [hw1]; exact ⟨Lb.one w, (Below.refl _ _).alloc (Nat.le_refl _) _⟩
  show Code.wp _ _ _ _ (w.alloc (.cells (lc [1, 0, 0, 0, 0]) 67))
  rw [← hw1]
  clear hw1
  go_loopw [7, 8] (fun v i wr => ∃ (k g : Nat), k ≤ power ∧ i = .int .i64 k ∧ v = .slice (some ⟨g, 0, none⟩) 5 5 ∧ Hid (Lb wr g (powF x k) ∧ Below w.heap.size w wr)) (fun _ i _ => 10 - (intOf i).toNat)
  case atStart => exact ⟨0, w.heap.size, by omega, rfl, rfl, HS.out⟩
  case round =>
    clear HS
    obtain ⟨k, g, hk, rfl, rfl, HR⟩ := hrel
    have zr : w.heap.size ≤ wr.heap.size := HR.out.2.size
    by_cases hlt : k < power
    · go_wp2_with fail
      refine (times_any (powF x k) x g wr hx HR.out.1).mono ?_
      rintro e w2 ⟨g2, rfl, hg2, hL2, hb2⟩
      have H2 : Hid (Lb w2 g2 (powF x (k + 1)) ∧ Below w.heap.size w w2) := ⟨hL2, HR.out.2.trans (hb2.mono zr)⟩
      clear hL2 hb2 HR
      go_wp2
      go_roundw
      case rel => exact ⟨k + 1, g2, by omega, by go_num, rfl, H2.out⟩
      case measure => simp [intOf]; omega
    · have hke : k = power := by omega
      subst hke
      have hm5 := make_5 wr
      obtain ⟨G, hG⟩ : ∃ G, G = wr.heap.size := ⟨_, rfl⟩
      rw [← hG] at hm5
      obtain ⟨w3, hw3⟩ : ∃ w3, w3 = wr.alloc (.cells (lc [0, 0, 0, 0, 0]) 67) := ⟨_, rfl⟩
      rw [← hw3] at hm5
      have hB3 : Blk w3 G (lc [0, 0, 0, 0, 0]) 67 := by rw [hw3, hG]; exact blk_new _ _
      have hg3 : wr.grownBy w3 none := by rw [hw3]; exact World.grownBy_alloc _ _ none
      have hgG : g < G := by rw [hG]; exact blk_lt HR.out.1.blk
      have hc3 : w3.cell? ⟨G, k, none⟩ = some (.int .u64 ((([0, 0, 0, 0, 0] : List Nat).getD k 0 : Nat) : Int)) := by rw [hB3.cell, lc_get _ _ (by show k < 5; omega)]
      have hf3 := hB3.frozen k
      have HLa : Hid (Lb w3 g (powF x k)) := HR.out.1.grown hg3 (by simp)
      have HB3 : Hid (Blk w3 G (lc [0, 0, 0, 0, 0]) 67) := hB3
      have HW3 : Hid (Below w.heap.size w w3) := HR.out.2.trans ((below_of_grown hg3).mono zr)
      have HGG : Hid (G = wr.heap.size) := hG
      have hzG : w.heap.size ≤ G := by omega
      clear hG hw3 hB3 hg3 HR hlt
      go_wp2
      obtain ⟨w4, hw4⟩ : ∃ w4, w4 = w3.setCell ⟨G, k, none⟩ (.int .u64 (p : Int)) := ⟨_, rfl⟩
      rw [← hw4]
      have HA4 : Hid (Lb w4 g (powF x k)) := by rw [hw4]; exact HLa.out.grown (Lib.grownBy_setB (World.grownBy.refl _ _) k _) (by simp; omega)
      have HB4 : Hid (Lb w4 G (topF p k)) := by
        rw [hw4]
        refine ⟨?_, by rw [topF, List.length_set]; rfl, set_lt (by decide) k p hp⟩
        have e := HB3.out.set k (.int .u64 (p : Int))
        rw [lc_set] at e
        exact e
      have HW4 : Hid (Below w.heap.size w w4) := by rw [hw4]; exact HW3.out.setCell hzG _
      clear hw4 HLa HB3 HW3 hc3 hf3 hm5
      obtain ⟨A, hA⟩ : ∃ A, A = powF x k := ⟨_, rfl⟩
      obtain ⟨B, hB⟩ : ∃ B, B = topF p k := ⟨_, rfl⟩
      have HE : Hid (withinB x p k = cmpF A B 5) := by rw [hA, hB]; rfl
      rw [← hA] at HA4
      rw [← hB] at HB4
      clear hA hB
      go_loopw [10] (fun i wq => ∃ (j : Nat), j ≤ 5 ∧ i = .int .i64 ((j : Int) - 1) ∧ Hid (w4.grownBy wq none ∧ cmpF A B 5 = cmpF A B j)) (fun i _ => (intOf i + 1).toNat)
      case atStart => exact ⟨5, by omega, rfl, World.grownBy.refl _ _, rfl⟩
      case round =>
        obtain ⟨j, hj, rfl, HQ⟩ := hrel
        by_cases hj0 : 0 < j
        · obtain ⟨b, rfl⟩ : ∃ b, j = b + 1 := ⟨j - 1, by omega⟩
          obtain ⟨y, hy⟩ : ∃ y, y = A.getD b 0 := ⟨_, rfl⟩
          obtain ⟨z, hz⟩ : ∃ z, z = B.getD b 0 := ⟨_, rfl⟩
          have c1 : wr.cell? ⟨g, b, none⟩ = some (.int .u64 (y : Int)) := by rw [hy]; exact HQ.out.1.cell (HA4.out.cell b (by omega)) (by simp)
          have c2 : wr.cell? ⟨G, b, none⟩ = some (.int .u64 (z : Int)) := by rw [hz]; exact HQ.out.1.cell (HB4.out.cell b (by omega)) (by simp)
          have HYZ : Hid (y = A.getD b 0 ∧ z = B.getD b 0) := ⟨hy, hz⟩
          have hyl : y < 4294967296 := by rw [hy]; exact getD_lt HA4.out.lt b
          have hzl : z < 4294967296 := by rw [hz]; exact getD_lt HB4.out.lt b
          clear hy hz
          rw [show (((b + 1 : Nat) : Int) - 1) = (b : Int) from by omega]
          by_cases hyz : y = z
          · have hb : ((y : Int) != (z : Int)) = false := by rw [bne_eq_false_iff_eq]; omega
            have HNE : Hid (y = z) := hyz
            clear hyz
            go_wp2
            go_quiet (fail)
            go_wp2
            go_roundw
            case rel =>
              refine ⟨b, by omega, by go_num, HQ.out.1.trans (grown_drewN _ _ _), ?_⟩
              rw [HQ.out.2, cmpF, if_pos (by rw [← HYZ.out.1, ← HYZ.out.2]; exact HNE.out)]
            case measure => simp [intOf]
          · have hb : ((y : Int) != (z : Int)) = true := by rw [bne_iff_ne]; omega
            have HNE : Hid (¬ y = z) := hyz
            clear hyz
            go_wp2
            go_quiet (fail)
            go_wp2
            go_quiet (fail)
            go_wp2
            go_ret
            have e : withinB x p k = decide ((y : Int) < (z : Int)) := by
              rw [HE.out, HQ.out.2, cmpF, ← HYZ.out.1, ← HYZ.out.2, if_neg HNE.out]
              apply Bool.eq_iff_iff.2
              simp
            refine ⟨?_, HW4.out.trans ((below_of_grown ((HQ.out.1.trans (grown_drewN _ _ _)).trans (grown_drewN _ _ _))).mono HW4.out.size)⟩
            rw [e]
            first | rfl | (simp; done)
        · have hj1 : j = 0 := by omega
          subst hj1
          have HF : Hid (cmpF A B 5 = true) := by have := HQ.out.2; exact this
          clear hj0
          go_wp2
          go_ret
          refine ⟨by rw [HE.out, HF.out]; rfl, HW4.out.trans ((below_of_grown HQ.out.1).mono HW4.out.size)⟩
end Go.Proofs.YtplfjfhpdfbpeaaDoor
/- The document's own root (munimentref02). -/
namespace Go.Proofs.YtplfjfhpdfbpeaaDoor
open Go.RowKit
set_option linter.unusedSimpArgs false
set_option linter.unusedVariables false
/-- The greatest number whose power is within, by halving. -/
def rootF (p power : Nat) : Nat → Nat → Nat → Nat
  | 0, lo, _ => lo
  | f + 1, lo, hi => if lo < hi then (if withinB ((lo + hi + 1) / 2) p power = true then rootF p power f ((lo + hi + 1) / 2) hi else rootF p power f lo ((lo + hi + 1) / 2 - 1)) else lo
def rootN (p power : Nat) : Nat := rootF p power 38 0 137438953472
theorem rootF_yes {p power f lo hi : Nat} (h : lo < hi) (hw : withinB ((lo + hi + 1) / 2) p power = true) : rootF p power (f + 1) lo hi = rootF p power f ((lo + hi + 1) / 2) hi := by
  rw [rootF, if_pos h, if_pos hw]
theorem rootF_no {p power f lo hi : Nat} (h : lo < hi) (hw : withinB ((lo + hi + 1) / 2) p power = false) : rootF p power (f + 1) lo hi = rootF p power f lo ((lo + hi + 1) / 2 - 1) := by
  rw [rootF, if_pos h, if_neg (by rw [hw]; simp)]
theorem rootF_end {p power f lo hi : Nat} (h : ¬ lo < hi) : rootF p power f lo hi = lo := by
  cases f with
  | zero => rfl
  | succ f => rw [rootF, if_neg h]
set_option maxHeartbeats 400000 in
set_option maxRecDepth 100000 in
theorem root_any (p power : Nat) (w : World) (hp : p < 4294967296) (hpw : power ≤ 4) :
    Calls Tryd.prog 62 #[.int .u64 p, .int .i64 power] w fun e w' => e = .returned (.int .u32 ((rootN p power % 4294967296 : Nat) : Int)) ∧ Below w.heap.size w w' := by
  go_enter Tryd.func62, Tryd.ntmps62
  go_wp2
  go_loopw [5, 6] (fun v u wr => ∃ (lo hi f : Nat), v = .int .u64 (lo : Int) ∧ u = .int .u64 (hi : Int) ∧ hi ≤ 137438953472 ∧ lo ≤ 137438953472 ∧ Hid (hi - lo < 2 ^ f ∧ rootN p power = rootF p power f lo hi ∧ Below w.heap.size w wr)) (fun v u _ => (intOf u - intOf v).toNat)
  case atStart => exact ⟨0, 137438953472, 38, rfl, rfl, by omega, by omega, by decide, rfl, Below.refl _ _⟩
  case round =>
    obtain ⟨lo, hi, f, rfl, rfl, hhi, hlo, HR⟩ := hrel
    by_cases hlt : lo < hi
    · obtain ⟨f', hf'⟩ : ∃ f', f = f' + 1 := by
        cases f with
        | zero => exfalso; have := HR.out.1; simp at this; omega
        | succ f => exact ⟨f, rfl⟩
      obtain ⟨mid, hmid⟩ : ∃ mid, mid = (lo + hi + 1) / 2 := ⟨_, rfl⟩
      have hm1 : lo < mid := by omega
      have hm2 : mid ≤ hi := by omega
      have hmI : ((lo : Int) + hi + 1) / 2 = (mid : Int) := by omega
      have HM : Hid (mid = (lo + hi + 1) / 2) := hmid
      have HF : Hid (f = f' + 1) := hf'
      have hpow : hi - mid < 2 ^ f' ∧ mid - 1 - lo < 2 ^ f' := by
        have h1 := HR.out.1
        rw [hf', Nat.pow_succ] at h1
        omega
      have HPW : Hid (hi - mid < 2 ^ f' ∧ mid - 1 - lo < 2 ^ f') := hpow
      have zr : w.heap.size ≤ wr.heap.size := HR.out.2.2.size
      clear hmid hf' hpow
      go_wp2_with fail
      refine (within_any mid p power wr (by omega) hp hpw).mono ?_
      rintro e w1 ⟨rfl, hb1⟩
      have H1 : Hid (Below w.heap.size w w1) := HR.out.2.2.trans (hb1.mono zr)
      clear hb1
      cases hwi : withinB mid p power with
      | true =>
        have HW : Hid (withinB mid p power = true) := hwi
        clear hwi
        go_wp2
        go_roundw
        case rel =>
          refine ⟨mid, hi, f', rfl, rfl, hhi, by omega, HPW.out.1, ?_, H1.out⟩
          rw [HR.out.2.1, HF.out, rootF_yes hlt (by rw [← HM.out]; exact HW.out), ← HM.out]
        case measure => simp [intOf]; omega
      | false =>
        have HW : Hid (withinB mid p power = false) := hwi
        clear hwi
        go_wp2
        go_roundw
        case rel =>
          refine ⟨lo, mid - 1, f', rfl, by go_num, by omega, hlo, HPW.out.2, ?_, H1.out⟩
          rw [HR.out.2.1, HF.out, rootF_no hlt (by rw [← HM.out]; exact HW.out), ← HM.out]
        case measure => simp [intOf]; omega
    · go_wp2
      go_ret
      refine ⟨ret_i32 ?_, HR.out.2.2⟩
      rw [HR.out.2.1, rootF_end hlt]
      simp
end Go.Proofs.YtplfjfhpdfbpeaaDoor
/- The roots of the first primes, reckoned. -/
namespace Go.Proofs.YtplfjfhpdfbpeaaDoor
set_option linter.unusedSimpArgs false
set_option linter.unusedVariables false
/-- The first primes. -/
def prs : List Nat := [2, 3, 5, 7, 11, 13, 17, 19, 23, 29, 31, 37, 41, 43, 47, 53, 59, 61, 67, 71, 73, 79, 83, 89, 97, 101, 103, 107, 109, 113, 127, 131, 137, 139, 149, 151, 157, 163, 167, 173, 179, 181, 191, 193, 197, 199, 211, 223, 227, 229, 233, 239, 241, 251, 257, 263, 269, 271, 277, 281, 283, 293, 307, 311]
theorem roots3 : ∀ i : Fin 64, rootN (prs.getD i.val 0) 3 % 4294967296 = (KT i.val).toNat := by decide +kernel
theorem roots2 : ∀ i : Fin 8, rootN (prs.getD i.val 0) 2 % 4294967296 = (H0.list.getD i.val 0).toNat := by decide +kernel
end Go.Proofs.YtplfjfhpdfbpeaaDoor
/- The document's own primes (munimentref02). -/
namespace Go.Proofs.YtplfjfhpdfbpeaaDoor
open Go.RowKit
set_option linter.unusedSimpArgs false
set_option linter.unusedVariables false
/-- Is a number divided by none of these, as far as their squares go? -/
def isPc : List Nat → Nat → Bool → Bool
  | [], _, b => b
  | q :: r, p, b => if q * q ≤ p then isPc r p (b && decide (p % q ≠ 0)) else b
/-- So many numbers are tried. -/
def primesS : Nat → List Nat → Nat → List Nat
  | 0, s, _ => s
  | f + 1, s, p => if s.length < 64 then primesS f (if isPc s p true = true then s ++ [p] else s) (p + 1) else s
theorem primes_are : primesS 310 [] 2 = prs := by decide +kernel
theorem prs_len : prs.length = 64 := rfl
/-- Numbers of 64 bits as a list of cells. -/
def uv (l : List Nat) : List Value := l.map fun x : Nat => Value.int .u64 (x : Int)
theorem uv_length (l : List Nat) : (uv l).length = l.length := by simp [uv]
theorem uv_append (a b : List Nat) : uv (a ++ b) = uv a ++ uv b := by simp [uv]
theorem own_cell {w : World} {B n : Nat} {v : Value} {s : List Nat} (h : w.ownsRow B 67 1 v n (uv s)) (i : Nat) (hi : i < s.length) :
    ∃ g c, v = .slice (some ⟨g, 0, none⟩) n c ∧ w.cell? ⟨g, i, none⟩ = some (.int .u64 (s.getD i 0 : Nat)) := by
  obtain ⟨hl, h⟩ := h
  have hsl : s.length = n := by rw [uv_length] at hl; omega
  rcases h with ⟨rfl, rfl⟩ | ⟨g, cap, cur, rfl, _, hg, hn, _, hc, ht⟩
  · omega
  · refine ⟨g, cap, rfl, ?_⟩
    rw [cell_of_row w g i cur _ (0, 0) hg]
    have e : (cur.toList.take (n * 1))[i]? = (uv s)[i]? := by rw [ht]
    rw [List.getElem?_take_of_lt (by omega), Array.getElem?_toList, uv, List.getElem?_map, List.getElem?_eq_getElem hi] at e
    rw [e, List.getD, List.getElem?_eq_getElem hi]; rfl
theorem own_form {w : World} {B n : Nat} {v : Value} {xs : List Value} (h : w.ownsRow B 67 1 v n xs) : (∃ g c, v = .slice (some ⟨g, 0, none⟩) n c) ∨ (v = .slice none 0 0 ∧ n = 0) := by
  rcases h.2 with ⟨h1, h2⟩ | ⟨g, c, _, h1, _⟩
  · exact Or.inr ⟨h1, h2⟩
  · exact Or.inl ⟨g, c, h1⟩
theorem isP_go {s : List Nat} {i p : Nat} {b : Bool} (h : i < s.length) (hq : s.getD i 0 * s.getD i 0 ≤ p) : isPc (s.drop i) p b = isPc (s.drop (i + 1)) p (b && decide (p % s.getD i 0 ≠ 0)) := by
  rw [List.drop_eq_getElem_cons h, isPc]
  have e : s[i] = s.getD i 0 := by rw [List.getD, List.getElem?_eq_getElem h]; rfl
  rw [e, if_pos hq]
theorem isP_stop {s : List Nat} {i p : Nat} {b : Bool} (h : i < s.length) (hq : ¬ s.getD i 0 * s.getD i 0 ≤ p) : isPc (s.drop i) p b = b := by
  rw [List.drop_eq_getElem_cons h, isPc]
  have e : s[i] = s.getD i 0 := by rw [List.getD, List.getElem?_eq_getElem h]; rfl
  rw [e, if_neg hq]
theorem isP_end {s : List Nat} {i p : Nat} {b : Bool} (h : ¬ i < s.length) : isPc (s.drop i) p b = b := by
  rw [List.drop_of_length_le (by omega)]; rfl
end Go.Proofs.YtplfjfhpdfbpeaaDoor
/- The document's own list of primes (munimentref02). -/
namespace Go.Proofs.YtplfjfhpdfbpeaaDoor
open Go.RowKit
set_option linter.unusedSimpArgs false
set_option linter.unusedVariables false
theorem own_any {w : World} {B n : Nat} {v : Value} {xs : List Value} (h : w.ownsRow B 67 1 v n xs) : ∃ a c, v = .slice a n c := by
  rcases own_form h with ⟨g, c, e⟩ | ⟨e, rfl⟩
  · exact ⟨_, _, e⟩
  · exact ⟨_, _, e⟩
theorem own_at {w : World} {B n c : Nat} {a : Option Addr} {s : List Nat} (h : w.ownsRow B 67 1 (.slice a n c) n (uv s)) (i : Nat) (hi : i < s.length) :
    ∃ g, a = some ⟨g, 0, none⟩ ∧ w.cell? ⟨g, i, none⟩ = some (.int .u64 (s.getD i 0 : Nat)) := by
  obtain ⟨g, c', e, h2⟩ := own_cell h i hi
  injection e with e1 e2 e3
  exact ⟨g, e1, h2⟩
theorem getD_all {P : Nat → Prop} {s : List Nat} (h : ∀ q ∈ s, P q) (i : Nat) (hi : i < s.length) : P (s.getD i 0) := by
  have e : s.getD i 0 = s[i] := by rw [List.getD, List.getElem?_eq_getElem hi]; rfl
  rw [e]; exact h _ (List.getElem_mem hi)
theorem own_keptC {w w' : World} {B n : Nat} {v : Value} {xs : List Value} (h : w.ownsRow B 67 1 v n xs) (hg : w.grownBy w' none) : w'.ownsRow B 67 1 v n xs := by
  refine h.kept hg ?_
  cases e : v.ownBlock <;> simp
theorem primes_next {f p : Nat} {s : List Nat} (h : prs = primesS f s p) (hl : s.length < 64) : ∃ k, f = k + 1 ∧ prs = primesS k (if isPc s p true = true then s ++ [p] else s) (p + 1) := by
  cases f with
  | zero => rw [primesS] at h; rw [← h, prs_len] at hl; omega
  | succ k => exact ⟨k, rfl, by rw [h, primesS, if_pos hl]⟩
theorem primes_over {f p : Nat} {s : List Nat} (h : prs = primesS f s p) (hl : ¬ s.length < 64) : s = prs := by
  cases f with
  | zero => rw [h, primesS]
  | succ k => rw [h, primesS, if_neg hl]
theorem news_u (w : World) (a : Value) (T : TypeId) : ∀ (j : Nat) (u : Value), [a][j]? = some u → (w.alloc (.cells #[a] T)).cell? ((⟨w.heap.size, 0, none⟩ : Addr).add j) = some u := by
  intro j u h
  rw [WideShapes.add_plain, Nat.zero_add, World.cell?_alloc_new]
  simpa using h
theorem one_u (a : Int) : ∀ u ∈ [Value.int .u64 a], u.oneCell' = true := by
  intro u hu
  simp at hu
  subst hu; rfl
theorem appu_below {B n : Nat} {w wr w1 : World} {o : Obj} {v : Value} {xs : List Value} {e : TypeId} (hb : Below B w wr) (hz : B ≤ wr.heap.size) (ho : wr.ownsRow B e 1 v n xs) (hg : (wr.alloc o).grownBy w1 v.ownBlock) : Below B w w1 := by
  refine (hb.alloc hz o).grown hg (by simp; omega) (fun k hk => ?_)
  rcases ho.2 with ⟨rfl, _⟩ | ⟨g, cap, cur, rfl, hle, _⟩
  · cases hk
  · simp [Value.ownBlock] at hk; omega
theorem mod_bne (p q : Nat) : (((p : Int) % (q : Int)) != 0) = (true && decide (p % q ≠ 0)) := by
  have e : ((p : Int) % (q : Int)) = ((p % q : Nat) : Int) := by simp
  rw [e, Bool.true_and]
  apply Bool.eq_iff_iff.2
  rw [bne_iff_ne, decide_eq_true_iff]
  omega
set_option maxHeartbeats 1000000 in
set_option maxRecDepth 100000 in
theorem primes_any (w : World) :
    Calls Tryd.prog 61 #[.int .i64 64] w fun e w' => ∃ g c, e = .returned (.slice (some ⟨g, 0, none⟩) 64 c) ∧ (∀ i, i < 64 → w'.cell? ⟨g, i, none⟩ = some (.int .u64 (prs.getD i 0 : Nat))) ∧ w.heap.size ≤ g ∧ g < w'.heap.size ∧ Below w.heap.size w w' := by
  obtain ⟨i0, hi, hz0, hz1, hz2⟩ := info_parts info_u64
  go_enter Tryd.func61, Tryd.ntmps61
  go_wp2
  go_loopw [3, 4] (fun v u wr => ∃ (f p : Nat) (s : List Nat), p + f = 312 ∧ 2 ≤ p ∧ u = .int .u64 (p : Int) ∧ s.length ≤ 64 ∧ Hid (wr.ownsRow w.heap.size 67 1 v s.length (uv s) ∧ Below w.heap.size w wr ∧ prs = primesS f s p ∧ ∀ q ∈ s, 2 ≤ q ∧ q ≤ 312)) (fun _ u _ => 400 - (intOf u).toNat)
  case atStart => exact ⟨310, 2, [], rfl, by omega, rfl, by decide, World.ownsRow_nil _ _ _ _, Below.refl _ _, primes_are.symm, by simp⟩
  case round =>
    obtain ⟨f, p, s, hpf, hp2, rfl, hsl, HR⟩ := hrel
    have hp : p ≤ 312 := by omega
    have HPF : Hid (p + f = 312) := hpf
    clear hpf
    obtain ⟨n, hn⟩ : ∃ n, n = s.length := ⟨_, rfl⟩
    have HL : Hid (n = s.length) := hn
    rw [← hn] at HR hsl
    clear hn
    obtain ⟨a, c, hv⟩ := own_any HR.out.1
    subst hv
    by_cases hlt : n < 64
    · obtain ⟨wo, hwo⟩ : ∃ wo, wo = wr := ⟨_, rfl⟩
      rw [← hwo] at HR ⊢
      clear hwo
      go_wp2
      go_loopw [5, 6] (fun b k wq => ∃ (j : Nat) (t : Bool), j ≤ n ∧ k = .int .i64 (j : Int) ∧ b = .bool t ∧ Hid (wo.grownBy wq none ∧ isPc s p true = isPc (s.drop j) p t)) (fun _ k _ => 100 - (intOf k).toNat)
      case atStart => exact ⟨0, true, by omega, rfl, rfl, World.grownBy.refl _ _, rfl⟩
      case round =>
        obtain ⟨j, t, hj, rfl, rfl, HQ⟩ := hrel
        by_cases hjn : j < n
        · obtain ⟨g, hg, c0⟩ := own_at HR.out.1 j (by rw [← HL.out]; exact hjn)
          subst hg
          obtain ⟨q, hq⟩ : ∃ q, q = s.getD j 0 := ⟨_, rfl⟩
          have hq2 : 2 ≤ q ∧ q ≤ 312 := by rw [hq]; exact getD_all HR.out.2.2.2 j (by rw [← HL.out]; exact hjn)
          obtain ⟨hq2, hq3⟩ := hq2
          have c1 : wr.cell? ⟨g, j, none⟩ = some (.int .u64 (q : Int)) := by rw [hq]; exact HQ.out.1.cell c0 (by simp)
          have HG : Hid (q = s.getD j 0) := hq
          clear hq c0
          have hqq : q * q ≤ 97344 := Nat.le_trans (Nat.mul_le_mul hq3 hq3) (by decide)
          have hd1 : ((j : Int) < (n : Int)) := by omega
          by_cases hle : q * q ≤ p
          · have hd2 : ((q : Int) * (q : Int) ≤ (p : Int)) := by exact_mod_cast hle
            have HLE : Hid (q * q ≤ p) := hle
            clear hle
            go_wp2
            go_quiet (fail)
            have c2 : (wr.drewN nq).cell? ⟨g, j, none⟩ = some (.int .u64 (q : Int)) := c1
            have HQ2 : Hid (wo.grownBy (wr.drewN nq) none) := HQ.out.1.trans (grown_drewN _ _ _)
            cases t
            · go_wp2
              go_roundw
              case rel => 
                refine ⟨j + 1, false, by omega, by go_num, rfl, HQ2.out, ?_⟩
                rw [HQ.out.2, isP_go (by rw [← HL.out]; exact hjn) (by rw [← HG.out]; exact HLE.out)]; rfl
              case measure => simp [intOf]; omega
            · go_wp2
              go_roundw
              case rel => 
                refine ⟨j + 1, true && decide (p % q ≠ 0), by omega, by go_num, ?_, HQ2.out, ?_⟩
                · exact congrArg Value.bool (mod_bne p q)
                · rw [HQ.out.2, isP_go (by rw [← HL.out]; exact hjn) (by rw [← HG.out]; exact HLE.out), ← HG.out]
              case measure => simp [intOf]; omega
          · have hd2 : ¬ ((q : Int) * (q : Int) ≤ (p : Int)) := by intro h; exact hle (by exact_mod_cast h)
            have HLE : Hid (isPc s p true = t) := by
              show isPc s p true = t
              rw [HQ.out.2, isP_stop (by rw [← HL.out]; exact hjn) (by rw [← HG.out]; exact hle)]
            clear hle
            go_wp2
            go_quiet (fail)
            obtain ⟨w1, hw1⟩ : ∃ w1, w1 = wr.drewN nq := ⟨_, rfl⟩
            have HQ2 : Hid (wo.grownBy w1 none) := by rw [hw1]; exact HQ.out.1.trans (grown_drewN _ _ _)
            rw [← hw1]
            have HO1 : Hid (w1.ownsRow w.heap.size 67 1 (.slice (some ⟨g, 0, none⟩) n c) n (uv s)) := own_keptC HR.out.1 HQ2.out
            have HB1 : Hid (Below w.heap.size w w1) := HR.out.2.1.trans ((below_of_grown HQ2.out).mono HR.out.2.1.size)
            obtain ⟨k, hk, hk2⟩ := primes_next HR.out.2.2.1 (by rw [← HL.out]; exact hlt)
            rw [HLE.out] at hk2
            have HK : Hid (f = k + 1 ∧ prs = primesS k (if t = true then s ++ [p] else s) (p + 1)) := ⟨hk, hk2⟩
            have HA : Hid (∀ q ∈ s, 2 ≤ q ∧ q ≤ 312) := HR.out.2.2.2
            have hp3 : p < 312 := by have := HPF.out; omega
            have hzz : w.heap.size ≤ w1.heap.size := HB1.out.size
            clear hk hk2 hw1 HQ2 HR HQ HLE c1
            obtain ⟨v, hv⟩ : ∃ v, v = Value.slice (some ⟨g, 0, none⟩) n c := ⟨_, rfl⟩
            rw [← hv] at HO1
            rw [← hv]
            clear hv
            cases t
            · go_wp2
              go_roundw
              case rel => exact ⟨k, p + 1, s, by have := HPF.out; have := HK.out.1; omega, by omega, by go_num, by rw [← HL.out]; exact hsl, by rw [← HL.out]; exact HO1.out, HB1.out, HK.out.2, HA.out⟩
              case measure => simp [intOf]; omega
            · go_wp2_with (at_builtin; refine wpList_append_own _ rfl _ _ 105 rfl w.heap.size 67 i0 (.int .u64 0) 1 8 Tryd.underlying105 hi hz0 hz1 hz2 rfl (by decide) _ _ _ rfl (HO1.out.alloc _) ⟨w1.heap.size, 0, none⟩ 1 1 [.int .u64 (p : Int)] rfl rfl (news_u _ _ _) (one_u _) (by unfold maxLen; omega) (by omega) (by simp; omega) ?_)
              intro v' w7 hown1 hgrow _
              have HO7 : Hid (w7.ownsRow w.heap.size 67 1 v' (s ++ [p]).length (uv (s ++ [p]))) := by
                show w7.ownsRow w.heap.size 67 1 v' (s ++ [p]).length (uv (s ++ [p]))
                rw [uv_append, List.length_append, ← HL.out]; exact hown1
              have HB7 : Hid (Below w.heap.size w w7) := appu_below HB1.out hzz HO1.out hgrow
              clear hown1 hgrow HO1
              go_wp2
              go_roundw
              case rel =>
                refine ⟨k, p + 1, s ++ [p], by have := HPF.out; have := HK.out.1; omega, by omega, by go_num, by rw [List.length_append, ← HL.out]; simp; omega, HO7.out, HB7.out, HK.out.2, ?_⟩
                intro q hq
                rcases List.mem_append.1 hq with h | h
                · exact HA.out q h
                · simp at h; omega
              case measure => simp [intOf]; omega
        · have hd1 : ¬ ((j : Int) < (n : Int)) := by omega
          have HLE : Hid (isPc s p true = t) := by
            show isPc s p true = t
            rw [HQ.out.2, isP_end (by rw [← HL.out]; exact hjn)]
          go_wp2
          go_quiet (fail)
          obtain ⟨w1, hw1⟩ : ∃ w1, w1 = wr.drewN nq := ⟨_, rfl⟩
          have HQ2 : Hid (wo.grownBy w1 none) := by rw [hw1]; exact HQ.out.1.trans (grown_drewN _ _ _)
          rw [← hw1]
          have HO1 : Hid (w1.ownsRow w.heap.size 67 1 (.slice a n c) n (uv s)) := own_keptC HR.out.1 HQ2.out
          have HB1 : Hid (Below w.heap.size w w1) := HR.out.2.1.trans ((below_of_grown HQ2.out).mono HR.out.2.1.size)
          obtain ⟨k, hk, hk2⟩ := primes_next HR.out.2.2.1 (by rw [← HL.out]; exact hlt)
          rw [HLE.out] at hk2
          have HK : Hid (f = k + 1 ∧ prs = primesS k (if t = true then s ++ [p] else s) (p + 1)) := ⟨hk, hk2⟩
          have HA : Hid (∀ q ∈ s, 2 ≤ q ∧ q ≤ 312) := HR.out.2.2.2
          have hp3 : p < 312 := by have := HPF.out; omega
          have hzz : w.heap.size ≤ w1.heap.size := HB1.out.size
          clear hk hk2 hw1 HQ2 HR HQ HLE
          obtain ⟨v, hv⟩ : ∃ v, v = Value.slice a n c := ⟨_, rfl⟩
          rw [← hv] at HO1
          rw [← hv]
          clear hv
          cases t
          · go_wp2
            go_roundw
            case rel => exact ⟨k, p + 1, s, by have := HPF.out; have := HK.out.1; omega, by omega, by go_num, by rw [← HL.out]; exact hsl, by rw [← HL.out]; exact HO1.out, HB1.out, HK.out.2, HA.out⟩
            case measure => simp [intOf]; omega
          · go_wp2_with (at_builtin; refine wpList_append_own _ rfl _ _ 105 rfl w.heap.size 67 i0 (.int .u64 0) 1 8 Tryd.underlying105 hi hz0 hz1 hz2 rfl (by decide) _ _ _ rfl (HO1.out.alloc _) ⟨w1.heap.size, 0, none⟩ 1 1 [.int .u64 (p : Int)] rfl rfl (news_u _ _ _) (one_u _) (by unfold maxLen; omega) (by omega) (by simp; omega) ?_)
            intro v' w7 hown1 hgrow _
            have HO7 : Hid (w7.ownsRow w.heap.size 67 1 v' (s ++ [p]).length (uv (s ++ [p]))) := by
              show w7.ownsRow w.heap.size 67 1 v' (s ++ [p]).length (uv (s ++ [p]))
              rw [uv_append, List.length_append, ← HL.out]; exact hown1
            have HB7 : Hid (Below w.heap.size w w7) := appu_below HB1.out hzz HO1.out hgrow
            clear hown1 hgrow HO1
            go_wp2
            go_roundw
            case rel =>
              refine ⟨k, p + 1, s ++ [p], by have := HPF.out; have := HK.out.1; omega, by omega, by go_num, by rw [List.length_append, ← HL.out]; simp; omega, HO7.out, HB7.out, HK.out.2, ?_⟩
              intro q hq
              rcases List.mem_append.1 hq with h | h
              · exact HA.out q h
              · simp at h; omega
            case measure => simp [intOf]; omega
    · have hn64 : n = 64 := by omega
      subst hn64
      have hs : s = prs := primes_over HR.out.2.2.1 (by rw [← HL.out]; omega)
      subst hs
      obtain ⟨g, hg, _⟩ := own_at HR.out.1 0 (by decide)
      subst hg
      have HC : Hid (∀ i, i < 64 → wr.cell? ⟨g, i, none⟩ = some (.int .u64 (prs.getD i 0 : Nat))) := by
        intro i hi
        obtain ⟨g', e, h⟩ := own_at HR.out.1 i (by rw [prs_len]; exact hi)
        injection e with e
        injection e with e
        rw [e]; exact h
      have HGG : Hid (w.heap.size ≤ g ∧ g < wr.heap.size) := HR.out.1.lt g rfl
      have HB : Hid (Below w.heap.size w wr) := HR.out.2.1
      clear HR HPF
      go_wp2
      go_ret
      exact ⟨g, c, rfl, HC.out, HGG.out.1, HGG.out.2, HB.out⟩
end Go.Proofs.YtplfjfhpdfbpeaaDoor
/- The document's own Sum (munimentref02). -/
namespace Go.Proofs.YtplfjfhpdfbpeaaDoor
open Go.RowKit
set_option linter.unusedSimpArgs false
set_option linter.unusedVariables false
/-- The constants, so many laid. -/
def kp : Nat → Array Value
  | 0 => (List.replicate 64 (Value.int .u32 0)).toArray
  | j + 1 => (kp j).setIfInBounds j (c32 (KT j))
theorem kp_size : ∀ j, (kp j).size = 64
  | 0 => rfl
  | j + 1 => by rw [kp, Array.size_setIfInBounds]; exact kp_size j
theorem kp_all : kp 64 = kcs := by kernel_rfl
def hp : Nat → Array Value
  | 0 => (List.replicate 8 (Value.int .u32 0)).toArray
  | j + 1 => (hp j).setIfInBounds j (c32 (H0.list.getD j 0))
theorem hp_size : ∀ j, (hp j).size = 8
  | 0 => rfl
  | j + 1 => by rw [hp, Array.size_setIfInBounds]; exact hp_size j
theorem hp_all : hp 8 = v8c H0 := by kernel_rfl
/-- What lies in memory, so many of both laid. -/
def SS (w : World) (g K : Nat) (A B : Array Value) (W : World) : Prop :=
  Blk W w.heap.size z32c 36 ∧ Blk W K A 107 ∧ Blk W (K + 1) B 98 ∧ (∀ i, i < 64 → W.cell? ⟨g, i, none⟩ = some (.int .u64 (prs.getD i 0 : Nat))) ∧ Below w.heap.size w W
theorem SS.below {w W W' : World} {g K : Nat} {A B : Array Value} (h : SS w g K A B W) (hb : Below W.heap.size W W') : SS w g K A B W' :=
  ⟨h.1.grown (grown_of_below hb none) (by simp), h.2.1.grown (grown_of_below hb none) (by simp), h.2.2.1.grown (grown_of_below hb none) (by simp), fun i hi => (grown_of_below hb none).cell (h.2.2.2.1 i hi) (by simp), h.2.2.2.2.trans (hb.mono h.2.2.2.2.size)⟩
theorem prs_lt : ∀ i : Fin 64, prs.getD i.val 0 < 4294967296 := by decide
set_option maxHeartbeats 1000000 in
set_option maxRecDepth 100000 in
theorem rSum_any (s : ByteArray) (w : World) (hs : s.size ≤ 140737488351232) :
    Calls Tryd.prog 49 #[.string s] w fun e w' => e = .returned (.agg (shc (byl s))) ∧ Below w.heap.size w w' := by
  go_enter Tryd.func49, Tryd.ntmps49
  go_wp2_with fail
  refine Calls.mono (primes_any (w.alloc (.cells z32c 36))) ?_
  rintro e w1 ⟨g, c, rfl, hc, hg1, hg2, hb⟩
  rw [alloc_size] at hg1 hb
  have HC : Hid (∀ i, i < 64 → w1.cell? ⟨g, i, none⟩ = some (.int .u64 (prs.getD i 0 : Nat))) := hc
  have HZ : Hid (Blk w1 w.heap.size z32c 36) := Blk.grown (blk_new w (.cells z32c 36)) (grown_of_below (by rw [alloc_size]; exact hb) none) (by simp)
  have HB : Hid (Below w.heap.size w w1) := ((Below.refl _ _).alloc (Nat.le_refl _) _).trans (hb.mono (by omega))
  have hw1 : w.heap.size < w1.heap.size := by omega
  have hgw : w.heap.size < g := by omega
  clear hc hb hg1
  go_wp2
  have HS : Hid (SS w g w1.heap.size (kp 0) (hp 0) ((w1.alloc (.cells (kp 0) 107)).alloc (.cells (hp 0) 98))) := by
    have g1 := World.grownBy_alloc w1 (.cells (kp 0) 107) none
    have g2 := World.grownBy_alloc (w1.alloc (.cells (kp 0) 107)) (.cells (hp 0) 98) none
    have e := blk_new (w1.alloc (.cells (kp 0) 107)) (.cells (hp 0) 98)
    rw [alloc_size] at e
    exact ⟨(HZ.out.grown g1 (by simp)).grown g2 (by simp), Blk.grown (blk_new w1 _) g2 (by simp), e, fun i hi => (g1.trans g2).cell (HC.out i hi) (by simp), (HB.out.alloc (by omega) _).alloc (by rw [alloc_size]; omega) _⟩
  show Code.wp _ _ _ _ ((w1.alloc (.cells (kp 0) 107)).alloc (.cells (hp 0) 98))
  obtain ⟨w2, hw2⟩ : ∃ w2, w2 = (w1.alloc (.cells (kp 0) 107)).alloc (.cells (hp 0) 98) := ⟨_, rfl⟩
  rw [← hw2] at HS ⊢
  obtain ⟨K, hK⟩ : ∃ K, K = w1.heap.size := ⟨_, rfl⟩
  rw [← hK] at HS hg2 hw1 ⊢
  clear hw2 hK HC HZ HB
  go_loopw [6] (fun i wr => ∃ j : Nat, j ≤ 64 ∧ i = .int .i64 (j : Int) ∧ Hid (SS w g K (kp j) (hp 0) wr)) (fun i _ => 100 - (intOf i).toNat)
  case atStart => exact ⟨0, by omega, rfl, HS.out⟩
  case round =>
    clear HS
    obtain ⟨j, hj, rfl, HR⟩ := hrel
    by_cases hj64 : j < 64
    · obtain ⟨q, hq⟩ : ∃ q, q = prs.getD j 0 := ⟨_, rfl⟩
      have c1 : wr.cell? ⟨g, j, none⟩ = some (.int .u64 (q : Int)) := by rw [hq]; exact HR.out.2.2.2.1 j hj64
      have hql : q < 4294967296 := by rw [hq]; exact prs_lt ⟨j, hj64⟩
      have HV : Hid (rootN q 3 % 4294967296 = (KT j).toNat) := by show rootN q 3 % 4294967296 = (KT j).toNat; rw [hq]; exact roots3 ⟨j, hj64⟩
      clear hq
      go_wp2_with fail
      refine Calls.mono (root_any q 3 _ hql (by omega)) ?_
      rintro e w3 ⟨rfl, hb3⟩
      have HR3 : Hid (SS w g K (kp j) (hp 0) w3) := HR.out.below hb3
      rw [HV.out]
      obtain ⟨u, hu⟩ : ∃ u, (kp j)[j]? = some u := ⟨_, Array.getElem?_eq_getElem (by rw [kp_size]; exact hj64)⟩
      have hc3 : w3.cell? ⟨K, j, none⟩ = some u := by rw [HR3.out.2.1.cell]; exact hu
      have hf3 : w3.frozen? ⟨K, j, none⟩ = false := HR3.out.2.1.frozen j
      clear hb3 HR HV hu c1
      go_wp2
      go_roundw
      case rel =>
        refine ⟨j + 1, by omega, by go_num, ?_⟩
        have hS := HR3.out
        have gg : w3.grownBy (w3.setCell ⟨K, j, none⟩ (c32 (KT j))) (some K) := Lib.grownBy_setB (World.grownBy.refl w3 (some K)) j (c32 (KT j))
        exact ⟨hS.1.grown gg (by simp; omega), hS.2.1.set _ _, hS.2.2.1.grown gg (by simp), fun i hi => gg.cell (hS.2.2.2.1 i hi) (by intro h; simp at h; omega), hS.2.2.2.2.setCell (by show w.heap.size ≤ K; omega) _⟩
      case measure => simp [intOf]; omega
    · have hj1 : j = 64 := by omega
      subst hj1
      have HS : Hid (SS w g K kcs (hp 0) wr) := by rw [← kp_all]; exact HR.out
      clear HR hj hj64
      rw [show ((64 : Nat) : Int) = (64 : Int) from rfl]
      go_wp2
      go_loopw [7] (fun i wr => ∃ j : Nat, j ≤ 8 ∧ i = .int .i64 (j : Int) ∧ Hid (SS w g K kcs (hp j) wr)) (fun i _ => 100 - (intOf i).toNat)
      case atStart => exact ⟨0, by omega, rfl, HS.out⟩
      case round =>
        clear HS
        obtain ⟨j, hj, rfl, HR⟩ := hrel
        by_cases hj8 : j < 8
        · obtain ⟨q, hq⟩ : ∃ q, q = prs.getD j 0 := ⟨_, rfl⟩
          have c1 : wr.cell? ⟨g, j, none⟩ = some (.int .u64 (q : Int)) := by rw [hq]; exact HR.out.2.2.2.1 j (by omega)
          have hql : q < 4294967296 := by rw [hq]; exact prs_lt ⟨j, by omega⟩
          have HV : Hid (rootN q 2 % 4294967296 = (H0.list.getD j 0).toNat) := by show rootN q 2 % 4294967296 = (H0.list.getD j 0).toNat; rw [hq]; exact roots2 ⟨j, hj8⟩
          clear hq
          go_wp2_with fail
          refine Calls.mono (root_any q 2 _ hql (by omega)) ?_
          rintro e w3 ⟨rfl, hb3⟩
          have HR3 : Hid (SS w g K kcs (hp j) w3) := HR.out.below hb3
          rw [HV.out]
          obtain ⟨u, hu⟩ : ∃ u, (hp j)[j]? = some u := ⟨_, Array.getElem?_eq_getElem (by rw [hp_size]; exact hj8)⟩
          have hc3 : w3.cell? ⟨K + 1, j, none⟩ = some u := by rw [HR3.out.2.2.1.cell]; exact hu
          have hf3 : w3.frozen? ⟨K + 1, j, none⟩ = false := HR3.out.2.2.1.frozen j
          obtain ⟨y, hy⟩ : ∃ y, y = H0.list.getD j 0 := ⟨_, rfl⟩
          have HY : Hid (y = H0.list.getD j 0) := hy
          rw [← hy]
          clear hb3 HR HV hu c1 hy
          go_wp2
          go_roundw
          case rel =>
            refine ⟨j + 1, by omega, by go_num, ?_⟩
            have hS := HR3.out
            have gg : w3.grownBy (w3.setCell ⟨K + 1, j, none⟩ (c32 y)) (some (K + 1)) := Lib.grownBy_setB (World.grownBy.refl w3 (some (K + 1))) j (c32 y)
            refine ⟨hS.1.grown gg (by simp; omega), hS.2.1.grown gg (by simp), ?blk, fun i hi => gg.cell (hS.2.2.2.1 i hi) (by intro h; simp at h; omega), hS.2.2.2.2.setCell (by show w.heap.size ≤ K + 1; omega) _⟩
            have e : hp (j + 1) = (hp j).setIfInBounds j (c32 y) := by rw [HY.out]; rfl
            rw [e]
            exact hS.2.2.1.set _ _
          case measure => simp [intOf]; omega
        · have hj1 : j = 8 := by omega
          subst hj1
          have HS : Hid (SS w g K kcs (v8c H0) wr) := by rw [← hp_all]; exact HR.out
          clear HR hj hj8
          rw [show ((8 : Nat) : Int) = (8 : Int) from rfl]
          go_wp2_with (first
            | (refine wpList_load_row rfl 98 (.tmp 5) rfl (K + 1) rfl 98 (v8c H0) (0, 0) _ HS.out.2.2.1 Tryd.underlying98 rfl (by exact info_8l) ?_)
            | (refine wpList_load_row rfl 107 (.tmp 4) rfl K rfl 107 kcs (0, 0) _ HS.out.2.1 Tryd.underlying107 rfl info_k ?_))
          refine Calls.mono (rsum_any s _ hs) ?_
          rintro e w4 ⟨rfl, hb4⟩
          have HZ4 : Hid (Blk w4 w.heap.size z32c 36) := (HS.out.below hb4).1
          have HB4 : Hid (Below w.heap.size w w4) := (HS.out.below hb4).2.2.2.2
          clear hb4 HS
          go_wp2_with (refine wpList_store_row rfl 36 (.tmp 2) (.tmp 34) rfl w.heap.size (shc (byl s)) rfl rfl 36 z32c HZ4.out (info_shc _) (by rw [z32c_size, shc_size]) (shc_one _) ?_)
          refine bodyPost_ret (results_cell_row rfl _ _ w.heap.size 36 (shc (byl s)) (0, 0) _ rfl (setRow_heap _ _ _ _ _ _ HZ4.out) Tryd.underlying36 rfl (info_shc _)) rfl ⟨rfl, ?_⟩
          exact below_setRow HB4.out (Nat.le_refl _) _
end Go.Proofs.YtplfjfhpdfbpeaaDoor
