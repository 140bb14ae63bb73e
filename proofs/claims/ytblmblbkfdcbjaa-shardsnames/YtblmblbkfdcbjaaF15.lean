/- The document's own Cauchy. -/
import Derived.Test.YtblmblbkfdcbjaaF14
namespace Go.Proofs.Ytblmblbkfdcbjaa
open Go.RowKit
set_option linter.unusedSimpArgs false
set_option linter.unusedVariables false
/-- The inverses of all numbers below k. -/
def ovK (k : Nat) : List UInt8 := (List.range 256).map fun j => if 1 ≤ j ∧ j < k then inv (UInt8.ofNat j) else 0
theorem ovK_len (k : Nat) : (ovK k).length = 256 := by simp [ovK]
theorem ovK_get (k j : Nat) (h : j < 256) : (ovK k)[j]? = some (if 1 ≤ j ∧ j < k then inv (UInt8.ofNat j) else 0) := by
  rw [ovK, List.getElem?_map, List.getElem?_range h]; rfl
theorem ovK_one : ovK 1 = List.replicate 256 0 := by
  apply List.ext_getElem?
  intro j
  by_cases hj : j < 256
  · rw [ovK_get 1 j hj, if_neg (by omega), List.getElem?_replicate, if_pos hj]
  · rw [List.getElem?_eq_none (by rw [ovK_len]; omega), List.getElem?_eq_none (by rw [List.length_replicate]; omega)]
theorem ovK_next (k : Nat) (h1 : 1 ≤ k) (h : k < 256) : (ovK k).set k (inv (UInt8.ofNat k)) = ovK (k + 1) := by
  apply List.ext_getElem?
  intro j
  rw [List.getElem?_set, ovK_len]
  by_cases hj : j < 256
  · rw [ovK_get k j hj, ovK_get (k + 1) j hj]
    by_cases e : k = j
    · subst e; rw [if_pos rfl, if_pos hj, if_pos (by omega)]
    · rw [if_neg e]
      by_cases e2 : 1 ≤ j ∧ j < k
      · rw [if_pos e2, if_pos (by omega)]
      · rw [if_neg e2, if_neg (by omega)]
  · rw [List.getElem?_eq_none (by rw [ovK_len]; omega), List.getElem?_eq_none (by rw [ovK_len]; omega), if_neg (by omega)]
theorem ovK_all (x : UInt8) : (ovK 256)[x.toNat]? = some (inv x) := by
  rw [ovK_get 256 x.toNat x.toNat_lt]
  by_cases h : x.toNat = 0
  · rw [if_neg (by omega)]
    have : x = 0 := UInt8.toNat_inj.1 (by simpa using h)
    rw [this]
    rw [show inv 0 = 0 from by decide +kernel]
  · rw [if_pos ⟨by omega, x.toNat_lt⟩, UInt8.ofNat_toNat]
theorem info256 : (Try.prog.info? 84).map (fun i => (i.zero, i.size)) = some (some (.agg (rc (List.replicate 256 0))), 256) := by kernel_rfl
theorem own_bytes {w : World} {B : Nat} {v : Value} {l : List UInt8} {e : TypeId} (h : w.ownsRow B e 1 v l.length (bv l)) (hl : 1 ≤ l.length) : ∃ g c, v = .slice (some ⟨g, 0, none⟩) l.length c ∧ ∀ (i : Nat) (x : UInt8), l[i]? = some x → w.cell? ⟨g, i, none⟩ = some (c8 x) := by
  rcases h.2 with ⟨rfl, h0⟩ | ⟨g, cap, cur, rfl, hle, hg, hn, _, hc, ht⟩
  · omega
  · refine ⟨g, cap, rfl, fun i x hi => ?_⟩
    have hil : i < l.length := (List.getElem?_eq_some_iff.1 hi).1
    have e := congrArg (·[i]?) ht
    rw [Nat.mul_one] at e
    simp only [List.getElem?_take, if_pos hil, bv, List.getElem?_map, hi, Option.map_some] at e
    simp only [World.cell?, hg]
    rw [← Array.getElem?_toList]; exact e
theorem conv_bytes (l : List UInt8) (g cap : Nat) (w : World) (hB : ∀ (i : Nat) (x : UInt8), l[i]? = some x → w.cell? ⟨g, i, none⟩ = some (c8 x)) :
    (convert 44 9 (.slice (some ⟨g, 0, none⟩) l.length cap)).run Try.prog w = .ok (.string (mkT l)) w := by
  have h := run_convert_bytes_arg w 44 5 Try.underlying44 Try.underlying5 g 0 l.length cap (l.map fun x : UInt8 => (x.toNat : Int)) (by simp) (fun i hi => by
    rw [Nat.zero_add, hB i l[i] (List.getElem?_eq_getElem hi), List.getD, List.getElem?_map, List.getElem?_eq_getElem hi]; rfl) 9 Try.underlying9
  rw [h]
  have e : strOfNums (l.map fun x : UInt8 => (x.toNat : Int)) = mkT l := by
    unfold strOfNums mkT
    rw [List.map_map]
    congr 2
    conv => rhs; rw [← List.map_id l]
    apply List.map_congr_left
    intro x _
    simp
  rw [e]
theorem caR_take (c i k : Nat) (h : k < c) (hc : c ≤ 64) : (caR c i).take (k + 1) = (caR c i).take k ++ [caV i k] := by
  rw [List.take_succ_eq_append_getElem (by rw [caR_len]; omega)]
  congr 2
  simp [caR, h]
set_option maxHeartbeats 2000000 in
set_option maxRecDepth 100000 in
theorem rcauchy_yes (r c : Nat) (w : World) (h1 : 1 ≤ r) (h2 : r ≤ 64) (h3 : 1 ≤ c) (h4 : c ≤ 64) :
    Calls Try.prog 46 #[.int .i64 r, .int .i64 c] w fun e w' => ∃ v, e = .returned (.tuple #[v, .int .i64 0]) ∧ w'.ownsRow w.heap.size 9 1 v r (sv (txtL c (caL r c))) ∧ Below w.heap.size w w' := by
  have hz := (zero_of_info info256).1
  obtain ⟨i0, hi, hz0, hz1, hz2⟩ := info_parts inf_str
  obtain ⟨j0, hj, hy0, hy1, hy2⟩ := info_parts inf_byte
  have n1 : ¬ (r : Int) < 1 := by omega
  have n2 : ¬ (64 : Int) < (r : Nat) := by omega
  have n3 : ¬ (c : Int) < 1 := by omega
  have n4 : ¬ (64 : Int) < (c : Nat) := by omega
  go_enter Try.func46, Try.ntmps46
  go_wp2
  go_loopw [7] (fun t wr => ∃ k : Nat, 1 ≤ k ∧ k ≤ 256 ∧ t = .int .i64 k ∧ Hid (Bk wr w.heap.size (rc (ovK k)) 84) ∧ Hid (Below w.heap.size w wr) ∧ w.heap.size < wr.heap.size) (fun t _ => 256 - (intOf t).toNat)
  case atStart => exact ⟨1, by omega, by omega, rfl, by show Bk _ _ _ _; rw [ovK_one]; exact bk_new w _ _, (Below.refl _ _).alloc (Nat.le_refl _) _, by rw [al_size]; omega⟩
  case round =>
    obtain ⟨k, hk1, hk2, rfl, HB, HW, hs⟩ := hrel
    by_cases hlt : k < 256
    · have hkz : (k : Int) < 256 := by omega
      obtain ⟨x, hx⟩ : ∃ x, x = UInt8.ofNat k := ⟨_, rfl⟩
      have hxk : x.toNat = k := by rw [hx]; simp; omega
      have hx0 : x ≠ 0 := by intro e; rw [e] at hxk; simp at hxk; omega
      have hov := fun W => rover_any 1 x W
      rw [show ovV 1 x = inv x from by unfold ovV; rw [if_neg hx0, one_mul], show ovE x = 0 from if_neg hx0] at hov
      have HOV : Hid (∀ W, Calls Try.prog 57 #[.int .u8 1, .int .u8 (k : Int)] W fun e w' => e = .returned (.tuple #[c8 (inv x), .int .i64 0]) ∧ w' = W) := by
        intro W
        have h := hov W
        unfold c8 at h
        rw [hxk] at h
        exact h
      obtain ⟨old, hold⟩ : ∃ old, (ovK k)[k]? = some old := ⟨_, List.getElem?_eq_getElem (by rw [ovK_len]; omega)⟩
      have hcl : wr.cell? ⟨w.heap.size, k, none⟩ = some (c8 old) := by rw [HB.out.cell, rc_get, hold]; rfl
      have hfr := HB.out.frozen k
      have HNX : Hid (Bk (wr.setCell ⟨w.heap.size, k, none⟩ (c8 (inv x))) w.heap.size (rc (ovK (k + 1))) 84) := by
        have h := HB.out.set k (c8 (inv x))
        rw [rc_set, hx, ovK_next k hk1 hlt] at h
        rw [hx]
        exact h
      generalize inv x = z at *
      clear hx hxk hx0 hov hold
      go_wp2_with fail
      refine Calls.mono (HOV.out _) ?_
      rintro e w2 ⟨rfl, hw2⟩
      subst hw2
      go_wp2
      go_roundw
      case rel => exact ⟨k + 1, by omega, by omega, by go_num, HNX.out, below_own HW.out HW.out.size (Lib.grownBy_setB (World.grownBy.refl _ _) _ _) (Nat.le_refl _), by simpa [World.setCell] using hs⟩
      case measure => simp [intOf]; omega
    · have hk256 : k = 256 := by omega
      have HO1 : Hid (Bk wr w.heap.size (rc (ovK 256)) 84) := by have h := HB.out; rw [hk256] at h; exact h
      obtain ⟨w1, hw1⟩ : ∃ w1, wr = w1 := ⟨_, rfl⟩
      rw [hw1] at HO1 HW hs ⊢
      clear hk256 HB hw1
      go_wp2
      go_loopw [8, 9] (fun v t wr => ∃ i : Nat, i ≤ r ∧ t = .int .i64 i ∧ Hid (wr.ownsRow w1.heap.size 9 1 v i (sv ((txtL c (caL r c)).take i))) ∧ Hid (Below w1.heap.size w1 wr)) (fun _ t _ => r - (intOf t).toNat)
      case atStart => exact ⟨0, by omega, rfl, World.ownsRow_nil _ _ _ _, Below.refl _ _⟩
      case round =>
        clear hlt hk1 hk2
        obtain ⟨i, hir, rfl, HO, HB⟩ := hrel
        have hzr : w1.heap.size ≤ wr.heap.size := HB.out.size
        by_cases hlt : i < r
        · have hiz : (i : Int) < (r : Nat) := by omega
          have HT : Hid ((txtL c (caL r c)).take (i + 1) = (txtL c (caL r c)).take i ++ [mkT ((caR c i).take c)]) := txtL_take c i _ _ (caL_at r c i hlt)
          obtain ⟨w2, hw2⟩ : ∃ w2, wr = w2 := ⟨_, rfl⟩
          rw [hw2] at HO HB hzr ⊢
          clear hw2
          go_wp2
          go_loopw [10, 11] (fun v t W => ∃ k : Nat, k ≤ c ∧ t = .int .i64 k ∧ Hid (W.ownsRow w2.heap.size 5 1 v k (bv ((caR c i).take k))) ∧ Hid (Below w2.heap.size w2 W)) (fun _ t _ => c - (intOf t).toNat)
          case atStart => exact ⟨0, by omega, rfl, World.ownsRow_nil _ _ _ _, Below.refl _ _⟩
          case round =>
            obtain ⟨k, hkc, rfl, HOb, HBb⟩ := hrel
            have hzb : w2.heap.size ≤ wr.heap.size := HBb.out.size
            by_cases hlk : k < c
            · have hkz : (k : Int) < (c : Nat) := by omega
              obtain ⟨x, hx⟩ : ∃ x, x = UInt8.ofNat (128 + i) := ⟨_, rfl⟩
              obtain ⟨y, hy⟩ : ∃ y, y = UInt8.ofNat k := ⟨_, rfl⟩
              have hxz : (128 : Int) + (i : Int) = (x.toNat : Int) := by rw [hx]; simp; omega
              have hyz : (k : Int) = (y.toNat : Int) := by rw [hy]; simp; omega
              obtain ⟨q, hq⟩ : ∃ q, q = x ^^^ y := ⟨_, rfl⟩
              have hxq : bits .xor .u8 (x.toNat : Int) (k : Int) = (q.toNat : Int) := by rw [hyz, xor8, hq]
              have hx8 := x.toNat_lt
              have hq8 := q.toNat_lt
              obtain ⟨z, hzz⟩ : ∃ z, z = caV i k := ⟨_, rfl⟩
              have hcz : wr.cell? ⟨w.heap.size, q.toNat, none⟩ = some (c8 z) := by
                rw [((HO1.out.below HB.out hs).below HBb.out (by omega)).cell, rc_get, ovK_all q, hq, hx, hy, hzz]; rfl
              have HTb : Hid ((caR c i).take (k + 1) = (caR c i).take k ++ [z]) := by show _ = _; rw [hzz]; exact caR_take c i k hlk h4
              have HC1 : Hid (∀ (j : Nat) (u : Value), [c8 z][j]? = some u → (wr.alloc (.cells #[c8 z] 5)).cell? ((⟨wr.heap.size, 0, none⟩ : Addr).add j) = some u) := news_one _ _ _
              clear hx hy hyz hq hzz
              go_wp2_with (at_builtin; refine wpList_append_own _ rfl _ _ 44 rfl w2.heap.size 5 j0 (.int .u8 0) 1 1 Try.underlying44 hj hy0 hy1 hy2 rfl (by decide) _ _ _ rfl (HOb.out.alloc _) ⟨wr.heap.size, 0, none⟩ 1 1 [c8 z] rfl rfl HC1.out (one_byte _) (by unfold maxLen; omega) (by omega) (by simp; omega) ?_)
              intro v' w7 hown1 hgrow _
              have HO7 : Hid (w7.ownsRow w2.heap.size 5 1 v' (k + 1) (bv ((caR c i).take (k + 1)))) := by
                show w7.ownsRow w2.heap.size 5 1 v' (k + 1) (bv ((caR c i).take (k + 1)))
                rw [HTb.out, bv_append]; exact hown1
              have HB7 : Hid (Below w2.heap.size w2 w7) := apn_bel HBb.out hzb HOb.out hgrow
              clear hown1 hgrow HOb HBb HC1 hcz
              go_wp2
              go_roundw
              case rel => exact ⟨k + 1, by omega, by go_num, HO7.out, HB7.out⟩
              case measure => simp [intOf]; omega
            · have hkc2 : k = c := by omega
              have HOe : Hid (wr.ownsRow w2.heap.size 5 1 u10 ((caR c i).take c).length (bv ((caR c i).take c))) := by
                have h := HOb.out
                rw [hkc2] at h
                show wr.ownsRow _ _ _ _ _ _
                rw [List.length_take, caR_len, Nat.min_eq_left h4]
                exact h
              obtain ⟨g, cb, rfl, hcells⟩ := own_bytes HOe.out (by rw [List.length_take, caR_len]; omega)
              have hcv := conv_bytes ((caR c i).take c) g cb wr hcells
              rw [show ((caR c i).take c).length = c from by rw [List.length_take, caR_len]; omega] at hcv ⊢
              generalize mkT ((caR c i).take c) = p at *
              have HOo : Hid (wr.ownsRow w1.heap.size 9 1 u8 i (sv ((txtL c (caL r c)).take i))) := own_kept HO.out HBb.out
              have HBo : Hid (Below w1.heap.size w1 wr) := HB.out.trans (HBb.out.mono hzr)
              have HC1 : Hid (∀ (j : Nat) (u : Value), [Value.string p][j]? = some u → (wr.alloc (.cells #[Value.string p] 9)).cell? ((⟨wr.heap.size, 0, none⟩ : Addr).add j) = some u) := news_one _ _ _
              clear hkc2 HOb HOe hcells HO HB
              go_wp2_with (at_builtin; refine wpList_append_own _ rfl _ _ 22 rfl w1.heap.size 9 i0 (.string ⟨#[]⟩) 1 16 Try.underlying22 hi hz0 hz1 hz2 rfl (by decide) _ _ _ rfl (HOo.out.alloc _) ⟨wr.heap.size, 0, none⟩ 1 1 [.string p] rfl rfl HC1.out (one_str _) (by unfold maxLen; omega) (by omega) (by simp; omega) ?_)
              intro v' w7 hown1 hgrow _
              have HO7 : Hid (w7.ownsRow w1.heap.size 9 1 v' (i + 1) (sv ((txtL c (caL r c)).take (i + 1)))) := by
                show w7.ownsRow w1.heap.size 9 1 v' (i + 1) (sv ((txtL c (caL r c)).take (i + 1)))
                rw [HT.out, sv_append]; exact hown1
              have HB7 : Hid (Below w1.heap.size w1 w7) := apn_bel HBo.out (by omega) HOo.out hgrow
              clear hown1 hgrow HOo HBo HC1 hcv
              go_wp2
              go_roundw
              case rel => exact ⟨i + 1, by omega, by go_num, HO7.out, HB7.out⟩
              case measure => simp [intOf]; omega
        · have hin : i = r := by omega
          have HOe : Hid (wr.ownsRow w1.heap.size 9 1 u8 r (sv (txtL c (caL r c)))) := by
            have h := HO.out
            rw [hin, List.take_of_length_le (by rw [txtL_len, caL_len]; omega)] at h
            exact h
          clear hin HO
          go_wp2
          go_ret2
          exact ⟨_, rfl, HOe.out.lower (by omega), HW.out.trans (HB.out.mono (by omega))⟩
set_option maxHeartbeats 1000000 in
theorem rcauchy_no (r c : Int) (w : World) (h : ¬ ((1 ≤ r ∧ r ≤ 64) ∧ (1 ≤ c ∧ c ≤ 64))) :
    Calls Try.prog 46 #[.int .i64 r, .int .i64 c] w fun e w' => e = .returned (.tuple #[.slice none 0 0, .int .i64 1]) ∧ w' = w := by
  rcases (show r < 1 ∨ (1 ≤ r ∧ 64 < r) ∨ ((1 ≤ r ∧ r ≤ 64) ∧ c < 1) ∨ ((1 ≤ r ∧ r ≤ 64) ∧ (1 ≤ c ∧ 64 < c)) by omega) with h1 | ⟨h1, h2⟩ | ⟨⟨h1, h2⟩, h3⟩ | ⟨⟨h1, h2⟩, h3, h4⟩
  all_goals
    clear h
    go_enter Try.func46, Try.ntmps46
    go_wp2
    go_ret2
    exact ⟨rfl, rfl⟩
end Go.Proofs.Ytblmblbkfdcbjaa
