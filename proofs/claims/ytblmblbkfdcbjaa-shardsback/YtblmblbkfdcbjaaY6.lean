import Derived.Test.YtblmblbkfdcbjaaY5
import Derived.Test.YtblmblbkfdcbjaaY3
import Derived.Test.YtblmblbkfdcbjaaY4
import Derived.Lib.SmallJoins
import Derived.Laws.StructEq
/- The document's own Cauchy. -/
namespace Go.Proofs.Ytblmblbkfdcbjaa
open Go.RowKit
set_option linter.unusedSimpArgs false
set_option linter.unusedVariables false
/-- The inverses of all numbers below k. -/
def ovK (k : Nat) : List UInt8 := (List.range 256).map fun j => if 1 ≤ j ∧ j < k then inv (UInt8.ofNat j) else 0
theorem ovK_len (k : Nat) : (ovK k).length = 256 := by simp [ovK]
theorem ovK_get (k j : Nat) (h : j < 256) : (ovK k)[j]? = some (if 1 ≤ j ∧ j < k then inv (UInt8.ofNat j) else 0) := by
  rw [ovK, List.getElem?_map, List.getElem?_range h]; rfl
theorem ovK_one : ovK 1 = List.replicate 256 0 := by
  apply List.ext_getElem?
  intro j
  by_cases hj : j < 256
  · rw [ovK_get 1 j hj, if_neg (by omega), List.getElem?_replicate, if_pos hj]
  · rw [List.getElem?_eq_none (by rw [ovK_len]; omega), List.getElem?_eq_none (by rw [List.length_replicate]; omega)]
theorem ovK_next (k : Nat) (h1 : 1 ≤ k) (h : k < 256) : (ovK k).set k (inv (UInt8.ofNat k)) = ovK (k + 1) := by
  apply List.ext_getElem?
  intro j
  rw [List.getElem?_set, ovK_len]
  by_cases hj : j < 256
  · rw [ovK_get k j hj, ovK_get (k + 1) j hj]
    by_cases e : k = j
    · subst e; rw [if_pos rfl, if_pos hj, if_pos (by omega)]
    · rw [if_neg e]
      by_cases e2 : 1 ≤ j ∧ j < k
      · rw [if_pos e2, if_pos (by omega)]
      · rw [if_neg e2, if_neg (by omega)]
  · rw [List.getElem?_eq_none (by rw [ovK_len]; omega), List.getElem?_eq_none (by rw [ovK_len]; omega), if_neg (by omega)]
theorem ovK_all (x : UInt8) : (ovK 256)[x.toNat]? = some (inv x) := by
  rw [ovK_get 256 x.toNat x.toNat_lt]
  by_cases h : x.toNat = 0
  · rw [if_neg (by omega)]
    have : x = 0 := UInt8.toNat_inj.1 (by simpa using h)
    rw [this]
    rw [show inv 0 = 0 from by decide +kernel]
  · rw [if_pos ⟨by omega, x.toNat_lt⟩, UInt8.ofNat_toNat]
theorem info256 : (Try.prog.info? 84).map (fun i => (i.zero, i.size)) = some (some (.agg (rc (List.replicate 256 0))), 256) := by kernel_rfl
theorem own_bytes {w : World} {B : Nat} {v : Value} {l : List UInt8} {e : TypeId} (h : w.ownsRow B e 1 v l.length (bv l)) (hl : 1 ≤ l.length) : ∃ g c, v = .slice (some ⟨g, 0, none⟩) l.length c ∧ ∀ (i : Nat) (x : UInt8), l[i]? = some x → w.cell? ⟨g, i, none⟩ = some (c8 x) := by
  rcases h.2 with ⟨rfl, h0⟩ | ⟨g, cap, cur, rfl, hle, hg, hn, _, hc, ht⟩
  · omega
  · refine ⟨g, cap, rfl, fun i x hi => ?_⟩
    have hil : i < l.length := (List.getElem?_eq_some_iff.1 hi).1
    have e := congrArg (·[i]?) ht
    rw [Nat.mul_one] at e
    simp only [List.getElem?_take, if_pos hil, bv, List.getElem?_map, hi, Option.map_some] at e
    simp only [World.cell?, hg]
    rw [← Array.getElem?_toList]; exact e
theorem conv_bytes (l : List UInt8) (g cap : Nat) (w : World) (hB : ∀ (i : Nat) (x : UInt8), l[i]? = some x → w.cell? ⟨g, i, none⟩ = some (c8 x)) :
    (convert 44 9 (.slice (some ⟨g, 0, none⟩) l.length cap)).run Try.prog w = .ok (.string (mkT l)) w := by
  have h := run_convert_bytes_arg w 44 5 Try.underlying44 Try.underlying5 g 0 l.length cap (l.map fun x : UInt8 => (x.toNat : Int)) (by simp) (fun i hi => by
    rw [Nat.zero_add, hB i l[i] (List.getElem?_eq_getElem hi), List.getD, List.getElem?_map, List.getElem?_eq_getElem hi]; rfl) 9 Try.underlying9
  rw [h]
  have e : strOfNums (l.map fun x : UInt8 => (x.toNat : Int)) = mkT l := by
    unfold strOfNums mkT
    rw [List.map_map]
    congr 2
    conv => rhs; rw [← List.map_id l]
    apply List.map_congr_left
    intro x _
    simp
  rw [e]
theorem caR_take (c i k : Nat) (h : k < c) (hc : c ≤ 64) : (caR c i).take (k + 1) = (caR c i).take k ++ [caV i k] := by
  rw [List.take_succ_eq_append_getElem (by rw [caR_len]; omega)]
  congr 2
  simp [caR, h]
set_option maxHeartbeats 2000000 in
set_option maxRecDepth 100000 in
theorem rcauchy_yes (r c : Nat) (w : World) (h1 : 1 ≤ r) (h2 : r ≤ 64) (h3 : 1 ≤ c) (h4 : c ≤ 64) :
    Calls Try.prog 46 #[.int .i64 r, .int .i64 c] w fun e w' => ∃ v, e = .returned (.tuple #[v, .int .i64 0]) ∧ w'.ownsRow w.heap.size 9 1 v r (sv (txtL c (caL r c))) ∧ Below w.heap.size w w' := by
  have hz := (zero_of_info info256).1
  obtain ⟨i0, hi, hz0, hz1, hz2⟩ := info_parts inf_str
  obtain ⟨j0, hj, hy0, hy1, hy2⟩ := info_parts inf_byte
  have n1 : ¬ (r : Int) < 1 := by omega
  have n2 : ¬ (64 : Int) < (r : Nat) := by omega
  have n3 : ¬ (c : Int) < 1 := by omega
  have n4 : ¬ (64 : Int) < (c : Nat) := by omega
  go_enter Try.func46, Try.ntmps46
  go_wp2
  go_loopw [7] (fun t wr => ∃ k : Nat, 1 ≤ k ∧ k ≤ 256 ∧ t = .int .i64 k ∧ Hid (Bk wr w.heap.size (rc (ovK k)) 84) ∧ Hid (Below w.heap.size w wr) ∧ w.heap.size < wr.heap.size) (fun t _ => 256 - (intOf t).toNat)
  case atStart => exact ⟨1, by omega, by omega, rfl, by show Bk _ _ _ _; rw [ovK_one]; exact bk_new w _ _, (Below.refl _ _).alloc (Nat.le_refl _) _, by rw [al_size]; omega⟩
  case round =>
    obtain ⟨k, hk1, hk2, rfl, HB, HW, hs⟩ := hrel
    by_cases hlt : k < 256
    · have hkz : (k : Int) < 256 := by omega
      obtain ⟨x, hx⟩ : ∃ x, x = UInt8.ofNat k := ⟨_, rfl⟩
      have hxk : x.toNat = k := by rw [hx]; simp; omega
      have hx0 : x ≠ 0 := by intro e; rw [e] at hxk; simp at hxk; omega
      have hov := fun W => rover_any 1 x W
      rw [show ovV 1 x = inv x from by unfold ovV; rw [if_neg hx0, one_mul], show ovE x = 0 from if_neg hx0] at hov
      have HOV : Hid (∀ W, Calls Try.prog 57 #[.int .u8 1, .int .u8 (k : Int)] W fun e w' => e = .returned (.tuple #[c8 (inv x), .int .i64 0]) ∧ w' = W) := by
        intro W
        have h := hov W
        unfold c8 at h
        rw [hxk] at h
        exact h
      obtain ⟨old, hold⟩ : ∃ old, (ovK k)[k]? = some old := ⟨_, List.getElem?_eq_getElem (by rw [ovK_len]; omega)⟩
      have hcl : wr.cell? ⟨w.heap.size, k, none⟩ = some (c8 old) := by rw [HB.out.cell, rc_get, hold]; rfl
      have hfr := HB.out.frozen k
      have HNX : Hid (Bk (wr.setCell ⟨w.heap.size, k, none⟩ (c8 (inv x))) w.heap.size (rc (ovK (k + 1))) 84) := by
        have h := HB.out.set k (c8 (inv x))
        rw [rc_set, hx, ovK_next k hk1 hlt] at h
        rw [hx]
        exact h
      generalize inv x = z at *
      clear hx hxk hx0 hov hold
      go_wp2_with fail
      refine Calls.mono (HOV.out _) ?_
      rintro e w2 ⟨rfl, hw2⟩
      subst hw2
      go_wp2
      go_roundw
      case rel => exact ⟨k + 1, by omega, by omega, by go_num, HNX.out, below_own HW.out HW.out.size (Lib.grownBy_setB (World.grownBy.refl _ _) _ _) (Nat.le_refl _), by simpa [World.setCell] using hs⟩
      case measure => simp [intOf]; omega
    · have hk256 : k = 256 := by omega
      have HO1 : Hid (Bk wr w.heap.size (rc (ovK 256)) 84) := by have h := HB.out; rw [hk256] at h; exact h
      obtain ⟨w1, hw1⟩ : ∃ w1, wr = w1 := ⟨_, rfl⟩
      rw [hw1] at HO1 HW hs ⊢
      clear hk256 HB hw1
      go_wp2
      go_loopw [8, 9] (fun v t wr => ∃ i : Nat, i ≤ r ∧ t = .int .i64 i ∧ Hid (wr.ownsRow w1.heap.size 9 1 v i (sv ((txtL c (caL r c)).take i))) ∧ Hid (Below w1.heap.size w1 wr)) (fun _ t _ => r - (intOf t).toNat)
      case atStart => exact ⟨0, by omega, rfl, World.ownsRow_nil _ _ _ _, Below.refl _ _⟩
      case round =>
        clear hlt hk1 hk2
        obtain ⟨i, hir, rfl, HO, HB⟩ := hrel
        have hzr : w1.heap.size ≤ wr.heap.size := HB.out.size
        by_cases hlt : i < r
        · have hiz : (i : Int) < (r : Nat) := by omega
          have HT : Hid ((txtL c (caL r c)).take (i + 1) = (txtL c (caL r c)).take i ++ [mkT ((caR c i).take c)]) := txtL_take c i _ _ (caL_at r c i hlt)
          obtain ⟨w2, hw2⟩ : ∃ w2, wr = w2 := ⟨_, rfl⟩
          rw [hw2] at HO HB hzr ⊢
          clear hw2
          go_wp2
          go_loopw [10, 11] (fun v t W => ∃ k : Nat, k ≤ c ∧ t = .int .i64 k ∧ Hid (W.ownsRow w2.heap.size 5 1 v k (bv ((caR c i).take k))) ∧ Hid (Below w2.heap.size w2 W)) (fun _ t _ => c - (intOf t).toNat)
          case atStart => exact ⟨0, by omega, rfl, World.ownsRow_nil _ _ _ _, Below.refl _ _⟩
          case round =>
            obtain ⟨k, hkc, rfl, HOb, HBb⟩ := hrel
            have hzb : w2.heap.size ≤ wr.heap.size := HBb.out.size
            by_cases hlk : k < c
            · have hkz : (k : Int) < (c : Nat) := by omega
              obtain ⟨x, hx⟩ : ∃ x, x = UInt8.ofNat (128 + i) := ⟨_, rfl⟩
              obtain ⟨y, hy⟩ : ∃ y, y = UInt8.ofNat k := ⟨_, rfl⟩
              have hxz : (128 : Int) + (i : Int) = (x.toNat : Int) := by rw [hx]; simp; omega
              have hyz : (k : Int) = (y.toNat : Int) := by rw [hy]; simp; omega
              obtain ⟨q, hq⟩ : ∃ q, q = x ^^^ y := ⟨_, rfl⟩
              have hxq : bits .xor .u8 (x.toNat : Int) (k : Int) = (q.toNat : Int) := by rw [hyz, xor8, hq]
              have hx8 := x.toNat_lt
              have hq8 := q.toNat_lt
              obtain ⟨z, hzz⟩ : ∃ z, z = caV i k := ⟨_, rfl⟩
              have hcz : wr.cell? ⟨w.heap.size, q.toNat, none⟩ = some (c8 z) := by
                rw [((HO1.out.below HB.out hs).below HBb.out (by omega)).cell, rc_get, ovK_all q, hq, hx, hy, hzz]; rfl
              have HTb : Hid ((caR c i).take (k + 1) = (caR c i).take k ++ [z]) := by show _ = _; rw [hzz]; exact caR_take c i k hlk h4
              have HC1 : Hid (∀ (j : Nat) (u : Value), [c8 z][j]? = some u → (wr.alloc (.cells #[c8 z] 5)).cell? ((⟨wr.heap.size, 0, none⟩ : Addr).add j) = some u) := news_one _ _ _
              clear hx hy hyz hq hzz
              go_wp2_with (at_builtin; refine wpList_append_own _ rfl _ _ 44 rfl w2.heap.size 5 j0 (.int .u8 0) 1 1 Try.underlying44 hj hy0 hy1 hy2 rfl (by decide) _ _ _ rfl (HOb.out.alloc _) ⟨wr.heap.size, 0, none⟩ 1 1 [c8 z] rfl rfl HC1.out (one_byte _) (by unfold maxLen; omega) (by omega) (by simp; omega) ?_)
              intro v' w7 hown1 hgrow _
              have HO7 : Hid (w7.ownsRow w2.heap.size 5 1 v' (k + 1) (bv ((caR c i).take (k + 1)))) := by
                show w7.ownsRow w2.heap.size 5 1 v' (k + 1) (bv ((caR c i).take (k + 1)))
                rw [HTb.out, bv_append]; exact hown1
              have HB7 : Hid (Below w2.heap.size w2 w7) := apn_bel HBb.out hzb HOb.out hgrow
              clear hown1 hgrow HOb HBb HC1 hcz
              go_wp2
              go_roundw
              case rel => exact ⟨k + 1, by omega, by go_num, HO7.out, HB7.out⟩
              case measure => simp [intOf]; omega
            · have hkc2 : k = c := by omega
              have HOe : Hid (wr.ownsRow w2.heap.size 5 1 u10 ((caR c i).take c).length (bv ((caR c i).take c))) := by
                have h := HOb.out
                rw [hkc2] at h
                show wr.ownsRow _ _ _ _ _ _
                rw [List.length_take, caR_len, Nat.min_eq_left h4]
                exact h
              obtain ⟨g, cb, rfl, hcells⟩ := own_bytes HOe.out (by rw [List.length_take, caR_len]; omega)
              have hcv := conv_bytes ((caR c i).take c) g cb wr hcells
              rw [show ((caR c i).take c).length = c from by rw [List.length_take, caR_len]; omega] at hcv ⊢
              generalize mkT ((caR c i).take c) = p at *
              have HOo : Hid (wr.ownsRow w1.heap.size 9 1 u8 i (sv ((txtL c (caL r c)).take i))) := own_kept HO.out HBb.out
              have HBo : Hid (Below w1.heap.size w1 wr) := HB.out.trans (HBb.out.mono hzr)
              have HC1 : Hid (∀ (j : Nat) (u : Value), [Value.string p][j]? = some u → (wr.alloc (.cells #[Value.string p] 9)).cell? ((⟨wr.heap.size, 0, none⟩ : Addr).add j) = some u) := news_one _ _ _
              clear hkc2 HOb HOe hcells HO HB
              go_wp2_with (at_builtin; refine wpList_append_own _ rfl _ _ 22 rfl w1.heap.size 9 i0 (.string ⟨#[]⟩) 1 16 Try.underlying22 hi hz0 hz1 hz2 rfl (by decide) _ _ _ rfl (HOo.out.alloc _) ⟨wr.heap.size, 0, none⟩ 1 1 [.string p] rfl rfl HC1.out (one_str _) (by unfold maxLen; omega) (by omega) (by simp; omega) ?_)
              intro v' w7 hown1 hgrow _
              have HO7 : Hid (w7.ownsRow w1.heap.size 9 1 v' (i + 1) (sv ((txtL c (caL r c)).take (i + 1)))) := by
                show w7.ownsRow w1.heap.size 9 1 v' (i + 1) (sv ((txtL c (caL r c)).take (i + 1)))
                rw [HT.out, sv_append]; exact hown1
              have HB7 : Hid (Below w1.heap.size w1 w7) := apn_bel HBo.out (by omega) HOo.out hgrow
              clear hown1 hgrow HOo HBo HC1 hcv
              go_wp2
              go_roundw
              case rel => exact ⟨i + 1, by omega, by go_num, HO7.out, HB7.out⟩
              case measure => simp [intOf]; omega
        · have hin : i = r := by omega
          have HOe : Hid (wr.ownsRow w1.heap.size 9 1 u8 r (sv (txtL c (caL r c)))) := by
            have h := HO.out
            rw [hin, List.take_of_length_le (by rw [txtL_len, caL_len]; omega)] at h
            exact h
          clear hin HO
          go_wp2
          go_ret2
          exact ⟨_, rfl, HOe.out.lower (by omega), HW.out.trans (HB.out.mono (by omega))⟩
set_option maxHeartbeats 1000000 in
theorem rcauchy_no (r c : Int) (w : World) (h : ¬ ((1 ≤ r ∧ r ≤ 64) ∧ (1 ≤ c ∧ c ≤ 64))) :
    Calls Try.prog 46 #[.int .i64 r, .int .i64 c] w fun e w' => e = .returned (.tuple #[.slice none 0 0, .int .i64 1]) ∧ w' = w := by
  rcases (show r < 1 ∨ (1 ≤ r ∧ 64 < r) ∨ ((1 ≤ r ∧ r ≤ 64) ∧ c < 1) ∨ ((1 ≤ r ∧ r ≤ 64) ∧ (1 ≤ c ∧ 64 < c)) by omega) with h1 | ⟨h1, h2⟩ | ⟨⟨h1, h2⟩, h3⟩ | ⟨⟨h1, h2⟩, h3, h4⟩
  all_goals
    clear h
    go_enter Try.func46, Try.ntmps46
    go_wp2
    go_ret2
    exact ⟨rfl, rfl⟩
end Go.Proofs.Ytblmblbkfdcbjaa
/- Unit and Cauchy, both sides, at any sizes. -/
namespace Go.Proofs.Ytblmblbkfdcbjaa
open Go.RowKit
set_option linter.unusedSimpArgs false
set_option linter.unusedVariables false
/-- The texts of a unit, of Cauchy's matrix; the errors. -/
def unX (n : Int) : List ByteArray := if 1 ≤ n ∧ n ≤ 64 then txtL n.toNat (unL n.toNat) else []
def unE (n : Int) : Nat := if 1 ≤ n ∧ n ≤ 64 then 0 else 1
def caX (r c : Int) : List ByteArray := if (1 ≤ r ∧ r ≤ 64) ∧ (1 ≤ c ∧ c ≤ 64) then txtL c.toNat (caL r.toNat c.toNat) else []
def caE (r c : Int) : Nat := if (1 ≤ r ∧ r ≤ 64) ∧ (1 ≤ c ∧ c ≤ 64) then 0 else 1
theorem unX_len (n : Int) : (unX n).length ≤ 64 := by
  unfold unX
  split
  · rw [txtL_len, unL_len]; omega
  · simp
theorem caX_len (r c : Int) : (caX r c).length ≤ 64 := by
  unfold caX
  split
  · rw [txtL_len, caL_len]; omega
  · simp
theorem fu_any (n : Int) (w : World) :
    Calls Try.prog 63 #[.int .i64 n] w fun e w' => ∃ ao, e = .returned (.tuple #[.slice ao (unX n).length (unX n).length, .int .i64 (unE n)]) ∧ Mad w ao (unX n) w' ∧ Below w.heap.size w w' := by
  by_cases h : 1 ≤ n ∧ n ≤ 64
  · obtain ⟨m, rfl⟩ : ∃ m : Nat, n = m := ⟨n.toNat, by omega⟩
    have e1 : unX (m : Int) = txtL m (unL m) := by unfold unX; rw [if_pos h, Int.toNat_natCast]
    have e2 : unE (m : Int) = 0 := if_pos h
    rw [e1, e2, txtL_len, unL_len]
    refine (unitP_yes m w (by omega) (by omega)).mono ?_
    rintro e w' ⟨g, rfl, hg, hB, hb⟩
    exact ⟨_, rfl, .inr ⟨g, rfl, hg, hB⟩, hb⟩
  · have e1 : unX n = [] := if_neg h
    have e2 : unE n = 1 := if_neg h
    rw [e1, e2]
    refine (unitP_no n w h).mono ?_
    rintro e w' ⟨rfl, rfl⟩
    exact ⟨none, rfl, .inl ⟨rfl, rfl⟩, Below.refl _ _⟩
theorem fc_any (r c : Int) (w : World) :
    Calls Try.prog 62 #[.int .i64 r, .int .i64 c] w fun e w' => ∃ ao, e = .returned (.tuple #[.slice ao (caX r c).length (caX r c).length, .int .i64 (caE r c)]) ∧ Mad w ao (caX r c) w' ∧ Below w.heap.size w w' := by
  by_cases h : (1 ≤ r ∧ r ≤ 64) ∧ (1 ≤ c ∧ c ≤ 64)
  · obtain ⟨m, rfl⟩ : ∃ m : Nat, r = m := ⟨r.toNat, by omega⟩
    obtain ⟨k, rfl⟩ : ∃ k : Nat, c = k := ⟨c.toNat, by omega⟩
    have e1 : caX (m : Int) (k : Int) = txtL k (caL m k) := by unfold caX; rw [if_pos h, Int.toNat_natCast, Int.toNat_natCast]
    have e2 : caE (m : Int) (k : Int) = 0 := if_pos h
    rw [e1, e2, txtL_len, caL_len]
    refine (cauchyP_yes m k w (by omega) (by omega) (by omega) (by omega)).mono ?_
    rintro e w' ⟨g, rfl, hg, hB, hb⟩
    exact ⟨_, rfl, .inr ⟨g, rfl, hg, hB⟩, hb⟩
  · have e1 : caX r c = [] := if_neg h
    have e2 : caE r c = 1 := if_neg h
    rw [e1, e2]
    refine (cauchyP_no r c w h).mono ?_
    rintro e w' ⟨rfl, rfl⟩
    exact ⟨none, rfl, .inl ⟨rfl, rfl⟩, Below.refl _ _⟩
theorem ru_any (n : Int) (w : World) :
    Calls Try.prog 38 #[.int .i64 n] w fun e w' => ∃ a c, e = .returned (.tuple #[.slice a (unX n).length c, .int .i64 (unE n)]) ∧ Ans w a (unX n) w' ∧ Below w.heap.size w w' := by
  by_cases h : 1 ≤ n ∧ n ≤ 64
  · obtain ⟨m, rfl⟩ : ∃ m : Nat, n = m := ⟨n.toNat, by omega⟩
    have e1 : unX (m : Int) = txtL m (unL m) := by unfold unX; rw [if_pos h, Int.toNat_natCast]
    have e2 : unE (m : Int) = 0 := if_pos h
    rw [e1, e2]
    refine (runit_yes m w (by omega) (by omega)).mono ?_
    rintro e w' ⟨v, rfl, ho, hb⟩
    obtain ⟨a, c, rfl, hA⟩ := ans_of (xs := txtL m (unL m)) (by rw [txtL_len, unL_len]; exact ho)
    exact ⟨a, c, rfl, hA, hb⟩
  · have e1 : unX n = [] := if_neg h
    have e2 : unE n = 1 := if_neg h
    rw [e1, e2]
    refine (runit_no n w h).mono ?_
    rintro e w' ⟨rfl, rfl⟩
    exact ⟨none, 0, rfl, ⟨fun i x hx => by simp at hx, fun b o s e => by cases e⟩, Below.refl _ _⟩
theorem rcy_any (r c : Int) (w : World) :
    Calls Try.prog 46 #[.int .i64 r, .int .i64 c] w fun e w' => ∃ a k, e = .returned (.tuple #[.slice a (caX r c).length k, .int .i64 (caE r c)]) ∧ Ans w a (caX r c) w' ∧ Below w.heap.size w w' := by
  by_cases h : (1 ≤ r ∧ r ≤ 64) ∧ (1 ≤ c ∧ c ≤ 64)
  · obtain ⟨m, rfl⟩ : ∃ m : Nat, r = m := ⟨r.toNat, by omega⟩
    obtain ⟨k, rfl⟩ : ∃ k : Nat, c = k := ⟨c.toNat, by omega⟩
    have e1 : caX (m : Int) (k : Int) = txtL k (caL m k) := by unfold caX; rw [if_pos h, Int.toNat_natCast, Int.toNat_natCast]
    have e2 : caE (m : Int) (k : Int) = 0 := if_pos h
    rw [e1, e2]
    refine (rcauchy_yes m k w (by omega) (by omega) (by omega) (by omega)).mono ?_
    rintro e w' ⟨v, rfl, ho, hb⟩
    obtain ⟨a, c, rfl, hA⟩ := ans_of (xs := txtL k (caL m k)) (by rw [txtL_len, caL_len]; exact ho)
    exact ⟨a, c, rfl, hA, hb⟩
  · have e1 : caX r c = [] := if_neg h
    have e2 : caE r c = 1 := if_neg h
    rw [e1, e2]
    refine (rcauchy_no r c w h).mono ?_
    rintro e w' ⟨rfl, rfl⟩
    exact ⟨none, 0, rfl, ⟨fun i x hx => by simp at hx, fun b o s e => by cases e⟩, Below.refl _ _⟩
end Go.Proofs.Ytblmblbkfdcbjaa
/- Parity: shards.parityRows, shards.Encode and the document's Encode. -/
namespace Go.Proofs.Ytblmblbkfdcbjaa
open Go.RowKit
set_option linter.unusedSimpArgs false
set_option linter.unusedVariables false
/-- The rows of the parity. -/
def cyX (m k : Nat) : List ByteArray := caX (m : Int) (k : Int)
theorem cyX_zero (k : Nat) : cyX 0 k = [] := by unfold cyX caX; rw [if_neg (by omega)]
theorem cyX_yes (m k : Nat) (h1 : 1 ≤ m) (h2 : m ≤ 64) (h3 : 1 ≤ k) (h4 : k ≤ 64) : cyX m k = txtL k (caL m k) := by
  unfold cyX caX
  rw [if_pos (by omega), Int.toNat_natCast, Int.toNat_natCast]
theorem cyX_len (m k : Nat) (h2 : m ≤ 64) (h3 : 1 ≤ k) (h4 : k ≤ 64) : (cyX m k).length = m := by
  by_cases h : 1 ≤ m
  · rw [cyX_yes m k h h2 h3 h4, txtL_len, caL_len]
  · obtain rfl : m = 0 := by omega
    rw [cyX_zero]; rfl
theorem cyX_size (m k : Nat) (h2 : m ≤ 64) (h3 : 1 ≤ k) (h4 : k ≤ 64) : ∀ r ∈ cyX m k, r.size = k := by
  intro r hr
  by_cases h : 1 ≤ m
  · rw [cyX_yes m k h h2 h3 h4, txtL, List.mem_map] at hr
    obtain ⟨l, hl, rfl⟩ := hr
    rw [mkT_size, List.length_take, caL_wide m k l hl]
    omega
  · obtain rfl : m = 0 := by omega
    rw [cyX_zero] at hr
    cases hr
theorem parity_any (m k : Nat) (w : World) (h2 : m ≤ 64) (h3 : 1 ≤ k) (h4 : k ≤ 64) :
    Calls Try.prog 49 #[.int .i64 m, .int .i64 k] w fun e w' => ∃ ao, e = .returned (.slice ao m m) ∧ Mad w ao (cyX m k) w' ∧ Below w.heap.size w w' := by
  by_cases h : 1 ≤ m
  · have hc := fc_any (m : Int) (k : Int)
    have e1 : (caX (m : Int) (k : Int)).length = m := cyX_len m k h2 h3 h4
    have e2 : caE (m : Int) (k : Int) = 0 := by unfold caE; rw [if_pos (by omega)]
    rw [e1, e2] at hc
    have C : Hid _ := hc
    clear hc e1 e2
    have hmz : ((m : Int) == 0) = false := by rw [beq_eq_false_iff_ne]; omega
    go_enter Try.func49, Try.ntmps49
    go_wp2_with fail
    refine Calls.mono (C.out _) ?_
    rintro e w1 ⟨ao, rfl, hA, hb⟩
    have HA : Hid (Mad w ao (cyX m k) w1) := hA
    have HB : Hid (Below w.heap.size w w1) := hb
    clear hA hb
    go_wp2
    go_ret
    exact ⟨ao, rfl, HA.out, HB.out⟩
  · obtain rfl : m = 0 := by omega
    go_enter Try.func49, Try.ntmps49
    go_wp2
    go_ret
    exact ⟨none, rfl, .inl ⟨rfl, by rw [cyX_zero]; rfl⟩, Below.refl _ _⟩
/-- May parity be made? What it is; the errors. -/
def enOk (xs : List ByteArray) (m : Int) : Prop := (1 ≤ xs.length ∧ xs.length ≤ 32) ∧ evn xs = true ∧ 0 ≤ m ∧ m ≤ 64 - (xs.length : Int)
instance (xs : List ByteArray) (m : Int) : Decidable (enOk xs m) := by unfold enOk; infer_instance
def enX (xs : List ByteArray) (m : Int) : List ByteArray := if enOk xs m then mixL (cyX m.toNat xs.length) xs (wid xs) else []
def enE (xs : List ByteArray) (m : Int) : Nat := if enOk xs m then 0 else 1
theorem enX_len (xs : List ByteArray) (m : Int) : (enX xs m).length ≤ 64 := by
  unfold enX
  split
  · rename_i h
    obtain ⟨h1, h2, h3, h4⟩ := h
    rw [mixL_len, cyX_len _ _ (by omega) (by omega) (by omega)]
    omega
  · simp
theorem wid_of {xs : List ByteArray} (h : 1 ≤ xs.length) (d : Nat) (hs : ∀ x ∈ xs, x.size ≤ d) : wid xs ≤ d := by
  have : xs[0]? = some xs[0] := List.getElem?_eq_getElem (by omega)
  rw [wid, this]
  exact hs _ (List.getElem_mem (by omega))
set_option maxHeartbeats 1000000 in
set_option maxRecDepth 100000 in
theorem encode_any (a : Option Addr) (c n : Nat) (xs : List ByteArray) (m : Int) (w : World) (hx : TxL w a xs) (nx : xs.length = n) (ln : n ≤ 4611686018427387904) (sx : ∀ x ∈ xs, x.size ≤ 281474976710656) (m1 : -9223372036854775808 ≤ m) (m2 : m ≤ 9223372036854775807) :
    Calls Try.prog 25 #[.slice a n c, .int .i64 m] w fun e w' => ∃ ao, e = .returned (.tuple #[.slice ao (enX xs m).length (enX xs m).length, .int .i64 (enE xs m)]) ∧ Mad w ao (enX xs m) w' ∧ Below w.heap.size w w' := by
  have hh := hold_any (n : Int)
  have he := fun W hW => even_any a c xs W hW (by omega)
  rw [nx] at he
  have HX : Hid (TxL w a xs) := hx
  by_cases h1 : 1 ≤ n ∧ n ≤ 32
  · rw [hlB, decide_eq_true (by omega)] at hh
    have C1 : Hid _ := hh
    clear hh
    by_cases h2 : evn xs = true
    · rw [h2] at he
      have C2 : Hid _ := he
      clear he
      by_cases h3 : 0 ≤ m
      · by_cases h4 : m ≤ 64 - (n : Int)
        · have hok : enOk xs m := ⟨by omega, h2, h3, by omega⟩
          obtain ⟨k, rfl⟩ : ∃ k : Nat, m = k := ⟨m.toNat, by omega⟩
          have e1 : enX xs (k : Int) = mixL (cyX k n) xs (wid xs) := by unfold enX; rw [if_pos hok, Int.toNat_natCast, nx]
          have e2 : enE xs (k : Int) = 0 := if_pos hok
          have hl := cyX_len k n (by omega) (by omega) (by omega)
          have hc3 := fun W => parity_any k n W (by omega) (by omega) (by omega)
          have hc4 := fun ao ca W hW hV => mixed_any ao a ca c k n (wid xs) (cyX k n) xs W hW hV hl nx (by omega) (by omega) (by omega) (cyX_size k n (by omega) (by omega) (by omega)) (evn_all xs h2) (wid_of (by omega) _ sx)
          rw [e1, e2, mixL_len, hl]
          have C3 : Hid _ := hc3
          have C4 : Hid _ := hc4
          clear hc3 hc4 hl e1 e2 hok h2 nx hx sx
          go_enter Try.func25, Try.ntmps25
          go_wp2_with fail
          refine Calls.mono (C1.out _) ?_
          rintro e w1 ⟨rfl, hw⟩
          subst hw
          go_wp2_with fail
          refine Calls.mono (C2.out _ HX.out) ?_
          rintro e w2 ⟨rfl, hb2⟩
          have B2 : Hid (Below w1.heap.size w1 w2) := hb2
          clear hb2
          go_wp2_with fail
          refine Calls.mono (C3.out _) ?_
          rintro e w3 ⟨ao, rfl, hM, hb3⟩
          have HM : Hid (Mad w2 ao (cyX k n) w3) := hM
          have B3 : Hid (Below w1.heap.size w1 w3) := B2.out.trans (hb3.mono B2.out.size)
          clear hM hb3
          go_wp2_with fail
          refine Calls.mono (C4.out _ _ _ HM.out.txl (HX.out.below B3.out)) ?_
          rintro e w4 ⟨q, rfl, hM, hb4⟩
          have HM4 : Hid (Mad w1 q (mixL (cyX k n) xs (wid xs)) w4) := by
            rcases hM with h | ⟨g, h1, h2, h3⟩
            · exact .inl h
            · exact .inr ⟨g, h1, Nat.le_trans B3.out.size h2, h3⟩
          have B4 : Hid (Below w1.heap.size w1 w4) := B3.out.trans (hb4.mono B3.out.size)
          clear hM hb4
          go_wp2
          go_ret2
          exact ⟨q, rfl, HM4.out, B4.out⟩
        · have h4z : m > 64 - (n : Int) := by omega
          have e1 : enX xs m = [] := if_neg (fun h => h4 (by have := h.2.2.2; omega))
          have e2 : enE xs m = 1 := if_neg (fun h => h4 (by have := h.2.2.2; omega))
          rw [e1, e2]
          clear e1 e2 nx hx sx h2
          go_enter Try.func25, Try.ntmps25
          go_wp2_with fail
          refine Calls.mono (C1.out _) ?_
          rintro e w1 ⟨rfl, hw⟩
          subst hw
          go_wp2_with fail
          refine Calls.mono (C2.out _ HX.out) ?_
          rintro e w2 ⟨rfl, hb2⟩
          have B2 : Hid (Below w1.heap.size w1 w2) := hb2
          clear hb2
          go_wp2
          go_ret2
          exact ⟨none, rfl, .inl ⟨rfl, rfl⟩, B2.out⟩
      · have h3z : m < 0 := by omega
        have e1 : enX xs m = [] := if_neg (fun h => h3 h.2.2.1)
        have e2 : enE xs m = 1 := if_neg (fun h => h3 h.2.2.1)
        rw [e1, e2]
        clear e1 e2 nx hx sx h2
        go_enter Try.func25, Try.ntmps25
        go_wp2_with fail
        refine Calls.mono (C1.out _) ?_
        rintro e w1 ⟨rfl, hw⟩
        subst hw
        go_wp2_with fail
        refine Calls.mono (C2.out _ HX.out) ?_
        rintro e w2 ⟨rfl, hb2⟩
        have B2 : Hid (Below w1.heap.size w1 w2) := hb2
        clear hb2
        go_wp2
        go_ret2
        exact ⟨none, rfl, .inl ⟨rfl, rfl⟩, B2.out⟩
    · have h2z : evn xs = false := by simpa using h2
      rw [h2z] at he
      have C2 : Hid _ := he
      clear he
      have e1 : enX xs m = [] := if_neg (fun h => h2 h.2.1)
      have e2 : enE xs m = 1 := if_neg (fun h => h2 h.2.1)
      rw [e1, e2]
      clear e1 e2 nx hx sx h2 h2z
      go_enter Try.func25, Try.ntmps25
      go_wp2_with fail
      refine Calls.mono (C1.out _) ?_
      rintro e w1 ⟨rfl, hw⟩
      subst hw
      go_wp2_with fail
      refine Calls.mono (C2.out _ HX.out) ?_
      rintro e w2 ⟨rfl, hb2⟩
      have B2 : Hid (Below w1.heap.size w1 w2) := hb2
      clear hb2
      go_wp2
      go_ret2
      exact ⟨none, rfl, .inl ⟨rfl, rfl⟩, B2.out⟩
  · rw [hlB, decide_eq_false (by omega)] at hh
    have C1 : Hid _ := hh
    clear hh he
    have e1 : enX xs m = [] := if_neg (fun h => h1 (by have := h.1; omega))
    have e2 : enE xs m = 1 := if_neg (fun h => h1 (by have := h.1; omega))
    rw [e1, e2]
    clear e1 e2 nx hx sx h1
    go_enter Try.func25, Try.ntmps25
    go_wp2_with fail
    refine Calls.mono (C1.out _) ?_
    rintro e w1 ⟨rfl, hw⟩
    subst hw
    go_wp2
    go_ret2
    exact ⟨none, rfl, .inl ⟨rfl, rfl⟩, Below.refl _ _⟩
end Go.Proofs.Ytblmblbkfdcbjaa
/- Pairs of rows: built, compared; field.added. -/
namespace Go.Proofs.Ytblmblbkfdcbjaa
open Go.RowKit
set_option linter.unusedSimpArgs false
set_option linter.unusedVariables false
theorem part_row (r : List UInt8) (i : Nat) (x : UInt8) (h : r[i]? = some x) (w : World) : (part 5 (rc r) i).run Try.prog w = .ok (c8 x) w := by
  have e1 : (rc r)[i]? = some (c8 x) := by rw [rc_get, h]; rfl
  exact run_part_plain w (by kernel_rfl) e1
theorem eqItems_rows (a b : List UInt8) (ha : a.length = 64) (hb : b.length = 64) (w : World) : ∀ is : List Nat, (∀ i ∈ is, i < 64) →
    (Op.eqItems 9999 5 1 (rc a) (rc b) is).run Try.prog w = .ok (is.all fun i => a.getD i 0 == b.getD i 0) w
  | [], _ => by simp [Op.eqItems]
  | i :: is, h => by
    have hi : i < 64 := h i (List.mem_cons_self ..)
    have ih := eqItems_rows a b ha hb w is (fun j hj => h j (List.mem_cons_of_mem _ hj))
    obtain ⟨x, hx⟩ : ∃ x, a[i]? = some x := ⟨_, List.getElem?_eq_getElem (by omega)⟩
    obtain ⟨y, hy⟩ : ∃ y, b[i]? = some y := ⟨_, List.getElem?_eq_getElem (by omega)⟩
    have e1 : a.getD i 0 = x := by rw [List.getD, hx]; rfl
    have e2 : b.getD i 0 = y := by rw [List.getD, hy]; rfl
    have e3 := run_equalIn_int (P := Try.prog) w 9998 5 .u8 .u8 (x.toNat : Int) (y.toNat : Int) Try.underlying5
    simp only [Op.eqItems, Sem.run_bind, Nat.mul_one, part_row a i x hx, part_row b i y hy, Result.andThen_ok, e3, List.all_cons, e1, e2]
    by_cases e : x = y
    · have e4 : ((x.toNat : Int) == (y.toNat : Int)) = true := by rw [e]; simp
      simp only [e4, Bool.not_true, Bool.false_eq_true, if_false, ih, e, beq_self_eq_true, Bool.true_and]
    · have e4 : ((x.toNat : Int) == (y.toNat : Int)) = false := by
        rw [beq_eq_false_iff_ne]
        intro h2
        exact e (UInt8.toNat_inj.1 (by omega))
      have e5 : (x == y) = false := by rw [beq_eq_false_iff_ne]; exact e
      simp only [e4, Bool.not_false, if_true, Sem.run_pure, e5, Bool.false_and]
theorem rows_all (a b : List UInt8) (ha : a.length = 64) (hb : b.length = 64) : ((List.range 64).all fun i => a.getD i 0 == b.getD i 0) = decide (a = b) := by
  rw [Bool.eq_iff_iff, List.all_eq_true, decide_eq_true_iff]
  constructor
  · intro h
    apply List.ext_getElem (by omega)
    intro i h1 h2
    have := h i (by rw [List.mem_range]; omega)
    rw [List.getD, List.getD, List.getElem?_eq_getElem h1, List.getElem?_eq_getElem h2] at this
    exact eq_of_beq this
  · rintro rfl i _
    exact beq_self_eq_true _
theorem equalIn_rows (a b : List UInt8) (ha : a.length = 64) (hb : b.length = 64) (w : World) : (Op.equalIn 10000 55 (.agg (rc a)) (.agg (rc b))).run Try.prog w = .ok (decide (a = b)) w := by
  have hc : Try.prog.cellsOf 5 = 1 := by kernel_rfl
  obtain ⟨i0, hi⟩ := info_of_underlying Try.underlying5
  have hu : Try.prog.underlying 55 = some (.array 64 5) := Try.underlying55
  rw [run_equalIn_array w 9999 (rc a) (rc b) hu hi, hc, eqItems_rows a b ha hb w _ (fun i hi => by simpa using hi), rows_all a b ha hb]
theorem eql_rows (a b : List UInt8) (ha : a.length = 64) (hb : b.length = 64) (w : World) : (binOp .eql 55 (.agg (rc a)) (.agg (rc b))).run Try.prog w = .ok (.bool (decide (a = b))) w := by
  rw [run_eql_struct, equalIn_rows a b ha hb]; rfl
theorem neq_rows (a b : List UInt8) (ha : a.length = 64) (hb : b.length = 64) (w : World) : (binOp .neq 55 (.agg (rc a)) (.agg (rc b))).run Try.prog w = .ok (.bool (!decide (a = b))) w := by
  rw [run_neq_struct, equalIn_rows a b ha hb]; rfl
/-- A pair of nothing. -/
def zp : List UInt8 := List.replicate 128 0
theorem info_pair : (Try.prog.info? 65).map (fun i => (i.zero, i.size)) = some (some (.agg (rc zp)), 128) := by kernel_rfl
theorem size_pair (r : List UInt8) (h : r.length = 128) : (Try.prog.info? 65).map (·.size) = some (rc r).size := by
  have : (Try.prog.info? 65).map (·.size) = some 128 := by kernel_rfl
  rw [this, rc_size, h]
theorem zp_len : zp.length = 128 := by unfold zp; rw [List.length_replicate]
theorem sizeOf_row (w : World) : (sizeOf 55).run Try.prog w = .ok 64 w := by
  have h : (Try.prog.info? 55).map (·.size) = some 64 := by kernel_rfl
  cases hq : Try.prog.info? 55 with
  | none => simp [hq] at h
  | some i => simp [hq] at h; simp [sizeOf, typeInfo, hq, h]
theorem fold_putL (off : Nat) : ∀ (l : List Value) (k : Nat) (C : Array Value), (l.zipIdx k).foldl (fun cs (x : Value × Nat) => cs.setIfInBounds (off + x.2) x.1) C = putC C (off + k) l
  | [], _, _ => rfl
  | v :: l, k, C => by
    rw [List.zipIdx_cons, List.foldl_cons, fold_putL off l (k + 1)]
    rfl
theorem fold_put (off : Nat) (A C : Array Value) : A.zipIdx.foldl (fun cs (x : Value × Nat) => cs.setIfInBounds (off + x.2) x.1) C = putC C off A.toList := by
  have h := fold_putL off A.toList 0 C
  rw [Nat.add_zero] at h
  rw [← h, ← Array.foldl_toList, Array.toList_zipIdx]
theorem pair_put (l r : List UInt8) (hl : l.length = 64) (hr : r.length = 64) : putC (putC (rc zp) 0 (rc l).toList) 64 (rc r).toList = rc (l ++ r) := by
  rw [putC_rc zp 0 l (by rw [zp_len]; omega), putC_rc _ 64 r (by rw [putB_len _ _ _ (by rw [zp_len]; omega), zp_len]; omega)]
  congr 1
  unfold putB
  rw [List.take_zero, List.nil_append, Nat.zero_add, hl, List.take_left' hl, hr, List.drop_eq_nil_of_le (by rw [List.length_append, List.length_drop, zp_len]; omega), List.append_nil]
theorem build_pair (l r : List UInt8) (hl : l.length = 64) (hr : r.length = 64) (w : World) : (Instr.build 65 #[(0, .agg (rc l)), (1, .agg (rc r))]).run Try.prog w = .ok (.agg (rc (l ++ r))) w := by
  have hz := (zero_of_info info_pair).1
  have hu := run_underlying Try.underlying65 w
  have hs := sizeOf_row
  unfold Instr.build
  have hc : ∀ x : List UInt8, (Value.agg (rc x)).cells = rc x := fun x => rfl
  have f1 : ∀ (place : Nat → Option (Nat × Nat)), place 0 = some (0, 64) → place 1 = some (64, 64) → Instr.fill place (rc zp) [(0, .agg (rc l)), (1, .agg (rc r))] = some (rc (l ++ r)) := by
    intro place h0 h1
    rw [Instr.fill, h0]
    simp only [hc, rc_size, hl, zp_len]
    rw [if_neg (by decide), Instr.fill, h1]
    simp only [hc, rc_size, hr]
    rw [show (rc l).zipIdx.foldl (fun cs x => match x with | (c, j) => cs.setIfInBounds (0 + j) c) (rc zp) = putC (rc zp) 0 (rc l).toList from fold_put 0 (rc l) (rc zp)]
    rw [if_neg (by rw [putC_size, rc_size, zp_len]; decide), Instr.fill]
    rw [show (rc r).zipIdx.foldl (fun cs x => match x with | (c, j) => cs.setIfInBounds (64 + j) c) (putC (rc zp) 0 (rc l).toList) = putC (putC (rc zp) 0 (rc l).toList) 64 (rc r).toList from fold_put 64 (rc r) _]
    rw [pair_put l r hl hr]
  simp only [Sem.run_bind, hz, Result.andThen_ok, hu]
  simp [hs]
  rw [hc, f1 _ rfl rfl]; rfl
theorem quiet_pair {o : Oper} {a : Act} {C : World → Prop} {K : Act → Prop} (x y : Operand) (ho : o.op = .build 65 #[(0, x), (1, y)]) (l r : List UInt8) (hx : a.eval x = .agg (rc l)) (hy : a.eval y = .agg (rc r))
    (hl : l.length = 64) (hr : r.length = 64) (hn : K (a.put o.dst (.agg (rc (l ++ r))))) : o.quiet Try.prog a C K :=
  quiet_val (.agg (rc (l ++ r))) (fun w hw => by
    have h := build_pair l r hl hr w
    unfold execOp
    simp [ho, hx, hy, h]) hn
/-- Three pairs of the call's own. -/
structure Sp (w : World) (a b z : List UInt8) (wr : World) : Prop where
  a : Bk wr w.heap.size (rc a) 65
  b : Bk wr (w.heap.size + 1) (rc b) 65
  z : Bk wr (w.heap.size + 2) (rc z) 65
  bel : Below w.heap.size w wr
  sz : w.heap.size + 3 ≤ wr.heap.size
theorem sp_new (w : World) (a b : List UInt8) : Sp w a b zp (((w.alloc (.cells (rc a) 65)).alloc (.cells (rc b) 65)).alloc (.cells (rc zp) 65)) where
  a := ((bk_new w _ _).alloc _).alloc _
  b := by have := bk_new (w.alloc (.cells (rc a) 65)) (rc b) 65; rw [al_size] at this; exact this.alloc _
  z := by have := bk_new ((w.alloc (.cells (rc a) 65)).alloc (.cells (rc b) 65)) (rc zp) 65; rw [al_size, al_size] at this; exact this
  bel := (((Below.refl _ _).alloc (Nat.le_refl _) _).alloc (by simp) _).alloc (by simp; omega) _
  sz := by rw [al_size, al_size, al_size]; omega
theorem Sp.below {w W W' : World} {a b z : List UInt8} (h : Sp w a b z W) (hb : Below W.heap.size W W') : Sp w a b z W' :=
  ⟨h.a.grown (gr_of_below hb none) (by simp), h.b.grown (gr_of_below hb none) (by simp), h.z.grown (gr_of_below hb none) (by simp), h.bel.trans (hb.mono h.bel.size), Nat.le_trans h.sz hb.size⟩
theorem Sp.drew {w W : World} {a b z : List UInt8} (h : Sp w a b z W) : Sp w a b z W.drew := h.below (Below.refl _ _).drew
/-- A pair's two rows. -/
def lf (p : List UInt8) : List UInt8 := p.take 64
def rt (p : List UInt8) : List UInt8 := p.drop 64
theorem lf_len (p : List UInt8) (h : p.length = 128) : (lf p).length = 64 := by simp [lf, h]
theorem rt_len (p : List UInt8) (h : p.length = 128) : (rt p).length = 64 := by simp [rt, h]
theorem lf_get (p : List UInt8) (h : p.length = 128) (j : Nat) (v : Value) (hv : (rc (lf p))[j]? = some v) : (rc p)[j]? = some v := by
  rw [rc_get] at hv ⊢
  have hj : j < 64 := by
    obtain ⟨x, hx, _⟩ := Option.map_eq_some_iff.1 hv
    have := (List.getElem?_eq_some_iff.1 hx).1
    rw [lf_len p h] at this; exact this
  rw [lf, List.getElem?_take, if_pos hj] at hv
  exact hv
theorem rt_get (p : List UInt8) (h : p.length = 128) (j : Nat) (v : Value) (hv : (rc (rt p))[j]? = some v) : (rc p)[64 + j]? = some v := by
  rw [rc_get] at hv ⊢
  rw [rt, List.getElem?_drop] at hv
  exact hv
theorem addR_len2 (a b : List UInt8) (t : UInt8) (ha : a.length = 128) (hb : b.length = 128) : (addR a b t).length = 128 := by simp [addR, ha, hb]
theorem addR_parts (a b : List UInt8) (t : UInt8) (ha : a.length = 128) (hb : b.length = 128) : addR (lf a) (lf b) t ++ addR (rt a) (rt b) t = addR a b t := by
  unfold addR lf rt
  rw [← List.zipWith_append (by simp [ha, hb]), List.take_append_drop, List.take_append_drop]
theorem lf_app (l r : List UInt8) (h : l.length = 64) : lf (l ++ r) = l := by unfold lf; rw [← h, List.take_left]
theorem rt_app (l r : List UInt8) (h : l.length = 64) : rt (l ++ r) = r := by unfold rt; rw [← h, List.drop_left]
set_option maxHeartbeats 1000000 in
set_option maxRecDepth 100000 in
theorem added_any (a b : List UInt8) (t : UInt8) (w : World) (ha : a.length = 128) (hb : b.length = 128) :
    Calls Try.prog 59 #[.agg (rc a), .agg (rc b), c8 t] w fun e w' => e = .returned (.agg (rc (addR a b t))) ∧ Below w.heap.size w w' := by
  have hz := (zero_of_info info_pair).1
  have HS : Hid (Sp w a b zp (((w.alloc (.cells (rc a) 65)).alloc (.cells (rc b) 65)).alloc (.cells (rc zp) 65))) := sp_new w a b
  have HL : Hid (a.length = 128 ∧ b.length = 128) := ⟨ha, hb⟩
  clear ha hb
  go_enter Try.func59, Try.ntmps59
  go_wp2_with fail
  refine wp_region_tail (Sp w a b zp) 13 (by kernel_rfl) (by kernel_rfl) HS.out.drew ?_
  simp only [List.take_succ_cons, List.take_zero, List.drop_succ_cons, List.drop_zero]
  go_big_quiet_want
  refine quiet_val (.pointer (some ⟨w.heap.size, 0, none⟩)) ?_ ?_
  · intro W hW; go_simp; done
  go_big_quiet_on; simp only [Act.put, List.setIfInBounds_toArray, List.set_cons_zero, List.set_cons_succ]
  go_big_quiet_want
  refine quiet_row (.tmp 7) rfl (w.heap.size) 0 (lf a) rfl (lf_len a HL.out.1) (fun W hW j v hv => by rw [hW.a.cell, Nat.zero_add]; exact lf_get a HL.out.1 j v hv) ?_
  go_big_quiet_on; simp only [Act.put, List.setIfInBounds_toArray, List.set_cons_zero, List.set_cons_succ]
  go_big_quiet_want
  refine quiet_val (.pointer (some ⟨w.heap.size + 1, 0, none⟩)) ?_ ?_
  · intro W hW; go_simp; done
  go_big_quiet_on; simp only [Act.put, List.setIfInBounds_toArray, List.set_cons_zero, List.set_cons_succ]
  go_big_quiet_want
  refine quiet_row (.tmp 9) rfl (w.heap.size + 1) 0 (lf b) rfl (lf_len b HL.out.2) (fun W hW j v hv => by rw [hW.b.cell, Nat.zero_add]; exact lf_get b HL.out.2 j v hv) ?_
  go_big_quiet_on; simp only [Act.put, List.setIfInBounds_toArray, List.set_cons_zero, List.set_cons_succ]
  go_big_quiet_step (fail)
  go_big_quiet_want
  refine quiet_call (.agg (rc (addR (lf a) (lf b) t))) 36 #[.agg (rc (lf a)), .agg (rc (lf b)), c8 t] ?_ ?_ ?_
  · intro W hW; go_simp; done
  · intro W hW; exact (sum_any (lf a) (lf b) t W (lf_len a HL.out.1) (lf_len b HL.out.2)).mono (fun _ _ h => ⟨h.1, hW.below h.2⟩)
  go_big_quiet_on; simp only [Act.put, List.setIfInBounds_toArray, List.set_cons_zero, List.set_cons_succ]
  go_big_quiet_want
  refine quiet_val (.pointer (some ⟨w.heap.size, 64, none⟩)) ?_ ?_
  · intro W hW; go_simp; done
  go_big_quiet_on; simp only [Act.put, List.setIfInBounds_toArray, List.set_cons_zero, List.set_cons_succ]
  go_big_quiet_want
  refine quiet_row (.tmp 13) rfl (w.heap.size) 64 (rt a) rfl (rt_len a HL.out.1) (fun W hW j v hv => by rw [hW.a.cell]; exact rt_get a HL.out.1 j v hv) ?_
  go_big_quiet_on; simp only [Act.put, List.setIfInBounds_toArray, List.set_cons_zero, List.set_cons_succ]
  go_big_quiet_want
  refine quiet_val (.pointer (some ⟨w.heap.size + 1, 64, none⟩)) ?_ ?_
  · intro W hW; go_simp; done
  go_big_quiet_on; simp only [Act.put, List.setIfInBounds_toArray, List.set_cons_zero, List.set_cons_succ]
  go_big_quiet_want
  refine quiet_row (.tmp 15) rfl (w.heap.size + 1) 64 (rt b) rfl (rt_len b HL.out.2) (fun W hW j v hv => by rw [hW.b.cell]; exact rt_get b HL.out.2 j v hv) ?_
  go_big_quiet_on; simp only [Act.put, List.setIfInBounds_toArray, List.set_cons_zero, List.set_cons_succ]
  go_big_quiet_step (fail)
  go_big_quiet_want
  refine quiet_call (.agg (rc (addR (rt a) (rt b) t))) 36 #[.agg (rc (rt a)), .agg (rc (rt b)), c8 t] ?_ ?_ ?_
  · intro W hW; go_simp; done
  · intro W hW; exact (sum_any (rt a) (rt b) t W (rt_len a HL.out.1) (rt_len b HL.out.2)).mono (fun _ _ h => ⟨h.1, hW.below h.2⟩)
  go_big_quiet_on; simp only [Act.put, List.setIfInBounds_toArray, List.set_cons_zero, List.set_cons_succ]
  go_big_quiet_want
  refine quiet_pair (.tmp 12) (.tmp 18) rfl (addR (lf a) (lf b) t) (addR (rt a) (rt b) t) rfl rfl (addR_len _ _ _ (lf_len a HL.out.1) (lf_len b HL.out.2)) (addR_len _ _ _ (rt_len a HL.out.1) (rt_len b HL.out.2)) ?_
  rw [addR_parts a b t HL.out.1 HL.out.2]
  go_big_quiet_on; simp only [Act.put, List.setIfInBounds_toArray, List.set_cons_zero, List.set_cons_succ]
  refine wpQuiet_nil ?_
  intro w9 hw9
  have H9 : Hid (Sp w a b zp w9) := hw9
  have HAL : Hid ((addR a b t).length = 128) := addR_len2 a b t HL.out.1 HL.out.2
  have HIa := size_pair (addR a b t) HAL.out
  clear hw9 HS
  go_wp2_with (first
    | (refine wpList_put rfl 65 (.tmp 6) (.tmp 19) rfl (w.heap.size + 2) 0 (rc zp) (rc (addR a b t)) 65 rfl rfl H9.out.z HIa (by rw [rc_size, rc_size, zp_len, HAL.out]; omega) (rc_one _) ?_; intro w2 HB3 HG3 hs3)
    | fail)
  refine bodyPost_ret (results_row rfl _ _ (w.heap.size + 2) 65 (rc (addR a b t)) _ rfl (by have := HB3.out; rw [putC_all _ _ (by rw [zp_len, HAL.out])] at this; exact this) Try.underlying65 rfl HIa) rfl ⟨rfl, below_own H9.out.bel (by have := H9.out.sz; omega) HG3.out (by omega)⟩
end Go.Proofs.Ytblmblbkfdcbjaa
