/- The shards' law's own fresh. -/
import Derived.Test.YtblmblbkfdcbjaaF16H
import Derived.Test.YtblmblbkfdcbjaaM4
namespace Go.Proofs.Ytblmblbkfdcbjaa
open Go.RowKit
set_option linter.unusedSimpArgs false
set_option linter.unusedVariables false
set_option maxHeartbeats 1000000 in
set_option maxRecDepth 100000 in
theorem fresh7_any (w : World) (ao a2 a3 : Option Addr) (c2 c3 n : Nat) (xs : List ByteArray) (hn : xs.length = n) (hn64 : n ≤ 64)
    (h1 : (ao = none ∧ n = 0) ∨ ∃ g, ao = some ⟨g, 0, none⟩ ∧ Bk w g (txc xs) 9) (h2 : TxL w a2 xs) (h3 : TxL w a3 xs)
    (d2 : ∀ b o s, a2 = some ⟨b, o, s⟩ → (ao.map (·.block)) ≠ some b) (d3 : ∀ b o s, a3 = some ⟨b, o, s⟩ → (ao.map (·.block)) ≠ some b) :
    Calls Try.prog 21 #[.slice ao n n, .slice a2 n c2, .slice a3 n c3] w fun e w' => e = .returned (.bool true) ∧ w.grownBy w' (ao.map (·.block)) := by
  have x1 : TxL w ao xs := by
    rcases h1 with ⟨rfl, h0⟩ | ⟨g, rfl, hB⟩
    · have : xs = [] := List.eq_nil_of_length_eq_zero (by omega)
      rw [this]; intro i x hx; simp at hx
    · exact hB.txl
  have s1 := fun W hW1 hW3 => rsame_any ao a3 n c3 xs xs W hW1 hW3 (by omega) (by omega)
  have s2 := fun W hW2 hW3 => rsame_any a2 a3 c2 c3 xs xs W hW2 hW3 (by omega) (by omega)
  rw [decide_eq_true rfl, hn] at s1 s2
  obtain ⟨r, hr⟩ : ∃ r, ao.map (·.block) = r := ⟨_, rfl⟩
  rw [hr] at d2 d3 ⊢
  have S1 : Hid _ := s1
  have S2 : Hid _ := s2
  have X1 : Hid (TxL w ao xs) := x1
  have X2 : Hid (TxL w a2 xs) := h2
  have X3 : Hid (TxL w a3 xs) := h3
  have D2 : Hid _ := d2
  have D3 : Hid _ := d3
  have HA : Hid ((ao = none ∧ n = 0) ∨ ∃ g, ao = some ⟨g, 0, none⟩ ∧ Bk w g (txc xs) 9) := h1
  have HR : Hid (ao.map (·.block) = r) := hr
  have HN : Hid (xs.length = n) := hn
  clear s1 s2 x1 h1 h2 h3 d2 d3 hr hn
  obtain ⟨i0, hi, hz0, hz1, hz2⟩ := info_parts inf_str
  go_enter Try.func21, Try.ntmps21
  go_wp2_with fail
  refine Calls.mono (S1.out _ X1.out X3.out) ?_
  rintro e w1 ⟨rfl, hb1⟩
  have B1 : Hid (Below w.heap.size w w1) := hb1
  clear hb1
  go_wp2_with fail
  refine Calls.mono (S2.out _ (X2.out.below B1.out) (X3.out.below B1.out)) ?_
  rintro e w2 ⟨rfl, hb2⟩
  have B2 : Hid (Below w.heap.size w w2) := B1.out.trans (hb2.mono B1.out.size)
  clear hb2 B1
  go_wp2_with fail
  go_loopw [7] (fun t wr => ∃ (i : Nat) (ys : List ByteArray), i ≤ n ∧ t = .int .i64 i ∧ Hid (ys.length = n) ∧ Hid ((ao = none ∧ n = 0) ∨ ∃ g, ao = some ⟨g, 0, none⟩ ∧ Bk wr g (txc ys) 9) ∧ Hid (w.grownBy wr r)) (fun t _ => n - (intOf t).toNat)
  case atStart =>
    refine ⟨0, xs, by omega, rfl, HN.out, ?_, gr_of_below B2.out _⟩
    rcases HA.out with h | ⟨g, h, hB⟩
    · exact .inl h
    · exact .inr ⟨g, h, hB.grown (gr_of_below B2.out none) (by simp)⟩
  case round =>
    obtain ⟨i, ys, hin, rfl, HYN, HYA, HG⟩ := hrel
    by_cases hlt : i < n
    · have hiz : (i : Int) < (n : Nat) := by omega
      rcases HYA.out with ⟨_, h0⟩ | ⟨g, rfl, hB⟩
      · omega
      · obtain ⟨old, hold⟩ : ∃ old, ys[i]? = some old := ⟨_, List.getElem?_eq_getElem (by rw [HYN.out]; exact hlt)⟩
        have hcl : wr.cell? ⟨g, i, none⟩ = some (.string old) := by rw [hB.cell, txc_get, hold]; rfl
        have hfr := hB.frozen i
        have hrg : r = some g := by rw [← HR.out]; rfl
        have HNX : Hid (∀ s, Bk (wr.setCell ⟨g, i, none⟩ (.string s)) g (txc (ys.set i s)) 9) := fun s => by have h := hB.set i (.string s); rw [txc_set] at h; exact h
        have HGX : Hid (∀ s, w.grownBy (wr.setCell ⟨g, i, none⟩ (.string s)) r) := fun s => by rw [hrg]; exact Lib.grownBy_setB (by rw [← hrg]; exact HG.out) i _
        clear hold hB hrg
        go_wp2
        go_roundw
        case rel => exact ⟨i + 1, _, by omega, by go_num, by show _ = n; rw [List.length_set, HYN.out], .inr ⟨g, rfl, HNX.out _⟩, HGX.out _⟩
        case measure => simp [intOf]; omega
    · go_wp2
      go_loopw [0, 8] (fun v t wr => ∃ k : Nat, k ≤ 20 ∧ t = .int .i64 k ∧ Hid (Grw w ao n k v wr) ∧ Hid (w.grownBy wr r)) (fun _ t _ => 20 - (intOf t).toNat)
      case atStart =>
        refine ⟨0, by omega, rfl, .inl ⟨rfl, rfl, ?_⟩, HG.out⟩
        rcases HYA.out with ⟨h, h0⟩ | ⟨g, h, hB⟩
        · exact ⟨[], by simp [h0], fun i x hx => by simp at hx⟩
        · exact ⟨ys, HYN.out, by rw [h]; exact hB.txl⟩
      case round =>
        clear HYN HYA HG hlt hin
        obtain ⟨k, hk, rfl, HV, HG⟩ := hrel
        have hsw : w.heap.size ≤ wr.heap.size := HG.out.size
        by_cases hlk : k < 20
        · have hkz : (k : Int) < 20 := by omega
          rcases HV.out with ⟨rfl, rfl, zs, hzl, hzt⟩ | ⟨hk1, zs, hown⟩
          · have HZ1 : Hid (∀ b, ao = some b → ∀ (j : Nat) (u : Value), (sv zs)[j]? = some u → (wr.alloc (.cells #[.string ⟨#[98, 101, 104, 105, 110, 100]⟩] 9)).cell? (b.add j) = some u) := by
              intro b hb j u hj
              rw [sv, List.getElem?_map] at hj
              obtain ⟨x, hx, rfl⟩ := Option.map_eq_some_iff.1 hj
              obtain ⟨g, o, e, hlt, hc⟩ := (hzt.alloc (.cells #[.string ⟨#[98, 101, 104, 105, 110, 100]⟩] 9)) j x hx
              rw [hb] at e
              cases e
              rw [WideShapes.add_plain]
              exact hc
            have HZ2 : Hid (ao = none → n = 0 ∧ n = 0) := fun h => by
              have : n = 0 := by
                rcases HA.out with h1 | ⟨g, h1, _⟩
                · exact h1.2
                · rw [h] at h1; cases h1
              exact ⟨this, this⟩
            have HZL : Hid ((sv zs).length = n * 1) := by show (sv zs).length = n * 1; simp [sv, hzl]
            clear hzl hzt
            go_wp2_with (at_builtin; refine wpList_append_grows _ rfl _ _ 22 rfl 9 i0 (.string ⟨#[]⟩) 1 16 Try.underlying22 hi hz0 hz1 hz2 rfl (by decide) ao n n (sv zs) rfl HZ2.out HZL.out HZ1.out ⟨wr.heap.size, 0, none⟩ 1 1 [.string ⟨#[98, 101, 104, 105, 110, 100]⟩] rfl rfl (news_one _ _ _) (one_str _) (by omega) (by unfold maxLen; omega) (by omega) ?_)
            intro v' w7 hown1 hgrow
            have HO7 : Hid (w7.ownsRow w.heap.size 9 1 v' (n + 1) _) := hown1.lower (by omega)
            have HG7 : Hid (w.grownBy w7 r) := gr_new HG.out ((World.grownBy_alloc wr _ none).trans hgrow) (by simp)
            clear hown1 hgrow HZ1 HZ2 HZL
            go_wp2
            go_roundw
            case rel => exact ⟨1, by omega, by go_num, .inr ⟨by omega, _, HO7.out⟩, HG7.out⟩
            case measure => simp [intOf]
          · have HO : Hid (wr.ownsRow w.heap.size 9 1 u0 (n + k) zs) := hown
            clear hown
            go_wp2_with (at_builtin; refine wpList_append_own _ rfl _ _ 22 rfl w.heap.size 9 i0 (.string ⟨#[]⟩) 1 16 Try.underlying22 hi hz0 hz1 hz2 rfl (by decide) _ _ _ rfl (HO.out.alloc _) ⟨wr.heap.size, 0, none⟩ 1 1 [.string ⟨#[98, 101, 104, 105, 110, 100]⟩] rfl rfl (news_one _ _ _) (one_str _) (by unfold maxLen; omega) (by omega) (by simp; omega) ?_)
            intro v' w7 hown1 hgrow _
            have HO7 : Hid (w7.ownsRow w.heap.size 9 1 v' (n + (k + 1)) _) := hown1
            have HG7 : Hid (w.grownBy w7 r) := gr_new (gr_new HG.out (World.grownBy_alloc wr _ none) (by simp)) hgrow (fun g hg => .inr (own_block HO.out g hg))
            clear hown1 hgrow HO
            go_wp2
            go_roundw
            case rel => exact ⟨k + 1, by omega, by go_num, .inr ⟨by omega, _, HO7.out⟩, HG7.out⟩
            case measure => simp [intOf]; omega
        · have hk20 : k = 20 := by omega
          obtain ⟨b, c, rfl⟩ : ∃ b c, u0 = .slice b (n + 20) c := by
            rcases HV.out with ⟨h, _⟩ | ⟨_, zs, hown⟩
            · omega
            · obtain ⟨b, c, h⟩ := own_slice hown
              exact ⟨b, c, by rw [h, hk20]⟩
          clear hk20 HV
          go_wp2_with fail
          refine Calls.mono (S2.out _ (X2.out.grown HG.out D2.out) (X3.out.grown HG.out D3.out)) ?_
          rintro e w9 ⟨rfl, hb9⟩
          have HG9 : Hid (w.grownBy w9 r) := gr_new HG.out (gr_of_below hb9 none) (by simp)
          clear hb9
          go_wp2
          go_ret
          exact ⟨rfl, HG9.out⟩
theorem fresh7_of {w0 w1 w2 w : World} {ao a2 a3 : Option Addr} {c2 c3 : Nat} {xs : List ByteArray} {n : Nat} (hl : xs.length = n) (hn : n ≤ 64) (h3 : Ans w0 a3 xs w) (h1 : Mad w1 ao xs w) (h2 : Mad w2 a2 xs w)
    (s3 : ∀ b o s, a3 = some ⟨b, o, s⟩ → b < w1.heap.size) (s1 : ∀ b o s, ao = some ⟨b, o, s⟩ → b < w2.heap.size) :
    Calls Try.prog 21 #[.slice ao n n, .slice a2 n c2, .slice a3 n c3] w fun e w' => e = .returned (.bool true) ∧ w.grownBy w' (ao.map (·.block)) := by
  refine fresh7_any w ao a2 a3 c2 c3 n xs hl hn ?_ h2.txl h3.1 (fun b o s e e2 => ?_) (fun b o s e e2 => ?_)
  · rcases h1 with ⟨e, h0⟩ | ⟨g, e, _, hB⟩
    · exact .inl ⟨e, by omega⟩
    · exact .inr ⟨g, e, hB⟩
  · cases ao with
    | none => cases e2
    | some q =>
      obtain ⟨bb, oo, ss⟩ := q
      simp at e2
      have := s1 bb oo ss rfl
      have := (h2.lo b o s e).1
      omega
  · cases ao with
    | none => cases e2
    | some q =>
      obtain ⟨bb, oo, ss⟩ := q
      simp at e2
      have := s3 b o s e
      have := (h1.lo bb oo ss rfl).1
      omega
end Go.Proofs.Ytblmblbkfdcbjaa
