import Derived.Test.YtblmblbkfdcbjaaY17
import Derived.Test.YtblmblbkfdcbjaaY13
import Derived.Test.YtblmblbkfdcbjaaY3
import Derived.ArgAppend
import Derived.Test.YtblmblbkfdcbjaaY11
import Derived.Lib.BufferOwn
import Derived.Test.YtblmblbkfdcbjaaY12
import Derived.Deep.Upon
import Derived.Test.YtblmblbkfdcbjaaRows
import Derived.ProofKit
/- The document's Fits. -/
namespace Go.Proofs.Ytblmblbkfdcbjaa
open Go.RowKit
set_option linter.unusedSimpArgs false
set_option linter.unusedVariables false
set_option maxHeartbeats 1000000 in
set_option maxRecDepth 100000 in
theorem rfits_any (a : Option Addr) (c n : Nat) (k : Int) (xs : List ByteArray) (w : World) (hx : TxL w a xs) (nx : xs.length = n) (hnc : n ≤ c) (hcm : c ≤ maxLen) (ln : n ≤ 4611686018427387904) (sx : ∀ x ∈ xs, x.size ≤ 281474976710656) (k1 : -9223372036854775808 ≤ k) (k2 : k ≤ 9223372036854775807) :
    Calls Try.prog 28 #[.slice a n c, .int .i64 k] w fun e w' => e = .returned (.tuple #[.bool (ftB xs k), .int .i64 (ftE xs k)]) ∧ Below w.heap.size w w' := by
  have c2 := fun W hW => alike_any a c xs W hW (by omega)
  rw [nx] at c2
  have HX : Hid (TxL w a xs) := hx
  by_cases h1 : 1 ≤ k
  · by_cases h2 : k ≤ 32
    · by_cases h3 : k ≤ (n : Int)
      · have h3a : ¬ (n : Int) < k := by omega
        by_cases h4 : n ≤ 64
        · have h4a : ¬ (n : Int) > 64 := by omega
          cases hev : evn xs with
          | false =>
            rw [hev] at c2
            have C2 : Hid _ := c2
            have e1 : ftB xs k = false := if_neg (fun h => by have := h.2; rw [hev] at this; cases this)
            have e2 : ftE xs k = 1 := if_neg (fun h => by have := h.2; rw [hev] at this; cases this)
            rw [e1, e2]
            clear e1 e2 nx hx sx c2 hev
            go_enter Try.func28, Try.ntmps28
            go_wp2_with fail
            refine Calls.mono (C2.out _ HX.out) ?_
            rintro e w2 ⟨rfl, hb2⟩
            have B2 : Hid (Below w.heap.size w w2) := hb2
            clear hb2
            go_wp2
            go_ret2
            exact ⟨rfl, B2.out⟩
          | true =>
            rw [hev] at c2
            have C2 : Hid _ := c2
            have hok : ftOk xs k := ⟨by rw [nx]; exact ⟨⟨h1, h2⟩, h3, by omega⟩, hev⟩
            obtain ⟨q, rfl⟩ : ∃ q : Nat, k = q := ⟨k.toNat, by omega⟩
            have e1 : ftB xs (q : Int) = decide (mixL (cyX (n - q) q) (xs.take q) (wid xs) = xs.drop q) := by unfold ftB; rw [if_pos hok, Int.toNat_natCast, nx]
            have e2 : ftE xs (q : Int) = 0 := if_pos hok
            rw [e1, e2]
            have hq1 : 1 ≤ q := by omega
            have hq2 : q ≤ 32 := by omega
            have hqn : q ≤ n := by omega
            obtain ⟨x0, hx0⟩ : ∃ x0, xs[0]? = some x0 := ⟨_, List.getElem?_eq_getElem (by omega)⟩
            obtain ⟨ga, oa, rfl, hga, _⟩ := hx 0 x0 hx0
            have tl : (xs.take q).length = q := by rw [List.length_take, nx]; omega
            have tw : wid (xs.take q) = wid xs := by rw [wid, wid, List.getElem?_take, if_pos (by omega)]
            have tev : evn (xs.take q) = true := evn_yes _ (fun i x hx => by rw [tw]; exact evn_all xs hev x (List.mem_of_mem_take (List.mem_of_getElem? hx)))
            obtain ⟨m, hm⟩ : ∃ m, n - q = m := ⟨_, rfl⟩
            have hmz : (n : Int) - (q : Int) = (m : Int) := by omega
            have hok2 : enOk (xs.take q) (m : Int) := ⟨by rw [tl]; omega, tev, by omega, by rw [tl]; omega⟩
            have eX : enX (xs.take q) (m : Int) = mixL (cyX m q) (xs.take q) (wid xs) := by unfold enX; rw [if_pos hok2, Int.toNat_natCast, tl, tw]
            have eE : enE (xs.take q) (m : Int) = 0 := if_pos hok2
            have ml : (mixL (cyX m q) (xs.take q) (wid xs)).length = m := by rw [mixL_len, cyX_len m q (by omega) hq1 (by omega)]
            have c3 := fun W hW => rencode_any (some ⟨ga, oa, none⟩) c q (xs.take q) (m : Int) W hW tl (by omega) (fun x hx => sx x (List.mem_of_mem_take hx)) (by omega) (by omega)
            have dl : (xs.drop q).length = m := by rw [List.length_drop, nx]; exact hm
            have c5 := fun p b cp cb W hW hV => rsame_any p b cp cb (mixL (cyX m q) (xs.take q) (wid xs)) (xs.drop q) W hW hV (by rw [ml]; omega) (by rw [dl]; omega)
            rw [eX, eE, ml] at c3
            rw [ml, dl] at c5
            rw [hm]
            obtain ⟨R, hR⟩ : ∃ R, mixL (cyX m q) (xs.take q) (wid xs) = R := ⟨_, rfl⟩
            rw [hR] at c3 c5 ⊢
            have hmn : q + m = n := by omega
            have hqz : (q : Int) ≤ (n : Nat) := by omega
            have C3 : Hid _ := c3
            have C5 : Hid _ := c5
            have HXa : Hid (TxL w (some ⟨ga, oa, none⟩) xs) := hx
            have NXs : Hid (xs.length = n) := nx
            clear c2 c3 c5 hR hm hx0 ml dl e1 e2 hok hev nx hx sx HX k1 k2 tl tw tev hok2 eX eE
            by_cases hcq : c = q
            · have HDR : Hid (∀ W0 W, Below W0.heap.size W0 W → TxL W (some ⟨ga, oa, none⟩) (xs.drop q)) := fun W0 W hW => by
                rw [List.drop_eq_nil_of_le (by rw [NXs.out]; omega)]
                intro i x hx
                simp at hx
              subst hcq
              go_enter Try.func28, Try.ntmps28
              go_wp2_with fail
              refine Calls.mono (C2.out _ HXa.out) ?_
              rintro e w2 ⟨rfl, hb2⟩
              have B2 : Hid (Below w.heap.size w w2) := hb2
              have HX2 : Hid (TxL w2 (some ⟨ga, oa, none⟩) xs) := HXa.out.below hb2
              clear hb2
              go_wp2_with fail
              refine Calls.mono (C3.out _ (HX2.out.take c)) ?_
              rintro e w3 ⟨ap, cp, rfl, hA, hb3⟩
              have TP : Hid (TxL w3 ap R) := hA.1
              have B3 : Hid (Below w2.heap.size w2 w3) := hb3
              have B3w : Hid (Below w.heap.size w w3) := B2.out.trans (hb3.mono B2.out.size)
              clear hA hb3
              have hnq : n - c = m := by omega
              go_wp2_with fail
              refine Calls.mono (C5.out _ _ _ _ _ TP.out (HDR.out _ _ B3.out)) ?_
              rintro e w4 ⟨rfl, hb4⟩
              have B4 : Hid (Below w.heap.size w w4) := B3w.out.trans (hb4.mono B3w.out.size)
              clear hb4
              go_wp2
              go_ret2
              exact ⟨rfl, B4.out⟩
            · have HDR : Hid (∀ W0 W, TxL W0 (some ⟨ga, oa, none⟩) xs → Below W0.heap.size W0 W → TxL W (some ⟨ga, oa + q, none⟩) (xs.drop q)) := fun W0 W h0 hW => (h0.below hW).drop q
              go_enter Try.func28, Try.ntmps28
              go_wp2_with fail
              refine Calls.mono (C2.out _ HXa.out) ?_
              rintro e w2 ⟨rfl, hb2⟩
              have B2 : Hid (Below w.heap.size w w2) := hb2
              have HX2 : Hid (TxL w2 (some ⟨ga, oa, none⟩) xs) := HXa.out.below hb2
              clear hb2
              go_wp2_with fail
              refine Calls.mono (C3.out _ (HX2.out.take q)) ?_
              rintro e w3 ⟨ap, cp, rfl, hA, hb3⟩
              have TP : Hid (TxL w3 ap R) := hA.1
              have B3 : Hid (Below w2.heap.size w2 w3) := hb3
              have B3w : Hid (Below w.heap.size w w3) := B2.out.trans (hb3.mono B2.out.size)
              clear hA hb3
              have hnq : n - q = m := by omega
              go_wp2_with fail
              refine Calls.mono (C5.out _ _ _ _ _ TP.out (HDR.out _ _ HX2.out B3.out)) ?_
              rintro e w4 ⟨rfl, hb4⟩
              have B4 : Hid (Below w.heap.size w w4) := B3w.out.trans (hb4.mono B3w.out.size)
              clear hb4
              go_wp2
              go_ret2
              exact ⟨rfl, B4.out⟩
        · have h4a : (n : Int) > 64 := by omega
          have e1 : ftB xs k = false := if_neg (fun h => h4 (by have := h.1.2.2; omega))
          have e2 : ftE xs k = 1 := if_neg (fun h => h4 (by have := h.1.2.2; omega))
          rw [e1, e2]
          clear e1 e2 nx hx sx c2
          go_enter Try.func28, Try.ntmps28
          go_wp2
          go_ret2
          exact ⟨rfl, Below.refl _ _⟩
      · have h3a : (n : Int) < k := by omega
        have e1 : ftB xs k = false := if_neg (fun h => h3 (by have := h.1.2.1; omega))
        have e2 : ftE xs k = 1 := if_neg (fun h => h3 (by have := h.1.2.1; omega))
        rw [e1, e2]
        clear e1 e2 nx hx sx c2
        go_enter Try.func28, Try.ntmps28
        go_wp2
        go_ret2
        exact ⟨rfl, Below.refl _ _⟩
    · have h2a : k > 32 := by omega
      have e1 : ftB xs k = false := if_neg (fun h => h2 h.1.1.2)
      have e2 : ftE xs k = 1 := if_neg (fun h => h2 h.1.1.2)
      rw [e1, e2]
      clear e1 e2 nx hx sx c2
      go_enter Try.func28, Try.ntmps28
      go_wp2
      go_ret2
      exact ⟨rfl, Below.refl _ _⟩
  · have h1a : k < 1 := by omega
    have e1 : ftB xs k = false := if_neg (fun h => h1 h.1.1.1)
    have e2 : ftE xs k = 1 := if_neg (fun h => h1 h.1.1.1)
    rw [e1, e2]
    clear e1 e2 nx hx sx c2
    go_enter Try.func28, Try.ntmps28
    go_wp2
    go_ret2
    exact ⟨rfl, Below.refl _ _⟩
end Go.Proofs.Ytblmblbkfdcbjaa
/- What a list is while it grows. -/
namespace Go.Proofs.Ytblmblbkfdcbjaa
open Go.RowKit
set_option linter.unusedSimpArgs false
set_option linter.unusedVariables false
/-- Texts that lie elsewhere stay. -/
theorem TxL.grown {w w' : World} {a : Option Addr} {xs : List ByteArray} {r : Option Nat} (h : TxL w a xs) (hg : w.grownBy w' r) (hr : ∀ b o s, a = some ⟨b, o, s⟩ → r ≠ some b) : TxL w' a xs := by
  intro i x hx
  obtain ⟨g, o, e, hlt, hc⟩ := h i x hx
  refine ⟨g, o, e, Nat.lt_of_lt_of_le hlt hg.size, ?_⟩
  rw [← hc]
  unfold World.cell?
  simp only
  rw [hg.block g hlt (fun q => hr g o none e q.symm)]
theorem gr_new {w wr w1 : World} {r r' : Option Nat} (h : w.grownBy wr r) (h1 : wr.grownBy w1 r') (hr : ∀ g, r' = some g → r = some g ∨ w.heap.size ≤ g) : w.grownBy w1 r := by
  refine ⟨by rw [h1.os, h.os], by rw [h1.tape, h.tape], by rw [h1.output, h.output], Nat.le_trans h.size h1.size, fun k hk hkr => ?_⟩
  rw [h1.block k (Nat.lt_of_lt_of_le hk h.size) (fun e => ?_), h.block k hk hkr]
  rcases hr k e.symm with h2 | h2
  · exact hkr h2.symm
  · omega
theorem own_block {w : World} {B n : Nat} {v : Value} {xs : List Value} {e : TypeId} (h : w.ownsRow B e 1 v n xs) : ∀ g, v.ownBlock = some g → B ≤ g := by
  intro g hg
  rcases h.2 with ⟨rfl, _⟩ | ⟨g2, cap, cur, rfl, hle, _⟩
  · cases hg
  · simp [Value.ownBlock] at hg; omega
theorem own_slice {w : World} {B n : Nat} {v : Value} {xs : List Value} {e : TypeId} (h : w.ownsRow B e 1 v n xs) : ∃ a c, v = .slice a n c := by
  rcases h.2 with ⟨rfl, h0⟩ | ⟨g2, cap, cur, rfl, hle, _⟩
  · exact ⟨none, 0, by rw [h0]⟩
  · exact ⟨_, _, rfl⟩
/-- A list under growth: as it was told, or a new one. -/
def Grw (w : World) (ao : Option Addr) (n k : Nat) (v : Value) (wr : World) : Prop :=
  (k = 0 ∧ v = .slice ao n n ∧ ∃ ys : List ByteArray, ys.length = n ∧ TxL wr ao ys) ∨ (1 ≤ k ∧ ∃ xs, wr.ownsRow w.heap.size 9 1 v (n + k) xs)
end Go.Proofs.Ytblmblbkfdcbjaa
/- The shards' law's own fresh. -/
namespace Go.Proofs.Ytblmblbkfdcbjaa
open Go.RowKit
set_option linter.unusedSimpArgs false
set_option linter.unusedVariables false
set_option maxHeartbeats 1000000 in
set_option maxRecDepth 100000 in
theorem fresh7_any (w : World) (ao a2 a3 : Option Addr) (c2 c3 n : Nat) (xs : List ByteArray) (hn : xs.length = n) (hn64 : n ≤ 64)
    (h1 : (ao = none ∧ n = 0) ∨ ∃ g, ao = some ⟨g, 0, none⟩ ∧ Bk w g (txc xs) 9) (h2 : TxL w a2 xs) (h3 : TxL w a3 xs)
    (d2 : ∀ b o s, a2 = some ⟨b, o, s⟩ → (ao.map (·.block)) ≠ some b) (d3 : ∀ b o s, a3 = some ⟨b, o, s⟩ → (ao.map (·.block)) ≠ some b) :
    Calls Try.prog 21 #[.slice ao n n, .slice a2 n c2, .slice a3 n c3] w fun e w' => e = .returned (.bool true) ∧ w.grownBy w' (ao.map (·.block)) := by
  have x1 : TxL w ao xs := by
    rcases h1 with ⟨rfl, h0⟩ | ⟨g, rfl, hB⟩
    · have : xs = [] := List.eq_nil_of_length_eq_zero (by omega)
      rw [this]; intro i x hx; simp at hx
    · exact hB.txl
  have s1 := fun W hW1 hW3 => rsame_any ao a3 n c3 xs xs W hW1 hW3 (by omega) (by omega)
  have s2 := fun W hW2 hW3 => rsame_any a2 a3 c2 c3 xs xs W hW2 hW3 (by omega) (by omega)
  rw [decide_eq_true rfl, hn] at s1 s2
  obtain ⟨r, hr⟩ : ∃ r, ao.map (·.block) = r := ⟨_, rfl⟩
  rw [hr] at d2 d3 ⊢
  have S1 : Hid _ := s1
  have S2 : Hid _ := s2
  have X1 : Hid (TxL w ao xs) := x1
  have X2 : Hid (TxL w a2 xs) := h2
  have X3 : Hid (TxL w a3 xs) := h3
  have D2 : Hid _ := d2
  have D3 : Hid _ := d3
  have HA : Hid ((ao = none ∧ n = 0) ∨ ∃ g, ao = some ⟨g, 0, none⟩ ∧ Bk w g (txc xs) 9) := h1
  have HR : Hid (ao.map (·.block) = r) := hr
  have HN : Hid (xs.length = n) := hn
  clear s1 s2 x1 h1 h2 h3 d2 d3 hr hn
  obtain ⟨i0, hi, hz0, hz1, hz2⟩ := info_parts inf_str
  go_enter Try.func21, Try.ntmps21
  go_wp2_with fail
  refine Calls.mono (S1.out _ X1.out X3.out) ?_
  rintro e w1 ⟨rfl, hb1⟩
  have B1 : Hid (Below w.heap.size w w1) := hb1
  clear hb1
  go_wp2_with fail
  refine Calls.mono (S2.out _ (X2.out.below B1.out) (X3.out.below B1.out)) ?_
  rintro e w2 ⟨rfl, hb2⟩
  have B2 : Hid (Below w.heap.size w w2) := B1.out.trans (hb2.mono B1.out.size)
  clear hb2 B1
  go_wp2_with fail
  go_loopw [7] (fun t wr => ∃ (i : Nat) (ys : List ByteArray), i ≤ n ∧ t = .int .i64 i ∧ Hid (ys.length = n) ∧ Hid ((ao = none ∧ n = 0) ∨ ∃ g, ao = some ⟨g, 0, none⟩ ∧ Bk wr g (txc ys) 9) ∧ Hid (w.grownBy wr r)) (fun t _ => n - (intOf t).toNat)
  case atStart =>
    refine ⟨0, xs, by omega, rfl, HN.out, ?_, gr_of_below B2.out _⟩
    rcases HA.out with h | ⟨g, h, hB⟩
    · exact .inl h
    · exact .inr ⟨g, h, hB.grown (gr_of_below B2.out none) (by simp)⟩
  case round =>
    obtain ⟨i, ys, hin, rfl, HYN, HYA, HG⟩ := hrel
    by_cases hlt : i < n
    · have hiz : (i : Int) < (n : Nat) := by omega
      rcases HYA.out with ⟨_, h0⟩ | ⟨g, rfl, hB⟩
      · omega
      · obtain ⟨old, hold⟩ : ∃ old, ys[i]? = some old := ⟨_, List.getElem?_eq_getElem (by rw [HYN.out]; exact hlt)⟩
        have hcl : wr.cell? ⟨g, i, none⟩ = some (.string old) := by rw [hB.cell, txc_get, hold]; rfl
        have hfr := hB.frozen i
        have hrg : r = some g := by rw [← HR.out]; rfl
        have HNX : Hid (∀ s, Bk (wr.setCell ⟨g, i, none⟩ (.string s)) g (txc (ys.set i s)) 9) := fun s => by have h := hB.set i (.string s); rw [txc_set] at h; exact h
        have HGX : Hid (∀ s, w.grownBy (wr.setCell ⟨g, i, none⟩ (.string s)) r) := fun s => by rw [hrg]; exact Lib.grownBy_setB (by rw [← hrg]; exact HG.out) i _
        clear hold hB hrg
        go_wp2
        go_roundw
        case rel => exact ⟨i + 1, _, by omega, by go_num, by show _ = n; rw [List.length_set, HYN.out], .inr ⟨g, rfl, HNX.out _⟩, HGX.out _⟩
        case measure => simp [intOf]; omega
    · go_wp2
      go_loopw [0, 8] (fun v t wr => ∃ k : Nat, k ≤ 20 ∧ t = .int .i64 k ∧ Hid (Grw w ao n k v wr) ∧ Hid (w.grownBy wr r)) (fun _ t _ => 20 - (intOf t).toNat)
      case atStart =>
        refine ⟨0, by omega, rfl, .inl ⟨rfl, rfl, ?_⟩, HG.out⟩
        rcases HYA.out with ⟨h, h0⟩ | ⟨g, h, hB⟩
        · exact ⟨[], by simp [h0], fun i x hx => by simp at hx⟩
        · exact ⟨ys, HYN.out, by rw [h]; exact hB.txl⟩
      case round =>
        clear HYN HYA HG hlt hin
        obtain ⟨k, hk, rfl, HV, HG⟩ := hrel
        have hsw : w.heap.size ≤ wr.heap.size := HG.out.size
        by_cases hlk : k < 20
        · have hkz : (k : Int) < 20 := by omega
          rcases HV.out with ⟨rfl, rfl, zs, hzl, hzt⟩ | ⟨hk1, zs, hown⟩
          · have HZ1 : Hid (∀ b, ao = some b → ∀ (j : Nat) (u : Value), (sv zs)[j]? = some u → (wr.alloc (.cells #[.string ⟨#[98, 101, 104, 105, 110, 100]⟩] 9)).cell? (b.add j) = some u) := by
              intro b hb j u hj
              rw [sv, List.getElem?_map] at hj
              obtain ⟨x, hx, rfl⟩ := Option.map_eq_some_iff.1 hj
              obtain ⟨g, o, e, hlt, hc⟩ := (hzt.alloc (.cells #[.string ⟨#[98, 101, 104, 105, 110, 100]⟩] 9)) j x hx
              rw [hb] at e
              cases e
              rw [WideShapes.add_plain]
              exact hc
            have HZ2 : Hid (ao = none → n = 0 ∧ n = 0) := fun h => by
              have : n = 0 := by
                rcases HA.out with h1 | ⟨g, h1, _⟩
                · exact h1.2
                · rw [h] at h1; cases h1
              exact ⟨this, this⟩
            have HZL : Hid ((sv zs).length = n * 1) := by show (sv zs).length = n * 1; simp [sv, hzl]
            clear hzl hzt
            go_wp2_with (at_builtin; refine wpList_append_grows _ rfl _ _ 22 rfl 9 i0 (.string ⟨#[]⟩) 1 16 Try.underlying22 hi hz0 hz1 hz2 rfl (by decide) ao n n (sv zs) rfl HZ2.out HZL.out HZ1.out ⟨wr.heap.size, 0, none⟩ 1 1 [.string ⟨#[98, 101, 104, 105, 110, 100]⟩] rfl rfl (news_one _ _ _) (one_str _) (by omega) (by unfold maxLen; omega) (by omega) ?_)
            intro v' w7 hown1 hgrow
            have HO7 : Hid (w7.ownsRow w.heap.size 9 1 v' (n + 1) _) := hown1.lower (by omega)
            have HG7 : Hid (w.grownBy w7 r) := gr_new HG.out ((World.grownBy_alloc wr _ none).trans hgrow) (by simp)
            clear hown1 hgrow HZ1 HZ2 HZL
            go_wp2
            go_roundw
            case rel => exact ⟨1, by omega, by go_num, .inr ⟨by omega, _, HO7.out⟩, HG7.out⟩
            case measure => simp [intOf]
          · have HO : Hid (wr.ownsRow w.heap.size 9 1 u0 (n + k) zs) := hown
            clear hown
            go_wp2_with (at_builtin; refine wpList_append_own _ rfl _ _ 22 rfl w.heap.size 9 i0 (.string ⟨#[]⟩) 1 16 Try.underlying22 hi hz0 hz1 hz2 rfl (by decide) _ _ _ rfl (HO.out.alloc _) ⟨wr.heap.size, 0, none⟩ 1 1 [.string ⟨#[98, 101, 104, 105, 110, 100]⟩] rfl rfl (news_one _ _ _) (one_str _) (by unfold maxLen; omega) (by omega) (by simp; omega) ?_)
            intro v' w7 hown1 hgrow _
            have HO7 : Hid (w7.ownsRow w.heap.size 9 1 v' (n + (k + 1)) _) := hown1
            have HG7 : Hid (w.grownBy w7 r) := gr_new (gr_new HG.out (World.grownBy_alloc wr _ none) (by simp)) hgrow (fun g hg => .inr (own_block HO.out g hg))
            clear hown1 hgrow HO
            go_wp2
            go_roundw
            case rel => exact ⟨k + 1, by omega, by go_num, .inr ⟨by omega, _, HO7.out⟩, HG7.out⟩
            case measure => simp [intOf]; omega
        · have hk20 : k = 20 := by omega
          obtain ⟨b, c, rfl⟩ : ∃ b c, u0 = .slice b (n + 20) c := by
            rcases HV.out with ⟨h, _⟩ | ⟨_, zs, hown⟩
            · omega
            · obtain ⟨b, c, h⟩ := own_slice hown
              exact ⟨b, c, by rw [h, hk20]⟩
          clear hk20 HV
          go_wp2_with fail
          refine Calls.mono (S2.out _ (X2.out.grown HG.out D2.out) (X3.out.grown HG.out D3.out)) ?_
          rintro e w9 ⟨rfl, hb9⟩
          have HG9 : Hid (w.grownBy w9 r) := gr_new HG.out (gr_of_below hb9 none) (by simp)
          clear hb9
          go_wp2
          go_ret
          exact ⟨rfl, HG9.out⟩
theorem fresh7_of {w0 w1 w2 w : World} {ao a2 a3 : Option Addr} {c2 c3 : Nat} {xs : List ByteArray} {n : Nat} (hl : xs.length = n) (hn : n ≤ 64) (h3 : Ans w0 a3 xs w) (h1 : Mad w1 ao xs w) (h2 : Mad w2 a2 xs w)
    (s3 : ∀ b o s, a3 = some ⟨b, o, s⟩ → b < w1.heap.size) (s1 : ∀ b o s, ao = some ⟨b, o, s⟩ → b < w2.heap.size) :
    Calls Try.prog 21 #[.slice ao n n, .slice a2 n c2, .slice a3 n c3] w fun e w' => e = .returned (.bool true) ∧ w.grownBy w' (ao.map (·.block)) := by
  refine fresh7_any w ao a2 a3 c2 c3 n xs hl hn ?_ h2.txl h3.1 (fun b o s e e2 => ?_) (fun b o s e e2 => ?_)
  · rcases h1 with ⟨e, h0⟩ | ⟨g, e, _, hB⟩
    · exact .inl ⟨e, by omega⟩
    · exact .inr ⟨g, e, hB⟩
  · cases ao with
    | none => cases e2
    | some q =>
      obtain ⟨bb, oo, ss⟩ := q
      simp at e2
      have := s1 bb oo ss rfl
      have := (h2.lo b o s e).1
      omega
  · cases ao with
    | none => cases e2
    | some q =>
      obtain ⟨bb, oo, ss⟩ := q
      simp at e2
      have := s3 b o s e
      have := (h1.lo bb oo ss rfl).1
      omega
end Go.Proofs.Ytblmblbkfdcbjaa
/- A list of texts in a block of the call's own, a text behind it. -/
namespace Go.Proofs.Ytblmblbkfdcbjaa
open Go.RowKit
set_option linter.unusedSimpArgs false
set_option linter.unusedVariables false
/-- A list in a block of the call's own, a text behind it. -/
def Mk (w : World) (g : Nat) (xs : List ByteArray) (m : ByteArray) : Prop := ∃ cur, Bk w g cur 9 ∧ ∀ (j : Nat) (x : ByteArray), (xs ++ [m])[j]? = some x → cur[j]? = some (.string x)
theorem Mk.lt {w : World} {g : Nat} {xs : List ByteArray} {m : ByteArray} (h : Mk w g xs m) : g < w.heap.size := by
  obtain ⟨cur, hB, _⟩ := h
  exact hB.lt
theorem Mk.txl {w : World} {g : Nat} {xs : List ByteArray} {m : ByteArray} (h : Mk w g xs m) : TxL w (some ⟨g, 0, none⟩) xs := by
  obtain ⟨cur, hB, hc⟩ := h
  intro i x hx
  refine ⟨g, 0, rfl, hB.lt, ?_⟩
  rw [Nat.zero_add, hB.cell]
  exact hc i x (by rw [List.getElem?_append_left (List.getElem?_eq_some_iff.1 hx).1]; exact hx)
theorem Mk.mark {w : World} {g : Nat} {xs : List ByteArray} {m : ByteArray} (h : Mk w g xs m) : w.cell? ⟨g, xs.length, none⟩ = some (.string m) := by
  obtain ⟨cur, hB, hc⟩ := h
  rw [hB.cell]
  exact hc _ m (by simp)
theorem Mk.grown {w w' : World} {g : Nat} {xs : List ByteArray} {m : ByteArray} {r : Option Nat} (h : Mk w g xs m) (hg : w.grownBy w' r) (hr : r ≠ some g) : Mk w' g xs m := by
  obtain ⟨cur, hB, hc⟩ := h
  exact ⟨cur, hB.grown hg hr, hc⟩
theorem Mk.below {w w' : World} {g : Nat} {xs : List ByteArray} {m : ByteArray} (h : Mk w g xs m) (hb : Below w.heap.size w w') : Mk w' g xs m := h.grown (gr_of_below hb none) (by simp)
theorem Mk.set {w : World} {g : Nat} {xs : List ByteArray} {m : ByteArray} (h : Mk w g xs m) (i : Nat) (hi : i < xs.length) (x : ByteArray) : Mk (w.setCell ⟨g, i, none⟩ (.string x)) g (xs.set i x) m := by
  obtain ⟨cur, hB, hc⟩ := h
  refine ⟨_, hB.set i _, fun j y hy => ?_⟩
  have h0 := hc i xs[i] (by rw [List.getElem?_append_left hi, List.getElem?_eq_getElem hi])
  have hic : i < cur.size := (Array.getElem?_eq_some_iff.1 h0).1
  rw [← List.set_append_left _ _ hi, List.getElem?_set] at hy
  rw [Array.getElem?_setIfInBounds]
  by_cases e : i = j
  · subst e
    rw [if_pos rfl, if_pos (by simp; omega)] at hy
    cases hy
    rw [if_pos rfl, if_pos hic]
  · rw [if_neg e] at hy ⊢
    exact hc j y hy
theorem Mk.other {w : World} {g g' : Nat} {xs : List ByteArray} {m : ByteArray} (h : Mk w g xs m) (hne : g' ≠ g) (i : Nat) (v : Value) : Mk (w.setCell ⟨g', i, none⟩ v) g xs m :=
  h.grown (Lib.grownBy_setB (gr_refl w (some g')) i v) (by simpa using hne)
/-- A row of texts of the call's own with one more behind. -/
theorem mk_of {w : World} {B k : Nat} {v : Value} {xs : List ByteArray} {m : ByteArray} (h : w.ownsRow B 9 1 v (k + 1) (sv (xs ++ [m]))) :
    ∃ g cap, v = .slice (some ⟨g, 0, none⟩) (k + 1) cap ∧ B ≤ g ∧ Mk w g xs m ∧ k + 1 ≤ cap ∧ cap ≤ maxLen := by
  obtain ⟨g, cap, cur, h1, h2, h3, h4, h5, h6⟩ := own_block_at h
  exact ⟨g, cap, h1, h2, ⟨cur, h3, h6⟩, h4, h5⟩
end Go.Proofs.Ytblmblbkfdcbjaa
/- Truths: a list of them appended to a row of the call's own; such a row as a block. -/
namespace Go.Proofs.Ytblmblbkfdcbjaa
open Go.RowKit Go.Deep
set_option linter.unusedSimpArgs false
set_option linter.unusedVariables false
theorem inf_boo : (Try.prog.info? 4).map (fun i => (i.zero, i.size, i.bytes)) = some (some (.bool false), 1, 1) := by kernel_rfl
/-- Truths as cells. -/
def sb (l : List Bool) : List Value := l.map fun x => Value.bool x
theorem sb_append (a b : List Bool) : sb (a ++ b) = sb a ++ sb b := by simp [sb]
theorem one_sb (l : List Bool) : ∀ u ∈ sb l, u.oneCell' = true := by
  intro u hu
  obtain ⟨x, _, rfl⟩ := List.mem_map.1 hu
  rfl
theorem one_boo (p : Bool) : ∀ u ∈ [Value.bool p], u.oneCell' = true := by
  intro u hu
  simp at hu
  subst hu; rfl
theorem BoL.alloc {w : World} {a : Option Addr} {ts : List Bool} (h : BoL w a ts) (o : Obj) : BoL (w.alloc o) a ts := h.below ((Below.refl _ _).alloc (Nat.le_refl _) _)
theorem app_bools (w : World) (B : Nat) (v : Value) (ks xs : List Bool) (k n c : Nat) (hk : ks.length = k) (hn : xs.length = n) (hown : w.ownsRow B 4 1 v k (sb ks)) (hB : B ≤ w.heap.size)
    (ad : Option Addr) (ht : BoL w ad xs) (hb : (k + n) * 1 ≤ 140737488355328) (ty : TypeId) :
    ∃ v' w', (Builtin.append_ #[38, 38] ty #[v, .slice ad n c]).run Try.prog w = .ok v' w' ∧ w'.ownsRow B 4 1 v' (k + n) (sb (ks ++ xs)) ∧ w.grownBy w' v.ownBlock := by
  obtain ⟨i0, hi, hz0, hz1, hz2⟩ := info_parts inf_boo
  cases xs with
  | nil =>
    obtain rfl : n = 0 := by simpa using hn.symm
    obtain ⟨a, cp, rfl, hle⟩ : ∃ a cp, v = .slice a k cp ∧ k ≤ cp := by
      rcases hown.2 with ⟨rfl, h0⟩ | ⟨g, cap, cur, rfl, _, _, h, _⟩
      · exact ⟨none, 0, by rw [h0], by omega⟩
      · exact ⟨_, _, rfl, h⟩
    have hsrc : Src Try.prog i0.size 38 (.slice ad 0 c) 0 [] w := by
      cases ad with
      | none => exact Src.ofNil w Try.underlying38 c
      | some q => exact Src.ofSlice w Try.underlying38 q 0 c [] (by simp) (fun j u h => by simp at h) (fun _ h => by cases h)
    have h := run_append_nothing (P := Try.prog) w 38 38 ty 4 i0 Try.underlying38 hi a k cp hle (.slice ad 0 c) hsrc
    exact ⟨_, _, h, by rw [List.append_nil]; exact hown, gr_refl _ _⟩
  | cons x0 xs0 =>
    obtain ⟨g, o, rfl, hlt, _⟩ := ht 0 x0 rfl
    have hnews : ∀ j u, (sb (x0 :: xs0))[j]? = some u → w.cell? ((⟨g, o, none⟩ : Addr).add j) = some u := by
      intro j u hj
      rw [sb, List.getElem?_map] at hj
      obtain ⟨x, hx, rfl⟩ := Option.map_eq_some_iff.1 hj
      obtain ⟨g', o', e, _, hc⟩ := ht j x hx
      cases e
      rw [WideShapes.add_plain]
      exact hc
    obtain ⟨v', w', h1, h2, h3, _⟩ := run_append_own (P := Try.prog) (w := w) B 38 ty 4 i0 (.bool false) 1 1 Try.underlying38 hi hz0 hz1 hz2 rfl (by decide) v k (sb ks) hown ⟨g, o, none⟩ n c (sb (x0 :: xs0)) (by rw [sb, List.length_map, hn, Nat.mul_one]) hnews (one_sb _) (by unfold maxLen; omega) hb hB
    exact ⟨v', w', h1, by rw [sb_append]; exact h2, h3⟩
theorem wpList_append_bools {ops : Array Oper} {rest : List Oper} {o : Oper} {a : Act} {Q : Exit → Act → World → Prop} (w : World)
    (hg : o.guard = none) (s x : Operand) (hop : o.op = Op.call { callee := Callee.builtin Builtin.append, args := #[s, x], argTypes := #[38, 38] })
    (B : Nat) (v : Value) (ks xs : List Bool) (k n c : Nat) (hs : a.eval s = v) (hk : ks.length = k) (hn : xs.length = n) (hown : w.ownsRow B 4 1 v k (sb ks)) (hB : B ≤ w.heap.size)
    (ad : Option Addr) (hx : a.eval x = .slice ad n c) (ht : BoL w ad xs) (hb : (k + n) * 1 ≤ 140737488355328)
    (hK : ∀ v' w', w'.ownsRow B 4 1 v' (k + n) (sb (ks ++ xs)) → w.grownBy w' v.ownBlock → wpList Try.prog ops Q rest (a.put o.dst v') w') :
    wpList Try.prog ops Q (o :: rest) a w := by
  refine wpList_plain hg fun K hK' => ?_
  obtain ⟨v', w', hrun, r1, r2⟩ := app_bools w B v ks xs k n c hk hn hown hB ad ht hb o.type
  unfold Oper.wp
  simp [execOp, hop, resolve, invoke, builtin, hs, hx, hrun, Result.andThen]
  exact hK' _ _ (hK v' w' r1 r2)
/-- A row of texts of the call's own, once one lies in it. -/
theorem own_block_boo {w : World} {B k : Nat} {v : Value} {xs : List Bool} (h : w.ownsRow B 4 1 v (k + 1) (sb xs)) :
    ∃ g cap cur, v = .slice (some ⟨g, 0, none⟩) (k + 1) cap ∧ B ≤ g ∧ Bk w g cur 4 ∧ k + 1 ≤ cap ∧ cap ≤ maxLen ∧ ∀ (j : Nat) (x : Bool), xs[j]? = some x → cur[j]? = some (.bool x) := by
  rcases h.2 with ⟨_, h0⟩ | ⟨g, cap, cur, rfl, hle, hgc, h1, h2, h3, h4⟩
  · omega
  · refine ⟨g, cap, cur, rfl, hle, hgc, h1, h2, fun j x hx => ?_⟩
    have hl := h.1
    rw [sb, List.length_map] at hl
    have hj : j < k + 1 := by have := (List.getElem?_eq_some_iff.1 hx).1; omega
    have e := congrArg (·[j]?) h4
    rw [Nat.mul_one] at e
    simp only [List.getElem?_take, if_pos hj, sb, List.getElem?_map, hx, Option.map_some] at e
    rw [← Array.getElem?_toList]; exact e
/-- A list in a block of the call's own, a text behind it. -/
def Mkb (w : World) (g : Nat) (xs : List Bool) (m : Bool) : Prop := ∃ cur, Bk w g cur 4 ∧ ∀ (j : Nat) (x : Bool), (xs ++ [m])[j]? = some x → cur[j]? = some (.bool x)
theorem Mkb.lt {w : World} {g : Nat} {xs : List Bool} {m : Bool} (h : Mkb w g xs m) : g < w.heap.size := by
  obtain ⟨cur, hB, _⟩ := h
  exact hB.lt
theorem Mkb.txl {w : World} {g : Nat} {xs : List Bool} {m : Bool} (h : Mkb w g xs m) : BoL w (some ⟨g, 0, none⟩) xs := by
  obtain ⟨cur, hB, hc⟩ := h
  intro i x hx
  refine ⟨g, 0, rfl, hB.lt, ?_⟩
  rw [Nat.zero_add, hB.cell]
  exact hc i x (by rw [List.getElem?_append_left (List.getElem?_eq_some_iff.1 hx).1]; exact hx)
theorem Mkb.mark {w : World} {g : Nat} {xs : List Bool} {m : Bool} (h : Mkb w g xs m) : w.cell? ⟨g, xs.length, none⟩ = some (.bool m) := by
  obtain ⟨cur, hB, hc⟩ := h
  rw [hB.cell]
  exact hc _ m (by simp)
theorem Mkb.grown {w w' : World} {g : Nat} {xs : List Bool} {m : Bool} {r : Option Nat} (h : Mkb w g xs m) (hg : w.grownBy w' r) (hr : r ≠ some g) : Mkb w' g xs m := by
  obtain ⟨cur, hB, hc⟩ := h
  exact ⟨cur, hB.grown hg hr, hc⟩
theorem Mkb.below {w w' : World} {g : Nat} {xs : List Bool} {m : Bool} (h : Mkb w g xs m) (hb : Below w.heap.size w w') : Mkb w' g xs m := h.grown (gr_of_below hb none) (by simp)
/-- A row of texts of the call's own with one more behind. -/
theorem mkb_of {w : World} {B k : Nat} {v : Value} {xs : List Bool} {m : Bool} (h : w.ownsRow B 4 1 v (k + 1) (sb (xs ++ [m]))) :
    ∃ g cap, v = .slice (some ⟨g, 0, none⟩) (k + 1) cap ∧ B ≤ g ∧ Mkb w g xs m ∧ k + 1 ≤ cap ∧ cap ≤ maxLen := by
  obtain ⟨g, cap, cur, h1, h2, h3, h4, h5, h6⟩ := own_block_boo h
  exact ⟨g, cap, h1, h2, ⟨cur, h3, h6⟩, h4, h5⟩
end Go.Proofs.Ytblmblbkfdcbjaa
/- Numbers that come in to a law: their ranges. -/
namespace Go.Proofs.Ytblmblbkfdcbjaa
open Go.RowKit
set_option linter.unusedSimpArgs false
set_option linter.unusedVariables false
theorem u8_val (a : Int) (h : (Lit.int .u8 a).wf = true) : ∃ x : UInt8, a = (x.toNat : Int) := by
  have h' : 0 ≤ a ∧ a ≤ 255 := by
    have h3 : (decide (IntKind.u8.min ≤ a) && decide (a ≤ IntKind.u8.max)) = true := h
    have e1 : IntKind.u8.min = 0 := by decide
    have e2 : IntKind.u8.max = 255 := by decide
    rw [e1, e2] at h3
    simpa using h3
  refine ⟨UInt8.ofNat a.toNat, ?_⟩
  simp
  omega
theorem i64_val (a : Int) (h : (Lit.int .i64 a).wf = true) : -9223372036854775808 ≤ a ∧ a ≤ 9223372036854775807 := by
  have h3 : (decide (IntKind.i64.min ≤ a) && decide (a ≤ IntKind.i64.max)) = true := h
  have e1 : IntKind.i64.min = -9223372036854775808 := by decide
  have e2 : IntKind.i64.max = 9223372036854775807 := by decide
  rw [e1, e2] at h3
  simpa using h3
end Go.Proofs.Ytblmblbkfdcbjaa
/- The walk of ShardsRebuilt. -/
namespace Go.Proofs.Ytblmblbkfdcbjaa
open Go.RowKit
set_option linter.unusedSimpArgs false
set_option linter.unusedVariables false
set_option maxHeartbeats 4000000 in
set_option maxRecDepth 100000 in
theorem rebuilt_walk (a b : Option Addr) (ca cb n m : Nat) (k : Int) (xs : List ByteArray) (ts : List Bool) (w : World) (hx : TxL w a xs) (ht : BoL w b ts) (nx : xs.length = n) (nt' : ts.length = m) (lx : n * 16 ≤ 140737488351232) (lm : m ≤ 140737488351232)
    (hca : n ≤ ca) (hca2 : ca ≤ maxLen) (sx : ∀ x ∈ xs, x.size ≤ 140737488351232) (k1 : -9223372036854775808 ≤ k) (k2 : k ≤ 9223372036854775807) :
    Calls Try.prog 5 #[.slice a n ca, .slice b m cb, .int .i64 k] w fun e w' => e = .returned (.bool true) ∧ Below w.heap.size w w' := by
  have HX : Hid (TxL w a xs) := hx
  have HT : Hid (BoL w b ts) := ht
  have NX : Hid (xs.length = n) := nx
  have NT : Hid (ts.length = m) := nt'
  have sz : ∀ x ∈ xs, x.size ≤ 281474976710656 := fun x hx => by have := sx x hx; omega
  obtain ⟨i0, hi, hz0, hz1s, hz2⟩ := info_parts inf_str
  obtain ⟨j0, hj, hy0, hy1, hy2⟩ := info_parts inf_boo
  have c1 := fun W hW hV => rrebuild_any a b ca cb n m k xs ts W hW hV nx nt' (by omega) (by omega) sz k1 k2
  have c2 := fun gx gy cx cy W hW hV => rebuild_any (some ⟨gx, 0, none⟩) (some ⟨gy, 0, none⟩) cx cy n m k xs ts W hW hV nx nt' (by omega) (by omega) sz k1 k2
  have c3 := fun W hW => rfits_any a ca n k xs W hW nx hca hca2 (by omega) sz k1 k2
  have c4 := fun gx cx W hW h1 h2 => fits_any (some ⟨gx, 0, none⟩) cx n k xs W hW nx h1 h2 (by omega) sz k1 k2
  have c5 := fun gx cx W hW hV => rsame_any (some ⟨gx, 0, none⟩) a cx ca xs xs W hW hV (by rw [nx]; omega) (by rw [nx]; omega)
  rw [decide_eq_true rfl, nx] at c5
  have l1 := rbX_len xs ts k
  obtain ⟨P, hP⟩ : ∃ P, rbX xs ts k = P := ⟨_, rfl⟩
  obtain ⟨E1, hE1⟩ : ∃ E, rbE xs ts k = E := ⟨_, rfl⟩
  obtain ⟨F1, hF1⟩ : ∃ E, ftB xs k = E := ⟨_, rfl⟩
  obtain ⟨E2, hE2⟩ : ∃ E, ftE xs k = E := ⟨_, rfl⟩
  obtain ⟨p1, hp1⟩ : ∃ E, P.length = E := ⟨_, rfl⟩
  rw [hP, hE1, hp1] at c1 c2
  rw [hP, hp1] at l1
  rw [hF1, hE2] at c3 c4
  have C1 : Hid _ := c1
  have C2 : Hid _ := c2
  have C3 : Hid _ := c3
  have C4 : Hid _ := c4
  have C5 : Hid _ := c5
  have HP1 : Hid (P.length = p1) := hp1
  clear c1 c2 c3 c4 c5 hP hE1 hF1 hE2 hp1 hx ht nx nt' sz sx k1 k2
  go_enter Try.func5, Try.ntmps5
  go_wp2_with (at_builtin; refine wpList_append_txts _ rfl _ _ rfl w.heap.size _ [] xs 0 n ca rfl rfl NX.out (World.ownsRow_made (size := 1) w #[] 0 (Nat.le_refl _) (by unfold maxLen; omega) rfl) (by simp) a rfl (HX.out.alloc _) (by omega) ?_)
  intro v1 w1 ho1 hg1
  have HO1 : Hid (w1.ownsRow w.heap.size 9 1 v1 n (sv xs)) := ho1
  have HB1 : Hid (Below w.heap.size w w1) := by
    refine ((Below.refl _ _).alloc (Nat.le_refl _) _).grown hg1 (by simp) (fun g hg => ?_)
    simp [Value.ownBlock] at hg; omega
  have hz1 : w.heap.size ≤ w1.heap.size := HB1.out.size
  clear ho1 hg1
  go_wp2_with (at_builtin; refine wpList_append_own _ rfl _ _ 22 rfl w.heap.size 9 i0 (.string ⟨#[]⟩) 1 16 Try.underlying22 hi hz0 hz1s hz2 rfl (by decide) _ _ _ rfl (HO1.out.alloc _) ⟨w1.heap.size, 0, none⟩ 1 1 [.string ⟨#[109, 97, 114, 107]⟩] rfl rfl (news_one _ _ _) (one_str _) (by unfold maxLen; omega) (by omega) (by simp; omega) ?_)
  intro v2 w2 ho2 hg2 _
  obtain ⟨gx, cx, rfl, lx2, hm2, cx1, cx2⟩ := mk_of (xs := xs) (by rw [sv_append]; exact ho2)
  have MX2 : Hid (Mk w2 gx xs ⟨#[109, 97, 114, 107]⟩) := hm2
  have HB2 : Hid (Below w.heap.size w w2) := apn_bel HB1.out hz1 HO1.out hg2
  have hz2' : w.heap.size ≤ w2.heap.size := HB2.out.size
  clear ho2 hg2 hm2 HO1
  go_wp2_with (at_builtin; refine wpList_append_bools _ rfl _ _ rfl w2.heap.size _ [] ts 0 m cb rfl rfl NT.out (World.ownsRow_made (size := 1) w2 #[] 0 (Nat.le_refl _) (by unfold maxLen; omega) rfl) (by simp) b rfl ((HT.out.below HB2.out).alloc _) (by omega) ?_)
  intro v3 w3 ho3 hg3
  have HO3 : Hid (w3.ownsRow w2.heap.size 4 1 v3 m (sb ts)) := ho3
  have HB3 : Hid (Below w2.heap.size w2 w3) := by
    refine ((Below.refl _ _).alloc (Nat.le_refl _) _).grown hg3 (by simp) (fun g hg => ?_)
    simp [Value.ownBlock] at hg; omega
  have hz3 : w2.heap.size ≤ w3.heap.size := HB3.out.size
  clear ho3 hg3
  go_wp2_with (at_builtin; refine wpList_append_own _ rfl _ _ 38 rfl w2.heap.size 4 j0 (.bool false) 1 1 Try.underlying38 hj hy0 hy1 hy2 rfl (by decide) _ _ _ rfl (HO3.out.alloc _) ⟨w3.heap.size, 0, none⟩ 1 1 [.bool true] rfl rfl (news_one _ _ _) (one_boo _) (by unfold maxLen; omega) (by omega) (by simp; omega) ?_)
  intro v4 w4 ho4 hg4 _
  obtain ⟨gy, cy, rfl, ly4, hm4, cy1, cy2⟩ := mkb_of (xs := ts) (by rw [sb_append]; exact ho4)
  have MY4 : Hid (Mkb w4 gy ts true) := hm4
  have HB24 : Hid (Below w2.heap.size w2 w4) := apn_bel HB3.out hz3 HO3.out hg4
  have MX4 : Hid (Mk w4 gx xs ⟨#[109, 97, 114, 107]⟩) := MX2.out.below HB24.out
  have HB4 : Hid (Below w.heap.size w w4) := HB2.out.trans (HB24.out.mono hz2')
  have hz4 : w.heap.size ≤ w4.heap.size := HB4.out.size
  have HX4 : Hid (TxL w4 a xs) := HX.out.below HB4.out
  have HT4 : Hid (BoL w4 b ts) := HT.out.below HB4.out
  clear ho4 hg4 hm4 HO3 HB24 HB3 MX2 HB1 HB2 HX HT
  go_wp2_with fail
  refine Calls.mono (C1.out _ HX4.out HT4.out) ?_
  rintro e w5 ⟨qa, qc, rfl, hA, hb⟩
  have QA5 : Hid (Ans w4 qa P w5) := hA
  have B5 : Hid (Below w4.heap.size w4 w5) := hb
  clear hA hb
  go_wp2_with fail
  refine Calls.mono (C2.out _ _ _ _ _ (MX4.out.below B5.out).txl (MY4.out.below B5.out).txl) ?_
  rintro e w6 ⟨qb, rfl, hA, hb⟩
  have QB6 : Hid (Mad w5 qb P w6) := hA
  have QA6 : Hid (Ans w4 qa P w6) := QA5.out.below hb
  have B6 : Hid (Below w4.heap.size w4 w6) := B5.out.trans (hb.mono B5.out.size)
  have z6 : w5.heap.size ≤ w6.heap.size := hb.size
  clear hA hb
  go_wp2_with fail
  refine Calls.mono (C2.out _ _ _ _ _ (MX4.out.below B6.out).txl (MY4.out.below B6.out).txl) ?_
  rintro e w7 ⟨qd, rfl, hA, hb⟩
  have QD7 : Hid (Mad w6 qd P w7) := hA
  have QB7 : Hid (Mad w5 qb P w7) := QB6.out.below hb
  have QA7 : Hid (Ans w4 qa P w7) := QA6.out.below hb
  have B7 : Hid (Below w4.heap.size w4 w7) := B6.out.trans (hb.mono B6.out.size)
  clear hA hb
  go_wp2_with fail
  refine Calls.mono (C3.out _ (HX4.out.below B7.out)) ?_
  rintro e w8 ⟨rfl, hb⟩
  have QD8 : Hid (Mad w6 qd P w8) := QD7.out.below hb
  have QB8 : Hid (Mad w5 qb P w8) := QB7.out.below hb
  have QA8 : Hid (Ans w4 qa P w8) := QA7.out.below hb
  have B8 : Hid (Below w4.heap.size w4 w8) := B7.out.trans (hb.mono B7.out.size)
  clear hb QD7 QB7 QA7 B7
  go_wp2_with fail
  refine Calls.mono (C4.out _ _ _ (MX4.out.below B8.out).txl (by omega) cx2) ?_
  rintro e w9 ⟨rfl, hb⟩
  have B9 : Hid (Below w4.heap.size w4 w9) := B8.out.trans (hb.mono B8.out.size)
  have f1 := fresh7_of (c2 := p1) (c3 := qc) HP1.out l1 (QA8.out.below hb) (QB8.out.below hb) (QD8.out.below hb) (fun b o s e => (QA5.out.2 b o s e).2) (fun b o s e => (QB6.out.lo b o s e).2)
  have FR : Hid _ := f1
  clear f1 hb QD8 QB8 QA8 B8
  go_wp2_with fail
  refine Calls.mono FR.out ?_
  rintro e w10 ⟨rfl, hg⟩
  have B10 : Hid (Below w4.heap.size w4 w10) := B9.out.grown hg B9.out.size (fun g hg => by
    obtain ⟨o, s, e⟩ := map_block hg
    have h1 := QB6.out.lo g o s e
    have := B5.out.size
    omega)
  clear hg FR B9 B6 B5 QA5 QA6 QB6
  go_wp2_with fail
  refine Calls.mono (C5.out _ _ _ (MX4.out.below B10.out).txl (HX4.out.below B10.out)) ?_
  rintro e w11 ⟨rfl, hb⟩
  have B11 : Hid (Below w4.heap.size w4 w11) := B10.out.trans (hb.mono B10.out.size)
  clear hb B10 C1 C2 C3 C4 C5
  have m1 := (MX4.out.below B11.out).mark
  rw [NX.out] at m1
  have m2 := (MY4.out.below B11.out).mark
  rw [NT.out] at m2
  go_wp2_with fail
  clear m1 m2
  have HBs : Hid (Below w.heap.size w w11) := HB4.out.trans (B11.out.mono hz4)
  have MYs : Hid (BoL w11 (some ⟨gy, 0, none⟩) ts) := (MY4.out.below B11.out).txl
  have HTs : Hid (BoL w11 b ts) := HT4.out.below B11.out
  go_loopw [20] (fun t wr => ∃ i : Nat, i ≤ m ∧ t = .int .i64 i ∧ Hid (Below w11.heap.size w11 wr)) (fun t _ => m - (intOf t).toNat)
  case atStart => exact ⟨0, by omega, rfl, Below.refl _ _⟩
  case round =>
    obtain ⟨i, him, rfl, HB⟩ := hrel
    by_cases hlt : i < m
    · have hiz : (i : Int) < (m : Nat) := by omega
      obtain ⟨t, hti⟩ : ∃ t, ts[i]? = some t := ⟨_, List.getElem?_eq_getElem (by rw [NT.out]; exact hlt)⟩
      obtain ⟨gb, ob, rfl, hgb, hc1⟩ := (HTs.out.below HB.out) i t hti
      have hc2 : wr.cell? ⟨gy, i, none⟩ = some (.bool t) := by
        obtain ⟨g2, o2, e2, _, hc2⟩ := (MYs.out.below HB.out) i t hti
        obtain ⟨rfl, rfl⟩ : gy = g2 ∧ 0 = o2 := by simpa using e2
        rwa [Nat.zero_add] at hc2
      clear hti
      go_wp2
      go_region
      all_goals
        go_wp2
        go_roundw
        case rel => exact ⟨i + 1, by omega, by go_num, HB.out.drew⟩
        case measure => simp [intOf]; omega
    · have hiz : ¬ (i : Int) < (m : Nat) := by omega
      go_wp2
      go_ret
      exact ⟨rfl, HBs.out.trans (HB.out.mono HBs.out.size)⟩
end Go.Proofs.Ytblmblbkfdcbjaa
