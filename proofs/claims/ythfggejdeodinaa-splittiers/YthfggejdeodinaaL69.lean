/- Law 9: SplitTiers. -/
import Derived.BigRegion
import Derived.Test.YthfggejdeodinaaL69B
import Derived.Test.YthfggejdeodinaaS0L
import Derived.Deep.Cut
import Derived.Deep.CutRange
namespace Go.Proofs.Ythfggejdeodinaa
open Go.RowKit
set_option linter.unusedSimpArgs false
set_option linter.unusedVariables false
theorem copyZ (a : Option Addr) (c : Nat) (w : World) : (Builtin.append_ #[22, 22] 22 #[.slice (some ⟨w.heap.size, 0, none⟩) 0 0, .slice a 0 c]).run Try.prog (w.alloc (.cells #[] 3)) = .ok (.slice (some ⟨w.heap.size, 0, none⟩) 0 0) (w.alloc (.cells #[] 3)) ∧
    (w.alloc (.cells #[] 3)).ownsRow w.heap.size 3 1 (.slice (some ⟨w.heap.size, 0, none⟩) 0 0) 0 (ivI []) := by
  obtain ⟨i0, hi, hz0, hz1, hz2⟩ := info_parts inf_int
  have own0 : (w.alloc (.cells #[] 3)).ownsRow w.heap.size 3 1 (.slice (some ⟨w.heap.size, 0, none⟩) 0 0) 0 (ivI []) :=
    ⟨rfl, .inr ⟨w.heap.size, 0, #[], rfl, Nat.le_refl _, bk_new _ _ _, Nat.le_refl _, by unfold maxLen; omega, rfl, rfl⟩⟩
  refine ⟨?_, own0⟩
  have hu : Try.prog.underlying 22 = some (.slice 3) := Try.underlying22
  cases a with
  | none => simp [Builtin.append_, run_underlying hu, sizeOf, typeInfo, hi, Builtin.lenOf, Builtin.firstCells, storeCells]
  | some a => simp [Builtin.append_, run_underlying hu, sizeOf, typeInfo, hi, Builtin.lenOf, Builtin.firstCells, storeCells, loadCells, loadCellsFrom]
/-- All that a round has laid. -/
structure T9 (w : World) (gx : Nat) (X : List Int) (gs : Nat) (aw aa : Option Addr) (gn gk : Nat) (ab : Option Addr) (nodes : List (List Nat)) (B1 B2 : Nat) (W : World) : Prop where
  x : BkI W gx (X ++ [987])
  s : BkI W gs (X ++ [])
  want : NdP W aw nodes (fun k => k < B1)
  a : PkR W B1 aa gn gk nodes
  b : NdP W ab nodes (fun k => B2 ≤ k)
  gx : gx < B1
  gkb : nodes ≠ [] → gn < B2 ∧ gk < B2
  bel : Below w.heap.size w W
  lo : w.heap.size ≤ B1
theorem T9.next {w W W' : World} {gx gs gn gk B1 B2 : Nat} {X : List Int} {aw aa ab : Option Addr} {nodes : List (List Nat)} (h : T9 w gx X gs aw aa gn gk ab nodes B1 B2 W) (hb : Below W.heap.size W W') : T9 w gx X gs aw aa gn gk ab nodes B1 B2 W' :=
  ⟨h.x.below hb, h.s.below hb, h.want.below hb, h.a.next hb, h.b.below hb, h.gx, h.gkb, h.bel.trans (hb.mono h.bel.size), h.lo⟩
theorem ne_ty9 {W : World} {gn gk : Nat} {C K : Array Value} (h1 : Bk W gn C 32) (h2 : Bk W gk K 3) : gn ≠ gk := fun e => by
  subst e
  unfold Bk at h1 h2
  rw [h1] at h2
  injection h2 with h2
  injection h2 with _ q
  exact absurd q (by decide)
theorem TW.new {w W0 : World} {B1 gn gk : Nat} {a : Option Addr} {nodes : List (List Nat)} (h : PkR W0 B1 a gn gk nodes) (hne : nodes ≠ []) (hb : Below w.heap.size w W0) (hl : w.heap.size ≤ B1) : TW w W0 gk nodes 0 W0 := by
  obtain ⟨K, k1, k2, k3⟩ := h.kd hne
  refine ⟨fun _ _ _ => rfl, Nat.le_refl _, hb, ⟨by omega, k1.lt⟩, K, k1, ?_, fun j x _ hx => k2 j x hx⟩
  by_cases q : nodes.flatten.length ≤ K.size
  · exact q
  · obtain ⟨x, hx⟩ : ∃ x, nodes.flatten[K.size]? = some x := ⟨_, List.getElem?_eq_getElem (by omega)⟩
    have := k2 _ x hx
    rw [Array.getElem?_eq_none (Nat.le_refl _)] at this
    cases this
theorem if_sl9 {P : Prop} [Decidable P] {g x y o : Nat} (h : (if P then x else y) = o) : (if P then some (⟨g, x, none⟩ : Addr) else some ⟨g, y, none⟩) = some ⟨g, o, none⟩ := by
  rw [← h]; split <;> rfl
theorem nda_if {P : Prop} [Decidable P] {W : World} {g x y o : Nat} {l : List (List Nat)} (h : NdA W (some ⟨g, y, none⟩) l) (h0 : P → l = []) (ho : (if P then x else y) = o) : NdA W (some ⟨g, o, none⟩) l := by
  by_cases hp : P
  · rw [h0 hp]; intro i ns hi; simp at hi
  · rw [if_neg hp] at ho; rw [← ho]; exact h
set_option maxHeartbeats 16000000 in
set_option maxRecDepth 100000 in
theorem tiers9 (a0 : Option Addr) (n c0 : Nat) (X0 : List Int) (m : Int) (w : World) (hX : InL w a0 X0) (hn : X0.length = n) (ha : n = 0 ∨ ∃ g o, a0 = some ⟨g, o, none⟩) (hnb : (n + 1) * 8 ≤ 140737488355328) (hm : -9223372036854775808 ≤ m ∧ m ≤ 9223372036854775807) :
    Calls Try.prog 3 #[.slice a0 n c0, .int .i64 m] w fun e w' => e = .returned (.bool true) ∧ Below w.heap.size w w' := by
  have hcopy : ∃ g2 c2 W2, (Builtin.append_ #[22, 22] 22 #[.slice (some ⟨w.heap.size, 0, none⟩) 0 0, .slice a0 n c0]).run Try.prog (w.alloc (.cells #[] 3)) = .ok (.slice (some ⟨g2, 0, none⟩) n c2) W2 ∧
      W2.ownsRow w.heap.size 3 1 (.slice (some ⟨g2, 0, none⟩) n c2) n (ivI X0) ∧ Below w.heap.size w W2 := by
    rcases ha with h0 | ⟨g, o, rfl⟩
    · have h1 : X0 = [] := List.eq_nil_of_length_eq_zero (by omega)
      subst h1
      subst h0
      obtain ⟨h1, h2⟩ := copyZ a0 c0 w
      exact ⟨_, _, _, h1, h2, (Below.refl _ _).alloc (Nat.le_refl _) _⟩
    · exact copyI g o n c0 X0 w hX hn (by omega)
  obtain ⟨g2, c2, W2, hr2, ho2, hb2⟩ := hcopy
  obtain ⟨gx, cx, W4, hr4, ho4, hb4, hcx⟩ := oneI (x := 987) ho2 hb2.size hnb
  have hbs0 := bs0I w
  have hbs1 := bsI 987 W2
  obtain ⟨hx4, hgx⟩ := own_bkI ho4
  have HX0 : Hid (BkI W4 gx (X0 ++ [987]) ∧ Below w.heap.size w W4 ∧ w.heap.size ≤ gx) := ⟨hx4, hb2.trans hb4, hgx⟩
  have HCX : Hid (n + 1 ≤ cx) := hcx
  have HG0 : Hid (w.heap.size ≤ gx) := hgx
  have HNB : Hid ((n + 1) * 8 ≤ 140737488355328) := hnb
  have HN0 : Hid (X0.length = n) := hn
  have HM : Hid (-9223372036854775808 ≤ m ∧ m ≤ 9223372036854775807) := hm
  obtain ⟨W1, hW1⟩ : ∃ W, w.alloc (.cells #[] 3) = W := ⟨_, rfl⟩
  obtain ⟨gw, hgw⟩ : ∃ g, w.heap.size = g := ⟨_, rfl⟩
  rw [hW1, hgw] at hr2 hbs0
  obtain ⟨W3, hW3⟩ : ∃ W, W2.alloc (.cells #[.int .i64 987] 3) = W := ⟨_, rfl⟩
  obtain ⟨gb, hgb⟩ : ∃ g, W2.heap.size = g := ⟨_, rfl⟩
  rw [hW3, hgb] at hr4 hbs1
  obtain ⟨n1, hn1⟩ : ∃ q, n + 1 = q := ⟨_, rfl⟩
  have HN1 : Hid (n + 1 = n1) := hn1
  rw [hn1] at hr4
  have hncx : n ≤ cx := by omega
  have hncz : (n : Int) ≤ (cx : Int) := by omega
  have hn44 : n ≤ 17592186044415 := by omega
  clear hX hn ha hm ho2 hb2 ho4 hb4 hcx hx4 hgx hW1 hgw hW3 hgb hn1 hnb
  go_enter Try.func3, Try.ntmps3
  go_upto_region 3 with (first
    | (refine wpList_bs0X rfl 22 rfl (.slice (some ⟨gw, 0, none⟩) 0 0) W1 hbs0 ?_)
    | (refine wpList_appX rfl (.tmp 23) (.tmp 24) 22 22 rfl (.slice (some ⟨gw, 0, none⟩) 0 0) (.slice a0 n c0) (.slice (some ⟨g2, 0, none⟩) n c2) W2 rfl rfl hr2 ?_)
    | (refine wpList_bsX rfl 22 (.const (.int .i64 987)) rfl (.int .i64 987) (.slice (some ⟨gb, 0, none⟩) 1 1) W3 rfl hbs1 ?_)
    | (refine wpList_appX rfl (.tmp 25) (.tmp 26) 22 22 rfl (.slice (some ⟨g2, 0, none⟩) n c2) (.slice (some ⟨gb, 0, none⟩) 1 1) (.slice (some ⟨gx, 0, none⟩) n1 cx) W4 rfl rfl hr4 ?_)
    | fail)
  clear hbs0 hbs1 hr2 hr4
  go_wp2_with fail
  try simp only [Act.put]
  go_loopw [7] (fun v wr => ∃ (r : Nat) (X : List Int), v = .int .i64 (r : Int) ∧ r ≤ 2 ∧ X.length = n ∧ Hid (BkI wr gx (X ++ [987]) ∧ Below w.heap.size w wr ∧ w.heap.size ≤ gx)) (fun v _ => 2 - (intOf v).toNat)
  case atStart => exact ⟨0, X0, rfl, by omega, HN0.out, HX0.out⟩
  case round =>
    clear HX0
    obtain ⟨r, X, rfl, hr2, hXn, HX⟩ := hrel
    by_cases hlt : r < 2
    · have hrz : (r : Int) < 2 := by omega
      obtain ⟨wo, rfl⟩ : ∃ W : World, W = wr := ⟨_, rfl⟩
      obtain ⟨E, nodes, hnl, hnk, hR, hP⟩ := tg_gen X m n hXn HM.out
      obtain ⟨L, hL⟩ : ∃ q, nodes.length = q := ⟨_, rfl⟩
      rw [hL] at hR hP hnl
      have HR : Hid (∀ g0 o0 c W, InL W (some ⟨g0, o0, none⟩) X → Calls Try.prog 4 #[.slice (some ⟨g0, o0, none⟩) n c, .int .i64 m] W fun e w' => ∃ a cc, e = .returned (.tuple #[.slice a L cc, .int .i64 E]) ∧ NdA w' a nodes ∧ L ≤ cc ∧ Below W.heap.size W w') := hR
      have HP : Hid (∀ g0 o0 c W, InL W (some ⟨g0, o0, none⟩) X → Calls Try.prog 5 #[.slice (some ⟨g0, o0, none⟩) n c, .int .i64 m] W fun e w' => ∃ a gn gk, e = .returned (.tuple #[.slice a L L, .int .i64 E]) ∧ PkR w' W.heap.size a gn gk nodes ∧ Below W.heap.size W w') := hP
      have HNL : Hid (nodes.length = L ∧ L ≤ 4194304 ∧ ∀ ns ∈ nodes, ns.length ≤ 4194304) := ⟨hL, hnl, hnk⟩
      have HXN : Hid (X.length = n) := hXn
      obtain ⟨gs, cs, W5, hr5, ho5, hb5⟩ := copyI gx 0 n cx X wo HX.out.1.inl hXn (by have := HNB.out; omega)
      have hbs5 := bs0I wo
      obtain ⟨hs5, hgs⟩ := own_bkI ho5
      have H5 : Hid (BkI W5 gs (X ++ []) ∧ BkI W5 gx (X ++ [987]) ∧ Below w.heap.size w W5) := ⟨by rw [List.append_nil]; exact hs5, by
        obtain ⟨C, k1, k2⟩ := HX.out.1
        exact ⟨C, k1.below hb5 k1.lt, k2⟩, HX.out.2.1.trans (hb5.mono HX.out.2.1.size)⟩
      obtain ⟨W1', hW1⟩ : ∃ W, wo.alloc (.cells #[] 3) = W := ⟨_, rfl⟩
      obtain ⟨gw', hgw⟩ : ∃ g, wo.heap.size = g := ⟨_, rfl⟩
      rw [hW1, hgw] at hr5 hbs5
      have HGX : Hid (w.heap.size ≤ gx) := HX.out.2.2
      clear hnl hnk hR hP hL ho5 hb5 hs5 hgs hW1 hgw HX hXn
      go_wp2_with (first
        | (refine wpList_bs0X rfl 22 rfl (.slice (some ⟨gw', 0, none⟩) 0 0) W1' hbs5 ?_)
        | (refine wpList_appX rfl (.tmp 34) (.tmp 35) 22 22 rfl (.slice (some ⟨gw', 0, none⟩) 0 0) (.slice (some ⟨gx, 0, none⟩) n cx) (.slice (some ⟨gs, 0, none⟩) n cs) W5 rfl rfl hr5 ?_)
        | fail)
      clear hr5 hbs5
      refine (HR.out gs 0 cs W5 H5.out.1.inl).mono ?_
      rintro e W6 ⟨aw, cw, rfl, hw6, hcw, hb6⟩
      have HCW : Hid (L ≤ cw) := hcw
      have H6 : Hid (BkI W6 gs (X ++ []) ∧ BkI W6 gx (X ++ [987]) ∧ Below w.heap.size w W6 ∧ NdP W6 aw nodes (fun k => k < W6.heap.size)) := ⟨H5.out.1.below hb6, H5.out.2.1.below hb6, H5.out.2.2.trans (hb6.mono H5.out.2.2.size), hw6.lt⟩
      clear hw6 hb6 H5 HR hcw
      go_wp2_with fail
      refine (HP.out gx 0 cx W6 H6.out.2.1.inl).mono ?_
      rintro e W7 ⟨aa, gn, gk, rfl, ha7, hb7⟩
      have H7 : Hid ((BkI W7 gs (X ++ []) ∧ BkI W7 gx (X ++ [987]) ∧ Below w.heap.size w W7 ∧ NdP W7 aw nodes (fun k => k < W6.heap.size)) ∧ PkR W7 W6.heap.size aa gn gk nodes ∧ gx < W6.heap.size ∧ w.heap.size ≤ W6.heap.size) := ⟨⟨H6.out.1.below hb7, H6.out.2.1.below hb7, H6.out.2.2.1.trans (hb7.mono H6.out.2.2.1.size), H6.out.2.2.2.below hb7⟩, ha7, by
        obtain ⟨C, k1, _⟩ := H6.out.2.1
        exact k1.lt, H6.out.2.2.1.size⟩
      clear ha7 hb7 H6
      go_wp2_with fail
      refine (HP.out gx 0 cx W7 H7.out.1.2.1.inl).mono ?_
      rintro e W8 ⟨ab, gn2, gk2, rfl, ha8, hb8⟩
      have HT : Hid (T9 w gx X gs aw aa gn gk ab nodes W6.heap.size W7.heap.size W8) := ⟨H7.out.1.2.1.below hb8, H7.out.1.1.below hb8, H7.out.1.2.2.2.below hb8, H7.out.2.1.next hb8, ha8.ndp, H7.out.2.2.1, fun q => ⟨(H7.out.2.1.bn q).1.lt, by
        obtain ⟨K, k1, _⟩ := H7.out.2.1.kd q
        exact k1.lt⟩, H7.out.1.2.2.1.trans (hb8.mono H7.out.1.2.2.1.size), H7.out.2.2.2⟩
      clear ha8 hb8 H7 HP
      obtain ⟨B1, hB1⟩ : ∃ B, W6.heap.size = B := ⟨_, rfl⟩
      obtain ⟨B2, hB2⟩ : ∃ B, W7.heap.size = B := ⟨_, rfl⟩
      rw [hB1, hB2] at HT
      clear hB1 hB2
      have HNA : Hid (∀ W, T9 w gx X gs aw aa gn gk ab nodes B1 B2 W → Calls Try.prog 6 #[.slice aa L L, .slice aw L cw] W fun e w' => e = .returned (.bool true) ∧ T9 w gx X gs aw aa gn gk ab nodes B1 B2 w') := fun W hW =>
        (numbers_yes aa aw L L cw nodes W hW.a.nda hW.want.nda HNL.out.1 HNL.out.2.2 HNL.out.2.1).mono fun e w' ⟨q1, q2⟩ => ⟨q1, hW.next q2⟩
      have HNB2 : Hid (∀ W, T9 w gx X gs aw aa gn gk ab nodes B1 B2 W → Calls Try.prog 6 #[.slice ab L L, .slice aw L cw] W fun e w' => e = .returned (.bool true) ∧ T9 w gx X gs aw aa gn gk ab nodes B1 B2 w') := fun W hW =>
        (numbers_yes ab aw L L cw nodes W hW.b.nda hW.want.nda HNL.out.1 HNL.out.2.2 HNL.out.2.1).mono fun e w' ⟨q1, q2⟩ => ⟨q1, hW.next q2⟩
      go_wp2_with fail
      refine (HNA.out _ HT.out).mono ?_
      rintro e W9 ⟨rfl, h9⟩
      have HT9 : Hid (T9 w gx X gs aw aa gn gk ab nodes B1 B2 W9) := h9
      clear h9 HT HNA
      go_wp2_with fail
      refine (HNB2.out _ HT9.out).mono ?_
      rintro e W10 ⟨rfl, h10⟩
      have HT10 : Hid (T9 w gx X gs aw aa gn gk ab nodes B1 B2 W10) := h10
      clear h10 HT9 HNB2
      have x987 : W10.cell? ⟨gx, n, none⟩ = some (.int .i64 987) := (HT10.out.x.get (y := 987) (by rw [List.getElem?_append_right (by rw [HXN.out]; exact Nat.le_refl _), HXN.out, Nat.sub_self]; rfl)).1
      have hn1z : (n : Int) + 1 = (n1 : Int) := by have := HN1.out; omega
      have hn1c : n1 ≤ cx := by have := HN1.out; have := HCX.out; omega
      have hn1cz : (n1 : Int) ≤ (cx : Int) := by omega
      have hnn1 : (n : Int) < (n1 : Int) := by omega
      have hnn : n < n1 := by omega
      have hn0z : (0 : Int) ≤ (n : Int) := by omega
      have hn1w : IntKind.i64.wrap (n1 : Int) = (n1 : Int) := by rw [IntKind.wrap_i64]; omega
      go_wp2_with fail
      clear x987 hn1z hn1c hn1cz hnn1 hnn hn1w hn0z
      go_loopw [15] (fun v wr => ∃ i : Nat, v = .int .i64 (i : Int) ∧ i ≤ n ∧ Hid (T9 w gx X gs aw aa gn gk ab nodes B1 B2 wr)) (fun v _ => n - (intOf v).toNat)
      case atStart => exact ⟨0, rfl, by omega, HT10.out⟩
      case round =>
        clear HT10
        obtain ⟨i, rfl, hin, HT⟩ := hrel
        by_cases hil : i < n
        · have hiz : (i : Int) < (n : Int) := by omega
          have hi0 : (0 : Int) ≤ (i : Int) := by omega
          obtain ⟨y, hy⟩ : ∃ y, X[i]? = some y := ⟨_, List.getElem?_eq_getElem (by rw [HXN.out]; exact hil)⟩
          have C1 : Hid (∀ W, T9 w gx X gs aw aa gn gk ab nodes B1 B2 W → W.cell? ⟨gx, i, none⟩ = some (.int .i64 y)) := fun W hW => (hW.x.get (y := y) (by rw [List.getElem?_append_left (by rw [HXN.out]; exact hil)]; exact hy)).1
          have C2 : Hid (∀ W, T9 w gx X gs aw aa gn gk ab nodes B1 B2 W → W.cell? ⟨gs, i, none⟩ = some (.int .i64 y)) := fun W hW => (hW.s.get (y := y) (by rw [List.append_nil]; exact hy)).1
          clear hy
          go_wp2_with fail
          refine region_class10 (T9 w gx X gs aw aa gn gk ab nodes B1 B2) (by kernel_rfl) (by kernel_rfl) (HT.out.next ((Below.refl _ _).drew)) ?_
          try simp only [Act.put, List.setIfInBounds_toArray, List.set_cons_zero, List.set_cons_succ]
          repeat (first
            | go_big_quiet_skip
            | (go_big_quiet_want
               first
                 | (refine quiet_one 3 _ rfl gx i (.int .i64 y) rfl (fun u => Try.isAgg3 u) C1.out ?_; go_big_quiet_on; simp only [Act.put, List.setIfInBounds_toArray, List.set_cons_zero, List.set_cons_succ])
                 | (refine quiet_one 3 _ rfl gs i (.int .i64 y) rfl (fun u => Try.isAgg3 u) C2.out ?_; go_big_quiet_on; simp only [Act.put, List.setIfInBounds_toArray, List.set_cons_zero, List.set_cons_succ])
                 | (refine quiet_val10 (.pointer (some ⟨gx, i, none⟩)) ?_ ?_; (focus (intro W hW; go_simp; done)); go_big_quiet_on; simp only [Act.put, List.setIfInBounds_toArray, List.set_cons_zero, List.set_cons_succ])
                 | (refine quiet_val10 (.pointer (some ⟨gs, i, none⟩)) ?_ ?_; (focus (intro W hW; go_simp; done)); go_big_quiet_on; simp only [Act.put, List.setIfInBounds_toArray, List.set_cons_zero, List.set_cons_succ])
                 | (go_big_quiet_op; go_big_quiet_on)
                 | (refine quiet_val10 (.bool false) ?_ ?_; (focus (intro W hW; go_simp; done)); go_big_quiet_on; simp only [Act.put, List.setIfInBounds_toArray, List.set_cons_zero, List.set_cons_succ])))
          refine wpQuiet_nil ?_
          intro w9 hw9
          have HT9 : Hid (T9 w gx X gs aw aa gn gk ab nodes B1 B2 w9) := hw9
          clear hw9 C1 C2 HT
          go_wp2
          go_roundw
          case rel => exact ⟨i + 1, by go_num, by omega, HT9.out⟩
          case measure => simp [intOf]; omega
        · obtain rfl : i = n := by omega
          have hiz : ¬ (i : Int) < (i : Int) := by omega
          go_wp2_with fail
          clear hiz
          obtain ⟨W0, rfl⟩ : ∃ W : World, W = wr := ⟨_, rfl⟩
          go_loopw [16] (fun v wr => ∃ k : Nat, v = .int .i64 (k : Int) ∧ k ≤ L ∧ Hid ((nodes ≠ [] ∧ TW w W0 gk nodes k wr) ∨ (nodes = [] ∧ wr = W0))) (fun v _ => L - (intOf v).toNat)
          case atStart =>
            refine ⟨0, rfl, by omega, ?_⟩
            by_cases hne : nodes = []
            · exact .inr ⟨hne, rfl⟩
            · exact .inl ⟨hne, TW.new HT.out.a hne HT.out.bel HT.out.lo⟩
          case round =>
            obtain ⟨k, rfl, hkL, HK⟩ := hrel
            by_cases hkl : k < L
            · have hkz : (k : Int) < (L : Int) := by omega
              have hk0 : (0 : Int) ≤ (k : Int) := by omega
              obtain ⟨ns, hns⟩ : ∃ ns, nodes[k]? = some ns := ⟨_, List.getElem?_eq_getElem (by rw [HNL.out.1]; exact hkl)⟩
              have hne : nodes ≠ [] := fun e => by rw [e] at hns; simp at hns
              have hTW : TW w W0 gk nodes k wr := by
                rcases HK.out with h | h
                · exact h.2
                · exact absurd h.1 hne
              have had := HT.out.a.ad hne
              obtain ⟨hbn, hbl⟩ := HT.out.a.bn hne
              obtain ⟨K0, hK0, _, hkB⟩ := HT.out.a.kd hne
              have hgne : gn ≠ gk := ne_ty9 hbn hK0
              have hkB2 := (HT.out.gkb hne).2
              obtain ⟨gv, ov, _, _, _, hav, _⟩ := HT.out.want k ns hns
              obtain ⟨p, hp⟩ : ∃ q, stt nodes k = q := ⟨_, rfl⟩
              obtain ⟨q, hq⟩ : ∃ q, ns.length = q := ⟨_, rfl⟩
              have hs2 : stt nodes (k + 1) = p + q := by rw [stt_succ nodes k ns hns, hp, hq]
              have hqb : q ≤ 4194304 := by rw [← hq]; exact HNL.out.2.2 ns (List.mem_of_getElem? hns)
              have hcl : wr.cell? ⟨gn, k, none⟩ = some (.slice (some ⟨gk, p, none⟩) q q) := by
                have hb : Bk wr gn (ndc gk nodes nodes.length) 32 := by unfold Bk; rw [hTW.fr gn hbn.lt hgne]; exact hbn
                have hkn : k < nodes.length := by rw [HNL.out.1]; exact hkl
                rw [hb.cell, ndc_get gk nodes nodes.length k hkn, if_pos hkn, ndv, kid_at hns, hp, hq]
              have HTW : Hid (TW w W0 gk nodes (k + 1) wr) := hTW.up hns
              have HNS : Hid (nodes[k]? = some ns ∧ stt nodes (k + 1) = p + q ∧ p + q ≤ nodes.flatten.length) := ⟨hns, hs2, by rw [← hs2]; exact stt_le nodes (k + 1)⟩
              have HPS : Hid (Bk W0 gn (ndc gk nodes nodes.length) 32 ∧ gn ≠ gk ∧ B1 ≤ gk ∧ gk < B2) := ⟨hbn, hgne, hkB, hkB2⟩
              subst had
              subst hav
              clear hTW hbn hbl hK0 hkB hgne hkB2 hns hne hp hq hs2 HK
              go_wp2_with fail
              go_loopw [18] (fun v wr => ∃ d : Nat, v = .int .i64 (d : Int) ∧ d ≤ q ∧ Hid (TW w W0 gk nodes (k + 1) wr)) (fun v _ => q - (intOf v).toNat)
              case atStart => exact ⟨0, rfl, by omega, HTW.out⟩
              case round =>
                clear HTW hcl
                obtain ⟨d, rfl, hd, HT1⟩ := hrel
                by_cases hdq : d < q
                · have hdz : (d : Int) < (q : Int) := by omega
                  have hd0 : (0 : Int) ≤ (d : Int) := by omega
                  obtain ⟨u0, hu0⟩ : ∃ u, wr.cell? ⟨gk, p + d, none⟩ = some u := by
                    obtain ⟨K, k1, k2, _⟩ := HT1.out.kd
                    exact ⟨_, by rw [k1.cell]; exact Array.getElem?_eq_getElem (by have := HNS.out.2.2; omega)⟩
                  have hf0 : wr.frozen? ⟨gk, p + d, none⟩ = false := by
                    obtain ⟨K, k1, _⟩ := HT1.out.kd
                    exact k1.frozen _
                  have HT2 : Hid (TW w W0 gk nodes (k + 1) (wr.setCell ⟨gk, p + d, none⟩ (.int .i64 (-1)))) := HT1.out.put (by rw [HNS.out.2.1]; omega)
                  clear HT1
                  go_wp2
                  go_roundw
                  case rel => exact ⟨d + 1, by go_num, by omega, HT2.out⟩
                  case measure => simp [intOf]; omega
                · obtain rfl : d = q := by omega
                  have hdz : ¬ (d : Int) < (d : Int) := by omega
                  go_wp2_with fail
                  clear hdz
                  go_loopw [17, 19] (fun lv kv wr => ∃ (e : Nat) (vv : Value), vv = lv ∧ kv = .int .i64 (e : Int) ∧ e ≤ 20 ∧ Hid (Lq W0 gk (d + e) vv wr ∧ TW w W0 gk nodes (k + 1) wr)) (fun _ kv _ => 20 - (intOf kv).toNat)
                  case atStart =>
                    obtain ⟨K, k1, k2, _⟩ := HT1.out.kd
                    exact ⟨0, _, rfl, rfl, by omega, .inl ⟨p, K, rfl, k1, by have := HNS.out.2.2; omega⟩, HT1.out⟩
                  case round =>
                    clear HT1
                    obtain ⟨e, v, rfl, rfl, he, HL⟩ := hrel
                    by_cases hel : e < 20
                    · have hez : (e : Int) < 20 := by omega
                      obtain ⟨g9, c9, W9, hr9, hL9, hT9⟩ := HL.out.1.app (x := -2) HL.out.2 (by omega)
                      have hbs := bsI (-2) wr
                      have HL9 : Hid (Lq W0 gk (d + e + 1) (.slice (some ⟨g9, 0, none⟩) (d + e + 1) c9) W9 ∧ TW w W0 gk nodes (k + 1) W9) := ⟨hL9, hT9⟩
                      obtain ⟨W8, hW8⟩ : ∃ W, wr.alloc (.cells #[.int .i64 (-2)] 3) = W := ⟨_, rfl⟩
                      obtain ⟨gb', hgb⟩ : ∃ g, wr.heap.size = g := ⟨_, rfl⟩
                      rw [hW8, hgb] at hbs hr9
                      obtain ⟨v9, hv9⟩ : ∃ u, Value.slice (some ⟨g9, 0, none⟩) (d + e + 1) c9 = u := ⟨_, rfl⟩
                      rw [hv9] at hr9 HL9
                      clear hL9 hT9 hW8 hgb hv9 HL
                      go_wp2_with (first
                        | (refine wpList_bsX rfl 22 (.const (.int .i64 (-2))) rfl (.int .i64 (-2)) (.slice (some ⟨gb', 0, none⟩) 1 1) W8 rfl hbs ?_)
                        | (refine wpList_appX rfl (.tmp 118) (.tmp 119) 22 22 rfl v (.slice (some ⟨gb', 0, none⟩) 1 1) v9 W9 rfl rfl hr9 ?_)
                        | fail)
                      clear hbs hr9
                      go_roundw
                      case rel => exact ⟨e + 1, v9, rfl, by go_num, by omega, HL9.out⟩
                      case measure => simp [intOf]; omega
                    · obtain rfl : e = 20 := by omega
                      have hez : ¬ (20 : Int) < 20 := by omega
                      obtain ⟨av, cv, hvv⟩ : ∃ av cv, v = .slice av (d + 20) cv := by
                        rcases HL.out.1 with ⟨p', _, h, _⟩ | ⟨_, h⟩
                        · exact ⟨_, _, h⟩
                        · exact sl_of h
                      subst hvv
                      obtain ⟨n20, h20⟩ : ∃ u, d + 20 = u := ⟨_, rfl⟩
                      have h20z : ¬ (n20 : Int) < 20 := by omega
                      obtain ⟨k1, hk1⟩ : ∃ u, k + 1 = u := ⟨_, rfl⟩
                      have hk1z : (k : Int) + 1 = (k1 : Int) := by omega
                      obtain ⟨Lk, hLk⟩ : ∃ u, L - k1 = u := ⟨_, rfl⟩
                      obtain ⟨ck, hck⟩ : ∃ u, cw - k1 = u := ⟨_, rfl⟩
                      have hcw := HCW.out
                      have hLb := HNL.out.2.1
                      have hk1L : k1 ≤ L := by omega
                      have hk1w : k1 ≤ cw := by omega
                      have hk1Lz : (k1 : Int) ≤ (L : Int) := by omega
                      have hk10 : (0 : Int) ≤ (k1 : Int) := by omega
                      have hk1b : (k1 : Int) ≤ 4194304 := by omega
                      have hkw : IntKind.i64.wrap (k1 : Int) = (k1 : Int) := by rw [IntKind.wrap_i64]; omega
                      have hLkz : (L : Int) - (k1 : Int) = (Lk : Int) := by omega
                      obtain ⟨o1, ho1⟩ : ∃ o, (if L = k1 then 0 else k1) = o := ⟨_, rfl⟩
                      obtain ⟨o2, ho2⟩ : ∃ o, (if cw = k1 then ov else ov + k1) = o := ⟨_, rfl⟩
                      have HO1 : Hid ((if L = k1 then 0 else k1) = o1) := ho1
                      have HO2 : Hid ((if cw = k1 then ov else ov + k1) = o2) := ho2
                      clear ho1 ho2
                      have HT1 : Hid (TW w W0 gk nodes k1 wr) := by rw [← hk1]; exact HL.out.2
                      have HD : Hid (∀ ns ∈ nodes.drop k1, ns.length ≤ 4194304) := fun ns h => HNL.out.2.2 ns (List.mem_of_mem_drop h)
                      have HDL : Hid ((nodes.drop k1).length = Lk ∧ Lk ≤ 4194304) := ⟨by rw [List.length_drop, HNL.out.1, hLk], by omega⟩
                      have HN1 : Hid (∀ W, TW w W0 gk nodes k1 W → Calls Try.prog 6 #[.slice (some ⟨gn, o1, none⟩) Lk Lk, .slice (some ⟨gv, o2, none⟩) Lk ck] W fun e w' => e = .returned (.bool true) ∧ TW w W0 gk nodes k1 w') := fun W hW =>
                        (numbers_yes _ _ Lk Lk ck (nodes.drop k1) W (nda_if (hW.nda HPS.out.1 HPS.out.2.1) (fun h => List.eq_nil_of_length_eq_zero (by rw [HDL.out.1]; omega)) HO1.out) (nda_if ((HT.out.want.kept hW.sz (fun q hq hP => hW.fr q hq (by have := HPS.out.2.2.1; omega))).nda.drop k1) (fun h => List.eq_nil_of_length_eq_zero (by rw [HDL.out.1]; omega)) HO2.out) HDL.out.1 HD.out HDL.out.2).mono fun e w' ⟨q1, q2⟩ => ⟨q1, hW.next q2⟩
                      have HN2 : Hid (∀ W, TW w W0 gk nodes k1 W → Calls Try.prog 6 #[.slice ab L L, .slice (some ⟨gv, ov, none⟩) L cw] W fun e w' => e = .returned (.bool true) ∧ TW w W0 gk nodes k1 w') := fun W hW =>
                        (numbers_yes _ _ L L cw nodes W (HT.out.b.kept hW.sz (fun q hq hP => hW.fr q hq (by have := HPS.out.2.2.2; omega))).nda (HT.out.want.kept hW.sz (fun q hq hP => hW.fr q hq (by have := HPS.out.2.2.1; omega))).nda HNL.out.1 HNL.out.2.2 HNL.out.2.1).mono fun e w' ⟨q1, q2⟩ => ⟨q1, hW.next q2⟩
                      rw [h20]
                      clear hk1 HL h20
                      go_wp2_with fail
                      refine region_class10 (TW w W0 gk nodes k1) (by kernel_rfl) (by kernel_rfl) (HT1.out.next ((Below.refl _ _).drew)) ?_
                      try simp only [Act.put, List.setIfInBounds_toArray, List.set_cons_zero, List.set_cons_succ]
                      repeat (first
                        | go_big_quiet_skip
                        | (go_big_quiet_want
                           first
                             | (refine quiet_call10 (.bool true) 6 #[.slice (some ⟨gn, o1, none⟩) Lk Lk, .slice (some ⟨gv, o2, none⟩) Lk ck] ?_ ?_ ?_; (focus (intro W hW; go_simp; done)); (focus (intro W hW; exact HN1.out W hW)); go_big_quiet_on; simp only [Act.put, List.setIfInBounds_toArray, List.set_cons_zero, List.set_cons_succ])
                             | (refine quiet_call10 (.bool true) 6 #[.slice ab L L, .slice (some ⟨gv, ov, none⟩) L cw] ?_ ?_ ?_; (focus (intro W hW; go_simp; done)); (focus (intro W hW; exact HN2.out W hW)); go_big_quiet_on; simp only [Act.put, List.setIfInBounds_toArray, List.set_cons_zero, List.set_cons_succ])
                             | (refine quiet_val10 (.slice (some ⟨gn, o1, none⟩) Lk Lk) ?_ ?_; (focus (intro W hW; go_simp; exact if_sl9 HO1.out)); go_big_quiet_on; simp only [Act.put, List.setIfInBounds_toArray, List.set_cons_zero, List.set_cons_succ])
                             | (refine quiet_val10 (.slice (some ⟨gv, o2, none⟩) Lk ck) ?_ ?_; (focus (intro W hW; go_simp; exact if_sl9 HO2.out)); go_big_quiet_on; simp only [Act.put, List.setIfInBounds_toArray, List.set_cons_zero, List.set_cons_succ])
                             | (refine quiet_val10 (.int .i64 (n20 : Int)) ?_ ?_; (focus (intro W hW; go_simp; done)); go_big_quiet_on; simp only [Act.put, List.setIfInBounds_toArray, List.set_cons_zero, List.set_cons_succ])
                             | (refine quiet_val10 (.int .i64 (k1 : Int)) ?_ ?_; (focus (intro W hW; go_simp; done)); go_big_quiet_on; simp only [Act.put, List.setIfInBounds_toArray, List.set_cons_zero, List.set_cons_succ])
                             | (go_big_quiet_op; go_big_quiet_on)
                             | (refine quiet_val10 (.bool false) ?_ ?_; (focus (intro W hW; go_simp; done)); go_big_quiet_on; simp only [Act.put, List.setIfInBounds_toArray, List.set_cons_zero, List.set_cons_succ])))
                      refine wpQuiet_nil ?_
                      intro w9 hw9
                      have HT9 : Hid (TW w W0 gk nodes k1 w9) := hw9
                      clear hw9 HN1 HN2 HT1
                      go_wp2
                      go_roundw
                      case rel => exact ⟨k1, by go_num, hk1L, .inl ⟨fun e => by have h1 := HNS.out.1; rw [e] at h1; simp at h1, HT9.out⟩⟩
                      case measure => simp [intOf]; omega
            · obtain rfl : k = L := by omega
              have hkz : ¬ (k : Int) < (k : Int) := by omega
              have HX3 : Hid (BkI wr gx (X ++ [987]) ∧ Below w.heap.size w wr ∧ w.heap.size ≤ gx) := by
                rcases HK.out with ⟨hne, h⟩ | ⟨_, rfl⟩
                · refine ⟨?_, h.bel, HG0.out⟩
                  obtain ⟨C, k1, k2⟩ := HT.out.x
                  obtain ⟨_, _, _, hkB⟩ := HT.out.a.kd hne
                  have hgx := HT.out.gx
                  refine ⟨C, ?_, k2⟩
                  have hl := k1.lt
                  unfold Bk at k1 ⊢
                  rw [h.fr gx hl (by omega), k1]
                · exact ⟨HT.out.x, HT.out.bel, HG0.out⟩
              have HXN2 : Hid (X.length = i) := HXN.out
              clear HK HT HNL HXN
              go_wp2_with fail
              clear hkz
              try simp only [Act.put]
              go_loopw [20] (fun v wr => ∃ (d : Nat) (X' : List Int), v = .int .i64 (d : Int) ∧ d ≤ i / 2 ∧ X'.length = i ∧ Hid (BkI wr gx (X' ++ [987]) ∧ Below w.heap.size w wr ∧ w.heap.size ≤ gx)) (fun v _ => i - (intOf v).toNat)
              case atStart => exact ⟨0, X, rfl, by omega, HXN2.out, HX3.out⟩
              case round =>
                clear HX3
                obtain ⟨d, X', rfl, hd, hX', HD⟩ := hrel
                have hnb9 : (i : Int) ≤ 140737488355328 := by have := HNB.out; omega
                by_cases hdl : d < i / 2
                · have hdz : (d : Int) < (i : Int) / 2 := by omega
                  have hdi : (d : Int) < (i : Int) := by omega
                  have hd0 : (0 : Int) ≤ (d : Int) := by omega
                  obtain ⟨p9, hp9⟩ : ∃ u, i - 1 - d = u := ⟨_, rfl⟩
                  obtain ⟨i1, hi1⟩ : ∃ u, i - 1 = u := ⟨_, rfl⟩
                  have hi1z : (i : Int) - 1 = (i1 : Int) := by omega
                  have hi1w : IntKind.i64.wrap (i1 : Int) = (i1 : Int) := by rw [IntKind.wrap_i64]; omega
                  have hpz : (i1 : Int) - (d : Int) = (p9 : Int) := by omega
                  have hpw : IntKind.i64.wrap (p9 : Int) = (p9 : Int) := by rw [IntKind.wrap_i64]; omega
                  have hp0 : (0 : Int) ≤ (p9 : Int) := by omega
                  have hpi : (p9 : Int) < (i : Int) := by omega
                  obtain ⟨y1, hy1⟩ : ∃ y, X'[d]? = some y := ⟨_, List.getElem?_eq_getElem (by omega)⟩
                  obtain ⟨y2, hy2⟩ : ∃ y, X'[p9]? = some y := ⟨_, List.getElem?_eq_getElem (by omega)⟩
                  have C1 : Hid (∀ W, (BkI W gx (X' ++ [987]) ∧ Below w.heap.size w W) → W.cell? ⟨gx, d, none⟩ = some (.int .i64 y1)) := fun W hW => (hW.1.get (y := y1) (by rw [List.getElem?_append_left (by omega)]; exact hy1)).1
                  have C2 : Hid (∀ W, (BkI W gx (X' ++ [987]) ∧ Below w.heap.size w W) → W.cell? ⟨gx, p9, none⟩ = some (.int .i64 y2)) := fun W hW => (hW.1.get (y := y2) (by rw [List.getElem?_append_left (by omega)]; exact hy2)).1
                  have HA : Hid (∀ W, (BkI W gx (X' ++ [987]) ∧ Below w.heap.size w W) → W.frozen? ⟨gx, d, none⟩ = false ∧ (W.setCell ⟨gx, d, none⟩ (.int .i64 y2)).cell? ⟨gx, p9, none⟩ ≠ none ∧ (W.setCell ⟨gx, d, none⟩ (.int .i64 y2)).frozen? ⟨gx, p9, none⟩ = false ∧
                      BkI ((W.setCell ⟨gx, d, none⟩ (.int .i64 y2)).setCell ⟨gx, p9, none⟩ (.int .i64 y1)) gx (((X'.set d y2).set p9 y1) ++ [987]) ∧ Below w.heap.size w ((W.setCell ⟨gx, d, none⟩ (.int .i64 y2)).setCell ⟨gx, p9, none⟩ (.int .i64 y1))) := by
                    intro W hW
                    have hs := hW.1.set (i := d) (v := y2) (by rw [List.length_append, hX']; omega)
                    obtain ⟨z, hz⟩ : ∃ z, ((X' ++ [987]).set d y2)[p9]? = some z := ⟨_, List.getElem?_eq_getElem (by rw [List.length_set, List.length_append, hX']; omega)⟩
                    obtain ⟨g1, g2⟩ := hs.get hz
                    refine ⟨(hW.1.get (y := y1) (by rw [List.getElem?_append_left (by omega)]; exact hy1)).2, by rw [g1]; simp, g2, ?_, ?_⟩
                    · have h3 := hs.set (i := p9) (v := y1) (by rw [List.length_set, List.length_append, hX']; omega)
                      rw [List.set_append_left _ _ (by omega), List.set_append_left _ _ (by rw [List.length_set]; omega)] at h3
                      exact h3
                    · exact (hW.2.setCell HD.out.2.2 _).setCell HD.out.2.2 _
                  have HXL : Hid (((X'.set d y2).set p9 y1).length = i) := by rw [List.length_set, List.length_set]; exact hX'
                  have HG : Hid (w.heap.size ≤ gx) := HD.out.2.2
                  have HD1 : Hid (BkI wr gx (X' ++ [987]) ∧ Below w.heap.size w wr) := ⟨HD.out.1, HD.out.2.1⟩
                  have c1 := C1.out wr HD1.out
                  have c2 := C2.out wr HD1.out
                  have f1 := (HA.out wr HD1.out).1
                  have f2 : wr.frozen? ⟨gx, p9, none⟩ = false := (HD1.out.1.get (y := y2) (by rw [List.getElem?_append_left (by omega)]; exact hy2)).2
                  have hpd : ¬ p9 = d := by omega
                  have hdp : ¬ d = p9 := by omega
                  have HB9 : Hid (∀ nq, BkI (((wr.drewN nq).setCell ⟨gx, d, none⟩ (.int .i64 y2)).setCell ⟨gx, p9, none⟩ (.int .i64 y1)) gx (((X'.set d y2).set p9 y1) ++ [987]) ∧ Below w.heap.size w (((wr.drewN nq).setCell ⟨gx, d, none⟩ (.int .i64 y2)).setCell ⟨gx, p9, none⟩ (.int .i64 y1)) ∧ w.heap.size ≤ gx) := fun nq => by
                    have h := (HA.out (wr.drewN nq) ⟨HD1.out.1.below (below_drewN (Below.refl _ _) nq), below_drewN HD1.out.2 nq⟩).2.2.2
                    exact ⟨h.1, h.2, HG.out⟩
                  clear hp9 hi1 hy1 hy2 HD hX' HA C1 C2 HD1
                  go_wp2_with fail
                  go_region
                  all_goals go_wp2
                  all_goals go_roundw
                  case rel => exact ⟨d + 1, _, by go_num, by omega, HXL.out, HB9.out _⟩
                  case measure => simp [intOf]; omega
                · have hdz : ¬ (d : Int) < (i : Int) / 2 := by omega
                  go_wp2
                  go_roundw
                  case rel => exact ⟨r + 1, X', by go_num, by omega, hX', HD.out⟩
                  case measure => simp [intOf]; omega
    · obtain rfl : r = 2 := by omega
      have hrz : ¬ (2 : Int) < 2 := by omega
      have hb := HX.out.2.1
      go_wp2
      exact ⟨rfl, _, by kernel_rfl, rfl, hb⟩
end Go.Proofs.Ythfggejdeodinaa
