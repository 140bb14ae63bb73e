/- Law 9: numbers, of lists that are alike. -/
import Derived.Test.YthfggejdeodinaaU28
import Derived.Test.YthfggejdeodinaaM13
import Derived.Test.YthfggejdeodinaaM14
namespace Go.Proofs.Ythfggejdeodinaa
open Go.RowKit
set_option linter.unusedSimpArgs false
set_option linter.unusedVariables false
/-- Lists of numbers that a slice's slices have. -/
def NdA (w : World) (a : Option Addr) (nodes : List (List Nat)) : Prop := ∀ i ns, nodes[i]? = some ns → ∃ g o gk ok ck, a = some ⟨g, o, none⟩ ∧ g < w.heap.size ∧ w.cell? ⟨g, o + i, none⟩ = some (.slice (some ⟨gk, ok, none⟩) ns.length ck) ∧ gk < w.heap.size ∧ ∀ j x, ns[j]? = some x → w.cell? ⟨gk, ok + j, none⟩ = some (.int .i64 ((x : Nat) : Int))
theorem NdA.below {w w' : World} {a : Option Addr} {nodes : List (List Nat)} (h : NdA w a nodes) (hb : Below w.heap.size w w') : NdA w' a nodes := fun i ns hi => by
  obtain ⟨g, o, gk, ok, ck, h1, h2, h3, h4, h5⟩ := h i ns hi
  exact ⟨g, o, gk, ok, ck, h1, Nat.lt_of_lt_of_le h2 hb.size, by rw [hb.cell h2]; exact h3, Nat.lt_of_lt_of_le h4 hb.size, fun j x hx => by rw [hb.cell h4]; exact h5 j x hx⟩
set_option maxHeartbeats 4000000 in
set_option maxRecDepth 100000 in
theorem numbers_yes (a b : Option Addr) (L ca cb : Nat) (nodes : List (List Nat)) (w : World) (hA : NdA w a nodes) (hB : NdA w b nodes) (hL : nodes.length = L) (hz : ∀ ns ∈ nodes, ns.length ≤ 4194304) (hLb : L ≤ 4194304) :
    Calls Try.prog 6 #[.slice a L ca, .slice b L cb] w fun e w' => e = .returned (.bool true) ∧ Below w.heap.size w w' := by
  have HAB : Hid (∀ W, Below w.heap.size w W → NdA W a nodes ∧ NdA W b nodes) := fun W hW => ⟨hA.below hW, hB.below hW⟩
  have HN : Hid (nodes.length = L ∧ ∀ ns ∈ nodes, ns.length ≤ 4194304) := ⟨hL, hz⟩
  have hbz : ((L : Int) != (L : Int)) = false := by simp
  clear hA hB hL hz
  go_enter Try.func6, Try.ntmps6
  go_wp2
  go_loopw [5] (fun v wr => ∃ i : Nat, v = .int .i64 i ∧ i ≤ L ∧ Hid (Below w.heap.size w wr)) (fun v _ => L - (intOf v).toNat)
  case atStart => exact ⟨0, rfl, by omega, Below.refl _ _⟩
  case round =>
    obtain ⟨i, rfl, hin, HB⟩ := hrel
    by_cases hlt : i < L
    · obtain ⟨wo, rfl⟩ : ∃ W : World, W = wr := ⟨_, rfl⟩
      have hiz : (i : Int) < (L : Int) := by omega
      have hi0 : (0 : Int) ≤ (i : Int) := by omega
      obtain ⟨ns, hns⟩ : ∃ ns, nodes[i]? = some ns := ⟨_, List.getElem?_eq_getElem (by rw [HN.out.1]; exact hlt)⟩
      have hnb : ns.length ≤ 4194304 := HN.out.2 ns (List.mem_of_getElem? hns)
      obtain ⟨wa, wb⟩ := HAB.out wo HB.out
      obtain ⟨g1, o1, k1, q1, d1, h1, hg1, hc1, hk1, hx1⟩ := wa i ns hns
      obtain ⟨g2, o2, k2, q2, d2, h2, hg2, hc2, hk2, hx2⟩ := wb i ns hns
      subst h1
      subst h2
      obtain ⟨n, hn⟩ : ∃ n, ns.length = n := ⟨_, rfl⟩
      rw [hn] at hc1 hc2 hnb
      have HNS : Hid (ns.length = n) := hn
      have CC : Hid (∀ W, Below wo.heap.size wo W → W.cell? ⟨g1, o1 + i, none⟩ = some (.slice (some ⟨k1, q1, none⟩) n d1) ∧ W.cell? ⟨g2, o2 + i, none⟩ = some (.slice (some ⟨k2, q2, none⟩) n d2) ∧ ∀ (j x : Nat), ns[j]? = some x → W.cell? ⟨k1, q1 + j, none⟩ = some (.int .i64 (x : Int)) ∧ W.cell? ⟨k2, q2 + j, none⟩ = some (.int .i64 (x : Int))) := fun W hW =>
        ⟨by rw [hW.cell hg1]; exact hc1, by rw [hW.cell hg2]; exact hc2, fun j x hx => ⟨by rw [hW.cell hk1]; exact hx1 j x hx, by rw [hW.cell hk2]; exact hx2 j x hx⟩⟩
      have C1 : Hid (∀ W, Below wo.heap.size wo W → W.cell? ⟨g1, o1 + i, none⟩ = some (.slice (some ⟨k1, q1, none⟩) n d1)) := fun W hW => (CC.out W hW).1
      have C2 : Hid (∀ W, Below wo.heap.size wo W → W.cell? ⟨g2, o2 + i, none⟩ = some (.slice (some ⟨k2, q2, none⟩) n d2)) := fun W hW => (CC.out W hW).2.1
      have hnz : ((n : Int) != (n : Int)) = false := by simp
      clear wa wb hc1 hc2 hx1 hx2 hg1 hg2 hk1 hk2 hns hn
      go_wp2
      refine region_class10 (fun W => Below wo.heap.size wo W) (by kernel_rfl) (by kernel_rfl) ((Below.refl _ _).drew) ?_
      try simp only [Act.put, List.setIfInBounds_toArray, List.set_cons_zero, List.set_cons_succ]
      repeat (first
        | go_big_quiet_skip
        | (go_big_quiet_want
           first
             | (refine quiet_one 22 _ rfl g1 (o1 + i) (.slice (some ⟨k1, q1, none⟩) n d1) rfl (fun u => Try.isAgg22 u) C1.out ?_; go_big_quiet_on; simp only [Act.put, List.setIfInBounds_toArray, List.set_cons_zero, List.set_cons_succ])
             | (refine quiet_one 22 _ rfl g2 (o2 + i) (.slice (some ⟨k2, q2, none⟩) n d2) rfl (fun u => Try.isAgg22 u) C2.out ?_; go_big_quiet_on; simp only [Act.put, List.setIfInBounds_toArray, List.set_cons_zero, List.set_cons_succ])
             | (refine quiet_val10 (.pointer (some ⟨g1, o1 + i, none⟩)) ?_ ?_; (focus (intro W hW; go_simp; done)); go_big_quiet_on; simp only [Act.put, List.setIfInBounds_toArray, List.set_cons_zero, List.set_cons_succ])
             | (refine quiet_val10 (.pointer (some ⟨g2, o2 + i, none⟩)) ?_ ?_; (focus (intro W hW; go_simp; done)); go_big_quiet_on; simp only [Act.put, List.setIfInBounds_toArray, List.set_cons_zero, List.set_cons_succ])
             | (refine quiet_val10 (.int .i64 (n : Int)) ?_ ?_; (focus (intro W hW; go_simp; done)); go_big_quiet_on; simp only [Act.put, List.setIfInBounds_toArray, List.set_cons_zero, List.set_cons_succ])
             | (go_big_quiet_op; go_big_quiet_on)
             | (refine quiet_val10 (.bool false) ?_ ?_; (focus (intro W hW; go_simp; done)); go_big_quiet_on; simp only [Act.put, List.setIfInBounds_toArray, List.set_cons_zero, List.set_cons_succ])))
      refine wpQuiet_nil ?_
      intro w9 hw9
      have H6 : Hid (Below w.heap.size w w9) := HB.out.trans (hw9.mono HB.out.size)
      have hw9q := hw9
      clear hw9
      have HWO9 : Hid (Below wo.heap.size wo w9) := hw9q
      clear C1 C2 hw9q HB hnz
      go_wp2_with fail
      go_loopw [6] (fun v wr => ∃ k : Nat, v = .int .i64 k ∧ k ≤ n ∧ Hid (Below wo.heap.size wo wr ∧ Below w.heap.size w wr)) (fun v _ => n - (intOf v).toNat)
      case atStart => exact ⟨0, rfl, by omega, HWO9.out, H6.out⟩
      case round =>
        clear HWO9 H6
        obtain ⟨k, rfl, hk, HK⟩ := hrel
        have HB : Hid (Below w.heap.size w wr) := HK.out.2
        obtain ⟨e1, e2, e3⟩ := CC.out wr HK.out.1
        by_cases hkl : k < n
        · have hkz : (k : Int) < (n : Int) := by omega
          have hk0 : (0 : Int) ≤ (k : Int) := by omega
          obtain ⟨x, hx⟩ : ∃ x, ns[k]? = some x := ⟨_, List.getElem?_eq_getElem (by rw [HNS.out]; exact hkl)⟩
          have D1 : Hid (∀ W, Below wr.heap.size wr W → W.cell? ⟨g1, o1 + i, none⟩ = some (.slice (some ⟨k1, q1, none⟩) n d1)) := fun W hW => (CC.out W (HK.out.1.trans (hW.mono HK.out.1.size))).1
          have D2 : Hid (∀ W, Below wr.heap.size wr W → W.cell? ⟨g2, o2 + i, none⟩ = some (.slice (some ⟨k2, q2, none⟩) n d2)) := fun W hW => (CC.out W (HK.out.1.trans (hW.mono HK.out.1.size))).2.1
          have E1 : Hid (∀ W, Below wr.heap.size wr W → W.cell? ⟨k1, q1 + k, none⟩ = some (.int .i64 (x : Int))) := fun W hW => ((CC.out W (HK.out.1.trans (hW.mono HK.out.1.size))).2.2 k x hx).1
          have E2 : Hid (∀ W, Below wr.heap.size wr W → W.cell? ⟨k2, q2 + k, none⟩ = some (.int .i64 (x : Int))) := fun W hW => ((CC.out W (HK.out.1.trans (hW.mono HK.out.1.size))).2.2 k x hx).2
          clear hx e3
          go_wp2
          refine region_class10 (fun W => Below wr.heap.size wr W) (by kernel_rfl) (by kernel_rfl) ((Below.refl _ _).drew) ?_
          try simp only [Act.put, List.setIfInBounds_toArray, List.set_cons_zero, List.set_cons_succ]
          repeat (first
            | go_big_quiet_skip
            | (go_big_quiet_want
               first
                 | (refine quiet_one 22 _ rfl g1 (o1 + i) (.slice (some ⟨k1, q1, none⟩) n d1) rfl (fun u => Try.isAgg22 u) D1.out ?_; go_big_quiet_on; simp only [Act.put, List.setIfInBounds_toArray, List.set_cons_zero, List.set_cons_succ])
                 | (refine quiet_one 22 _ rfl g2 (o2 + i) (.slice (some ⟨k2, q2, none⟩) n d2) rfl (fun u => Try.isAgg22 u) D2.out ?_; go_big_quiet_on; simp only [Act.put, List.setIfInBounds_toArray, List.set_cons_zero, List.set_cons_succ])
                 | (refine quiet_one 3 _ rfl k1 (q1 + k) (.int .i64 (x : Int)) rfl (fun u => Try.isAgg3 u) E1.out ?_; go_big_quiet_on; simp only [Act.put, List.setIfInBounds_toArray, List.set_cons_zero, List.set_cons_succ])
                 | (refine quiet_one 3 _ rfl k2 (q2 + k) (.int .i64 (x : Int)) rfl (fun u => Try.isAgg3 u) E2.out ?_; go_big_quiet_on; simp only [Act.put, List.setIfInBounds_toArray, List.set_cons_zero, List.set_cons_succ])
                 | (refine quiet_val10 (.pointer (some ⟨g1, o1 + i, none⟩)) ?_ ?_; (focus (intro W hW; go_simp; done)); go_big_quiet_on; simp only [Act.put, List.setIfInBounds_toArray, List.set_cons_zero, List.set_cons_succ])
                 | (refine quiet_val10 (.pointer (some ⟨g2, o2 + i, none⟩)) ?_ ?_; (focus (intro W hW; go_simp; done)); go_big_quiet_on; simp only [Act.put, List.setIfInBounds_toArray, List.set_cons_zero, List.set_cons_succ])
                 | (refine quiet_val10 (.pointer (some ⟨k1, q1 + k, none⟩)) ?_ ?_; (focus (intro W hW; go_simp; done)); go_big_quiet_on; simp only [Act.put, List.setIfInBounds_toArray, List.set_cons_zero, List.set_cons_succ])
                 | (refine quiet_val10 (.pointer (some ⟨k2, q2 + k, none⟩)) ?_ ?_; (focus (intro W hW; go_simp; done)); go_big_quiet_on; simp only [Act.put, List.setIfInBounds_toArray, List.set_cons_zero, List.set_cons_succ])
                 | (go_big_quiet_op; go_big_quiet_on)
                 | (refine quiet_val10 (.bool false) ?_ ?_; (focus (intro W hW; go_simp; done)); go_big_quiet_on; simp only [Act.put, List.setIfInBounds_toArray, List.set_cons_zero, List.set_cons_succ])))
          refine wpQuiet_nil ?_
          intro w9 hw9
          have H11 : Hid (Below w.heap.size w w9) := HB.out.trans (hw9.mono HB.out.size)
          have hw9q := hw9
          clear hw9
          have HW11 : Hid (Below wo.heap.size wo w9) := HK.out.1.trans (hw9q.mono HK.out.1.size)
          clear D1 D2 E1 E2 HB HK hw9q e1 e2
          go_wp2
          go_roundw
          case rel => exact ⟨k + 1, by go_num, by omega, HW11.out, H11.out⟩
          case measure => simp [intOf]; omega
        · obtain rfl : k = n := by omega
          have hkz : ¬ (k : Int) < (k : Int) := by omega
          clear e3
          go_wp2
          go_roundw
          case rel => exact ⟨i + 1, by go_num, by omega, HK.out.2⟩
          case measure => simp [intOf]; omega
    · obtain rfl : i = L := by omega
      have hiz : ¬ (i : Int) < (i : Int) := by omega
      go_wp2
      go_ret
      exact ⟨rfl, HB.out⟩
end Go.Proofs.Ythfggejdeodinaa
