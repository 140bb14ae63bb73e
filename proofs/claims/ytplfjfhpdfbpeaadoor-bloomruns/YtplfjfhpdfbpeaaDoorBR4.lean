/- The document's Add, Has, Ones. -/
import Derived.Test.YtplfjfhpdfbpeaaDoorBR3
import Derived.Test.YtplfjfhpdfbpeaaDoorBQ4
import Derived.Test.YtplfjfhpdfbpeaaDoorM14
import Derived.Test.YtplfjfhpdfbpeaaDoorS0L
import Derived.RegionTactic
namespace Go.Proofs.YtplfjfhpdfbpeaaDoor
open Go.RowKit
set_option linter.unusedSimpArgs false
set_option linter.unusedVariables false
/-- While the places of a name are asked for. -/
structure RaS (w : World) (f g n k : Nat) (s : List UInt8) (D : Array Value) (W : World) : Prop where
  fil : RfS W f g n k s
  box : Bk W w.heap.size D 36
  bel : Below w.heap.size w W
theorem RaS.drew {w : World} {f g n k : Nat} {s : List UInt8} {D : Array Value} {W : World} (h : RaS w f g n k s D W) : RaS w f g n k s D W.drew := ⟨h.fil.below (Below.refl _ _).drew, h.box, h.bel.drew⟩
theorem ad_next {n : Nat} {x : ByteArray} {s : List UInt8} {i : Nat} (hn : 0 < n) (hl : 8 * s.length = n) : ∀ j, j < n → (if j = plc n x i then true else btR (adK n x i s) j) = btR (adK n x (i + 1) s) j := by
  intro j _
  rw [adK, btR_st _ _ _ (by rw [adK_len]; exact plc_in n x i s hn hl)]
  by_cases e : j = plc n x i
  · simp [e]
  · simp [e]
set_option maxHeartbeats 2000000 in
set_option maxRecDepth 100000 in
theorem radd_any (x : ByteArray) (f g n k : Nat) (s : List UInt8) (w : World) (hx : x.size = 32) (hl : 8 * s.length = n) (h : RfS w f g n k s) :
    Calls Tryd.prog 11 #[.pointer (some ⟨f, 0, none⟩), .agg (idc x)] w fun e w' => e = .returned (.tuple #[]) ∧ RfS w' f g n k (adK n x k s) ∧ w.grownBy w' (some g) := by
  have hfl := h.lt
  have hgl := h.row.lt
  have hne := h.ne
  have h2 := okF_le h.ok
  have h1 := okF_pos h.ok
  have h3 := h.ok.2.2
  have HO : Hid (okF n k ∧ 8 * s.length = n) := ⟨h.ok, hl⟩
  have HI : Hid ((Tryd.prog.info? 36).map (·.size) = some (idc x).size) := info_32 (by rw [idc_size, hx])
  have HR : Hid (RaS w f g n k s (idc x) (w.alloc (.cells (idc x) 36))) := ⟨h.below ((Below.refl _ _).alloc (Nat.le_refl _) _), bk_new _ _ _, (Below.refl _ _).alloc (Nat.le_refl _) _⟩
  have HP : Hid (∀ W, Calls Tryd.prog 34 #[.agg (idc x), .int .i64 (n : Int), .int .i64 (k : Int)] W fun e w' => ∃ a c, e = .returned (.slice a k c) ∧ NlL w' a (plL n x k) ∧ Below W.heap.size W w' ∧ (∀ b o s, a = some ⟨b, o, s⟩ → W.heap.size ≤ b)) := fun W => rplaces_any x n k W hx h.ok
  obtain ⟨D, hD⟩ : ∃ D, idc x = D := ⟨_, rfl⟩
  rw [hD] at HI HR HP ⊢
  clear h hD hx hl
  go_enter Tryd.func11, Tryd.ntmps11
  go_wp2
  refine wp_region_tail (RaS w f g n k s D) 9 (by kernel_rfl) (by kernel_rfl) HR.out.drew ?_
  simp only [List.take_succ_cons, List.take_zero, List.drop_succ_cons, List.drop_zero]
  repeat (first
    | go_big_quiet_skip
    | (go_big_quiet_want
       first
         | (refine quiet_row 36 _ rfl w.heap.size 0 D D 36 _ rfl (fun W hW => hW.box) (fun j v hv => by rw [Nat.zero_add]; exact hv) Tryd.underlying36 rfl HI.out ?_; go_big_quiet_on; simp only [Act.put, List.setIfInBounds_toArray, List.set_cons_zero, List.set_cons_succ])
         | (refine quiet_one 3 _ rfl f 0 (.int .i64 (n : Int)) rfl (fun w => by kernel_rfl) (fun W hW => hW.fil.cells.1) ?_; go_big_quiet_on; simp only [Act.put, List.setIfInBounds_toArray, List.set_cons_zero, List.set_cons_succ])
         | (refine quiet_one 3 _ rfl f 1 (.int .i64 (k : Int)) rfl (fun w => by kernel_rfl) (fun W hW => hW.fil.cells.2.1) ?_; go_big_quiet_on; simp only [Act.put, List.setIfInBounds_toArray, List.set_cons_zero, List.set_cons_succ])
         | (go_big_quiet_op; go_big_quiet_on)
         | (refine quiet_val10 (.pointer (some ⟨f, 0, none⟩)) ?_ ?_; (focus (intro W hW; go_simp; done)); go_big_quiet_on; simp only [Act.put, List.setIfInBounds_toArray, List.set_cons_zero, List.set_cons_succ])
         | (refine quiet_val10 (.pointer (some ⟨f, 1, none⟩)) ?_ ?_; (focus (intro W hW; go_simp; done)); go_big_quiet_on; simp only [Act.put, List.setIfInBounds_toArray, List.set_cons_zero, List.set_cons_succ])))
  refine wpQuiet_nil ?_
  intro w9 hw9
  have H9 : Hid (RaS w f g n k s D w9) := hw9
  clear hw9 HR HI
  go_wp2_with fail
  refine (HP.out _).mono ?_
  rintro e w1 ⟨a, c, rfl, nl, b1, la⟩
  have H1 : Hid (RfS w1 f g n k (adK n x 0 s) ∧ NlL w1 a (plL n x k) ∧ Below w.heap.size w w1 ∧ (∀ b o s, a = some ⟨b, o, s⟩ → b ≠ g)) := ⟨H9.out.fil.below b1, nl, H9.out.bel.trans (b1.mono H9.out.bel.size), fun b o s e => by have := la b o s e; have := H9.out.fil.row.lt; omega⟩
  clear nl b1 la H9 HP
  go_wp2
  go_loopw [5] (fun v wr => ∃ i : Nat, i ≤ k ∧ v = .int .i64 i ∧ Hid (RfS wr f g n k (adK n x i s) ∧ w1.grownBy wr (some g))) (fun v _ => k - (intOf v).toNat)
  case atStart => exact ⟨0, Nat.zero_le _, rfl, H1.out.1, World.grownBy.refl _ _⟩
  case round =>
    obtain ⟨i, hik, rfl, HW⟩ := hrel
    by_cases hlt : i < k
    · obtain ⟨ga, oa, ea, hga, hca⟩ := H1.out.2.1 i _ (plL_get n x k i hlt)
      have hgg : ga ≠ g := H1.out.2.2.2 ga oa none ea
      subst ea
      have hc : wr.cell? ⟨ga, oa + i, none⟩ = some (.int .i64 (plc n x i : Int)) := HW.out.2.cell hca (by simp; omega)
      have hpn : plc n x i < n := Nat.mod_lt _ (by omega)
      have HN : Hid (RfS (wr.setCell ⟨g, plc n x i, none⟩ (.bool true)) f g n k (adK n x (i + 1) s) ∧ wr.grownBy (wr.setCell ⟨g, plc n x i, none⟩ (.bool true)) (some g)) := by
        obtain ⟨a1, a2⟩ := HW.out.1.set (plc n x i) true hpn
        exact ⟨a1.congr (ad_next (by omega) HO.out.2), a2⟩
      have hcb := HW.out.1.cell _ hpn
      have hfb := HW.out.1.row.frozen (plc n x i)
      obtain ⟨_, _, cc, hc2, hcc⟩ := HW.out.1.cells
      obtain ⟨q, hq⟩ : ∃ q, plc n x i = q := ⟨_, rfl⟩
      obtain ⟨ob, hob⟩ : ∃ ob, btR (adK n x i s) (plc n x i) = ob := ⟨_, rfl⟩
      rw [hob] at hcb
      rw [hq] at hc hpn HN hcb hfb
      have hqz : (q : Int) < (n : Nat) := by omega
      clear hq hca hob
      go_wp2_with fail
      go_region
      go_wp2
      go_roundw
      case rel => exact ⟨i + 1, by omega, by go_num, HN.out.1.below (Below.refl _ _).drew, (HW.out.2.trans HN.out.2).trans (gr_of_below (Below.refl _ _).drew _)⟩
      case measure => simp [intOf]; omega
    · obtain rfl : i = k := by omega
      go_wp2
      go_end0
      exact ⟨rfl, HW.out.1, (gr_of_below H1.out.2.2.1 _).trans HW.out.2⟩
set_option maxHeartbeats 2000000 in
set_option maxRecDepth 100000 in
theorem rhas_any (x : ByteArray) (f g n k : Nat) (s : List UInt8) (w : World) (hx : x.size = 32) (h : RfS w f g n k s) :
    Calls Tryd.prog 20 #[.pointer (some ⟨f, 0, none⟩), .agg (idc x)] w fun e w' => e = .returned (.bool (haK n x s k)) ∧ Below w.heap.size w w' := by
  have h2 := okF_le h.ok
  have h1 := okF_pos h.ok
  have h3 := h.ok.2.2
  have HI : Hid ((Tryd.prog.info? 36).map (·.size) = some (idc x).size) := info_32 (by rw [idc_size, hx])
  have HR : Hid (RaS w f g n k s (idc x) (w.alloc (.cells (idc x) 36))) := ⟨h.below ((Below.refl _ _).alloc (Nat.le_refl _) _), bk_new _ _ _, (Below.refl _ _).alloc (Nat.le_refl _) _⟩
  have HP : Hid (∀ W, Calls Tryd.prog 34 #[.agg (idc x), .int .i64 (n : Int), .int .i64 (k : Int)] W fun e w' => ∃ a c, e = .returned (.slice a k c) ∧ NlL w' a (plL n x k) ∧ Below W.heap.size W w' ∧ (∀ b o s, a = some ⟨b, o, s⟩ → W.heap.size ≤ b)) := fun W => rplaces_any x n k W hx h.ok
  obtain ⟨D, hD⟩ : ∃ D, idc x = D := ⟨_, rfl⟩
  rw [hD] at HI HR HP ⊢
  clear h hD hx
  go_enter Tryd.func20, Tryd.ntmps20
  go_wp2
  refine wp_region_tail (RaS w f g n k s D) 9 (by kernel_rfl) (by kernel_rfl) HR.out.drew ?_
  simp only [List.take_succ_cons, List.take_zero, List.drop_succ_cons, List.drop_zero]
  repeat (first
    | go_big_quiet_skip
    | (go_big_quiet_want
       first
         | (refine quiet_row 36 _ rfl w.heap.size 0 D D 36 _ rfl (fun W hW => hW.box) (fun j v hv => by rw [Nat.zero_add]; exact hv) Tryd.underlying36 rfl HI.out ?_; go_big_quiet_on; simp only [Act.put, List.setIfInBounds_toArray, List.set_cons_zero, List.set_cons_succ])
         | (refine quiet_one 3 _ rfl f 0 (.int .i64 (n : Int)) rfl (fun w => by kernel_rfl) (fun W hW => hW.fil.cells.1) ?_; go_big_quiet_on; simp only [Act.put, List.setIfInBounds_toArray, List.set_cons_zero, List.set_cons_succ])
         | (refine quiet_one 3 _ rfl f 1 (.int .i64 (k : Int)) rfl (fun w => by kernel_rfl) (fun W hW => hW.fil.cells.2.1) ?_; go_big_quiet_on; simp only [Act.put, List.setIfInBounds_toArray, List.set_cons_zero, List.set_cons_succ])
         | (go_big_quiet_op; go_big_quiet_on)
         | (refine quiet_val10 (.pointer (some ⟨f, 0, none⟩)) ?_ ?_; (focus (intro W hW; go_simp; done)); go_big_quiet_on; simp only [Act.put, List.setIfInBounds_toArray, List.set_cons_zero, List.set_cons_succ])
         | (refine quiet_val10 (.pointer (some ⟨f, 1, none⟩)) ?_ ?_; (focus (intro W hW; go_simp; done)); go_big_quiet_on; simp only [Act.put, List.setIfInBounds_toArray, List.set_cons_zero, List.set_cons_succ])))
  refine wpQuiet_nil ?_
  intro w9 hw9
  have H9 : Hid (RaS w f g n k s D w9) := hw9
  clear hw9 HR HI
  go_wp2_with fail
  refine (HP.out _).mono ?_
  rintro e w1 ⟨a, c, rfl, nl, b1, la⟩
  have H1 : Hid (RfS w1 f g n k s ∧ NlL w1 a (plL n x k) ∧ Below w.heap.size w w1) := ⟨H9.out.fil.below b1, nl, H9.out.bel.trans (b1.mono H9.out.bel.size)⟩
  clear nl b1 la H9 HP
  go_wp2
  go_loopw [6] (fun v wr => ∃ i : Nat, i ≤ k ∧ v = .int .i64 i ∧ Hid (Below w1.heap.size w1 wr ∧ haK n x s i = true)) (fun v _ => k - (intOf v).toNat)
  case atStart => exact ⟨0, Nat.zero_le _, rfl, Below.refl _ _, rfl⟩
  case round =>
    obtain ⟨i, hik, rfl, HW⟩ := hrel
    by_cases hlt : i < k
    · obtain ⟨ga, oa, ea, hga, hca⟩ := (H1.out.2.1.below HW.out.1) i _ (plL_get n x k i hlt)
      subst ea
      have hpn : plc n x i < n := Nat.mod_lt _ (by omega)
      have hcb := (H1.out.1.below HW.out.1).cell _ hpn
      obtain ⟨_, _, cc, hc2, hcc⟩ := (H1.out.1.below HW.out.1).cells
      cases hv : btR s (plc n x i) with
      | true =>
        have HN : Hid (haK n x s (i + 1) = true) := by show _ = true; rw [haK, HW.out.2, hv]; rfl
        rw [hv] at hcb
        obtain ⟨q, hq⟩ : ∃ q, plc n x i = q := ⟨_, rfl⟩
        rw [hq] at hca hpn hcb
        have hqz : (q : Int) < (n : Nat) := by omega
        clear hq hv
        go_wp2_with fail
        go_region
        go_wp2
        go_roundw
        case rel => exact ⟨i + 1, by omega, by go_num, HW.out.1.drew, HN.out⟩
        case measure => simp [intOf]; omega
      | false =>
        have HN : Hid (haK n x s k = false) := by
          show _ = false
          rw [Bool.eq_false_iff]
          intro hc
          have := (haK_iff n x s k).1 hc i hlt
          rw [hv] at this
          cases this
        rw [hv] at hcb
        obtain ⟨q, hq⟩ : ∃ q, plc n x i = q := ⟨_, rfl⟩
        rw [hq] at hca hpn hcb
        have hqz : (q : Int) < (n : Nat) := by omega
        clear hq hv
        go_wp2_with fail
        go_region
        go_wp2
        go_ret
        exact ⟨by rw [HN.out]; rfl, H1.out.2.2.trans (HW.out.1.drew.mono H1.out.2.2.size)⟩
    · obtain rfl : i = k := by omega
      go_wp2
      go_ret
      exact ⟨by rw [HW.out.2]; rfl, H1.out.2.2.trans (HW.out.1.mono H1.out.2.2.size)⟩
set_option maxHeartbeats 1000000 in
theorem rones_any (f g n k : Nat) (s : List UInt8) (w : World) (hl : 8 * s.length = n) (h : RfS w f g n k s) :
    Calls Tryd.prog 22 #[.pointer (some ⟨f, 0, none⟩)] w fun e w' => e = .returned (.int .i64 (onR s : Int)) ∧ w' = w := by
  have h2 := okF_le h.ok
  obtain ⟨_, _, cc, hc2, hcc⟩ := h.cells
  have HR : Hid (RfS w f g n k s) := h
  have HO : Hid (onR s = smB (btR s) n) := by show _ = _; rw [onR_eq, hl]
  clear h hl
  go_enter Tryd.func22, Tryd.ntmps22
  go_wp2
  go_loopw [3, 4] (fun v t wr => ∃ i m : Nat, i ≤ n ∧ t = .int .i64 i ∧ v = .int .i64 m ∧ m ≤ i ∧ Hid (smB (btR s) i = m) ∧ wr = w) (fun _ t _ => n - (intOf t).toNat)
  case atStart => exact ⟨0, 0, Nat.zero_le _, rfl, rfl, by omega, rfl, rfl⟩
  case round =>
    obtain ⟨i, m, hi, rfl, rfl, hm, HM, rfl⟩ := hrel
    by_cases hlt : i < n
    · have hc := HR.out.cell i hlt
      cases hv : btR s i with
      | true =>
        have HN : Hid (smB (btR s) (i + 1) = m + 1) := by show _ = _; rw [smB, HM.out, hv]; rfl
        rw [hv] at hc
        clear hv
        go_wp2
        go_roundw
        case rel => exact ⟨i + 1, m + 1, by omega, by go_num, by go_num, by omega, HN.out, trivial⟩
        case measure => simp [intOf]; omega
      | false =>
        have HN : Hid (smB (btR s) (i + 1) = m) := by show _ = _; rw [smB, HM.out, hv]; rfl
        rw [hv] at hc
        clear hv
        go_wp2
        go_roundw
        case rel => exact ⟨i + 1, m, by omega, by go_num, by go_num, by omega, HN.out, trivial⟩
        case measure => simp [intOf]; omega
    · obtain rfl : i = n := by omega
      go_wp2
      go_ret
      exact ⟨by rw [HO.out, HM.out]; rfl, rfl⟩
end Go.Proofs.YtplfjfhpdfbpeaaDoor
