/- The walk of split.Tiers. -/
import Derived.Test.YthfggejdeodinaaU17
namespace Go.Proofs.Ythfggejdeodinaa
open Go.RowKit
set_option linter.unusedSimpArgs false
set_option linter.unusedVariables false
/-- Numbers of a slice. -/
def InL (w : World) (a : Option Addr) (l : List Int) : Prop := ∀ i x, l[i]? = some x → ∃ g o, a = some ⟨g, o, none⟩ ∧ g < w.heap.size ∧ w.cell? ⟨g, o + i, none⟩ = some (.int .i64 x)
theorem InL.below {w w' : World} {a : Option Addr} {l : List Int} (h : InL w a l) {n : Nat} (hb : Below n w w') (hn : w.heap.size ≤ n) : InL w' a l := fun i x hx => by
  obtain ⟨g, o, h1, h2, h3⟩ := h i x hx
  exact ⟨g, o, h1, Nat.lt_of_lt_of_le h2 hb.size, by rw [hb.cell (p := ⟨g, o + i, none⟩) (by show g < n; omega)]; exact h3⟩
theorem nd_two {nodes : List (List Nat)} {g : List Itm} (h : ∀ ns ∈ nodes, 2 ≤ ns.length) : ∀ ns ∈ nd nodes g, 2 ≤ ns.length := by
  unfold nd
  split
  · exact h
  · intro ns hn
    simp only [List.mem_append, List.mem_singleton] at hn
    rcases hn with hn | rfl
    · exact h ns hn
    · rw [List.length_map]; omega
theorem gst_two (n0 t m : Nat) (items : List Itm) (nodes : List (List Nat)) (h : ∀ ns ∈ nodes, 2 ≤ ns.length) : ∀ i, ∀ ns ∈ (gst n0 t m items nodes i).nodes, 2 ≤ ns.length
  | 0 => h
  | i + 1 => by
    rw [gst, stG]
    split
    · exact nd_two (gst_two n0 t m items nodes h i)
    · exact gst_two n0 t m items nodes h i
theorem tir_two (n0 m : Nat) (items : List Itm) : ∀ k, ∀ ns ∈ (tir n0 m items k).2, 2 ≤ ns.length
  | 0 => by simp [tir]
  | k + 1 => by
    rw [tir]
    split
    · exact tir_two n0 m items k
    · exact gst_two n0 _ m _ _ (tir_two n0 m items k) _
theorem info_it : (Try.prog.info? 37).map (fun i => (i.zero, i.size, i.bytes)) = some (some (.agg #[.int .i64 0, .int .i64 0]), 2, 16) := by kernel_rfl
theorem made_it (n : Nat) : madeCells #[Value.int .i64 0, Value.int .i64 0] n = Array.replicate n (.int .i64 0) := by
  apply Array.ext_getElem?
  intro i
  simp only [madeCells]
  by_cases hi : i < n
  · have h2 : i % 2 = 0 ∨ i % 2 = 1 := by omega
    rcases h2 with h2 | h2 <;> simp [hi, h2]
  · rw [Array.getElem?_eq_none (by simp; omega), Array.getElem?_eq_none (by simp; omega)]
theorem make_it (n : Nat) (hn : n ≤ 1048576) (u : World) : (Instr.makeSlice 35 (.int .i64 n) (.int .i64 n)).run Try.prog u =
    .ok (.slice (some ⟨u.heap.size, 0, none⟩) n n) (u.alloc (.cells (Array.replicate (n * 2) (.int .i64 0)) 37)) := by
  obtain ⟨i0, hi, hz0, hz1, hz2⟩ := info_parts info_it
  have h := run_make (P := Try.prog) u 35 37 i0 (.agg #[.int .i64 0, .int .i64 0]) Try.underlying35 hi hz0 .i64 .i64 (n : Int) (n : Int) (by omega) (Int.le_refl _) (by rw [hz2]; omega) (by omega)
  rw [Int.toNat_natCast] at h
  rw [← made_it]
  simpa [hz1, Value.cells] using h
theorem itm_get (l : List Nat) (i x : Nat) (h : l[i]? = some x) : (itm l)[i]? = some (i, x) := by
  unfold itm
  have hi : i < l.length := (List.getElem?_eq_some_iff.1 h).1
  rw [List.getElem?_map, List.getElem?_range hi, Option.map_some, List.getD, h]; rfl
theorem Row.turn {w : World} {gi cap : Nat} {its nx : List Itm} {f : Nat} (h : Row w gi cap its nx f) : Row w gi cap nx [] 0 :=
  ⟨h.bk, fun j x hx => by simp at hx, fun j x _ hx => by have := h.nx j x hx; simpa using this⟩
set_option maxHeartbeats 4000000 in
set_option maxRecDepth 100000 in
theorem tiers_yes (a : Option Addr) (n c m : Nat) (l : List Nat) (w : World) (ha : InL w a (l.map fun x : Nat => (x : Int))) (hn : l.length = n) (hnb : n ≤ 1048576) (hm1 : 2 ≤ m) (hm2 : m ≤ 1024) (hl : ∀ x ∈ l, x ≤ 32) :
    Calls Try.prog 5 #[.slice a n c, .int .i64 (m : Int)] w fun e w' => ∃ gn gk, e = .returned (.tuple #[.slice (some ⟨gn, 0, none⟩) (tnd m l).length (tnd m l).length, .int .i64 0]) ∧ NdR w' w.heap.size gn gk (tnd m l) ∧ Below w.heap.size w w' := by
  have hok := itm_ok l hl
  rw [hn] at hok
  have HOK : Hid (TOk n (itm l, [])) := hok
  have HA : Hid (InL w a (l.map fun x : Nat => (x : Int))) := ha
  have HN : Hid (l.length = n) := hn
  have HL : Hid (∀ x ∈ l, x ≤ 32) := hl
  have hmk := make_it n hnb w
  have hnz : ¬ (n : Int) > 1048576 := by omega
  have HM : Hid (∀ u, Calls Try.prog 7 #[.int .i64 (m : Int), .int .i64 2, .int .i64 1024] u fun e w' => e = .returned (.bool true) ∧ w' = u) := fun u => by
    have := within_any (m : Int) 2 1024 u
    rwa [wtn_yes (by omega) (by omega)] at this
  have HR0 : Hid (Row (w.alloc (.cells (Array.replicate (n * 2) (.int .i64 0)) 37)) w.heap.size n [] [] 0 ∧ Below w.heap.size w (w.alloc (.cells (Array.replicate (n * 2) (.int .i64 0)) 37))) :=
    ⟨⟨⟨_, bk_new _ _ _, by simp⟩, fun j x hx => by simp at hx, fun j x _ hx => by simp at hx⟩, (Below.refl _ _).alloc (Nat.le_refl _) _⟩
  clear hok ha hn hl
  go_enter Try.func5, Try.ntmps5
  go_wp2_with fail
  refine (HM.out _).mono ?_
  rintro e w1 ⟨rfl, hw⟩
  obtain rfl : w = w1 := hw.symm
  clear hw
  go_wp2_with fail
  go_loopw [24] (fun x wr => ∃ i : Nat, i ≤ n ∧ x = .int .i64 (i : Int) ∧ Hid (Row wr w.heap.size n [] ((itm l).take i) 0 ∧ Below w.heap.size w wr)) (fun x _ => n - (intOf x).toNat)
  case atStart => exact ⟨0, Nat.zero_le _, rfl, by rw [List.take_zero]; exact HR0.out⟩
  case round =>
    clear HR0 hmk
    obtain ⟨i, hin, rfl, HR⟩ := hrel
    by_cases hlt : i < n
    · have hiz : (i : Int) < (n : Nat) := by omega
      have hi0 : (0 : Int) ≤ i := by omega
      obtain ⟨x, hx⟩ : ∃ x, l[i]? = some x := ⟨_, List.getElem?_eq_getElem (by rw [HN.out]; exact hlt)⟩
      have hx32 := HL.out x (List.mem_of_getElem? hx)
      obtain ⟨g, o, rfl, hg, hc⟩ := (HA.out.below HR.out.2 (Nat.le_refl _)) i (x : Int) (by rw [List.getElem?_map, hx]; rfl)
      have HWI : Hid (∀ u, Calls Try.prog 7 #[.int .i64 (x : Int), .int .i64 0, .int .i64 32] u fun e w' => e = .returned (.bool true) ∧ w' = u) := fun u => by
        have := within_any (x : Int) 0 32 u
        rwa [wtn_yes (by omega) (by omega)] at this
      obtain ⟨I, hI, hIs⟩ := HR.out.1.bk
      have i1 : ∃ y, wr.cell? ⟨w.heap.size, i * 2, none⟩ = some y := ⟨_, by rw [hI.cell, Array.getElem?_eq_getElem (by omega)]⟩
      have i2 : ∃ y, wr.cell? ⟨w.heap.size, i * 2 + 1, none⟩ = some y := ⟨_, by rw [hI.cell, Array.getElem?_eq_getElem (by omega)]⟩
      obtain ⟨y1, i1⟩ := i1
      obtain ⟨y2, i2⟩ := i2
      have f1 := hI.frozen (i * 2)
      have f2 := hI.frozen (i * 2 + 1)
      have HF : Hid (Row ((wr.setCell ⟨w.heap.size, i * 2, none⟩ (.int .i64 (i : Int))).setCell ⟨w.heap.size, i * 2 + 1, none⟩ (.int .i64 (x : Int))) w.heap.size n [] ((itm l).take (i + 1)) 0 ∧ Below w.heap.size w ((wr.setCell ⟨w.heap.size, i * 2, none⟩ (.int .i64 (i : Int))).setCell ⟨w.heap.size, i * 2 + 1, none⟩ (.int .i64 (x : Int)))) := by
        have hb2 := (hI.set (i * 2) (.int .i64 (i : Int))).set (i * 2 + 1) (.int .i64 (x : Int))
        refine ⟨⟨⟨_, hb2, by simpa using hIs⟩, fun j y hy => ?_, fun j y _ hy => by simp at hy⟩, below_own HR.out.2 HR.out.2.size (Lib.grownBy_setB (Lib.grownBy_setB (World.grownBy.refl _ _) (i * 2) _) (i * 2 + 1) _) (Nat.le_refl _)⟩
        rw [hb2.cell, hb2.cell]
        simp only [Nat.zero_add, Array.getElem?_setIfInBounds, Array.size_setIfInBounds, hIs]
        rw [List.take_add_one, itm_get l i x hx, Option.toList_some] at hy
        have hil : ((itm l).take i).length = i := by rw [List.length_take, itm_len, HN.out]; omega
        rcases Nat.lt_or_ge j i with cj | cj
        · rw [List.getElem?_append_left (by omega)] at hy
          obtain ⟨q1, q2⟩ := HR.out.1.nx j y hy
          rw [hI.cell] at q1 q2
          simp only [Nat.zero_add] at q1 q2
          rw [if_neg (by omega), if_neg (by omega), if_neg (by omega), if_neg (by omega)]
          exact ⟨q1, q2⟩
        · have hj : j = i := by
            have := (List.getElem?_eq_some_iff.1 hy).1
            rw [List.length_append, hil, List.length_singleton] at this; omega
          subst hj
          rw [List.getElem?_append_right (by omega), hil, Nat.sub_self] at hy
          cases hy
          rw [if_neg (by omega), if_pos rfl, if_pos (by omega), if_pos rfl, if_pos (by omega)]
          exact ⟨rfl, rfl⟩
      clear hx hI hIs HR
      go_wp2_with fail
      refine (HWI.out _).mono ?_
      rintro e w1 ⟨rfl, hw⟩
      obtain rfl : wr = w1 := hw.symm
      clear hw
      go_wp2
      go_roundw
      case rel => exact ⟨i + 1, by omega, by go_num, HF.out⟩
      case measure => simp [intOf]; omega
    · have hiz : ¬ (i : Int) < (n : Nat) := by omega
      have hin2 : i = n := by omega
      subst hin2
      have HW0 : Hid (GW w w.heap.size wr.heap.size i m w.heap.size i (tir i m (itm l) 0).1 ⟨[], (tir i m (itm l) 0).2, []⟩ 0 (wr.alloc (.cells #[.int .i64 (i : Int), .int .i64 (m : Int), .slice none 0 0, .slice none 0 0] 39)) ∧ (tir i m (itm l) 0).1.length = i) := by
        have hr := HR.out.1
        rw [List.take_of_length_le (by rw [itm_len, HN.out]; exact Nat.le_refl _)] at hr
        refine ⟨⟨⟨.slice none 0 0, .slice none 0 0, bk_new _ _ _, ⟨rfl, .inl ⟨rfl, rfl⟩⟩, ⟨rfl, .inl ⟨rfl, rfl⟩⟩, fun b hb => (by cases hb), HR.out.2.size⟩, (hr.turn.keep (kp_alloc [] _ _) (by simp)), HR.out.2.alloc HR.out.2.size _, Nat.le_refl _, Nat.le_refl _⟩, ?_⟩
        show (itm l).length = i
        rw [itm_len, HN.out]
      have hzr := HR.out.2.size
      clear HR HA
      go_wp2_with fail
      obtain ⟨gg, hgg⟩ : ∃ g, g = wr.heap.size := ⟨_, rfl⟩
      rw [← hgg] at HW0 ⊢
      generalize (wr.alloc (.cells #[.int .i64 (i : Int), .int .i64 (m : Int), .slice none 0 0, .slice none 0 0] 39)) = WA at HW0 ⊢
      clear hgg hzr
      go_loopw [6, 10] (fun x y wr => ∃ k p : Nat, p ≤ i ∧ k ≤ 33 + i ∧ x = .slice (some ⟨w.heap.size, 0, none⟩) p i ∧ y = .int .i64 ((k : Int) + 1) ∧ Hid ((tir i m (itm l) k).1.length = p) ∧ Hid (GW w w.heap.size gg i m w.heap.size i (tir i m (itm l) k).1 ⟨[], (tir i m (itm l) k).2, []⟩ 0 wr)) (fun _ y _ => 40 + i - (intOf y).toNat)
      case atStart => exact ⟨0, i, Nat.le_refl _, by omega, rfl, rfl, HW0.out.2, HW0.out.1⟩
      case round =>
        clear HW0
        obtain ⟨k, p, hpi, hk, rfl, rfl, HP, HW⟩ := hrel
        have hT := tir_ok (m := m) HOK.out k
        have hT3 := hT.cnt
        have hT4 := hT.kid
        rw [HP.out] at hT3 hT4
        by_cases hp1 : 1 < p
        · have hpz : (p : Int) > 1 := by omega
          have hk2 : k ≤ 30 + i := by
            by_cases c32 : k ≤ 32
            · omega
            · obtain ⟨j, rfl⟩ : ∃ j, k = 32 + j := ⟨k - 32, by omega⟩
              rcases tir_ends HOK.out hm1 j with q | q
              · rw [HP.out] at q; omega
              · rw [HP.out, itm_len, HN.out] at q; omega
          have hst : tir i m (itm l) (k + 1) = gat i (k + 1) m (tir i m (itm l) k) := by rw [tir, if_neg (by rw [HP.out]; omega)]
          have hle := gat_le i (k + 1) m (tir i m (itm l) k)
          rw [← hst, HP.out] at hle
          obtain ⟨p', hp'⟩ : ∃ p', (tir i m (itm l) (k + 1)).1.length = p' := ⟨_, rfl⟩
          rw [hp'] at hle
          have HC : Hid (Calls Try.prog 8 #[.pointer (some ⟨gg, 0, none⟩), .slice (some ⟨w.heap.size, 0, none⟩) p i, .int .i64 ((k : Int) + 1)] wr fun e w' => e = .returned (.slice (some ⟨w.heap.size, 0, none⟩) p' i) ∧ Hid (GW w w.heap.size gg i m w.heap.size i (tir i m (itm l) (k + 1)).1 ⟨[], (tir i m (itm l) (k + 1)).2, []⟩ 0 w')) := by
            have hw := HW.out
            have := gather_any w.heap.size gg i m w.heap.size i p (k + 1) (tir i m (itm l) k).1 (tir i m (itm l) k).2 wr ⟨hw.gr, hw.row, Below.refl _ _, hw.bel.size, Nat.le_refl _⟩ HP.out (by omega) hpi hnb (by omega) hm2 hT.lev (by omega) (by omega) hnb hw.bel.size
            refine this.mono ?_
            rintro e w' ⟨rfl, hg⟩
            rw [show ((tir i m (itm l) k).1, (tir i m (itm l) k).2) = tir i m (itm l) k from rfl, ← hst] at hg ⊢
            exact ⟨by rw [hp'], hg.gr, hg.row.turn, hw.bel.trans hg.bel, Nat.le_refl _, Nat.le_refl _⟩
          have HP' : Hid ((tir i m (itm l) (k + 1)).1.length = p') := hp'
          clear hT hT3 hT4 hst hp' HP HW
          go_wp2_with fail
          refine HC.out.mono ?_
          rintro e w2 ⟨rfl, HW2⟩
          clear HC
          go_wp2
          go_roundw
          case rel => exact ⟨k + 1, p', by omega, by omega, rfl, by go_num, HP'.out, HW2.out⟩
          case measure => simp [intOf]; omega
        · have hpz : ¬ (p : Int) > 1 := by omega
          have htn : (tir i m (itm l) k).2 = tnd m l := by
            have h := tnd_at (m := m) (levels := l) (k := k) (by rw [HN.out]; exact hk) (by rw [HN.out, HP.out]; omega)
            rwa [HN.out] at h
          obtain ⟨vk, ve, hgr⟩ := HW.out.gr
          have h2 := tir_two i m (itm l) k
          rw [htn] at hT3 hT4 h2
          simp only [htn] at hgr
          have HC : Hid (Calls Try.prog 9 #[.pointer (some ⟨gg, 0, none⟩)] wr fun e w' => ∃ gn gk, e = .returned (.slice (some ⟨gn, 0, none⟩) (tnd m l).length (tnd m l).length) ∧ Hid (NdR w' w.heap.size gn gk (tnd m l) ∧ Below w.heap.size w w')) := by
            refine (nodes_any w.heap.size gg i m _ (tnd m l) vk ve wr hgr rfl (fun ns h => by have := h2 ns h; omega) (by omega) (by omega) HW.out.bel.size).mono ?_
            rintro e w' ⟨gn, gk, rfl, hr, hb⟩
            exact ⟨gn, gk, rfl, hr, HW.out.bel.trans (hb.mono HW.out.bel.size)⟩
          clear hT hT3 hT4 htn hgr h2 HP HW
          go_wp2_with fail
          refine HC.out.mono ?_
          rintro e w2 ⟨gn, gk, rfl, HF⟩
          clear HC
          go_wp2
          go_ret2
          exact ⟨gn, gk, rfl, HF.out⟩
end Go.Proofs.Ythfggejdeodinaa
