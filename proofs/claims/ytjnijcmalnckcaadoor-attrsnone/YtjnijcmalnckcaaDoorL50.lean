/- The walk of munimentlaw10.AttrsNone. -/
import Derived.Test.YtjnijcmalnckcaaDoorI27
import Derived.Test.YtjnijcmalnckcaaDoorI12
import Derived.Test.YtjnijcmalnckcaaDoorI6
namespace Go.Proofs.YtjnijcmalnckcaaDoor
open Go.RowKit
set_option linter.unusedSimpArgs false
set_option linter.unusedVariables false
theorem xa_none (w : World) (ad : Option Addr) : XaL w ad [] := fun i x h => by cases h
theorem ckn0 (w : World) (hT : U8 w) : Calls Tryd.prog 16 #[.agg #[.int .u8 0, .int .u32 0, .int .u32 0, .int .u32 0, .int .i64 0, .string ⟨#[]⟩, .slice none 0 0]] w fun e w' => e = .returned (.int .i64 1) ∧ Below w.heap.size w w' := by
  have h := acheck_any 0 0 0 0 0 ⟨#[]⟩ [] none 0 0 w (xa_none w none) rfl (by decide) (by decide) hT
  rw [show ckE ⟨0, 0, 0, 0, 0, ⟨#[]⟩, []⟩ = 1 from by decide +kernel] at h
  exact h
theorem ckn1 (w : World) (hT : U8 w) : Calls Tryd.prog 16 #[.agg #[.int .u8 1, .int .u32 4096, .int .u32 0, .int .u32 0, .int .i64 0, .string ⟨#[]⟩, .slice none 0 0]] w fun e w' => e = .returned (.int .i64 1) ∧ Below w.heap.size w w' := by
  have h := acheck_any 1 4096 0 0 0 ⟨#[]⟩ [] none 0 0 w (xa_none w none) rfl (by decide) (by decide) hT
  rw [show ckE ⟨1, 4096, 0, 0, 0, ⟨#[]⟩, []⟩ = 1 from by decide +kernel] at h
  exact h
theorem ckn2 (w : World) (hT : U8 w) : Calls Tryd.prog 16 #[.agg #[.int .u8 1, .int .u32 0, .int .u32 0, .int .u32 0, .int .i64 1099511627776, .string ⟨#[]⟩, .slice none 0 0]] w fun e w' => e = .returned (.int .i64 0) ∧ Below w.heap.size w w' := by
  have h := acheck_any 1 0 0 0 1099511627776 ⟨#[]⟩ [] none 0 0 w (xa_none w none) rfl (by decide) (by decide) hT
  rw [show ckE ⟨1, 0, 0, 0, 1099511627776, ⟨#[]⟩, []⟩ = 0 from by decide +kernel] at h
  exact h
theorem ckn3 (w : World) (hT : U8 w) : Calls Tryd.prog 16 #[.agg #[.int .u8 1, .int .u32 0, .int .u32 0, .int .u32 0, .int .i64 1099511627777, .string ⟨#[]⟩, .slice none 0 0]] w fun e w' => e = .returned (.int .i64 1) ∧ Below w.heap.size w w' := by
  have h := acheck_any 1 0 0 0 1099511627777 ⟨#[]⟩ [] none 0 0 w (xa_none w none) rfl (by decide) (by decide) hT
  rw [show ckE ⟨1, 0, 0, 0, 1099511627777, ⟨#[]⟩, []⟩ = 1 from by decide +kernel] at h
  exact h
theorem ckn4 (w : World) (hT : U8 w) : Calls Tryd.prog 16 #[.agg #[.int .u8 3, .int .u32 0, .int .u32 0, .int .u32 0, .int .i64 0, .string ⟨#[0, 0, 0]⟩, .slice none 0 0]] w fun e w' => e = .returned (.int .i64 1) ∧ Below w.heap.size w w' := by
  have h := acheck_any 3 0 0 0 0 ⟨#[0, 0, 0]⟩ [] none 0 0 w (xa_none w none) rfl (by decide) (by decide) hT
  rw [show ckE ⟨3, 0, 0, 0, 0, ⟨#[0, 0, 0]⟩, []⟩ = 1 from by decide +kernel] at h
  exact h
/-- The file of the law. -/
def fA : At := ⟨1, 0, 0, 0, 0, ⟨#[]⟩, []⟩
def fC : List Value := [.int .u8 1, .int .u32 0, .int .u32 0, .int .u32 0, .int .i64 0, .string ⟨#[]⟩, .slice none 0 0]
theorem stn0 (w : World) (hT : U8 w) : Calls Tryd.prog 21 #[.slice none 0 0] w fun e w' => e = .returned (.tuple #[.string ⟨#[]⟩, .int .i64 1]) ∧ Below w.heap.size w w' := by
  have h := stream_any none 0 0 [] w (fun i a h => by cases h) rfl (by decide) hT
  rw [show smE [] = 1 from by decide +kernel, show smL [] = [] from by decide +kernel] at h
  exact h
theorem fA_ok : AtOk fA := by constructor <;> decide
theorem row_fA {w : World} {g : Nat} {n : Nat} (hg : g < w.heap.size) (h : ∀ i j v, i < n → fC[j]? = some v → w.cell? ⟨g, i * 7 + j, none⟩ = some v) : AtL w (some ⟨g, 0, none⟩) (List.replicate n fA) := fun i a ha => by
  obtain ⟨hi, rfl⟩ : i < n ∧ fA = a := by
    rw [List.getElem?_replicate] at ha
    split at ha
    · exact ⟨by assumption, by simpa using ha⟩
    · cases ha
  have q := h i
  exact ⟨fA_ok, g, 0, none, 0, rfl, hg, by rw [Nat.zero_add]; exact q 0 _ hi rfl, by rw [Nat.zero_add]; exact q 1 _ hi rfl, by rw [Nat.zero_add]; exact q 2 _ hi rfl, by rw [Nat.zero_add]; exact q 3 _ hi rfl, by rw [Nat.zero_add]; exact q 4 _ hi rfl, by rw [Nat.zero_add]; exact q 5 _ hi rfl, by rw [Nat.zero_add]; exact q 6 _ hi rfl, xa_none w none⟩
theorem sm257 : smE (List.replicate 257 fA) = 0 ∧ smE (List.replicate 258 fA) = 1 := by decide +kernel
theorem rdn0 (S : ByteArray) (hS : S = ⟨#[]⟩ ∨ S = ⟨#[0]⟩) (w : World) (hT : U8 w) : Calls Tryd.prog 23 #[.string S] w fun e w' => ∃ v, e = .returned (.tuple #[v, .int .i64 4]) ∧ Below w.heap.size w w' := by
  refine (readst S w (by rcases hS with rfl | rfl <;> decide) hT).mono ?_
  rintro e w' ⟨P, v, er, rfl, hs, _, _, _, hb⟩
  rcases hs with ⟨rfl, h1, h2⟩ | ⟨rfl, _⟩
  · exfalso
    have hl : 1 ≤ (P.map Prod.fst).length ∧ (P.map Prod.fst).length ≤ 257 := of_decide_eq_true (Bool.and_eq_true_iff.1 h1).1
    unfold stL at h2
    rcases hS with rfl | rfl
    · have h3 : e8 (P.map Prod.fst).length = [] := (List.append_eq_nil_iff.1 h2).1
      have := (e8_inj (m := (P.map Prod.fst).length) (n := 0) (r := e8 0) (r' := []) (by omega) (by decide) (by rw [h3]; simp)).1
      omega
    · have := (e8_inj (m := (P.map Prod.fst).length) (n := 0) (r := stF (P.map Prod.fst)) (r' := []) (by omega) (by decide) (by rw [h2]; rfl)).1
      omega
  · exact ⟨v, rfl, hb⟩
theorem make3 (u : World) : (Instr.makeSlice 60 (.int .i64 3) (.int .i64 3)).run Tryd.prog u = .ok (.slice (some ⟨u.heap.size, 0, none⟩) 3 3) (u.alloc (.cells #[.int .u8 0, .int .u8 0, .int .u8 0] 5)) := by
  obtain ⟨i0, hi, hz0, hz1, hz2⟩ := info_parts inf_u8_10
  have h := run_makeSlice u 60 5 i0 (.int .u8 0) Tryd.underlying60 hi hz0 .i64 .i64 3 3 (by decide) (by decide) (by rw [hz1]; decide) (by rw [hz2]; decide) (by decide)
  rw [hz1, show madeCells (Value.int .u8 0).cells (Int.toNat 3 * 1) = #[.int .u8 0, .int .u8 0, .int .u8 0] from by kernel_rfl] at h
  exact h
theorem conv3 (u : World) : (convert 60 9 (.slice (some ⟨u.heap.size, 0, none⟩) 3 3)).run Tryd.prog (u.alloc (.cells #[.int .u8 0, .int .u8 0, .int .u8 0] 5)) = .ok (.string ⟨#[0, 0, 0]⟩) (u.alloc (.cells #[.int .u8 0, .int .u8 0, .int .u8 0] 5)) :=
  conv10 (base := 0) (n := 3) (l := [0, 0, 0]) ⟨rfl, .inr ⟨_, _, #[.int .u8 0, .int .u8 0, .int .u8 0], rfl, Nat.zero_le _, bk_new _ _ _, by decide, by decide, rfl, rfl⟩⟩
/-- The row of 257, as it is made. -/
def m257 : Array Value := madeCells (Value.agg z7).cells 1799
theorem m257_size : m257.size = 1799 := size_madeCells _ _
theorem make257 (u : World) : (Instr.makeSlice 48 (.int .i64 257) (.int .i64 257)).run Tryd.prog u = .ok (.slice (some ⟨u.heap.size, 0, none⟩) 257 257) (u.alloc (.cells m257 28)) := by
  obtain ⟨i0, hi, hz0, hz1, hz2⟩ := info_parts inf_attr3
  have h := run_makeSlice u 48 28 i0 (.agg z7) Tryd.underlying48 hi hz0 .i64 .i64 257 257 (by decide) (by decide) (by rw [hz1]; decide) (by rw [hz2]; decide) (by decide)
  rw [hz1] at h
  exact h
theorem inf_at7 : (Tryd.prog.info? 28).map (·.size) = some 7 := by kernel_rfl
/-- How the filling stands. -/
structure Fi (w : World) (g i : Nat) (wr : World) : Prop where
  bel : Below w.heap.size w wr
  fb : Bk wr w.heap.size fC.toArray 28
  row : ∃ C, Bk wr g C 28 ∧ C.size = 1799 ∧ ∀ k j v, k < i → fC[j]? = some v → C[k * 7 + j]? = some v
  gt : w.heap.size < g
theorem fC_one : fC.toArray.all (·.oneCell') = true := by kernel_rfl
theorem th_bel {w w' : World} (h : Th w) (hb : Below w.heap.size w w') : Th w' := h.below hb
theorem Fi.below {w wr W : World} {g i : Nat} (h : Fi w g i wr) (hb : Below wr.heap.size wr W) : Fi w g i W := by
  obtain ⟨C, hC, h1, h2⟩ := h.row
  exact ⟨h.bel.trans (hb.mono h.bel.size), h.fb.below hb h.fb.lt, ⟨C, hC.below hb hC.lt, h1, h2⟩, h.gt⟩
theorem Fi.next {w wr W : World} {g i : Nat} {C : Array Value} (h : Fi w g i wr) (hi : i < 257) (hz : C.size = 1799) (hr : ∀ k j v, k < i → fC[j]? = some v → C[k * 7 + j]? = some v) (hB : Bk W g (putC C (i * 7) fC.toArray.toList) 28) (hg : wr.grownBy W (some g)) : Fi w g (i + 1) W := by
  refine ⟨?_, h.fb.grown hg (fun e => by have := h.gt; simp at e; omega), ⟨_, hB, by rw [putC_size, hz], fun k j v hk hv => ?_⟩, h.gt⟩
  · exact h.bel.grown hg h.bel.size (fun k e => by cases e; exact Nat.le_of_lt h.gt)
  · have hj : j < 7 := (List.getElem?_eq_some_iff.1 hv).1
    rw [putC_get _ _ _ _ (by rw [hz]; show i * 7 + 7 ≤ 1799; omega)]
    by_cases e : k = i
    · subst e
      rw [if_pos ⟨by omega, by show _ < k * 7 + 7; omega⟩, Nat.add_sub_cancel_left]
      exact hv
    · rw [if_neg (by rintro ⟨h1, _⟩; omega)]
      exact hr k j v (by omega) hv
theorem ow_cells {w : World} {B n k : Nat} {T : TypeId} {v : Value} {xs : List Value} (h : w.ownsRow B T k v n xs) (hn : n ≠ 0) : ∃ g cp, v = .slice (some ⟨g, 0, none⟩) n cp ∧ g < w.heap.size ∧ ∀ m u, xs[m]? = some u → w.cell? ⟨g, m, none⟩ = some u := by
  obtain ⟨hl, h⟩ := h
  rcases h with ⟨_, h0⟩ | ⟨g, cp, cur, rfl, _, hg, _, _, hc, ht⟩
  · exact absurd h0 hn
  · have hb : Bk w g cur T := hg
    refine ⟨g, cp, rfl, hb.lt, fun m u hu => ?_⟩
    have hm := (List.getElem?_eq_some_iff.1 hu).1
    rw [← ht, List.getElem?_take, if_pos (by omega), Array.getElem?_toList] at hu
    rw [hb.cell]
    exact hu
theorem slice_f (u : World) : (Instr.buildSlice 48 1 #[(0, .agg #[.int .u8 1, .int .u32 0, .int .u32 0, .int .u32 0, .int .i64 0, .string ⟨#[]⟩, .slice none 0 0])]).run Tryd.prog u = .ok (.slice (some ⟨u.heap.size, 0, none⟩) 1 1) (u.alloc (.cells #[.int .u8 1, .int .u32 0, .int .u32 0, .int .u32 0, .int .i64 0, .string ⟨#[]⟩, .slice none 0 0] 28)) := by
  obtain ⟨i0, hi, hz0, hz1, hz2⟩ := info_parts inf_attr3
  refine run_buildSlice u _ 28 1 _ _ i0 (.agg z7) Tryd.underlying48 hi hz0 (by rw [hz1]; decide) (by rw [hz1]; decide) ?_
  rw [hz1]
  kernel_rfl
/-- One more behind the row of 257. -/
theorem Fi.app {w wr : World} {g : Nat} (h : Fi w g 257 wr) : ∃ g' cp w7, (Builtin.append_ #[48, 48] 48 #[.slice (some ⟨g, 0, none⟩) 257 257, .slice (some ⟨wr.heap.size, 0, none⟩) 1 1]).run Tryd.prog (wr.alloc (.cells #[.int .u8 1, .int .u32 0, .int .u32 0, .int .u32 0, .int .i64 0, .string ⟨#[]⟩, .slice none 0 0] 28)) = .ok (.slice (some ⟨g', 0, none⟩) 258 cp) w7 ∧ AtL w7 (some ⟨g', 0, none⟩) (List.replicate 258 fA) ∧ Below w.heap.size w w7 := by
  obtain ⟨i0, hi, hz0, hz1, hz2⟩ := info_parts inf_attr3
  obtain ⟨C, hC, hz, hr⟩ := h.row
  have hs := h.bel.size
  have hgt := h.gt
  have hlt := hC.lt
  have ho : (wr.alloc (.cells #[.int .u8 1, .int .u32 0, .int .u32 0, .int .u32 0, .int .i64 0, .string ⟨#[]⟩, .slice none 0 0] 28)).ownsRow w.heap.size 28 7 (.slice (some ⟨g, 0, none⟩) 257 257) 257 C.toList :=
    ⟨by rw [Array.length_toList, hz], .inr ⟨g, 257, C, rfl, by omega, hC.alloc _, by decide, by decide, by rw [hz], by rw [List.take_of_length_le]; rw [Array.length_toList, hz]; decide⟩⟩
  have hbA : Below w.heap.size w (wr.alloc (.cells #[.int .u8 1, .int .u32 0, .int .u32 0, .int .u32 0, .int .i64 0, .string ⟨#[]⟩, .slice none 0 0] 28)) := h.bel.alloc hs _
  obtain ⟨v', w7, hrun, hown, hgrow, _, hat⟩ := run_append_own_at (P := Tryd.prog) (w := wr.alloc (.cells #[.int .u8 1, .int .u32 0, .int .u32 0, .int .u32 0, .int .i64 0, .string ⟨#[]⟩, .slice none 0 0] 28)) w.heap.size 48 48 28 i0 (.agg z7) 7 64 Tryd.underlying48 hi hz0 hz1 hz2 rfl (by decide) (.slice (some ⟨g, 0, none⟩) 257 257) 257 C.toList ho ⟨wr.heap.size, 0, none⟩ 1 1 fC rfl (news_list wr #[.int .u8 1, .int .u32 0, .int .u32 0, .int .u32 0, .int .i64 0, .string ⟨#[]⟩, .slice none 0 0] _) (by
    intro u hu
    simp [fC] at hu
    rcases hu with rfl | rfl | rfl | rfl | rfl <;> rfl) (by unfold maxLen; omega) (by omega) (by rw [al_size]; omega)
  obtain ⟨g', cp, rfl, hg', hc'⟩ := ow_cells hown (by decide)
  refine ⟨g', cp, w7, hrun, row_fA hg' (fun k j v hk hv => ?_), rows_bel hbA (by rw [al_size]; omega) ho (Nat.le_refl _) hgrow⟩
  have hj : j < 7 := (List.getElem?_eq_some_iff.1 hv).1
  apply hc'
  by_cases e : k < 257
  · rw [List.getElem?_append_left (by rw [Array.length_toList, hz]; omega), Array.getElem?_toList]
    exact hr k j v e hv
  · obtain rfl : k = 257 := by omega
    rw [List.getElem?_append_right (by rw [Array.length_toList, hz]; omega), Array.length_toList, hz, show 257 * 7 + j - 1799 = j from by omega]
    exact hv
theorem Fi.row257 {w wr : World} {g : Nat} (h : Fi w g 257 wr) : AtL wr (some ⟨g, 0, none⟩) (List.replicate 257 fA) := by
  obtain ⟨C, hC, hz, hr⟩ := h.row
  exact row_fA hC.lt (fun k j v hk hv => by rw [hC.cell]; exact hr k j v hk hv)
set_option maxHeartbeats 8000000 in
set_option maxRecDepth 100000 in
theorem none10 (w : World) (hT : U8 w) (hH : Th w) : Calls Tryd.prog 6 #[] w fun e w' => e = .returned (.bool true) ∧ Below w.heap.size w w' := by
  have HT : Hid (U8 w) := hT
  have HH : Hid (Th w) := hH
  have B0 : Hid (Below w.heap.size w (w.alloc (.cells fC.toArray 28))) := (Below.refl _ _).alloc (Nat.le_refl _) _
  have K0 : Hid (Bk (w.alloc (.cells fC.toArray 28)) w.heap.size fC.toArray 28) := bk_new _ _ _
  simp only [fC] at B0 K0
  clear hT hH
  go_enter Tryd.func6, Tryd.ntmps6
  go_wp2_with fail
  obtain ⟨w1, hw⟩ : ∃ w1, w1 = w.alloc (.cells #[.int .u8 1, .int .u32 0, .int .u32 0, .int .u32 0, .int .i64 0, .string ⟨#[]⟩, .slice none 0 0] 28) := ⟨_, rfl⟩
  rw [← hw] at B0 K0 ⊢
  clear hw
  refine (ckn0 _ (HT.out.below B0.out)).mono ?_
  rintro e w2 ⟨rfl, hb⟩
  have B2 : Hid (Below w.heap.size w w2) := B0.out.trans (hb.mono B0.out.size)
  have K2 : Hid (Bk w2 w.heap.size _ _) := K0.out.below hb K0.out.lt
  clear B0 K0 hb
  go_wp2_with fail
  refine (ckn1 _ (HT.out.below B2.out)).mono ?_
  rintro e w3 ⟨rfl, hb⟩
  have B3 : Hid (Below w.heap.size w w3) := B2.out.trans (hb.mono B2.out.size)
  have K3 : Hid (Bk w3 w.heap.size _ _) := K2.out.below hb K2.out.lt
  clear B2 K2 hb
  go_wp2_with fail
  refine (ckn2 _ (HT.out.below B3.out)).mono ?_
  rintro e w4 ⟨rfl, hb⟩
  have B4 : Hid (Below w.heap.size w w4) := B3.out.trans (hb.mono B3.out.size)
  have K4 : Hid (Bk w4 w.heap.size _ _) := K3.out.below hb K3.out.lt
  clear B3 K3 hb
  go_wp2_with fail
  refine (ckn3 _ (HT.out.below B4.out)).mono ?_
  rintro e w5 ⟨rfl, hb⟩
  have B5 : Hid (Below w.heap.size w w5) := B4.out.trans (hb.mono B4.out.size)
  have K5 : Hid (Bk w5 w.heap.size _ _) := K4.out.below hb K4.out.lt
  clear B4 K4 hb
  have mk3 := make3
  have cv3 := conv3
  have B5' : Hid (Below w.heap.size w (w5.alloc (.cells #[.int .u8 0, .int .u8 0, .int .u8 0] 5))) := B5.out.alloc B5.out.size _
  have K5' : Hid (Bk (w5.alloc (.cells #[.int .u8 0, .int .u8 0, .int .u8 0] 5)) w.heap.size _ _) := K5.out.alloc _
  go_wp2_with fail
  obtain ⟨w6, hw⟩ : ∃ w6, w6 = w5.alloc (.cells #[.int .u8 0, .int .u8 0, .int .u8 0] 5) := ⟨_, rfl⟩
  rw [← hw] at B5' K5' ⊢
  clear hw mk3 cv3 B5 K5
  refine (ckn4 _ (HT.out.below B5'.out)).mono ?_
  rintro e w7 ⟨rfl, hb⟩
  have B7 : Hid (Below w.heap.size w w7) := B5'.out.trans (hb.mono B5'.out.size)
  have K7 : Hid (Bk w7 w.heap.size _ _) := K5'.out.below hb K5'.out.lt
  clear B5' K5' hb
  go_wp2_with fail
  refine (stn0 _ (HT.out.below B7.out)).mono ?_
  rintro e w8 ⟨rfl, hb⟩
  have B8 : Hid (Below w.heap.size w w8) := B7.out.trans (hb.mono B7.out.size)
  have K8 : Hid (Bk w8 w.heap.size _ _) := K7.out.below hb K7.out.lt
  clear B7 K7 hb
  have mk257 := make257
  obtain ⟨w9, hw⟩ : ∃ w9, w9 = w8.alloc (.cells m257 28) := ⟨_, rfl⟩
  obtain ⟨g, hg⟩ : ∃ g, g = w8.heap.size := ⟨_, rfl⟩
  have F9 : Hid (Fi w g 0 w9) := by
    rw [hw, hg]
    exact ⟨B8.out.alloc B8.out.size _, K8.out.alloc _, ⟨m257, bk_new _ _ _, m257_size, fun k j v hk => absurd hk (by omega)⟩, K8.out.lt⟩
  go_wp2_with fail
  rw [← hw, ← hg]
  clear hw hg mk257 B8 K8
  go_loopw [10] (fun v wr => ∃ i : Nat, v = .int .i64 i ∧ i ≤ 257 ∧ Hid (Fi w g i wr)) (fun v _ => 257 - (intOf v).toNat)
  case atStart => exact ⟨0, rfl, by omega, F9.out⟩
  case round =>
    obtain ⟨i, rfl, hi, FR⟩ := hrel
    by_cases hlt : i < 257
    · have hltz : (i : Int) < 257 := by omega
      have h0z : (0 : Int) ≤ i := by omega
      obtain ⟨C, hC, hCz, hCr⟩ := FR.out.row
      have hfit : i * 7 + fC.toArray.size ≤ C.size := by rw [hCz]; show i * 7 + 7 ≤ 1799; omega
      have HC : Hid (Bk wr g C 28) := hC
      have HR : Hid (∀ k j v, k < i → fC[j]? = some v → C[k * 7 + j]? = some v) := hCr
      clear hC hCr
      go_wp2_with (first
        | (refine wpList_get rfl 28 (.tmp 1) rfl w.heap.size 0 fC.toArray fC.toArray 28 _ rfl FR.out.fb (fun j v hv => by rw [Nat.zero_add]; exact hv) Tryd.underlying28 rfl inf_at7 ?_)
        | (refine wpList_put rfl 28 (.tmp 48) (.tmp 47) rfl g (i * 7) C fC.toArray 28 rfl rfl HC.out inf_at7 hfit fC_one ?_
           intro w11 HB11 HG11 hz11))
      go_roundw
      case rel => exact ⟨i + 1, by go_num, by omega, FR.out.next hlt hCz HR.out HB11.out HG11.out⟩
      case measure => simp [intOf]; omega
    · have hltz : ¬ (i : Int) < 257 := by omega
      have hi2 : i = 257 := by omega
      subst hi2
      clear F9
      have CS : Hid (Calls Tryd.prog 21 #[.slice (some ⟨g, 0, none⟩) 257 257] wr fun e w' => e = .returned (.tuple #[.string ⟨(smL (List.replicate 257 fA)).toArray⟩, .int .i64 0]) ∧ Below wr.heap.size wr w') := by
        have h := stream_any (some ⟨g, 0, none⟩) 257 257 (List.replicate 257 fA) wr FR.out.row257 (List.length_replicate ..) (by decide) (HT.out.below FR.out.bel)
        rw [sm257.1] at h
        exact h
      obtain ⟨S1, hS1⟩ : ∃ S : ByteArray, S = ⟨(smL (List.replicate 257 fA)).toArray⟩ := ⟨_, rfl⟩
      rw [← hS1] at CS
      clear hS1
      go_wp2_with fail
      refine CS.out.mono ?_
      rintro e w11 ⟨rfl, hb⟩
      have F11 : Hid (Fi w g 257 w11) := FR.out.below hb
      clear CS FR hb
      obtain ⟨g12, cp12, w12, hrun, hA12, hB12⟩ := F11.out.app
      have A12 : Hid (AtL w12 (some ⟨g12, 0, none⟩) (List.replicate 258 fA)) := hA12
      have B12 : Hid (Below w.heap.size w w12) := hB12
      have HRUN : Hid _ := hrun
      have hsf := slice_f
      clear hA12 hB12 hrun
      go_wp2_with (first
        | (refine wpList_get rfl 28 (.tmp 1) rfl w.heap.size 0 fC.toArray fC.toArray 28 _ rfl F11.out.fb (fun j v hv => by rw [Nat.zero_add]; exact hv) Tryd.underlying28 rfl inf_at7 ?_; simp only [fC])
        | (refine wpList_appR10 rfl (.tmp 55) (.tmp 57) 48 48 rfl (.slice (some ⟨g, 0, none⟩) 257 257) (.slice (some ⟨w11.heap.size, 0, none⟩) 1 1) (.slice (some ⟨g12, 0, none⟩) 258 cp12) w12 rfl rfl HRUN.out ?_))
      have CS : Hid (Calls Tryd.prog 21 #[.slice (some ⟨g12, 0, none⟩) 258 cp12] w12 fun e w' => e = .returned (.tuple #[.string ⟨(smL (List.replicate 258 fA)).toArray⟩, .int .i64 1]) ∧ Below w12.heap.size w12 w') := by
        have h := stream_any (some ⟨g12, 0, none⟩) 258 cp12 (List.replicate 258 fA) w12 A12.out (List.length_replicate ..) (by decide) (HT.out.below B12.out)
        rw [sm257.2] at h
        exact h
      obtain ⟨S2, hS2⟩ : ∃ S : ByteArray, S = ⟨(smL (List.replicate 258 fA)).toArray⟩ := ⟨_, rfl⟩
      rw [← hS2] at CS
      clear hS2 A12 HRUN hsf F11
      refine CS.out.mono ?_
      rintro e w13 ⟨rfl, hb⟩
      have B13 : Hid (Below w.heap.size w w13) := B12.out.trans (hb.mono B12.out.size)
      clear CS B12 hb
      go_wp2_with fail
      refine (rdn0 _ (.inl rfl) _ (HT.out.below B13.out)).mono ?_
      rintro e w14 ⟨v14, rfl, hb⟩
      have B14 : Hid (Below w.heap.size w w14) := B13.out.trans (hb.mono B13.out.size)
      clear B13 hb
      go_wp2_with fail
      refine (rdn0 _ (.inr rfl) _ (HT.out.below B14.out)).mono ?_
      rintro e w15 ⟨v15, rfl, hb⟩
      have B15 : Hid (Below w.heap.size w w15) := B14.out.trans (hb.mono B14.out.size)
      clear B14 hb
      go_wp2_with fail
      refine (modes_yes _ (th_bel HH.out B15.out)).mono ?_
      rintro e w16 ⟨rfl, hb⟩
      have B16 : Hid (Below w.heap.size w w16) := B15.out.trans (hb.mono B15.out.size)
      clear B15 hb
      go_wp2_with fail
      refine (modes_no _).mono ?_
      rintro e w17 ⟨rfl, hb⟩
      have B17 : Hid (Below w.heap.size w w17) := B16.out.trans (hb.mono B16.out.size)
      clear B16 hb
      go_wp2_with fail
      refine (awake10 _ (HT.out.below B17.out)).mono ?_
      rintro e w18 ⟨rfl, hb⟩
      have B18 : Hid (Below w.heap.size w w18) := B17.out.trans (hb.mono B17.out.size)
      clear B17 hb
      go_wp2
      go_ret
      exact ⟨rfl, B18.out⟩
end Go.Proofs.YtjnijcmalnckcaaDoor
