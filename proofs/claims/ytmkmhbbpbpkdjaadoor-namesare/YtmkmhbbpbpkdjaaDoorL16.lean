/- The walk of munimentlaw04.NamesAre. -/
import Derived.Test.YtmkmhbbpbpkdjaaDoorN14
import Derived.Laws.AppendOwnNone
namespace Go.Proofs.YtmkmhbbpbpkdjaaDoor
open Go.RowKit
set_option linter.unusedSimpArgs false
set_option linter.unusedVariables false
theorem rSplit_fr (s : ByteArray) (w : World) (hs : s.size ≤ 140737488351232) (hT : U8 w) :
    Calls Tryd.prog 24 #[.string s] w fun e w' => ∃ a c, e = .returned (.tuple #[.slice a (pthX s.data.toList).length c, .int .i64 (pthE s.data.toList)]) ∧ LieL w' a (pthX s.data.toList) ∧ (∀ g o, a = some ⟨g, o, none⟩ → w.heap.size ≤ g) ∧ Below w.heap.size w w' := by
  have nil : ∀ w' : World, LieL w' none [] := fun w' i x hx => by simp at hx
  cases hl : s.data.toList with
  | nil => exact (rSplit_not s w (.inl hl)).mono fun e w' ⟨he, hw⟩ => ⟨none, 0, he, nil _, (fun g o h => by cases h), hw ▸ Below.refl _ _⟩
  | cons c t =>
    by_cases hc : c = 47
    · subst hc
      by_cases ht : t = []
      · subst ht
        have hp : pthX [47] = [] := by simp [pthX, pth]
        have hpe : pthE [47] = 0 := by simp [pthE, pth]
        rw [hp, hpe]
        have e : s = ⟨#[47]⟩ := by rw [← mkB_of s, hl]; rfl
        subst e
        exact (rSplit_root w).mono fun e w' ⟨he, hw⟩ => ⟨none, 0, he, nil _, (fun g o h => by cases h), hw ▸ Below.refl _ _⟩
      · refine (rSplit_row s t w hs hl ht hT).mono fun e w' ⟨v, he, hv, hb⟩ => ?_
        cases hf : okQ (sp t) with
        | false =>
          have hp : pthX (47 :: t) = [] := by simp [pthX, pth, ht, hf]
          have hpe : pthE (47 :: t) = 10 := by simp [pthE, pth, ht, hf]
          rw [hf] at he hv
          rw [hp, hpe]
          have hv' : v = .slice none 0 0 := hv
          subst hv'
          exact ⟨none, 0, he, nil _, (fun g o h => by cases h), hb⟩
        | true =>
          have hp : pthX (47 :: t) = (sp t).map mkB := by simp [pthX, pth, ht, hf]
          have hpe : pthE (47 :: t) = 0 := by simp [pthE, pth, ht, hf]
          rw [hf] at hv
          rw [hf] at he
          rw [hp, hpe]
          have hv2 : w'.ownsRow w.heap.size 9 1 v ((sp t).map mkB).length (scl ((sp t).map mkB)) := by rw [List.length_map]; exact hv
          obtain ⟨a, c, rfl, hli, _⟩ := own_strs hv2
          refine ⟨a, c, he, hli, fun g o h => ?_, hb⟩
          subst h
          rcases hv2.2 with ⟨h, _⟩ | ⟨g', _, _, h, hle, _⟩
          · cases h
          · cases h; exact hle
    · have hp : pthX (c :: t) = [] := by simp [pthX, pth, hc]
      have hpe : pthE (c :: t) = 10 := by simp [pthE, pth, hc]
      rw [hp, hpe]
      exact (rSplit_not s w (.inr ⟨c, t, hl, hc⟩)).mono fun e w' ⟨he, hw⟩ => ⟨none, 0, he, nil _, (fun g o h => by cases h), hw ▸ Below.refl _ _⟩
/-- Only one block has turned. -/
structure One (g : Nat) (w w' : World) : Prop where
  os : w'.os = w.os
  tape : w'.tape = w.tape
  output : w'.output = w.output
  size : w'.heap.size = w.heap.size
  block : ∀ k, k ≠ g → w'.heap[k]? = w.heap[k]?
theorem One.refl (g : Nat) (w : World) : One g w w := ⟨rfl, rfl, rfl, rfl, fun _ _ => rfl⟩
theorem One.set {g : Nat} {w w' : World} (h : One g w w') (o : Nat) (v : Value) : One g w (w'.setCell ⟨g, o, none⟩ v) :=
  ⟨h.os, h.tape, h.output, by rw [World.size_setCell]; exact h.size, fun k hk => by rw [Below.heap_setCell _ _ _ _ (by first | exact hk | exact fun e => hk e.symm)]; exact h.block k hk⟩
theorem One.below {B g : Nat} {a w w' : World} (h : One g w w') (hb : Below B a w) (hg : B ≤ g) : Below B a w' :=
  hb.trans ⟨h.os, h.tape, h.output, by rw [h.size]; exact Nat.le_refl _, fun k hk => h.block k (by omega)⟩
theorem One.lie {g : Nat} {w w' : World} {a : Option Addr} {xs : List ByteArray} (h : One g w w') (hl : LieL w a xs) (hf : ∀ b o, a = some ⟨b, o, none⟩ → b ≠ g) : LieL w' a xs := by
  intro i x hx
  obtain ⟨b, o, rfl, hb, hc⟩ := hl i x hx
  refine ⟨b, o, rfl, by rw [h.size]; exact hb, ?_⟩
  have := h.block b (hf b o rfl)
  simp only [World.cell?, this]
  exact hc
theorem setCell_row (w : World) (g k : Nat) (cur : Array Value) (v : Value) (h : w.heap[g]? = some (.cells cur 9 (0, 0))) : (w.setCell ⟨g, k, none⟩ v).heap[g]? = some (.cells (cur.setIfInBounds k v) 9 (0, 0)) := by
  unfold World.setCell
  simp only [Array.getElem?_modify, if_true, h]
  rfl
theorem empty_own (w : World) : (w.alloc (.cells #[] 9)).ownsRow w.heap.size 9 1 (.slice (some ⟨w.heap.size, 0, none⟩) 0 0) 0 [] := by
  refine ⟨rfl, .inr ⟨w.heap.size, 0, #[], rfl, Nat.le_refl _, ?_, Nat.le_refl _, by unfold maxLen; omega, rfl, rfl⟩⟩
  show (w.heap.push _)[w.heap.size]? = _
  simp
theorem scl_one (xs : List ByteArray) : ∀ u ∈ scl xs, u.oneCell' = true := by
  intro u hu
  simp only [scl, List.mem_map] at hu
  obtain ⟨x, _, rfl⟩ := hu
  rfl
def hash : ByteArray := ⟨#[35]⟩
set_option maxHeartbeats 4000000 in
set_option maxRecDepth 100000 in
theorem are_walk (s t : ByteArray) (a0 : Option Addr) (cap : Nat) (xs : List ByteArray) (w : World) (hL : LieL w a0 xs) (ha : a0 = none → xs = [] ∧ cap = 0) (ha2 : ∀ p, a0 = some p → ∃ b o, p = ⟨b, o, none⟩) (hc : xs.length ≤ cap)
    (hs : s.size ≤ 140737488351232) (ht : t.size ≤ 140737488351232) (hx : ∀ x ∈ xs, x.size ≤ 140737488351232) (hn : xs.length * 16 ≤ 140737488351232) (hT : U8 w) :
    Calls Tryd.prog 4 #[.string s, .string t, .slice a0 xs.length cap] w fun e w' => e = .returned (.bool true) ∧ Below w.heap.size w w' := by
  have HT : Hid (U8 w) := hT
  have HL : Hid (LieL w a0 xs) := hL
  have HX : Hid (∀ x ∈ xs, x.size ≤ 140737488351232) := hx
  obtain ⟨i0, hi, hz0, hz1, hzb⟩ := info_parts info_str
  clear hT hL hx
  have HW0 : Hid (Below w.heap.size w (w.alloc (.cells #[] 9))) := (Below.refl _ w).alloc (Nat.le_refl _) _
  have HE0 : Hid ((w.alloc (.cells #[] 9)).ownsRow w.heap.size 9 1 (.slice (some ⟨w.heap.size, 0, none⟩) 0 0) 0 []) := empty_own w
  have HN1 : Hid (∀ (j : Nat) (u : Value), (scl xs)[j]? = some u → ∃ b o, a0 = some ⟨b, o, none⟩ ∧ (w.alloc (.cells #[] 9)).cell? (Addr.add ⟨b, o, none⟩ j) = some u) := fun j u hu => by
    simp only [scl, List.getElem?_map] at hu
    obtain ⟨x, hx, rfl⟩ := Option.map_eq_some_iff.1 hu
    obtain ⟨b, o, rfl, hb, hcell⟩ := HL.out j x hx
    refine ⟨b, o, rfl, ?_⟩
    rw [WideShapes.add_plain, World.cell?_alloc_lt _ _ _ (by exact hb)]
    exact hcell
  rcases a0 with _ | p
  · obtain ⟨rfl, rfl⟩ := ha rfl
    go_enter Tryd.func4, Tryd.ntmps4
    go_wp2_with (first
      | (at_builtin; refine wpList_append_own_none rfl _ _ 35 rfl w.heap.size 9 i0 1 Tryd.underlying35 hi _ 0 [] rfl HE0.out rfl ?_)
      | (at_builtin; refine wpList_append_own _ rfl _ _ 35 rfl w.heap.size 9 i0 (.string ByteArray.empty) 1 16 Tryd.underlying35 hi hz0 hz1 hzb rfl (by decide) _ _ _ rfl (HE0.out.alloc _) ⟨w.heap.size + 1, 0, none⟩ 1 1 [.string ⟨#[35]⟩] rfl rfl ?c1 (one_str1 _) ?c3 ?c4 ?c5 ?_))
    all_goals first | (unfold maxLen; omega) | omega | skip
    intro v' w7 hown7 hgrow _
    have HB7 : Hid (Below w.heap.size w w7) := apn_below HW0.out (by simp) HE0.out hgrow
    clear hgrow
    have HR7 : Hid (w7.ownsRow w.heap.size 9 1 v' (([] : List ByteArray) ++ [(⟨#[35]⟩ : ByteArray)]).length (scl (([] : List ByteArray) ++ [(⟨#[35]⟩ : ByteArray)]))) := hown7
    obtain ⟨a7, c7, hv7, hl7, hc7⟩ := own_strs HR7.out
    obtain ⟨g7, o7, ha7, hg7, _⟩ := hl7 0 ((([] : List ByteArray) ++ [(⟨#[35]⟩ : ByteArray)])[0]'(by simp)) (List.getElem?_eq_getElem _)
    subst ha7
    have HM : Hid (LieL w7 (some ⟨g7, o7, none⟩) (([] : List ByteArray) ++ [(⟨#[35]⟩ : ByteArray)])) := hl7
    rw [List.length_append, show ([(⟨#[35]⟩ : ByteArray)] : List ByteArray).length = 1 from rfl] at hv7 hc7
    subst hv7
    have HMX : Hid (LieL w7 (some ⟨g7, o7, none⟩) ([] : List ByteArray)) := fun i x hx => HM.out i x (by rw [List.getElem?_append_left (List.getElem?_eq_some_iff.1 hx).1]; exact hx)
    have HLW : Hid (LieL w7 none ([] : List ByteArray)) := HL.out.below HB7.out
    have hU7 : Hid (U8 w7) := HT.out.below HB7.out
    have hcz : ((([] : List ByteArray).length : Nat) : Int) ≤ (c7 : Nat) := by omega
    have hcz2 : ((([] : List ByteArray).length : Nat) : Int) ≤ ((([] : List ByteArray).length : Nat) : Int) + 1 := by omega
    clear hown7 hl7 HR7
    obtain ⟨J, hJ⟩ : ∃ J, jnS ([] : List ByteArray) = J := ⟨_, rfl⟩
    obtain ⟨JE, hJE⟩ : ∃ JE, jnE ([] : List ByteArray) = JE := ⟨_, rfl⟩
    have C1 := join_any (some ⟨g7, o7, none⟩) c7 ([] : List ByteArray) w7 HMX.out (by omega) (fun x hx => by have := HX.out x hx; omega) (by omega) hU7.out
    rw [hJ, hJE] at C1
    have C2 : Hid (∀ W, Below w7.heap.size w7 W → Calls Tryd.prog 22 #[.slice none ([] : List ByteArray).length 0] W fun e w' => e = .returned (.tuple #[.string J, .int .i64 (JE : Nat)]) ∧ Below W.heap.size W w') := fun W hW => by
      have := rJoin_any none 0 ([] : List ByteArray) W (HLW.out.below hW) HX.out (by omega) (hU7.out.below hW)
      rw [hJ, hJE] at this
      exact this
    clear hJ hJE
    go_wp2_with fail
    refine C1.mono ?_
    rintro e w8 ⟨rfl, hb8⟩
    have H8 : Hid (Below w7.heap.size w7 w8) := hb8
    clear hb8 C1
    go_wp2_with fail
    refine (C2.out w8 H8.out).mono ?_
    rintro e w9 ⟨rfl, hb9⟩
    have H9 : Hid (Below w7.heap.size w7 w9) := H8.out.trans (hb9.mono H8.out.size)
    clear hb9 C2 H8
    obtain ⟨X, hX⟩ : ∃ X, pthX s.data.toList = X := ⟨_, rfl⟩
    obtain ⟨XE, hXE⟩ : ∃ XE, pthE s.data.toList = XE := ⟨_, rfl⟩
    have hX16 : X.length ≤ 16 := by rw [← hX]; exact pthX_len _
    have C3 : Hid (∀ W, U8 W → Calls Tryd.prog 23 #[.string s] W fun e w' => ∃ a c, e = .returned (.tuple #[.slice a X.length c, .int .i64 (XE : Nat)]) ∧ Spl W X a c w') := fun W hW => by
      have := split_any s W (by omega) hW
      rw [hX, hXE] at this
      exact this
    have C4 : Hid (∀ W, U8 W → Calls Tryd.prog 24 #[.string s] W fun e w' => ∃ a c, e = .returned (.tuple #[.slice a X.length c, .int .i64 (XE : Nat)]) ∧ LieL w' a X ∧ (∀ g o, a = some ⟨g, o, none⟩ → W.heap.size ≤ g) ∧ Below W.heap.size W w') := fun W hW => by
      have := rSplit_fr s W hs hW
      rw [hX, hXE] at this
      exact this
    clear hX hXE
    go_wp2_with fail
    refine (C3.out w9 (hU7.out.below H9.out)).mono ?_
    rintro e w10 ⟨a3, c3, rfl, h3⟩
    have H3 : Hid (Spl w9 X a3 c3 w10) := h3
    have H10 : Hid (Below w7.heap.size w7 w10) := H9.out.trans (h3.below.mono H9.out.size)
    clear h3
    go_wp2_with fail
    refine (C4.out w10 (hU7.out.below H10.out)).mono ?_
    rintro e w11 ⟨a4, c4, rfl, hl4, hf4, hb11⟩
    have H4 : Hid (LieL w11 a4 X ∧ (∀ g o, a4 = some ⟨g, o, none⟩ → w10.heap.size ≤ g) ∧ Below w10.heap.size w10 w11) := ⟨hl4, hf4, hb11⟩
    clear hl4 hf4 hb11 C4
    obtain ⟨UB, hUB⟩ : ∃ UB, unB s.data.toList t.data.toList = UB := ⟨_, rfl⟩
    obtain ⟨UE, hUE⟩ : ∃ UE, unE s.data.toList t.data.toList = UE := ⟨_, rfl⟩
    obtain ⟨RN, hRN⟩ : ∃ RN, rnN s.data.toList = RN := ⟨_, rfl⟩
    obtain ⟨RE, hRE⟩ : ∃ RE, rnE s.data.toList = RE := ⟨_, rfl⟩
    obtain ⟨TE, hTE⟩ : ∃ TE, rnE t.data.toList = TE := ⟨_, rfl⟩
    have C5 : Hid (∀ W, U8 W → Calls Tryd.prog 25 #[.string s, .string t] W fun e w' => e = .returned (.tuple #[.bool UB, .int .i64 (UE : Nat)]) ∧ Below W.heap.size W w') := fun W hW => by
      have := under_any s t W hs ht hW
      rw [hUB, hUE] at this
      exact this
    have C6 : Hid (∀ W, U8 W → Calls Tryd.prog 26 #[.string s, .string t] W fun e w' => e = .returned (.tuple #[.bool UB, .int .i64 (UE : Nat)]) ∧ Below W.heap.size W w') := fun W hW => by
      have := rUnder_any s t W hs ht hW
      rw [hUB, hUE] at this
      exact this
    have C7 : Hid (∀ W, U8 W → Calls Tryd.prog 27 #[.string s] W fun e w' => e = .returned (.tuple #[.int .i64 (RN : Nat), .int .i64 (RE : Nat)]) ∧ Below W.heap.size W w') := fun W hW => by
      have := runes_any s W (by omega) hW
      rw [hRN, hRE] at this
      exact this
    have C8 : Hid (∀ W, U8 W → Calls Tryd.prog 28 #[.string s] W fun e w' => e = .returned (.tuple #[.int .i64 (RN : Nat), .int .i64 (RE : Nat)]) ∧ Below W.heap.size W w') := fun W hW => by
      have := rRunes_any s W hW
      rw [hRN, hRE] at this
      exact this
    have C9 : Hid (∀ W, U8 W → Calls Tryd.prog 30 #[.string s] W fun e w' => e = .returned (.int .i64 (RE : Nat)) ∧ Below W.heap.size W w') := fun W hW => by rw [← hRE]; exact check_any s W (by omega) hW
    have C10 : Hid (∀ W, U8 W → Calls Tryd.prog 31 #[.string s] W fun e w' => e = .returned (.int .i64 (RE : Nat)) ∧ Below W.heap.size W w') := fun W hW => by rw [← hRE]; exact rcheck_any s W hW
    have C11 : Hid (∀ W, U8 W → Calls Tryd.prog 30 #[.string t] W fun e w' => e = .returned (.int .i64 (TE : Nat)) ∧ Below W.heap.size W w') := fun W hW => by rw [← hTE]; exact check_any t W (by omega) hW
    have C12 : Hid (∀ W, U8 W → Calls Tryd.prog 31 #[.string t] W fun e w' => e = .returned (.int .i64 (TE : Nat)) ∧ Below W.heap.size W w') := fun W hW => by rw [← hTE]; exact rcheck_any t W hW
    clear hUB hUE hRN hRE hTE
    have HV : Hid (U8 w11) := (hU7.out.below H10.out).below H4.out.2.2
    have H11 : Hid (Below w11.heap.size w11 w11) := Below.refl _ _
    go_wp2_with fail
    refine (C5.out w11 HV.out).mono ?_
    rintro e w12 ⟨rfl, hb⟩
    have H12 : Hid (Below w11.heap.size w11 w12) := hb
    clear hb C5
    go_wp2_with fail
    refine (C6.out w12 (HV.out.below H12.out)).mono ?_
    rintro e w13 ⟨rfl, hb⟩
    have H13 : Hid (Below w11.heap.size w11 w13) := H12.out.trans (hb.mono H12.out.size)
    clear hb C6 H12
    go_wp2_with fail
    refine (C7.out w13 (HV.out.below H13.out)).mono ?_
    rintro e w14 ⟨rfl, hb⟩
    have H14 : Hid (Below w11.heap.size w11 w14) := H13.out.trans (hb.mono H13.out.size)
    clear hb C7 H13
    go_wp2_with fail
    refine (C8.out w14 (HV.out.below H14.out)).mono ?_
    rintro e w15 ⟨rfl, hb⟩
    have H15 : Hid (Below w11.heap.size w11 w15) := H14.out.trans (hb.mono H14.out.size)
    clear hb C8 H14
    have H715 : Hid (Below w7.heap.size w7 w15) := H10.out.trans ((H4.out.2.2.trans (H15.out.mono H4.out.2.2.size)).mono H10.out.size)
    have S1 := same_any a3 a4 c3 c4 X X w15 (((spl_lie H3.out).1.below H4.out.2.2).below H15.out) (H4.out.1.below H15.out) (by omega) (by omega)
    rw [decide_eq_true rfl] at S1
    go_wp2_with fail
    refine S1.mono ?_
    rintro e w16 ⟨rfl, hb⟩
    have H16 : Hid (Below w15.heap.size w15 w16) := hb
    clear hb S1
    have S2 := same_any (some ⟨g7, o7, none⟩) none c7 0 ([] : List ByteArray) ([] : List ByteArray) w16 ((HMX.out.below H715.out).below H16.out) ((HLW.out.below H715.out).below H16.out) (by omega) (by omega)
    rw [decide_eq_true rfl] at S2
    have hc17 : ∀ W, Below w16.heap.size w16 W → W.cell? ⟨g7, o7 + ([] : List ByteArray).length, none⟩ = some (.string ⟨#[35]⟩) := fun W hW => by
      obtain ⟨b, o, e, _, h⟩ := ((HM.out.below H715.out).below H16.out).below hW ([] : List ByteArray).length ⟨#[35]⟩ (by rw [List.getElem?_append_right (Nat.le_refl _), Nat.sub_self]; rfl)
      cases e
      exact h
    have HC17 : Hid (∀ W, Below w16.heap.size w16 W → W.cell? ⟨g7, o7 + ([] : List ByteArray).length, none⟩ = some (.string ⟨#[35]⟩)) := hc17
    clear hc17
    go_wp2_with fail
    refine S2.mono ?_
    rintro e w17 ⟨rfl, hb⟩
    have hcell := HC17.out w17 hb
    have H17 : Hid (Below w15.heap.size w15 w17) := H16.out.trans (hb.mono H16.out.size)
    clear hb S2 H16 HC17
    try simp only [List.length_nil, Nat.add_zero] at hcell
    go_wp2_with fail
    clear hcell
    have HB17 : Hid (Below w.heap.size w w17) := HB7.out.trans ((H715.out.trans (H17.out.mono H715.out.size)).mono HB7.out.size)
    have H1017 : Hid (Below w10.heap.size w10 w17) := H4.out.2.2.trans ((H15.out.trans (H17.out.mono H15.out.size)).mono H4.out.2.2.size)
    have HL17 : Hid (LieL w17 a4 X) := (H4.out.1.below H15.out).below H17.out
    by_cases hX0 : X = []
    · subst hX0
      obtain ⟨rfl, rfl⟩ := H3.out.nil rfl
      go_loopw [24] (fun v wr => v = .int .i64 0 ∧ w17 = wr) (fun _ _ => 0)
      case atStart => exact ⟨rfl, rfl⟩
      case round =>
      obtain ⟨rfl, hw⟩ := hrel
      subst hw
      have HBE : Hid (Below w.heap.size w w17) := HB17.out
      have HLE : Hid (LieL w17 a4 []) := HL17.out
      have HUE : Hid (U8 w17) := HT.out.below HBE.out
      have S3 : Hid (∀ W a c, Spl w17 [] a c W → Calls Tryd.prog 29 #[.slice a ([] : List ByteArray).length c, .slice a4 ([] : List ByteArray).length c4] W fun e w' => e = .returned (.bool true) ∧ Below W.heap.size W w') := fun W a c h => by
        have := same_any a a4 c c4 ([] : List ByteArray) [] W (spl_lie h).1 (HLE.out.below h.below) (by omega) (by omega)
        rw [decide_eq_true rfl] at this
        exact this
      obtain ⟨LB, hLB⟩ : ∃ LB, Op.bytesLess s.toList t.toList = LB := ⟨_, rfl⟩
      have L1 : Hid (∀ W, Calls Tryd.prog 32 #[.string s, .string t] W fun e w' => e = .returned (.bool LB) ∧ w' = W) := fun W => by rw [← hLB]; exact less4 s t W
      have L2 : Hid (∀ W, Calls Tryd.prog 33 #[.string s, .string t] W fun e w' => e = .returned (.bool LB) ∧ w' = W) := fun W => by rw [← hLB]; exact rless4 s t W
      clear hLB
      go_wp2_with fail
      refine (C3.out w17 HUE.out).mono ?_
      rintro e w18 ⟨a5, c5, rfl, h5⟩
      have H18 : Hid (Spl w17 [] a5 c5 w18) := h5
      clear h5 C3
      go_wp2_with fail
      refine (S3.out w18 a5 c5 H18.out).mono ?_
      rintro e w19 ⟨rfl, hb⟩
      have H19 : Hid (Below w17.heap.size w17 w19) := H18.out.below.trans (hb.mono H18.out.below.size)
      clear hb S3 H18
      go_wp2_with fail
      refine (C9.out w19 (HUE.out.below H19.out)).mono ?_
      rintro e w20 ⟨rfl, hb⟩
      have H20 : Hid (Below w17.heap.size w17 w20) := H19.out.trans (hb.mono H19.out.size)
      clear hb C9 H19
      go_wp2_with fail
      refine (C10.out w20 (HUE.out.below H20.out)).mono ?_
      rintro e w21 ⟨rfl, hb⟩
      have H21 : Hid (Below w17.heap.size w17 w21) := H20.out.trans (hb.mono H20.out.size)
      clear hb C10 H20
      go_wp2_with fail
      refine (C11.out w21 (HUE.out.below H21.out)).mono ?_
      rintro e w22 ⟨rfl, hb⟩
      have H22 : Hid (Below w17.heap.size w17 w22) := H21.out.trans (hb.mono H21.out.size)
      clear hb C11 H21
      go_wp2_with fail
      refine (C12.out w22 (HUE.out.below H22.out)).mono ?_
      rintro e w23 ⟨rfl, hb⟩
      have H23 : Hid (Below w17.heap.size w17 w23) := H22.out.trans (hb.mono H22.out.size)
      clear hb C12 H22
      go_wp2_with fail
      refine (L1.out w23).mono ?_
      rintro e w24 ⟨rfl, hw24⟩
      rw [hw24]
      clear hw24 L1
      go_wp2_with fail
      refine (L2.out w23).mono ?_
      rintro e w25 ⟨rfl, hw25⟩
      rw [hw25]
      clear hw25 L2
      cases LB
      all_goals
        go_wp2_with fail
        refine (awake4 w23 (HUE.out.below H23.out)).mono ?_
        rintro e w26 ⟨rfl, hb⟩
        have H26 : Hid (Below w.heap.size w w26) := HBE.out.trans ((H23.out.trans (hb.mono H23.out.size)).mono HBE.out.size)
        clear hb
        go_wp2
        go_ret
        exact ⟨rfl, H26.out⟩
    · obtain ⟨ha3, hc3, hrow⟩ := H3.out.row hX0
      subst ha3
      have hgw : w9.heap.size < w10.heap.size := (Array.getElem?_eq_some_iff.1 hrow).1
      have HRW : Hid (w17.heap[w9.heap.size]? = some (.cells (Lib.cellsOf X c3) 9 (0, 0))) := by
        show w17.heap[w9.heap.size]? = _
        rw [H1017.out.block _ hgw]; exact hrow
      have hcs : (Lib.cellsOf X c3).size = c3 := Lib.cellsOf_size hc3
      have hw9 : w.heap.size ≤ w9.heap.size := Nat.le_trans HB7.out.size H9.out.size
      clear hrow
      go_loopw [24] (fun v wr => ∃ (k : Nat) (cur : Array Value), v = .int .i64 k ∧ k ≤ X.length ∧ Hid (One w9.heap.size w17 wr) ∧ wr.heap[w9.heap.size]? = some (.cells cur 9 (0, 0)) ∧ cur.size = c3) (fun v _ => X.length - (intOf v).toNat)
      case atStart => exact ⟨0, _, rfl, Nat.zero_le _, One.refl _ _, HRW.out, hcs⟩
      case round =>
      obtain ⟨k, cur, rfl, hk, HO, hrw, hcur⟩ := hrel
      by_cases hlt : k < X.length
      · have hkz : (k : Int) < (X.length : Nat) := by omega
        have hck : wr.cell? ⟨w9.heap.size, k, none⟩ = some (cur[k]'(by omega)) := by
          simp only [World.cell?, hrw]
          exact Array.getElem?_eq_getElem _
        have hfk : wr.frozen? ⟨w9.heap.size, k, none⟩ = false := frozen_of_row wr _ k cur _ hrw
        have HO2 : Hid (One w9.heap.size w17 (wr.setCell ⟨w9.heap.size, k, none⟩ (.string ⟨#[126]⟩))) := HO.out.set k _
        have hrw2 := setCell_row wr w9.heap.size k cur (.string ⟨#[126]⟩) hrw
        clear hrw
        go_wp2
        go_roundw
        case rel => exact ⟨k + 1, _, by go_num, by omega, HO2.out, hrw2, by simp; exact hcur⟩
        case measure => simp [intOf] <;> omega
      · have HBE : Hid (Below w.heap.size w wr) := HO.out.below HB17.out hw9
        have HLE : Hid (LieL wr a4 X) := HO.out.lie HL17.out (fun b o e h => by have := H4.out.2.1 b o e; omega)
        clear hrw hcur
        have HUE : Hid (U8 wr) := HT.out.below HBE.out
        have S3 : Hid (∀ W a c, Spl wr X a c W → Calls Tryd.prog 29 #[.slice a X.length c, .slice a4 X.length c4] W fun e w' => e = .returned (.bool true) ∧ Below W.heap.size W w') := fun W a c h => by
          have := same_any a a4 c c4 X X W (spl_lie h).1 (HLE.out.below h.below) (by omega) (by omega)
          rw [decide_eq_true rfl] at this
          exact this
        obtain ⟨LB, hLB⟩ : ∃ LB, Op.bytesLess s.toList t.toList = LB := ⟨_, rfl⟩
        have L1 : Hid (∀ W, Calls Tryd.prog 32 #[.string s, .string t] W fun e w' => e = .returned (.bool LB) ∧ w' = W) := fun W => by rw [← hLB]; exact less4 s t W
        have L2 : Hid (∀ W, Calls Tryd.prog 33 #[.string s, .string t] W fun e w' => e = .returned (.bool LB) ∧ w' = W) := fun W => by rw [← hLB]; exact rless4 s t W
        clear hLB
        go_wp2_with fail
        refine (C3.out wr HUE.out).mono ?_
        rintro e w18 ⟨a5, c5, rfl, h5⟩
        have H18 : Hid (Spl wr X a5 c5 w18) := h5
        clear h5 C3
        go_wp2_with fail
        refine (S3.out w18 a5 c5 H18.out).mono ?_
        rintro e w19 ⟨rfl, hb⟩
        have H19 : Hid (Below wr.heap.size wr w19) := H18.out.below.trans (hb.mono H18.out.below.size)
        clear hb S3 H18
        go_wp2_with fail
        refine (C9.out w19 (HUE.out.below H19.out)).mono ?_
        rintro e w20 ⟨rfl, hb⟩
        have H20 : Hid (Below wr.heap.size wr w20) := H19.out.trans (hb.mono H19.out.size)
        clear hb C9 H19
        go_wp2_with fail
        refine (C10.out w20 (HUE.out.below H20.out)).mono ?_
        rintro e w21 ⟨rfl, hb⟩
        have H21 : Hid (Below wr.heap.size wr w21) := H20.out.trans (hb.mono H20.out.size)
        clear hb C10 H20
        go_wp2_with fail
        refine (C11.out w21 (HUE.out.below H21.out)).mono ?_
        rintro e w22 ⟨rfl, hb⟩
        have H22 : Hid (Below wr.heap.size wr w22) := H21.out.trans (hb.mono H21.out.size)
        clear hb C11 H21
        go_wp2_with fail
        refine (C12.out w22 (HUE.out.below H22.out)).mono ?_
        rintro e w23 ⟨rfl, hb⟩
        have H23 : Hid (Below wr.heap.size wr w23) := H22.out.trans (hb.mono H22.out.size)
        clear hb C12 H22
        go_wp2_with fail
        refine (L1.out w23).mono ?_
        rintro e w24 ⟨rfl, hw24⟩
        rw [hw24]
        clear hw24 L1
        go_wp2_with fail
        refine (L2.out w23).mono ?_
        rintro e w25 ⟨rfl, hw25⟩
        rw [hw25]
        clear hw25 L2
        cases LB
        all_goals
          go_wp2_with fail
          refine (awake4 w23 (HUE.out.below H23.out)).mono ?_
          rintro e w26 ⟨rfl, hb⟩
          have H26 : Hid (Below w.heap.size w w26) := HBE.out.trans ((H23.out.trans (hb.mono H23.out.size)).mono HBE.out.size)
          clear hb
          go_wp2
          go_ret
          exact ⟨rfl, H26.out⟩
  · obtain ⟨b0, o0, rfl⟩ := ha2 p rfl
    have HN2 : Hid (∀ (j : Nat) (u : Value), (scl xs)[j]? = some u → (w.alloc (.cells #[] 9)).cell? (Addr.add ⟨b0, o0, none⟩ j) = some u) := fun j u hu => by
      obtain ⟨b, o, e, h⟩ := HN1.out j u hu
      cases e
      exact h
    go_enter Tryd.func4, Tryd.ntmps4
    go_wp2_with (at_builtin; refine wpList_append_own _ rfl _ _ 35 rfl w.heap.size 9 i0 (.string ByteArray.empty) 1 16 Tryd.underlying35 hi hz0 hz1 hzb rfl (by decide) _ _ _ rfl HE0.out ⟨b0, o0, none⟩ xs.length cap (scl xs) rfl (by simp [scl]) HN2.out (scl_one xs) (by unfold maxLen; omega) (by omega) (by simp) ?_)
    intro v1 w2 hown2 hgrow2 _
    have HB2 : Hid (Below w.heap.size w w2) := HW0.out.grown hgrow2 (by simp) (fun k hk => by simp [Value.ownBlock] at hk; omega)
    have HO2 : Hid (w2.ownsRow w.heap.size 9 1 v1 xs.length (scl xs)) := by
      show w2.ownsRow w.heap.size 9 1 v1 xs.length (scl xs)
      simpa using hown2
    have hzw2 : w.heap.size ≤ w2.heap.size := HB2.out.size
    clear hown2 hgrow2
    go_wp2_with (at_builtin; refine wpList_append_own _ rfl _ _ 35 rfl w.heap.size 9 i0 (.string ByteArray.empty) 1 16 Tryd.underlying35 hi hz0 hz1 hzb rfl (by decide) _ _ _ rfl (HO2.out.alloc _) ⟨w2.heap.size, 0, none⟩ 1 1 [.string ⟨#[35]⟩] rfl rfl (new_one _ _ _) (one_str1 _) (by unfold maxLen; omega) (by omega) (by simp; omega) ?_)
    intro v' w7 hown7 hgrow _
    have HB7 : Hid (Below w.heap.size w w7) := apn_below HB2.out hzw2 HO2.out hgrow
    have hown7 : w7.ownsRow w.heap.size 9 1 v' (xs ++ [(⟨#[35]⟩ : ByteArray)]).length (scl (xs ++ [(⟨#[35]⟩ : ByteArray)])) := by
      rw [scl_app, List.length_append]; exact hown7
    clear hgrow HO2
    have HR7 : Hid (w7.ownsRow w.heap.size 9 1 v' (xs ++ [(⟨#[35]⟩ : ByteArray)]).length (scl (xs ++ [(⟨#[35]⟩ : ByteArray)]))) := hown7
    obtain ⟨a7, c7, hv7, hl7, hc7⟩ := own_strs HR7.out
    obtain ⟨g7, o7, ha7, hg7, _⟩ := hl7 0 ((xs ++ [(⟨#[35]⟩ : ByteArray)])[0]'(by simp)) (List.getElem?_eq_getElem _)
    subst ha7
    have HM : Hid (LieL w7 (some ⟨g7, o7, none⟩) (xs ++ [(⟨#[35]⟩ : ByteArray)])) := hl7
    rw [List.length_append, show ([(⟨#[35]⟩ : ByteArray)] : List ByteArray).length = 1 from rfl] at hv7 hc7
    subst hv7
    have HMX : Hid (LieL w7 (some ⟨g7, o7, none⟩) xs) := fun i x hx => HM.out i x (by rw [List.getElem?_append_left (List.getElem?_eq_some_iff.1 hx).1]; exact hx)
    have HLW : Hid (LieL w7 (some ⟨b0, o0, none⟩) xs) := HL.out.below HB7.out
    have hU7 : Hid (U8 w7) := HT.out.below HB7.out
    have hcz : ((xs.length : Nat) : Int) ≤ (c7 : Nat) := by omega
    have hcz2 : ((xs.length : Nat) : Int) ≤ ((xs.length : Nat) : Int) + 1 := by omega
    clear hown7 hl7 HR7
    obtain ⟨J, hJ⟩ : ∃ J, jnS xs = J := ⟨_, rfl⟩
    obtain ⟨JE, hJE⟩ : ∃ JE, jnE xs = JE := ⟨_, rfl⟩
    have C1 := join_any (some ⟨g7, o7, none⟩) c7 xs w7 HMX.out (by omega) (fun x hx => by have := HX.out x hx; omega) (by omega) hU7.out
    rw [hJ, hJE] at C1
    have C2 : Hid (∀ W, Below w7.heap.size w7 W → Calls Tryd.prog 22 #[.slice (some ⟨b0, o0, none⟩) xs.length cap] W fun e w' => e = .returned (.tuple #[.string J, .int .i64 (JE : Nat)]) ∧ Below W.heap.size W w') := fun W hW => by
      have := rJoin_any (some ⟨b0, o0, none⟩) cap xs W (HLW.out.below hW) HX.out (by omega) (hU7.out.below hW)
      rw [hJ, hJE] at this
      exact this
    clear hJ hJE
    go_wp2_with fail
    refine C1.mono ?_
    rintro e w8 ⟨rfl, hb8⟩
    have H8 : Hid (Below w7.heap.size w7 w8) := hb8
    clear hb8 C1
    go_wp2_with fail
    refine (C2.out w8 H8.out).mono ?_
    rintro e w9 ⟨rfl, hb9⟩
    have H9 : Hid (Below w7.heap.size w7 w9) := H8.out.trans (hb9.mono H8.out.size)
    clear hb9 C2 H8
    obtain ⟨X, hX⟩ : ∃ X, pthX s.data.toList = X := ⟨_, rfl⟩
    obtain ⟨XE, hXE⟩ : ∃ XE, pthE s.data.toList = XE := ⟨_, rfl⟩
    have hX16 : X.length ≤ 16 := by rw [← hX]; exact pthX_len _
    have C3 : Hid (∀ W, U8 W → Calls Tryd.prog 23 #[.string s] W fun e w' => ∃ a c, e = .returned (.tuple #[.slice a X.length c, .int .i64 (XE : Nat)]) ∧ Spl W X a c w') := fun W hW => by
      have := split_any s W (by omega) hW
      rw [hX, hXE] at this
      exact this
    have C4 : Hid (∀ W, U8 W → Calls Tryd.prog 24 #[.string s] W fun e w' => ∃ a c, e = .returned (.tuple #[.slice a X.length c, .int .i64 (XE : Nat)]) ∧ LieL w' a X ∧ (∀ g o, a = some ⟨g, o, none⟩ → W.heap.size ≤ g) ∧ Below W.heap.size W w') := fun W hW => by
      have := rSplit_fr s W hs hW
      rw [hX, hXE] at this
      exact this
    clear hX hXE
    go_wp2_with fail
    refine (C3.out w9 (hU7.out.below H9.out)).mono ?_
    rintro e w10 ⟨a3, c3, rfl, h3⟩
    have H3 : Hid (Spl w9 X a3 c3 w10) := h3
    have H10 : Hid (Below w7.heap.size w7 w10) := H9.out.trans (h3.below.mono H9.out.size)
    clear h3
    go_wp2_with fail
    refine (C4.out w10 (hU7.out.below H10.out)).mono ?_
    rintro e w11 ⟨a4, c4, rfl, hl4, hf4, hb11⟩
    have H4 : Hid (LieL w11 a4 X ∧ (∀ g o, a4 = some ⟨g, o, none⟩ → w10.heap.size ≤ g) ∧ Below w10.heap.size w10 w11) := ⟨hl4, hf4, hb11⟩
    clear hl4 hf4 hb11 C4
    obtain ⟨UB, hUB⟩ : ∃ UB, unB s.data.toList t.data.toList = UB := ⟨_, rfl⟩
    obtain ⟨UE, hUE⟩ : ∃ UE, unE s.data.toList t.data.toList = UE := ⟨_, rfl⟩
    obtain ⟨RN, hRN⟩ : ∃ RN, rnN s.data.toList = RN := ⟨_, rfl⟩
    obtain ⟨RE, hRE⟩ : ∃ RE, rnE s.data.toList = RE := ⟨_, rfl⟩
    obtain ⟨TE, hTE⟩ : ∃ TE, rnE t.data.toList = TE := ⟨_, rfl⟩
    have C5 : Hid (∀ W, U8 W → Calls Tryd.prog 25 #[.string s, .string t] W fun e w' => e = .returned (.tuple #[.bool UB, .int .i64 (UE : Nat)]) ∧ Below W.heap.size W w') := fun W hW => by
      have := under_any s t W hs ht hW
      rw [hUB, hUE] at this
      exact this
    have C6 : Hid (∀ W, U8 W → Calls Tryd.prog 26 #[.string s, .string t] W fun e w' => e = .returned (.tuple #[.bool UB, .int .i64 (UE : Nat)]) ∧ Below W.heap.size W w') := fun W hW => by
      have := rUnder_any s t W hs ht hW
      rw [hUB, hUE] at this
      exact this
    have C7 : Hid (∀ W, U8 W → Calls Tryd.prog 27 #[.string s] W fun e w' => e = .returned (.tuple #[.int .i64 (RN : Nat), .int .i64 (RE : Nat)]) ∧ Below W.heap.size W w') := fun W hW => by
      have := runes_any s W (by omega) hW
      rw [hRN, hRE] at this
      exact this
    have C8 : Hid (∀ W, U8 W → Calls Tryd.prog 28 #[.string s] W fun e w' => e = .returned (.tuple #[.int .i64 (RN : Nat), .int .i64 (RE : Nat)]) ∧ Below W.heap.size W w') := fun W hW => by
      have := rRunes_any s W hW
      rw [hRN, hRE] at this
      exact this
    have C9 : Hid (∀ W, U8 W → Calls Tryd.prog 30 #[.string s] W fun e w' => e = .returned (.int .i64 (RE : Nat)) ∧ Below W.heap.size W w') := fun W hW => by rw [← hRE]; exact check_any s W (by omega) hW
    have C10 : Hid (∀ W, U8 W → Calls Tryd.prog 31 #[.string s] W fun e w' => e = .returned (.int .i64 (RE : Nat)) ∧ Below W.heap.size W w') := fun W hW => by rw [← hRE]; exact rcheck_any s W hW
    have C11 : Hid (∀ W, U8 W → Calls Tryd.prog 30 #[.string t] W fun e w' => e = .returned (.int .i64 (TE : Nat)) ∧ Below W.heap.size W w') := fun W hW => by rw [← hTE]; exact check_any t W (by omega) hW
    have C12 : Hid (∀ W, U8 W → Calls Tryd.prog 31 #[.string t] W fun e w' => e = .returned (.int .i64 (TE : Nat)) ∧ Below W.heap.size W w') := fun W hW => by rw [← hTE]; exact rcheck_any t W hW
    clear hUB hUE hRN hRE hTE
    have HV : Hid (U8 w11) := (hU7.out.below H10.out).below H4.out.2.2
    have H11 : Hid (Below w11.heap.size w11 w11) := Below.refl _ _
    go_wp2_with fail
    refine (C5.out w11 HV.out).mono ?_
    rintro e w12 ⟨rfl, hb⟩
    have H12 : Hid (Below w11.heap.size w11 w12) := hb
    clear hb C5
    go_wp2_with fail
    refine (C6.out w12 (HV.out.below H12.out)).mono ?_
    rintro e w13 ⟨rfl, hb⟩
    have H13 : Hid (Below w11.heap.size w11 w13) := H12.out.trans (hb.mono H12.out.size)
    clear hb C6 H12
    go_wp2_with fail
    refine (C7.out w13 (HV.out.below H13.out)).mono ?_
    rintro e w14 ⟨rfl, hb⟩
    have H14 : Hid (Below w11.heap.size w11 w14) := H13.out.trans (hb.mono H13.out.size)
    clear hb C7 H13
    go_wp2_with fail
    refine (C8.out w14 (HV.out.below H14.out)).mono ?_
    rintro e w15 ⟨rfl, hb⟩
    have H15 : Hid (Below w11.heap.size w11 w15) := H14.out.trans (hb.mono H14.out.size)
    clear hb C8 H14
    have H715 : Hid (Below w7.heap.size w7 w15) := H10.out.trans ((H4.out.2.2.trans (H15.out.mono H4.out.2.2.size)).mono H10.out.size)
    have S1 := same_any a3 a4 c3 c4 X X w15 (((spl_lie H3.out).1.below H4.out.2.2).below H15.out) (H4.out.1.below H15.out) (by omega) (by omega)
    rw [decide_eq_true rfl] at S1
    go_wp2_with fail
    refine S1.mono ?_
    rintro e w16 ⟨rfl, hb⟩
    have H16 : Hid (Below w15.heap.size w15 w16) := hb
    clear hb S1
    have S2 := same_any (some ⟨g7, o7, none⟩) (some ⟨b0, o0, none⟩) c7 cap xs xs w16 ((HMX.out.below H715.out).below H16.out) ((HLW.out.below H715.out).below H16.out) (by omega) (by omega)
    rw [decide_eq_true rfl] at S2
    have hc17 : ∀ W, Below w16.heap.size w16 W → W.cell? ⟨g7, o7 + xs.length, none⟩ = some (.string ⟨#[35]⟩) := fun W hW => by
      obtain ⟨b, o, e, _, h⟩ := ((HM.out.below H715.out).below H16.out).below hW xs.length ⟨#[35]⟩ (by rw [List.getElem?_append_right (Nat.le_refl _), Nat.sub_self]; rfl)
      cases e
      exact h
    have HC17 : Hid (∀ W, Below w16.heap.size w16 W → W.cell? ⟨g7, o7 + xs.length, none⟩ = some (.string ⟨#[35]⟩)) := hc17
    clear hc17
    go_wp2_with fail
    refine S2.mono ?_
    rintro e w17 ⟨rfl, hb⟩
    have hcell := HC17.out w17 hb
    have H17 : Hid (Below w15.heap.size w15 w17) := H16.out.trans (hb.mono H16.out.size)
    clear hb S2 H16 HC17
    try simp only [List.length_nil, Nat.add_zero] at hcell
    go_wp2_with fail
    clear hcell
    have HB17 : Hid (Below w.heap.size w w17) := HB7.out.trans ((H715.out.trans (H17.out.mono H715.out.size)).mono HB7.out.size)
    have H1017 : Hid (Below w10.heap.size w10 w17) := H4.out.2.2.trans ((H15.out.trans (H17.out.mono H15.out.size)).mono H4.out.2.2.size)
    have HL17 : Hid (LieL w17 a4 X) := (H4.out.1.below H15.out).below H17.out
    by_cases hX0 : X = []
    · subst hX0
      obtain ⟨rfl, rfl⟩ := H3.out.nil rfl
      go_loopw [24] (fun v wr => v = .int .i64 0 ∧ w17 = wr) (fun _ _ => 0)
      case atStart => exact ⟨rfl, rfl⟩
      case round =>
      obtain ⟨rfl, hw⟩ := hrel
      subst hw
      have HBE : Hid (Below w.heap.size w w17) := HB17.out
      have HLE : Hid (LieL w17 a4 []) := HL17.out
      have HUE : Hid (U8 w17) := HT.out.below HBE.out
      have S3 : Hid (∀ W a c, Spl w17 [] a c W → Calls Tryd.prog 29 #[.slice a ([] : List ByteArray).length c, .slice a4 ([] : List ByteArray).length c4] W fun e w' => e = .returned (.bool true) ∧ Below W.heap.size W w') := fun W a c h => by
        have := same_any a a4 c c4 ([] : List ByteArray) [] W (spl_lie h).1 (HLE.out.below h.below) (by omega) (by omega)
        rw [decide_eq_true rfl] at this
        exact this
      obtain ⟨LB, hLB⟩ : ∃ LB, Op.bytesLess s.toList t.toList = LB := ⟨_, rfl⟩
      have L1 : Hid (∀ W, Calls Tryd.prog 32 #[.string s, .string t] W fun e w' => e = .returned (.bool LB) ∧ w' = W) := fun W => by rw [← hLB]; exact less4 s t W
      have L2 : Hid (∀ W, Calls Tryd.prog 33 #[.string s, .string t] W fun e w' => e = .returned (.bool LB) ∧ w' = W) := fun W => by rw [← hLB]; exact rless4 s t W
      clear hLB
      go_wp2_with fail
      refine (C3.out w17 HUE.out).mono ?_
      rintro e w18 ⟨a5, c5, rfl, h5⟩
      have H18 : Hid (Spl w17 [] a5 c5 w18) := h5
      clear h5 C3
      go_wp2_with fail
      refine (S3.out w18 a5 c5 H18.out).mono ?_
      rintro e w19 ⟨rfl, hb⟩
      have H19 : Hid (Below w17.heap.size w17 w19) := H18.out.below.trans (hb.mono H18.out.below.size)
      clear hb S3 H18
      go_wp2_with fail
      refine (C9.out w19 (HUE.out.below H19.out)).mono ?_
      rintro e w20 ⟨rfl, hb⟩
      have H20 : Hid (Below w17.heap.size w17 w20) := H19.out.trans (hb.mono H19.out.size)
      clear hb C9 H19
      go_wp2_with fail
      refine (C10.out w20 (HUE.out.below H20.out)).mono ?_
      rintro e w21 ⟨rfl, hb⟩
      have H21 : Hid (Below w17.heap.size w17 w21) := H20.out.trans (hb.mono H20.out.size)
      clear hb C10 H20
      go_wp2_with fail
      refine (C11.out w21 (HUE.out.below H21.out)).mono ?_
      rintro e w22 ⟨rfl, hb⟩
      have H22 : Hid (Below w17.heap.size w17 w22) := H21.out.trans (hb.mono H21.out.size)
      clear hb C11 H21
      go_wp2_with fail
      refine (C12.out w22 (HUE.out.below H22.out)).mono ?_
      rintro e w23 ⟨rfl, hb⟩
      have H23 : Hid (Below w17.heap.size w17 w23) := H22.out.trans (hb.mono H22.out.size)
      clear hb C12 H22
      go_wp2_with fail
      refine (L1.out w23).mono ?_
      rintro e w24 ⟨rfl, hw24⟩
      rw [hw24]
      clear hw24 L1
      go_wp2_with fail
      refine (L2.out w23).mono ?_
      rintro e w25 ⟨rfl, hw25⟩
      rw [hw25]
      clear hw25 L2
      cases LB
      all_goals
        go_wp2_with fail
        refine (awake4 w23 (HUE.out.below H23.out)).mono ?_
        rintro e w26 ⟨rfl, hb⟩
        have H26 : Hid (Below w.heap.size w w26) := HBE.out.trans ((H23.out.trans (hb.mono H23.out.size)).mono HBE.out.size)
        clear hb
        go_wp2
        go_ret
        exact ⟨rfl, H26.out⟩
    · obtain ⟨ha3, hc3, hrow⟩ := H3.out.row hX0
      subst ha3
      have hgw : w9.heap.size < w10.heap.size := (Array.getElem?_eq_some_iff.1 hrow).1
      have HRW : Hid (w17.heap[w9.heap.size]? = some (.cells (Lib.cellsOf X c3) 9 (0, 0))) := by
        show w17.heap[w9.heap.size]? = _
        rw [H1017.out.block _ hgw]; exact hrow
      have hcs : (Lib.cellsOf X c3).size = c3 := Lib.cellsOf_size hc3
      have hw9 : w.heap.size ≤ w9.heap.size := Nat.le_trans HB7.out.size H9.out.size
      clear hrow
      go_loopw [24] (fun v wr => ∃ (k : Nat) (cur : Array Value), v = .int .i64 k ∧ k ≤ X.length ∧ Hid (One w9.heap.size w17 wr) ∧ wr.heap[w9.heap.size]? = some (.cells cur 9 (0, 0)) ∧ cur.size = c3) (fun v _ => X.length - (intOf v).toNat)
      case atStart => exact ⟨0, _, rfl, Nat.zero_le _, One.refl _ _, HRW.out, hcs⟩
      case round =>
      obtain ⟨k, cur, rfl, hk, HO, hrw, hcur⟩ := hrel
      by_cases hlt : k < X.length
      · have hkz : (k : Int) < (X.length : Nat) := by omega
        have hck : wr.cell? ⟨w9.heap.size, k, none⟩ = some (cur[k]'(by omega)) := by
          simp only [World.cell?, hrw]
          exact Array.getElem?_eq_getElem _
        have hfk : wr.frozen? ⟨w9.heap.size, k, none⟩ = false := frozen_of_row wr _ k cur _ hrw
        have HO2 : Hid (One w9.heap.size w17 (wr.setCell ⟨w9.heap.size, k, none⟩ (.string ⟨#[126]⟩))) := HO.out.set k _
        have hrw2 := setCell_row wr w9.heap.size k cur (.string ⟨#[126]⟩) hrw
        clear hrw
        go_wp2
        go_roundw
        case rel => exact ⟨k + 1, _, by go_num, by omega, HO2.out, hrw2, by simp; exact hcur⟩
        case measure => simp [intOf] <;> omega
      · have HBE : Hid (Below w.heap.size w wr) := HO.out.below HB17.out hw9
        have HLE : Hid (LieL wr a4 X) := HO.out.lie HL17.out (fun b o e h => by have := H4.out.2.1 b o e; omega)
        clear hrw hcur
        have HUE : Hid (U8 wr) := HT.out.below HBE.out
        have S3 : Hid (∀ W a c, Spl wr X a c W → Calls Tryd.prog 29 #[.slice a X.length c, .slice a4 X.length c4] W fun e w' => e = .returned (.bool true) ∧ Below W.heap.size W w') := fun W a c h => by
          have := same_any a a4 c c4 X X W (spl_lie h).1 (HLE.out.below h.below) (by omega) (by omega)
          rw [decide_eq_true rfl] at this
          exact this
        obtain ⟨LB, hLB⟩ : ∃ LB, Op.bytesLess s.toList t.toList = LB := ⟨_, rfl⟩
        have L1 : Hid (∀ W, Calls Tryd.prog 32 #[.string s, .string t] W fun e w' => e = .returned (.bool LB) ∧ w' = W) := fun W => by rw [← hLB]; exact less4 s t W
        have L2 : Hid (∀ W, Calls Tryd.prog 33 #[.string s, .string t] W fun e w' => e = .returned (.bool LB) ∧ w' = W) := fun W => by rw [← hLB]; exact rless4 s t W
        clear hLB
        go_wp2_with fail
        refine (C3.out wr HUE.out).mono ?_
        rintro e w18 ⟨a5, c5, rfl, h5⟩
        have H18 : Hid (Spl wr X a5 c5 w18) := h5
        clear h5 C3
        go_wp2_with fail
        refine (S3.out w18 a5 c5 H18.out).mono ?_
        rintro e w19 ⟨rfl, hb⟩
        have H19 : Hid (Below wr.heap.size wr w19) := H18.out.below.trans (hb.mono H18.out.below.size)
        clear hb S3 H18
        go_wp2_with fail
        refine (C9.out w19 (HUE.out.below H19.out)).mono ?_
        rintro e w20 ⟨rfl, hb⟩
        have H20 : Hid (Below wr.heap.size wr w20) := H19.out.trans (hb.mono H19.out.size)
        clear hb C9 H19
        go_wp2_with fail
        refine (C10.out w20 (HUE.out.below H20.out)).mono ?_
        rintro e w21 ⟨rfl, hb⟩
        have H21 : Hid (Below wr.heap.size wr w21) := H20.out.trans (hb.mono H20.out.size)
        clear hb C10 H20
        go_wp2_with fail
        refine (C11.out w21 (HUE.out.below H21.out)).mono ?_
        rintro e w22 ⟨rfl, hb⟩
        have H22 : Hid (Below wr.heap.size wr w22) := H21.out.trans (hb.mono H21.out.size)
        clear hb C11 H21
        go_wp2_with fail
        refine (C12.out w22 (HUE.out.below H22.out)).mono ?_
        rintro e w23 ⟨rfl, hb⟩
        have H23 : Hid (Below wr.heap.size wr w23) := H22.out.trans (hb.mono H22.out.size)
        clear hb C12 H22
        go_wp2_with fail
        refine (L1.out w23).mono ?_
        rintro e w24 ⟨rfl, hw24⟩
        rw [hw24]
        clear hw24 L1
        go_wp2_with fail
        refine (L2.out w23).mono ?_
        rintro e w25 ⟨rfl, hw25⟩
        rw [hw25]
        clear hw25 L2
        cases LB
        all_goals
          go_wp2_with fail
          refine (awake4 w23 (HUE.out.below H23.out)).mono ?_
          rintro e w26 ⟨rfl, hb⟩
          have H26 : Hid (Below w.heap.size w w26) := HBE.out.trans ((H23.out.trans (hb.mono H23.out.size)).mono HBE.out.size)
          clear hb
          go_wp2
          go_ret
          exact ⟨rfl, H26.out⟩
end Go.Proofs.YtmkmhbbpbpkdjaaDoor
