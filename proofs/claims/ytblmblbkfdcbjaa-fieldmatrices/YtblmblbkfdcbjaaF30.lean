/- The document's rows: the walk. -/
import Derived.Test.YtblmblbkfdcbjaaF29
namespace Go.Proofs.Ytblmblbkfdcbjaa
open Go.RowKit
set_option linter.unusedSimpArgs false
set_option linter.unusedVariables false
theorem one_slc (a : Option Addr) (n c : Nat) : ∀ u ∈ [Value.slice a n c], u.oneCell' = true := by
  intro u hu
  simp at hu
  subst hu; rfl
theorem mat_byte (xs : List ByteArray) (i j : Nat) (x : ByteArray) (hx : xs[i]? = some x) (h : x.size ≤ 64) (hj : j < x.size) : x[j] = mat (arrL xs) i j := by
  have e := rowOf_get x h j hj
  have e2 : x.data.toList[j]? = some x[j] := by
    rw [Array.getElem?_toList, Array.getElem?_eq_getElem hj]; rfl
  rw [e2] at e
  unfold mat
  rw [show (arrL xs).getD i zr = rowOf x from by rw [arrL, List.getD, List.getElem?_map, hx]; rfl, List.getD, e]; rfl
set_option maxHeartbeats 2000000 in
set_option maxRecDepth 100000 in
theorem rrows_any (a : Option Addr) (ca n R : Nat) (xs : List ByteArray) (w : World) (hx : TxL w a xs) (hR : xs.length = R) (h1 : 1 ≤ R) (h2 : R ≤ 64) (hs : ∀ x ∈ xs, x.size = n) (hn : n ≤ 64) :
    Calls Try.prog 39 #[.slice a R ca] w fun e w' => ∃ gm cm h, e = .returned (.slice (some ⟨gm, 0, none⟩) R cm) ∧ (Rws w.heap.size gm R h n (mat (arrL xs)) w' ∧ Rb w.heap.size n (mat (arrL xs)) h R w') ∧ Below w.heap.size w w' := by
  have HX : Hid (TxL w a xs) := hx
  have HXN : Hid (xs.length = R) := hR
  have HS : Hid (∀ x ∈ xs, x.size = n) := hs
  obtain ⟨i0, hi, hz0, hz1, hz2⟩ := info_parts inf_slc
  clear hx hR hs
  go_enter Try.func39, Try.ntmps39
  go_wp2_with fail
  go_loopw [3, 4] (fun v t wr => ∃ i : Nat, i ≤ R ∧ t = .int .i64 i ∧ Hid (Below w.heap.size w wr) ∧ Hid (∃ h, wr.ownsRow w.heap.size 44 1 v i (hv n h i) ∧ Rb w.heap.size n (mat (arrL xs)) h i wr)) (fun _ t _ => R - (intOf t).toNat)
  case atStart => exact ⟨0, by omega, rfl, Below.refl _ _, ⟨fun _ => (0, 0), World.ownsRow_nil _ _ _ _, ⟨fun k hk => by omega, fun k hk => by omega, fun k l hk => by omega⟩⟩⟩
  case round =>
    obtain ⟨i, hiR, rfl, HB, HH⟩ := hrel
    have hzr : w.heap.size ≤ wr.heap.size := HB.out.size
    by_cases hlt : i < R
    · have hiz : (i : Int) < (R : Nat) := by omega
      obtain ⟨h, hown, hrb⟩ := HH.out
      obtain ⟨x, hx⟩ : ∃ x, xs[i]? = some x := ⟨_, List.getElem?_eq_getElem (by rw [HXN.out]; omega)⟩
      have hxs := HS.out x (List.mem_of_getElem? hx)
      obtain ⟨ga, oa, rfl, hga, hc⟩ := (HX.out.below HB.out) i x hx
      obtain ⟨cap, W1, C, hcv, hb1, hz1', hc1, hn0, hn1, hC⟩ := conv_row x wr
      rw [hxs] at hcv hn1
      have HO1 : Hid (W1.ownsRow w.heap.size 44 1 u3 i (hv n h i)) := own_kept hown hb1
      have HR1 : Hid (Rb w.heap.size n (mat (arrL xs)) (fun k => if k = i then (wr.heap.size, cap) else h k) (i + 1) W1) := hrb.next hb1 hc1 ⟨hn0, hn1⟩ (fun j hj => by
        rw [hC j (by omega), mat_byte xs i j x hx (by omega) (by omega)]) hzr
      have HB1 : Hid (Below w.heap.size w W1) := HB.out.trans (hb1.mono hzr)
      have hzW : w.heap.size ≤ W1.heap.size := HB1.out.size
      have HC1 : Hid (∀ (j : Nat) (u : Value), [Value.slice (some ⟨wr.heap.size, 0, none⟩) n cap][j]? = some u → (W1.alloc (.cells #[Value.slice (some ⟨wr.heap.size, 0, none⟩) n cap] 44)).cell? ((⟨W1.heap.size, 0, none⟩ : Addr).add j) = some u) := news_one _ _ _
      clear hown hrb hx hb1 hz1' hc1 hn0 hn1 hC HH
      go_wp2_with (at_builtin; refine wpList_append_own _ rfl _ _ 59 rfl w.heap.size 44 i0 (.slice none 0 0) 1 24 Try.underlying59 hi hz0 hz1 hz2 rfl (by decide) _ _ _ rfl (HO1.out.alloc _) ⟨W1.heap.size, 0, none⟩ 1 1 [.slice (some ⟨wr.heap.size, 0, none⟩) n cap] rfl rfl HC1.out (one_slc _ _ _) (by unfold maxLen; omega) (by omega) (by simp; omega) ?_)
      intro v' w7 hown1 hgrow _
      have HHn : Hid (∃ h, w7.ownsRow w.heap.size 44 1 v' (i + 1) (hv n h (i + 1)) ∧ Rb w.heap.size n (mat (arrL xs)) h (i + 1) w7) := by
        refine ⟨fun k => if k = i then (wr.heap.size, cap) else h k, by rw [hv_next]; exact hown1, ?_⟩
        refine (HR1.out.grown (World.grownBy_alloc W1 _ none) (by simp)).grown hgrow (fun k hk => ?_)
        obtain ⟨C2, hc2, _⟩ := HR1.out.row k hk
        exact own_apart HO1.out hc2
      have HB7 : Hid (Below w.heap.size w w7) := apn_bel HB1.out hzW HO1.out hgrow
      clear hown1 hgrow HC1 HO1 HR1 HB1 hcv
      go_wp2
      go_roundw
      case rel => exact ⟨i + 1, by omega, by go_num, HB7.out, HHn.out⟩
      case measure => simp [intOf]; omega
    · have hiz : ¬ (i : Int) < (R : Nat) := by omega
      have hiR2 : i = R := by omega
      obtain ⟨h, hown, hrb⟩ := HH.out
      rw [hiR2] at hown hrb
      obtain ⟨gm, cm, rfl⟩ : ∃ gm cm, u3 = .slice (some ⟨gm, 0, none⟩) R cm := by
        rcases hown.2 with ⟨e, h0⟩ | ⟨g, cap, cur, e, _⟩
        · omega
        · exact ⟨g, cap, e⟩
      have HD : Hid (Rws w.heap.size gm R h n (mat (arrL xs)) wr ∧ Rb w.heap.size n (mat (arrL xs)) h R wr) := ⟨hrb.done hown h1, hrb⟩
      clear hown hrb HH hiR2
      go_wp2
      go_ret
      exact ⟨gm, ⟨cm, rfl⟩, ⟨h, HD.out⟩, HB.out⟩
end Go.Proofs.Ytblmblbkfdcbjaa
