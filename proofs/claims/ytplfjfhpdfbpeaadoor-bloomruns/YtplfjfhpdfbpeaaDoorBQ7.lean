/- The law's own: made, awake. -/
import Derived.Test.YtplfjfhpdfbpeaaDoorBQ6
namespace Go.Proofs.YtplfjfhpdfbpeaaDoor
open Go.RowKit
set_option linter.unusedSimpArgs false
set_option linter.unusedVariables false
/-- A filter with these names. -/
def mdR (n k : Nat) (xs : List ByteArray) : List UInt8 := adL n k (xs.map idF) (zrR (n / 8))
theorem mdR_len (n k : Nat) (xs : List ByteArray) : (mdR n k xs).length = n / 8 := by rw [mdR, adL_len, zrR_len]
theorem mdR_take (n k : Nat) (xs : List ByteArray) (i : Nat) (x : ByteArray) (h : xs[i]? = some x) : mdR n k (xs.take (i + 1)) = adK n (idF x) k (mdR n k (xs.take i)) := by
  rw [mdR, List.take_add_one, h, Option.toList_some, List.map_append, List.map_cons, List.map_nil, adL_snoc]; rfl
set_option maxHeartbeats 1000000 in
set_option maxRecDepth 100000 in
theorem made_any14 (n k : Nat) (a : Option Addr) (L c : Nat) (xs : List ByteArray) (w : World) (ho : okF n k) (hx : TxL w a xs) (nx : xs.length = L) (hL : L ≤ 140737488355328) :
    Calls Tryd.prog 31 #[.int .i64 (n : Int), .int .i64 (k : Int), .slice a L c] w fun e w' => ∃ f g, e = .returned (.pointer (some ⟨f, 0, none⟩)) ∧ FlS w' f g n k (mdR n k xs) ∧ Below w.heap.size w w' ∧ w.heap.size ≤ f ∧ w.heap.size ≤ g := by
  have HX : Hid (TxL w a xs) := hx
  have NX : Hid (xs.length = L) := nx
  have HO : Hid (okF n k) := ho
  clear hx nx ho
  go_enter Tryd.func31, Tryd.ntmps31
  go_wp2_with fail
  refine (new_yes14 n k w HO.out).mono ?_
  rintro e w1 ⟨f, g, h1⟩
  obtain rfl := h1.res
  have HF : Hid (FlS w1 f g n k (mdR n k (xs.take 0)) ∧ Below w.heap.size w w1) := ⟨h1.fil, h1.bel⟩
  have hlf := h1.lf
  have hlg := h1.lg
  clear h1
  go_wp2
  go_loopw [9] (fun v wr => ∃ i : Nat, i ≤ L ∧ v = .int .i64 i ∧ Hid (FlS wr f g n k (mdR n k (xs.take i)) ∧ Below w.heap.size w wr)) (fun v _ => L - (intOf v).toNat)
  case atStart => exact ⟨0, Nat.zero_le _, rfl, HF.out⟩
  case round =>
    clear HF
    obtain ⟨i, hi, rfl, HF⟩ := hrel
    by_cases hlt : i < L
    · obtain ⟨x, hx⟩ : ∃ x, xs[i]? = some x := ⟨_, List.getElem?_eq_getElem (by rw [NX.out]; exact hlt)⟩
      have HN : Hid _ := mdR_take n k xs i x hx
      obtain ⟨ga, oa, rfl, hga, hc⟩ := (HX.out.below HF.out.2) i x hx
      clear hx
      go_wp2_with fail
      refine (id_any14 x _).mono ?_
      rintro e w2 ⟨rfl, hb2⟩
      have HF2 : Hid (FlS w2 f g n k (mdR n k (xs.take i)) ∧ Below w.heap.size w w2) := ⟨HF.out.1.below hb2, HF.out.2.trans (hb2.mono HF.out.2.size)⟩
      clear hb2 HF
      have HA : Hid (Calls Tryd.prog 12 #[.pointer (some ⟨f, 0, none⟩), .agg (idc (idF x))] w2 fun e w' => e = .returned (.int .i64 0) ∧ FlS w' f g n k (adK n (idF x) k (mdR n k (xs.take i))) ∧ w2.grownBy w' (some g)) := add_any14 (idF x) f g n k _ w2 (idF_size x) HF2.out.1
      obtain ⟨D, hD⟩ : ∃ D, idc (idF x) = D := ⟨_, rfl⟩
      rw [hD] at HA ⊢
      clear hD
      go_wp2_with fail
      refine HA.out.mono ?_
      rintro e w3 ⟨rfl, hf3, hg3⟩
      have HF3 : Hid (FlS w3 f g n k (mdR n k (xs.take (i + 1))) ∧ Below w.heap.size w w3) := by
        refine ⟨?_, below_own HF2.out.2 HF2.out.2.size hg3 hlg⟩
        rw [HN.out]; exact hf3
      clear hf3 hg3 HA HF2
      go_wp2
      go_roundw
      case rel => exact ⟨i + 1, by omega, by go_num, HF3.out⟩
      case measure => simp [intOf]; omega
    · have hik : i = L := by omega
      have HK : Hid (FlS wr f g n k (mdR n k xs) ∧ Below w.heap.size w wr) := by
        have h := HF.out
        rw [hik, ← NX.out, List.take_length] at h
        exact h
      clear hik
      go_wp2
      go_ret
      exact ⟨f, g, rfl, HK.out.1, HK.out.2, hlf, hlg⟩
def aw1 : ByteArray := ⟨#[0, 0, 0, 5, 0, 0, 0, 7]⟩
def aw2 : ByteArray := ⟨#[0, 0, 0, 69, 0, 0, 0, 7]⟩
def aw3 : ByteArray := ⟨#[0, 0, 0, 5, 0, 0, 0, 6]⟩
def awS : List UInt8 := adK 64 (idF aw1) 2 (zrR (64 / 8))
theorem aw_two : haK 64 (idF aw2) awS 2 = true := by decide +kernel
theorem aw_three : haK 64 (idF aw3) awS 2 = false := by decide +kernel
theorem aw_ones : onR awS = 2 := by decide +kernel
theorem aw_ok : okF 64 2 := ⟨⟨0, by omega, rfl⟩, by omega, by omega⟩
set_option maxHeartbeats 1000000 in
set_option maxRecDepth 100000 in
theorem awake14 (w : World) : Calls Tryd.prog 30 #[] w fun e w' => e = .returned (.bool true) ∧ Below w.heap.size w w' := by
  obtain ⟨D1, hD1⟩ : ∃ D, idc (idF aw1) = D := ⟨_, rfl⟩
  obtain ⟨D2, hD2⟩ : ∃ D, idc (idF aw2) = D := ⟨_, rfl⟩
  obtain ⟨D3, hD3⟩ : ∃ D, idc (idF aw3) = D := ⟨_, rfl⟩
  have I1 : Hid (∀ u, Calls Tryd.prog 10 #[.string ⟨#[0, 0, 0, 5, 0, 0, 0, 7]⟩] u fun e w' => e = .returned (.agg D1) ∧ Below u.heap.size u w') := fun u => by rw [← hD1]; exact id_any14 aw1 u
  have I2 : Hid (∀ u, Calls Tryd.prog 10 #[.string ⟨#[0, 0, 0, 69, 0, 0, 0, 7]⟩] u fun e w' => e = .returned (.agg D2) ∧ Below u.heap.size u w') := fun u => by rw [← hD2]; exact id_any14 aw2 u
  have I3 : Hid (∀ u, Calls Tryd.prog 10 #[.string ⟨#[0, 0, 0, 5, 0, 0, 0, 6]⟩] u fun e w' => e = .returned (.agg D3) ∧ Below u.heap.size u w') := fun u => by rw [← hD3]; exact id_any14 aw3 u
  have NW : Hid (Calls Tryd.prog 8 #[.int .i64 64, .int .i64 2] w fun e w' => ∃ f g, NwF w e w' f g 64 2 (zrR (64 / 8))) := new_yes14 64 2 w aw_ok
  have AD : Hid (∀ u f g, FlS u f g 64 2 (zrR (64 / 8)) → Calls Tryd.prog 12 #[.pointer (some ⟨f, 0, none⟩), .agg D1] u fun e w' => e = .returned (.int .i64 0) ∧ FlS w' f g 64 2 awS ∧ u.grownBy w' (some g)) := fun u f g h => by rw [← hD1]; exact add_any14 (idF aw1) f g 64 2 _ u (idF_size _) h
  have H2 : Hid (∀ u f g, FlS u f g 64 2 awS → Calls Tryd.prog 19 #[.pointer (some ⟨f, 0, none⟩), .agg D2] u fun e w' => e = .returned (.bool true) ∧ Below u.heap.size u w') := fun u f g h => by rw [← hD2, ← aw_two]; exact has_any14 (idF aw2) f g 64 2 _ u (idF_size _) h
  have H3 : Hid (∀ u f g, FlS u f g 64 2 awS → Calls Tryd.prog 19 #[.pointer (some ⟨f, 0, none⟩), .agg D3] u fun e w' => e = .returned (.bool false) ∧ Below u.heap.size u w') := fun u f g h => by rw [← hD3, ← aw_three]; exact has_any14 (idF aw3) f g 64 2 _ u (idF_size _) h
  have ON : Hid (∀ u f g, FlS u f g 64 2 awS → Calls Tryd.prog 21 #[.pointer (some ⟨f, 0, none⟩)] u fun e w' => e = .returned (.int .i64 2) ∧ w' = u) := fun u f g h => by
    have := ones_any14 f g 64 2 awS u h
    rw [aw_ones] at this
    exact this
  clear hD1 hD2 hD3
  go_enter Tryd.func30, Tryd.ntmps30
  go_wp2_with fail
  refine NW.out.mono ?_
  rintro e w1 ⟨f, g, h1⟩
  obtain rfl := h1.res
  have HF : Hid _ := h1
  clear h1
  go_wp2_with fail
  refine (I1.out _).mono ?_
  rintro e w2 ⟨rfl, b2⟩
  have HF2 : Hid (FlS w2 f g 64 2 (zrR (64 / 8)) ∧ Below w.heap.size w w2) := ⟨HF.out.fil.below b2, HF.out.bel.trans (b2.mono HF.out.bel.size)⟩
  clear b2
  go_wp2_with fail
  refine (AD.out _ _ _ HF2.out.1).mono ?_
  rintro e w3 ⟨rfl, f3, g3⟩
  have HF3 : Hid (FlS w3 f g 64 2 awS ∧ Below w.heap.size w w3) := ⟨f3, below_own HF2.out.2 HF2.out.2.size g3 HF.out.lg⟩
  clear f3 g3 HF2 HF
  go_wp2_with fail
  refine (I2.out _).mono ?_
  rintro e w4 ⟨rfl, b4⟩
  have HF4 : Hid (FlS w4 f g 64 2 awS ∧ Below w.heap.size w w4) := ⟨HF3.out.1.below b4, HF3.out.2.trans (b4.mono HF3.out.2.size)⟩
  clear b4 HF3
  go_wp2_with fail
  refine (H2.out _ _ _ HF4.out.1).mono ?_
  rintro e w5 ⟨rfl, b5⟩
  have HF5 : Hid (FlS w5 f g 64 2 awS ∧ Below w.heap.size w w5) := ⟨HF4.out.1.below b5, HF4.out.2.trans (b5.mono HF4.out.2.size)⟩
  clear b5 HF4
  go_wp2_with fail
  refine (I3.out _).mono ?_
  rintro e w6 ⟨rfl, b6⟩
  have HF6 : Hid (FlS w6 f g 64 2 awS ∧ Below w.heap.size w w6) := ⟨HF5.out.1.below b6, HF5.out.2.trans (b6.mono HF5.out.2.size)⟩
  clear b6 HF5
  go_wp2_with fail
  refine (H3.out _ _ _ HF6.out.1).mono ?_
  rintro e w7 ⟨rfl, b7⟩
  have HF7 : Hid (FlS w7 f g 64 2 awS ∧ Below w.heap.size w w7) := ⟨HF6.out.1.below b7, HF6.out.2.trans (b7.mono HF6.out.2.size)⟩
  clear b7 HF6
  go_wp2_with fail
  refine (ON.out _ _ _ HF7.out.1).mono ?_
  rintro e w8 ⟨rfl, hw⟩
  obtain rfl : w7 = w8 := hw.symm
  go_wp2
  go_ret
  exact ⟨rfl, HF7.out.2⟩
end Go.Proofs.YtplfjfhpdfbpeaaDoor
