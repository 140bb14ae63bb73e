import Derived.Test.YtplfjfhpdfbpeaaDoorY15
import Derived.Test.YtplfjfhpdfbpeaaDoorY5
import Derived.Test.YtplfjfhpdfbpeaaDoorY6
import Derived.Test.YtplfjfhpdfbpeaaDoorY7
import Derived.RegionTactic
import Derived.Test.YtplfjfhpdfbpeaaDoorY8
import Derived.Deep.Cut
/- The law's own: id, made. -/
namespace Go.Proofs.YtplfjfhpdfbpeaaDoor
open Go.RowKit
set_option linter.unusedSimpArgs false
set_option linter.unusedVariables false
/-- The name of a text's first bytes. -/
def idF (s : ByteArray) : ByteArray := ⟨(s.data.toList.take 32 ++ List.replicate (32 - s.size) (0 : UInt8)).toArray⟩
theorem idF_size (s : ByteArray) : (idF s).size = 32 := by
  show ((s.data.toList.take 32 ++ List.replicate (32 - s.size) (0 : UInt8)).toArray).size = 32
  have : s.data.toList.length = s.size := by rw [Array.length_toList]; rfl
  simp only [List.size_toArray, List.length_append, List.length_take, List.length_replicate, this]
  omega
/-- So many of them are laid. -/
def idK (s : ByteArray) (j : Nat) : Array Value := (bvc ((byl s).take j ++ List.replicate (32 - j) 0)).toArray
theorem idK_get (s : ByteArray) (j i : Nat) (hj : j ≤ s.size) (h32 : j ≤ 32) : (idK s j)[i]? = if i < j then some (.int .u8 (((byl s).getD i 0 : Nat) : Int)) else if i < 32 then some (.int .u8 0) else none := by
  have hl := byl_length s
  simp only [idK, bvc, List.getElem?_toArray, List.getElem?_map]
  by_cases e : i < j
  · rw [if_pos e, List.getElem?_append_left (by rw [List.length_take]; omega), List.getElem?_take, if_pos e, List.getElem?_eq_getElem (by omega), List.getD, List.getElem?_eq_getElem (by omega)]; rfl
  · rw [if_neg e, List.getElem?_append_right (by rw [List.length_take]; omega), List.length_take, List.getElem?_replicate]
    by_cases e2 : i < 32
    · rw [if_pos (by omega), if_pos e2]; rfl
    · rw [if_neg (by omega), if_neg e2]; rfl
theorem idK_size (s : ByteArray) (j : Nat) (hj : j ≤ s.size) (h32 : j ≤ 32) : (idK s j).size = 32 := by
  have hl := byl_length s
  simp only [idK, bvc, List.size_toArray, List.length_map, List.length_append, List.length_take, List.length_replicate]
  omega
theorem idK_next (s : ByteArray) (j : Nat) (hj : j < s.size) (h32 : j < 32) : (idK s j).setIfInBounds j (.int .u8 (((byl s).getD j 0 : Nat) : Int)) = idK s (j + 1) := by
  apply Array.ext_getElem?
  intro i
  rw [Array.getElem?_setIfInBounds, idK_get s j i (by omega) (by omega), idK_get s (j + 1) i (by omega) (by omega), idK_size s j (by omega) (by omega)]
  by_cases e : j = i
  · subst e; rw [if_pos rfl, if_pos h32, if_pos (by omega)]
  · rw [if_neg e]
    by_cases e2 : i < j
    · rw [if_pos e2, if_pos (by omega)]
    · have e3 : ¬ i < j + 1 := by omega
      rw [if_neg e2, if_neg e3]
theorem idK_zero (s : ByteArray) : idK s 0 = z32c := rfl
theorem idK_end (s : ByteArray) (j : Nat) (h : j = min s.size 32) : idK s j = idc (idF s) := by
  have hl := byl_length s
  unfold idK idc
  congr 2
  show _ = List.map UInt8.toNat (s.data.toList.take 32 ++ List.replicate (32 - s.size) (0 : UInt8))
  have e0 : List.map UInt8.toNat s.data.toList = byl s := rfl
  rw [List.map_append, List.map_take, e0, List.map_replicate]
  have e1 : (byl s).take j = (byl s).take 32 := by
    subst h
    by_cases e : s.size ≤ 32
    · rw [Nat.min_eq_left e, List.take_of_length_le (by omega), List.take_of_length_le (by omega)]
    · rw [Nat.min_eq_right (by omega)]
  have e2 : 32 - j = 32 - s.size := by omega
  rw [e1, e2]; rfl
theorem idK_one (s : ByteArray) (j : Nat) : (idK s j).all (·.oneCell') = true := Array.all_eq_true_iff_forall_mem.2 (by intro v hv; exact bvc_one _ v (by simpa [idK] using hv))
/-- While a name is laid. -/
structure IdS (w : World) (s : ByteArray) (j : Nat) (W : World) : Prop where
  res : Bk W w.heap.size z32c 36
  out : Bk W (w.heap.size + 1) (idK s j) 36
  bel : Below w.heap.size w W
theorem IdS.new (w : World) (s : ByteArray) : IdS w s 0 ((w.alloc (.cells z32c 36)).alloc (.cells z32c 36)) := by
  have h := bk_new (w.alloc (.cells z32c 36)) z32c 36
  rw [al_size] at h
  exact ⟨(bk_new _ _ _).alloc _, h, ((Below.refl _ _).alloc (Nat.le_refl _) _).alloc (by simp) _⟩
theorem IdS.next {w W : World} {s : ByteArray} {j : Nat} (h : IdS w s j W) (hj : j < s.size) (h32 : j < 32) : IdS w s (j + 1) (W.setCell ⟨w.heap.size + 1, j, none⟩ (.int .u8 (((byl s).getD j 0 : Nat) : Int))) := by
  have hg : W.grownBy (W.setCell ⟨w.heap.size + 1, j, none⟩ (.int .u8 (((byl s).getD j 0 : Nat) : Int))) (some (w.heap.size + 1)) := Lib.grownBy_setB (World.grownBy.refl W _) j _
  refine ⟨h.res.grown hg (by simp), ?_, below_own h.bel h.bel.size hg (by omega)⟩
  rw [← idK_next s j hj h32]
  exact h.out.set j _
set_option maxHeartbeats 1000000 in
set_option maxRecDepth 100000 in
theorem id_any14 (s : ByteArray) (w : World) : Calls Tryd.prog 10 #[.string s] w fun e w' => e = .returned (.agg (idc (idF s))) ∧ Below w.heap.size w w' := by
  have HS : Hid (IdS w s 0 ((w.alloc (.cells z32c 36)).alloc (.cells z32c 36))) := IdS.new w s
  go_enter Tryd.func10, Tryd.ntmps10
  go_wp2
  go_loopw [4] (fun v wr => ∃ j : Nat, j ≤ 32 ∧ j ≤ s.size ∧ v = .int .i64 j ∧ Hid (IdS w s j wr)) (fun v _ => 33 - (intOf v).toNat)
  case atStart => exact ⟨0, by omega, by omega, rfl, HS.out⟩
  case round =>
    clear HS
    obtain ⟨j, h32, hjs, rfl, HS⟩ := hrel
    by_cases hlt : j < s.size ∧ j < 32
    · have h1 := hlt.1
      have h2 := hlt.2
      have k1 : (j : Int) < (s.size : Nat) := by omega
      have k2 : (j : Int) < 32 := by omega
      have hc : wr.cell? ⟨w.heap.size + 1, j, none⟩ = some (.int .u8 0) := by rw [HS.out.out.cell, idK_get s j j (by omega) (by omega), if_neg (by omega), if_pos h2]
      have hf := HS.out.out.frozen j
      have HN : Hid _ := HS.out.next h1 h2
      have e : (byl s).getD j 0 = s[j].toNat := by rw [List.getD, byl_getD s j h1]; rfl
      rw [e] at HN
      clear e hlt
      go_wp2
      go_roundw
      case rel => exact ⟨j + 1, by omega, by omega, by go_num, HN.out⟩
      case measure => simp [intOf]; omega
    · have hj : j = min s.size 32 := by omega
      have HE : Hid (idK s j = idc (idF s)) := idK_end s j hj
      have HI : Hid ((Tryd.prog.info? 36).map (·.size) = some (idK s j).size) := info_32 (idK_size s j hjs h32)
      have HO := idK_one s j
      have HZ := idK_size s j hjs h32
      have HK : Hid (idK s j = idc (idF s)) := HE
      obtain ⟨D, hD⟩ : ∃ D, idK s j = D := ⟨_, rfl⟩
      have HB1 : Hid (Bk wr (w.heap.size + 1) D 36) := by rw [← hD]; exact HS.out.out
      rw [hD] at HI HE HO HZ
      have HB0 : Hid (Bk wr w.heap.size z32c 36 ∧ Below w.heap.size w wr) := ⟨HS.out.res, HS.out.bel⟩
      clear HK hD HS
      have HOO : Hid (D.all (·.oneCell') = true ∧ D.size = 32) := ⟨HO, HZ⟩
      clear HO HZ
      by_cases hjl : j < s.size
      · have k1 : (j : Int) < (s.size : Nat) := by omega
        have k2 : ¬ (j : Int) < 32 := by omega
        clear hlt hj
        go_wp2_with (first
          | (refine wpList_load_row rfl 36 (.tmp 3) rfl (w.heap.size + 1) rfl 36 D (0, 0) _ HB1.out Tryd.underlying36 rfl HI.out ?_)
          | (refine wpList_store_row rfl 36 (.tmp 2) (.tmp 20) rfl w.heap.size D rfl rfl 36 z32c HB0.out.1 HI.out (by rw [z32c_size, HOO.out.2]) HOO.out.1 ?_))
        refine bodyPost_ret (results_cell_row rfl _ _ w.heap.size 36 D (0, 0) _ rfl (setRow_heap _ _ _ _ _ _ HB0.out.1) Tryd.underlying36 rfl HI.out) rfl ⟨by rw [HE.out], ?_⟩
        exact below_setRow HB0.out.2 (Nat.le_refl _) _
      · have k1 : ¬ (j : Int) < (s.size : Nat) := by omega
        clear hlt hj
        go_wp2_with (first
          | (refine wpList_load_row rfl 36 (.tmp 3) rfl (w.heap.size + 1) rfl 36 D (0, 0) _ HB1.out Tryd.underlying36 rfl HI.out ?_)
          | (refine wpList_store_row rfl 36 (.tmp 2) (.tmp 20) rfl w.heap.size D rfl rfl 36 z32c HB0.out.1 HI.out (by rw [z32c_size, HOO.out.2]) HOO.out.1 ?_))
        refine bodyPost_ret (results_cell_row rfl _ _ w.heap.size 36 D (0, 0) _ rfl (setRow_heap _ _ _ _ _ _ HB0.out.1) Tryd.underlying36 rfl HI.out) rfl ⟨by rw [HE.out], ?_⟩
        exact below_setRow HB0.out.2 (Nat.le_refl _) _
end Go.Proofs.YtplfjfhpdfbpeaaDoor
/- The law's own: made, awake. -/
namespace Go.Proofs.YtplfjfhpdfbpeaaDoor
open Go.RowKit
set_option linter.unusedSimpArgs false
set_option linter.unusedVariables false
/-- A filter with these names. -/
def mdR (n k : Nat) (xs : List ByteArray) : List UInt8 := adL n k (xs.map idF) (zrR (n / 8))
theorem mdR_len (n k : Nat) (xs : List ByteArray) : (mdR n k xs).length = n / 8 := by rw [mdR, adL_len, zrR_len]
theorem mdR_take (n k : Nat) (xs : List ByteArray) (i : Nat) (x : ByteArray) (h : xs[i]? = some x) : mdR n k (xs.take (i + 1)) = adK n (idF x) k (mdR n k (xs.take i)) := by
  rw [mdR, List.take_add_one, h, Option.toList_some, List.map_append, List.map_cons, List.map_nil, adL_snoc]; rfl
set_option maxHeartbeats 1000000 in
set_option maxRecDepth 100000 in
theorem made_any14 (n k : Nat) (a : Option Addr) (L c : Nat) (xs : List ByteArray) (w : World) (ho : okF n k) (hx : TxL w a xs) (nx : xs.length = L) (hL : L ≤ 140737488355328) :
    Calls Tryd.prog 31 #[.int .i64 (n : Int), .int .i64 (k : Int), .slice a L c] w fun e w' => ∃ f g, e = .returned (.pointer (some ⟨f, 0, none⟩)) ∧ FlS w' f g n k (mdR n k xs) ∧ Below w.heap.size w w' ∧ w.heap.size ≤ f ∧ w.heap.size ≤ g := by
  have HX : Hid (TxL w a xs) := hx
  have NX : Hid (xs.length = L) := nx
  have HO : Hid (okF n k) := ho
  clear hx nx ho
  go_enter Tryd.func31, Tryd.ntmps31
  go_wp2_with fail
  refine (new_yes14 n k w HO.out).mono ?_
  rintro e w1 ⟨f, g, h1⟩
  obtain rfl := h1.res
  have HF : Hid (FlS w1 f g n k (mdR n k (xs.take 0)) ∧ Below w.heap.size w w1) := ⟨h1.fil, h1.bel⟩
  have hlf := h1.lf
  have hlg := h1.lg
  clear h1
  go_wp2
  go_loopw [9] (fun v wr => ∃ i : Nat, i ≤ L ∧ v = .int .i64 i ∧ Hid (FlS wr f g n k (mdR n k (xs.take i)) ∧ Below w.heap.size w wr)) (fun v _ => L - (intOf v).toNat)
  case atStart => exact ⟨0, Nat.zero_le _, rfl, HF.out⟩
  case round =>
    clear HF
    obtain ⟨i, hi, rfl, HF⟩ := hrel
    by_cases hlt : i < L
    · obtain ⟨x, hx⟩ : ∃ x, xs[i]? = some x := ⟨_, List.getElem?_eq_getElem (by rw [NX.out]; exact hlt)⟩
      have HN : Hid _ := mdR_take n k xs i x hx
      obtain ⟨ga, oa, rfl, hga, hc⟩ := (HX.out.below HF.out.2) i x hx
      clear hx
      go_wp2_with fail
      refine (id_any14 x _).mono ?_
      rintro e w2 ⟨rfl, hb2⟩
      have HF2 : Hid (FlS w2 f g n k (mdR n k (xs.take i)) ∧ Below w.heap.size w w2) := ⟨HF.out.1.below hb2, HF.out.2.trans (hb2.mono HF.out.2.size)⟩
      clear hb2 HF
      have HA : Hid (Calls Tryd.prog 12 #[.pointer (some ⟨f, 0, none⟩), .agg (idc (idF x))] w2 fun e w' => e = .returned (.int .i64 0) ∧ FlS w' f g n k (adK n (idF x) k (mdR n k (xs.take i))) ∧ w2.grownBy w' (some g)) := add_any14 (idF x) f g n k _ w2 (idF_size x) HF2.out.1
      obtain ⟨D, hD⟩ : ∃ D, idc (idF x) = D := ⟨_, rfl⟩
      rw [hD] at HA ⊢
      clear hD
      go_wp2_with fail
      refine HA.out.mono ?_
      rintro e w3 ⟨rfl, hf3, hg3⟩
      have HF3 : Hid (FlS w3 f g n k (mdR n k (xs.take (i + 1))) ∧ Below w.heap.size w w3) := by
        refine ⟨?_, below_own HF2.out.2 HF2.out.2.size hg3 hlg⟩
        rw [HN.out]; exact hf3
      clear hf3 hg3 HA HF2
      go_wp2
      go_roundw
      case rel => exact ⟨i + 1, by omega, by go_num, HF3.out⟩
      case measure => simp [intOf]; omega
    · have hik : i = L := by omega
      have HK : Hid (FlS wr f g n k (mdR n k xs) ∧ Below w.heap.size w wr) := by
        have h := HF.out
        rw [hik, ← NX.out, List.take_length] at h
        exact h
      clear hik
      go_wp2
      go_ret
      exact ⟨f, g, rfl, HK.out.1, HK.out.2, hlf, hlg⟩
def aw1 : ByteArray := ⟨#[0, 0, 0, 5, 0, 0, 0, 7]⟩
def aw2 : ByteArray := ⟨#[0, 0, 0, 69, 0, 0, 0, 7]⟩
def aw3 : ByteArray := ⟨#[0, 0, 0, 5, 0, 0, 0, 6]⟩
def awS : List UInt8 := adK 64 (idF aw1) 2 (zrR (64 / 8))
theorem aw_two : haK 64 (idF aw2) awS 2 = true := by decide +kernel
theorem aw_three : haK 64 (idF aw3) awS 2 = false := by decide +kernel
theorem aw_ones : onR awS = 2 := by decide +kernel
theorem aw_ok : okF 64 2 := ⟨⟨0, by omega, rfl⟩, by omega, by omega⟩
set_option maxHeartbeats 1000000 in
set_option maxRecDepth 100000 in
theorem awake14 (w : World) : Calls Tryd.prog 30 #[] w fun e w' => e = .returned (.bool true) ∧ Below w.heap.size w w' := by
  obtain ⟨D1, hD1⟩ : ∃ D, idc (idF aw1) = D := ⟨_, rfl⟩
  obtain ⟨D2, hD2⟩ : ∃ D, idc (idF aw2) = D := ⟨_, rfl⟩
  obtain ⟨D3, hD3⟩ : ∃ D, idc (idF aw3) = D := ⟨_, rfl⟩
  have I1 : Hid (∀ u, Calls Tryd.prog 10 #[.string ⟨#[0, 0, 0, 5, 0, 0, 0, 7]⟩] u fun e w' => e = .returned (.agg D1) ∧ Below u.heap.size u w') := fun u => by rw [← hD1]; exact id_any14 aw1 u
  have I2 : Hid (∀ u, Calls Tryd.prog 10 #[.string ⟨#[0, 0, 0, 69, 0, 0, 0, 7]⟩] u fun e w' => e = .returned (.agg D2) ∧ Below u.heap.size u w') := fun u => by rw [← hD2]; exact id_any14 aw2 u
  have I3 : Hid (∀ u, Calls Tryd.prog 10 #[.string ⟨#[0, 0, 0, 5, 0, 0, 0, 6]⟩] u fun e w' => e = .returned (.agg D3) ∧ Below u.heap.size u w') := fun u => by rw [← hD3]; exact id_any14 aw3 u
  have NW : Hid (Calls Tryd.prog 8 #[.int .i64 64, .int .i64 2] w fun e w' => ∃ f g, NwF w e w' f g 64 2 (zrR (64 / 8))) := new_yes14 64 2 w aw_ok
  have AD : Hid (∀ u f g, FlS u f g 64 2 (zrR (64 / 8)) → Calls Tryd.prog 12 #[.pointer (some ⟨f, 0, none⟩), .agg D1] u fun e w' => e = .returned (.int .i64 0) ∧ FlS w' f g 64 2 awS ∧ u.grownBy w' (some g)) := fun u f g h => by rw [← hD1]; exact add_any14 (idF aw1) f g 64 2 _ u (idF_size _) h
  have H2 : Hid (∀ u f g, FlS u f g 64 2 awS → Calls Tryd.prog 19 #[.pointer (some ⟨f, 0, none⟩), .agg D2] u fun e w' => e = .returned (.bool true) ∧ Below u.heap.size u w') := fun u f g h => by rw [← hD2, ← aw_two]; exact has_any14 (idF aw2) f g 64 2 _ u (idF_size _) h
  have H3 : Hid (∀ u f g, FlS u f g 64 2 awS → Calls Tryd.prog 19 #[.pointer (some ⟨f, 0, none⟩), .agg D3] u fun e w' => e = .returned (.bool false) ∧ Below u.heap.size u w') := fun u f g h => by rw [← hD3, ← aw_three]; exact has_any14 (idF aw3) f g 64 2 _ u (idF_size _) h
  have ON : Hid (∀ u f g, FlS u f g 64 2 awS → Calls Tryd.prog 21 #[.pointer (some ⟨f, 0, none⟩)] u fun e w' => e = .returned (.int .i64 2) ∧ w' = u) := fun u f g h => by
    have := ones_any14 f g 64 2 awS u h
    rw [aw_ones] at this
    exact this
  clear hD1 hD2 hD3
  go_enter Tryd.func30, Tryd.ntmps30
  go_wp2_with fail
  refine NW.out.mono ?_
  rintro e w1 ⟨f, g, h1⟩
  obtain rfl := h1.res
  have HF : Hid _ := h1
  clear h1
  go_wp2_with fail
  refine (I1.out _).mono ?_
  rintro e w2 ⟨rfl, b2⟩
  have HF2 : Hid (FlS w2 f g 64 2 (zrR (64 / 8)) ∧ Below w.heap.size w w2) := ⟨HF.out.fil.below b2, HF.out.bel.trans (b2.mono HF.out.bel.size)⟩
  clear b2
  go_wp2_with fail
  refine (AD.out _ _ _ HF2.out.1).mono ?_
  rintro e w3 ⟨rfl, f3, g3⟩
  have HF3 : Hid (FlS w3 f g 64 2 awS ∧ Below w.heap.size w w3) := ⟨f3, below_own HF2.out.2 HF2.out.2.size g3 HF.out.lg⟩
  clear f3 g3 HF2 HF
  go_wp2_with fail
  refine (I2.out _).mono ?_
  rintro e w4 ⟨rfl, b4⟩
  have HF4 : Hid (FlS w4 f g 64 2 awS ∧ Below w.heap.size w w4) := ⟨HF3.out.1.below b4, HF3.out.2.trans (b4.mono HF3.out.2.size)⟩
  clear b4 HF3
  go_wp2_with fail
  refine (H2.out _ _ _ HF4.out.1).mono ?_
  rintro e w5 ⟨rfl, b5⟩
  have HF5 : Hid (FlS w5 f g 64 2 awS ∧ Below w.heap.size w w5) := ⟨HF4.out.1.below b5, HF4.out.2.trans (b5.mono HF4.out.2.size)⟩
  clear b5 HF4
  go_wp2_with fail
  refine (I3.out _).mono ?_
  rintro e w6 ⟨rfl, b6⟩
  have HF6 : Hid (FlS w6 f g 64 2 awS ∧ Below w.heap.size w w6) := ⟨HF5.out.1.below b6, HF5.out.2.trans (b6.mono HF5.out.2.size)⟩
  clear b6 HF5
  go_wp2_with fail
  refine (H3.out _ _ _ HF6.out.1).mono ?_
  rintro e w7 ⟨rfl, b7⟩
  have HF7 : Hid (FlS w7 f g 64 2 awS ∧ Below w.heap.size w w7) := ⟨HF6.out.1.below b7, HF6.out.2.trans (b7.mono HF6.out.2.size)⟩
  clear b7 HF6
  go_wp2_with fail
  refine (ON.out _ _ _ HF7.out.1).mono ?_
  rintro e w8 ⟨rfl, hw⟩
  obtain rfl : w7 = w8 := hw.symm
  go_wp2
  go_ret
  exact ⟨rfl, HF7.out.2⟩
end Go.Proofs.YtplfjfhpdfbpeaaDoor
/- bloom: Join, Size. -/
namespace Go.Proofs.YtplfjfhpdfbpeaaDoor
open Go.RowKit
set_option linter.unusedSimpArgs false
set_option linter.unusedVariables false
/-- One byte laid anew. -/
theorem FlS.byte {w : World} {f g n k : Nat} {s : List UInt8} (h : FlS w f g n k s) (i : Nat) (hi : i < s.length) (v : UInt8) : FlS (w.setCell ⟨g, i, none⟩ (.int .u8 (v.toNat : Int))) f g n k (s.set i v) ∧ w.grownBy (w.setCell ⟨g, i, none⟩ (.int .u8 (v.toNat : Int))) (some g) := by
  have hg := Lib.grownBy_setB (World.grownBy.refl w (some g)) i (.int .u8 (v.toNat : Int))
  obtain ⟨c, ht, hc⟩ := h.top
  refine ⟨⟨h.ok, by rw [List.length_set]; exact h.len, ⟨c, ?_, by rw [List.length_set]; exact hc⟩, h.row.set i hi _⟩, hg⟩
  rw [List.length_set]
  exact ht.grown hg (by have := h.ne; simp; omega)
/-- Two filters. -/
structure TwF (w : World) (f g n k : Nat) (s : List UInt8) (o q m j : Nat) (t : List UInt8) (W : World) : Prop where
  one : FlS W f g n k s
  two : FlS W o q m j t
  bel : Below w.heap.size w W
set_option maxHeartbeats 1000000 in
set_option maxRecDepth 100000 in
theorem join_no14 (f g n k : Nat) (s : List UInt8) (o q m j : Nat) (t : List UInt8) (w : World) (h1 : FlS w f g n k s) (h2 : FlS w o q m j t) (hne : ¬ (n = m ∧ k = j)) :
    Calls Tryd.prog 14 #[.pointer (some ⟨f, 0, none⟩), .pointer (some ⟨o, 0, none⟩)] w fun e w' => e = .returned (.int .i64 1) ∧ Below w.heap.size w w' := by
  have HT : Hid (TwF w f g n k s o q m j t w.drew) := ⟨h1.below (Below.refl _ _).drew, h2.below (Below.refl _ _).drew, (Below.refl _ _).drew⟩
  clear h1 h2
  by_cases hn : n = m
  · have hk : ¬ k = j := fun e => hne ⟨hn, e⟩
    subst hn
    have k1 : ((k : Int) != (j : Int)) = true := by simp; omega
    clear hne hk
    go_enter Tryd.func14, Tryd.ntmps14
    go_wp2
    refine region_class10 (TwF w f g n k s o q n j t) (by kernel_rfl) (by kernel_rfl) HT.out ?_
    try simp only [Act.put, List.setIfInBounds_toArray, List.set_cons_zero, List.set_cons_succ]
    repeat (first
      | go_big_quiet_skip
      | (go_big_quiet_want
         first
           | (refine quiet_one 3 _ rfl f 0 (.int .i64 (n : Int)) rfl (fun w => by kernel_rfl) (fun W h => h.one.cells.1) ?_; go_big_quiet_on; simp only [Act.put, List.setIfInBounds_toArray, List.set_cons_zero, List.set_cons_succ])
           | (refine quiet_one 3 _ rfl f 1 (.int .i64 (k : Int)) rfl (fun w => by kernel_rfl) (fun W h => h.one.cells.2) ?_; go_big_quiet_on; simp only [Act.put, List.setIfInBounds_toArray, List.set_cons_zero, List.set_cons_succ])
           | (refine quiet_one 3 _ rfl o 0 (.int .i64 (n : Int)) rfl (fun w => by kernel_rfl) (fun W h => h.two.cells.1) ?_; go_big_quiet_on; simp only [Act.put, List.setIfInBounds_toArray, List.set_cons_zero, List.set_cons_succ])
           | (refine quiet_one 3 _ rfl o 1 (.int .i64 (j : Int)) rfl (fun w => by kernel_rfl) (fun W h => h.two.cells.2) ?_; go_big_quiet_on; simp only [Act.put, List.setIfInBounds_toArray, List.set_cons_zero, List.set_cons_succ])
           | (refine quiet_val10 (.bool false) ?_ ?_; (focus (intro W hW; go_simp; done)); go_big_quiet_on; simp only [Act.put, List.setIfInBounds_toArray, List.set_cons_zero, List.set_cons_succ])
           | (refine quiet_val10 (.bool true) ?_ ?_; (focus (intro W hW; go_simp; done)); go_big_quiet_on; simp only [Act.put, List.setIfInBounds_toArray, List.set_cons_zero, List.set_cons_succ])
           | (go_big_quiet_op; go_big_quiet_on)
           | (refine quiet_val10 (.pointer (some ⟨f, 0, none⟩)) ?_ ?_; (focus (intro W hW; go_simp; done)); go_big_quiet_on; simp only [Act.put, List.setIfInBounds_toArray, List.set_cons_zero, List.set_cons_succ])
           | (refine quiet_val10 (.pointer (some ⟨o, 0, none⟩)) ?_ ?_; (focus (intro W hW; go_simp; done)); go_big_quiet_on; simp only [Act.put, List.setIfInBounds_toArray, List.set_cons_zero, List.set_cons_succ])
           | (refine quiet_val10 (.pointer (some ⟨f, 1, none⟩)) ?_ ?_; (focus (intro W hW; go_simp; done)); go_big_quiet_on; simp only [Act.put, List.setIfInBounds_toArray, List.set_cons_zero, List.set_cons_succ])
           | (refine quiet_val10 (.pointer (some ⟨o, 1, none⟩)) ?_ ?_; (focus (intro W hW; go_simp; done)); go_big_quiet_on; simp only [Act.put, List.setIfInBounds_toArray, List.set_cons_zero, List.set_cons_succ])))
    refine wpQuiet_nil ?_
    intro w1 hw1
    have HB : Hid (Below w.heap.size w w1) := hw1.bel
    clear hw1
    go_wp2
    go_ret
    exact ⟨rfl, HB.out⟩
  · have k1 : ((n : Int) != (m : Int)) = true := by simp; omega
    clear hne hn
    go_enter Tryd.func14, Tryd.ntmps14
    go_wp2
    refine region_class10 (TwF w f g n k s o q m j t) (by kernel_rfl) (by kernel_rfl) HT.out ?_
    try simp only [Act.put, List.setIfInBounds_toArray, List.set_cons_zero, List.set_cons_succ]
    repeat (first
      | go_big_quiet_skip
      | (go_big_quiet_want
         first
           | (refine quiet_one 3 _ rfl f 0 (.int .i64 (n : Int)) rfl (fun w => by kernel_rfl) (fun W h => h.one.cells.1) ?_; go_big_quiet_on; simp only [Act.put, List.setIfInBounds_toArray, List.set_cons_zero, List.set_cons_succ])
           | (refine quiet_one 3 _ rfl o 0 (.int .i64 (m : Int)) rfl (fun w => by kernel_rfl) (fun W h => h.two.cells.1) ?_; go_big_quiet_on; simp only [Act.put, List.setIfInBounds_toArray, List.set_cons_zero, List.set_cons_succ])
           | (refine quiet_val10 (.bool true) ?_ ?_; (focus (intro W hW; go_simp; done)); go_big_quiet_on; simp only [Act.put, List.setIfInBounds_toArray, List.set_cons_zero, List.set_cons_succ])
           | (go_big_quiet_op; go_big_quiet_on)
           | (refine quiet_val10 (.pointer (some ⟨f, 0, none⟩)) ?_ ?_; (focus (intro W hW; go_simp; done)); go_big_quiet_on; simp only [Act.put, List.setIfInBounds_toArray, List.set_cons_zero, List.set_cons_succ])
           | (refine quiet_val10 (.pointer (some ⟨o, 0, none⟩)) ?_ ?_; (focus (intro W hW; go_simp; done)); go_big_quiet_on; simp only [Act.put, List.setIfInBounds_toArray, List.set_cons_zero, List.set_cons_succ])
           | (refine quiet_val10 (.pointer (some ⟨f, 1, none⟩)) ?_ ?_; (focus (intro W hW; go_simp; done)); go_big_quiet_on; simp only [Act.put, List.setIfInBounds_toArray, List.set_cons_zero, List.set_cons_succ])
           | (refine quiet_val10 (.pointer (some ⟨o, 1, none⟩)) ?_ ?_; (focus (intro W hW; go_simp; done)); go_big_quiet_on; simp only [Act.put, List.setIfInBounds_toArray, List.set_cons_zero, List.set_cons_succ])))
    refine wpQuiet_nil ?_
    intro w1 hw1
    have HB : Hid (Below w.heap.size w w1) := hw1.bel
    clear hw1
    go_wp2
    go_ret
    exact ⟨rfl, HB.out⟩
set_option maxHeartbeats 1000000 in
set_option maxRecDepth 100000 in
theorem join_yes14 (f g n k : Nat) (s : List UInt8) (o q : Nat) (t : List UInt8) (w : World) (h1 : FlS w f g n k s) (h2 : FlS w o q n k t) (hgq : g ≠ q) :
    Calls Tryd.prog 14 #[.pointer (some ⟨f, 0, none⟩), .pointer (some ⟨o, 0, none⟩)] w fun e w' => e = .returned (.int .i64 0) ∧ FlS w' f g n k (jnR s t) ∧ w.grownBy w' (some g) := by
  have HT : Hid (TwF w f g n k s o q n k t w.drew) := ⟨h1.below (Below.refl _ _).drew, h2.below (Below.refl _ _).drew, (Below.refl _ _).drew⟩
  have l1 := h1.len
  have l2 := h2.len
  have hn := okF_le h1.ok
  have hog : o ≠ g := by
    rintro rfl
    obtain ⟨c, ht, _⟩ := h2.top
    exact bk_ne_row h1.row ht (by decide) rfl
  clear h1 h2
  obtain ⟨L, hL⟩ : ∃ L, t.length = L := ⟨_, rfl⟩
  have HL : Hid (t.length = L ∧ s.length = L) := ⟨hL, by omega⟩
  have hLb : L ≤ 2097152 := by omega
  clear hL l1 l2
  go_enter Tryd.func14, Tryd.ntmps14
  go_wp2
  refine region_class10 (TwF w f g n k s o q n k t) (by kernel_rfl) (by kernel_rfl) HT.out ?_
  try simp only [Act.put, List.setIfInBounds_toArray, List.set_cons_zero, List.set_cons_succ]
  repeat (first
    | go_big_quiet_skip
    | (go_big_quiet_want
       first
         | (refine quiet_one 3 _ rfl f 0 (.int .i64 (n : Int)) rfl (fun w => by kernel_rfl) (fun W h => h.one.cells.1) ?_; go_big_quiet_on; simp only [Act.put, List.setIfInBounds_toArray, List.set_cons_zero, List.set_cons_succ])
         | (refine quiet_one 3 _ rfl f 1 (.int .i64 (k : Int)) rfl (fun w => by kernel_rfl) (fun W h => h.one.cells.2) ?_; go_big_quiet_on; simp only [Act.put, List.setIfInBounds_toArray, List.set_cons_zero, List.set_cons_succ])
         | (refine quiet_one 3 _ rfl o 0 (.int .i64 (n : Int)) rfl (fun w => by kernel_rfl) (fun W h => h.two.cells.1) ?_; go_big_quiet_on; simp only [Act.put, List.setIfInBounds_toArray, List.set_cons_zero, List.set_cons_succ])
         | (refine quiet_one 3 _ rfl o 1 (.int .i64 (k : Int)) rfl (fun w => by kernel_rfl) (fun W h => h.two.cells.2) ?_; go_big_quiet_on; simp only [Act.put, List.setIfInBounds_toArray, List.set_cons_zero, List.set_cons_succ])
         | (refine quiet_val10 (.bool false) ?_ ?_; (focus (intro W hW; go_simp; done)); go_big_quiet_on; simp only [Act.put, List.setIfInBounds_toArray, List.set_cons_zero, List.set_cons_succ])
         | (go_big_quiet_op; go_big_quiet_on)
         | (refine quiet_val10 (.pointer (some ⟨f, 0, none⟩)) ?_ ?_; (focus (intro W hW; go_simp; done)); go_big_quiet_on; simp only [Act.put, List.setIfInBounds_toArray, List.set_cons_zero, List.set_cons_succ])
         | (refine quiet_val10 (.pointer (some ⟨o, 0, none⟩)) ?_ ?_; (focus (intro W hW; go_simp; done)); go_big_quiet_on; simp only [Act.put, List.setIfInBounds_toArray, List.set_cons_zero, List.set_cons_succ])
         | (refine quiet_val10 (.pointer (some ⟨f, 1, none⟩)) ?_ ?_; (focus (intro W hW; go_simp; done)); go_big_quiet_on; simp only [Act.put, List.setIfInBounds_toArray, List.set_cons_zero, List.set_cons_succ])
         | (refine quiet_val10 (.pointer (some ⟨o, 1, none⟩)) ?_ ?_; (focus (intro W hW; go_simp; done)); go_big_quiet_on; simp only [Act.put, List.setIfInBounds_toArray, List.set_cons_zero, List.set_cons_succ])))
  refine wpQuiet_nil ?_
  intro w1 hw1
  have HW : Hid (FlS w1 f g n k (jnK s t 0) ∧ FlS w1 o q n k t ∧ w.grownBy w1 (some g)) := ⟨hw1.one, hw1.two, gr_of_below hw1.bel _⟩
  obtain ⟨c', ht', hc'⟩ := hw1.two.top
  have c2 : w1.cell? ⟨o, 2, none⟩ = some (.slice (some ⟨q, 0, none⟩) L c') := by rw [ht'.cell, ← HL.out.1]; rfl
  rw [HL.out.1] at hc'
  clear hw1 ht' HT
  go_wp2
  go_loopw [38] (fun v wr => ∃ i : Nat, i ≤ L ∧ v = .int .i64 i ∧ Hid (FlS wr f g n k (jnK s t i) ∧ FlS wr o q n k t ∧ w.grownBy wr (some g))) (fun v _ => L - (intOf v).toNat)
  case atStart => exact ⟨0, Nat.zero_le _, rfl, HW.out⟩
  case round =>
    clear HW c2
    obtain ⟨i, hi, rfl, HW⟩ := hrel
    by_cases hlt : i < L
    · have hjl : (jnK s t i).length = L := by rw [jnK_len]; exact HL.out.2
      have r1 := HW.out.2.1.row.cell i (by rw [HL.out.1]; exact hlt)
      have r2 := HW.out.1.row.cell i (by rw [hjl]; exact hlt)
      have r3 := HW.out.1.row.frozen i (by rw [hjl]; exact hlt)
      obtain ⟨c, ht, hc⟩ := HW.out.1.top
      have c4 : wr.cell? ⟨f, 2, none⟩ = some (.slice (some ⟨g, 0, none⟩) L c) := by rw [ht.cell, ← hjl]; rfl
      rw [hjl] at hc
      have HN : Hid (FlS _ f g n k (jnK s t (i + 1)) ∧ _) := HW.out.1.byte i (by rw [hjl]; exact hlt) (UInt8.ofNat (((jnK s t i).getD i 0).toNat ||| (t.getD i 0).toNat))
      rw [or_toNat] at HN
      have eo := u8_or_nat ((jnK s t i).getD i 0).toNat (t.getD i 0).toNat (UInt8.toNat_lt _) (UInt8.toNat_lt _)
      obtain ⟨a, ha⟩ : ∃ a, ((jnK s t i).getD i 0).toNat = a := ⟨_, rfl⟩
      obtain ⟨b, hb⟩ : ∃ a, (t.getD i 0).toNat = a := ⟨_, rfl⟩
      rw [ha] at r2 eo HN
      rw [hb] at r1 eo HN
      obtain ⟨v, hv⟩ : ∃ v, a ||| b = v := ⟨_, rfl⟩
      rw [hv] at eo HN
      have HN2 : Hid (FlS (wr.setCell ⟨g, i, none⟩ (.int .u8 (v : Int))) f g n k (jnK s t (i + 1)) ∧ FlS (wr.setCell ⟨g, i, none⟩ (.int .u8 (v : Int))) o q n k t ∧ w.grownBy (wr.setCell ⟨g, i, none⟩ (.int .u8 (v : Int))) (some g)) := by
        refine ⟨HN.out.1, HW.out.2.1.grown HN.out.2 (by simp; omega) (by simp; omega), HW.out.2.2.trans HN.out.2⟩
      clear ha hb hv HN HW ht hjl
      go_wp2
      go_roundw
      case rel => exact ⟨i + 1, by omega, by go_num, HN2.out⟩
      case measure => simp [intOf]; omega
    · have hik : i = L := by omega
      have HK : Hid (FlS wr f g n k (jnR s t) ∧ w.grownBy wr (some g)) := by
        have h := HW.out
        rw [hik, ← HL.out.1] at h
        exact ⟨h.1, h.2.2⟩
      clear hik
      go_wp2
      go_ret
      exact ⟨rfl, HK.out.1, HK.out.2⟩
theorem size_any14 (f g n k : Nat) (s : List UInt8) (w : World) (h : FlS w f g n k s) : Calls Tryd.prog 18 #[.pointer (some ⟨f, 0, none⟩)] w fun e w' => e = .returned (.tuple #[.int .i64 (n : Int), .int .i64 (k : Int)]) ∧ Below w.heap.size w w' := by
  obtain ⟨c0, c1⟩ := h.cells
  clear h
  go_enter Tryd.func18, Tryd.ntmps18
  go_wp2
  go_region
  go_wp2
  go_ret2
  exact ⟨rfl, (Below.refl _ _).drew⟩
end Go.Proofs.YtplfjfhpdfbpeaaDoor
/- The walk of BloomAlone. -/
namespace Go.Proofs.YtplfjfhpdfbpeaaDoor
open Go.RowKit
set_option linter.unusedSimpArgs false
set_option linter.unusedVariables false
theorem FlS.other {W W' : World} {f g n k o q m j : Nat} {s t : List UInt8} (h : FlS W o q m j t) (hf : FlS W f g n k s) (hg : W.grownBy W' (some g)) (hne : g ≠ q) : FlS W' o q m j t := by
  obtain ⟨c, ht, _⟩ := h.top
  have := bk_ne_row hf.row ht (by decide)
  exact h.grown hg (by simp; omega) (by simp; omega)
theorem enF_size {n k : Nat} {s : List UInt8} (h : okF n k) (hl : 8 * s.length = n) : (enF n k s).size ≤ 2097200 := by
  have h1 := okF_le h
  have h2 := h.2.2
  unfold enF
  rw [ByteArray.size_append, ByteArray.size_append, ByteArray.size_append, sb_size, sb_size, encS_length, encS_length]
  have a := slen_le n (by omega)
  have b := slen_le k (by omega)
  have c : (⟨s.toArray⟩ : ByteArray).size = s.length := by show s.toArray.size = _; simp
  have d : (⟨#[77, 66, 70, 49]⟩ : ByteArray).size = 4 := rfl
  omega
/-- What was written is read. -/
theorem dec_yes14 {n k : Nat} {s : List UInt8} (h : okF n k) (hl : 8 * s.length = n) (w : World) (hm : MkS w) : Calls Tryd.prog 16 #[.string (enF n k s)] w fun e w' => ∃ f g, NwF w e w' f g n k s := by
  refine (dec_any14 _ w hm (by have := enF_size h hl; unfold maxLen; omega)).mono ?_
  rintro e w' (⟨n', k', s', f, g, h1, h2⟩ | ⟨h1, _⟩)
  · obtain ⟨rfl, rfl, rfl⟩ := h1.one (enF_is h hl)
    exact ⟨f, g, h2⟩
  · exact absurd (enF_is h hl) (h1 n k s)
theorem ok256 : okF 256 3 := ⟨⟨2, by omega, rfl⟩, by omega, by omega⟩
/-- The name of a byte. -/
def tx4 (i : Nat) : ByteArray := ⟨#[0, 0, 0, UInt8.ofNat i]⟩
theorem plc_tx4 (i : Nat) (hi : i < 256) : plc 256 (idF (tx4 i)) 0 = i := by
  have : ∀ i : Fin 256, plc 256 (idF (tx4 i.val)) 0 = i.val := by decide +kernel
  exact this ⟨i, hi⟩
theorem bits_more (s : List UInt8) (i : Nat) (hi : i < 256) (hl : 8 * s.length = 256) (h : ∀ q, q < i → btR s q = true) : ∀ q, q < i + 1 → btR (adK 256 (idF (tx4 i)) 3 s) q = true := by
  intro q hq
  rw [btR_ad 256 _ s q (by omega) hl]
  by_cases e : q = i
  · subst e
    rw [Bool.or_eq_true, isP_iff]
    exact .inr ⟨0, by omega, (plc_tx4 q hi).symm⟩
  · rw [h q (by omega)]; rfl
theorem conv4 (i : Nat) (hi : i < 256) (W : World) : (convert 64 9 (.slice (some ⟨W.heap.size, 0, none⟩) 4 4)).run Tryd.prog (W.alloc (.cells #[.int .u8 0, .int .u8 0, .int .u8 0, .int .u8 (i : Int)] 5)) = .ok (.string (tx4 i)) (W.alloc (.cells #[.int .u8 0, .int .u8 0, .int .u8 0, .int .u8 (i : Int)] 5)) := by
  refine conv_row14 W.heap.size 4 [0, 0, 0, UInt8.ofNat i] _ (fun j hj => ?_)
  simp only [List.length_cons, List.length_nil] at hj
  have h4 : j = 0 ∨ j = 1 ∨ j = 2 ∨ j = 3 := by omega
  rw [(bk_new _ _ _).cell]
  have e : (UInt8.ofNat i).toNat = i := by rw [UInt8.toNat_ofNat']; exact Nat.mod_eq_of_lt hi
  rcases h4 with rfl | rfl | rfl | rfl
  · rfl
  · rfl
  · rfl
  · show some (Value.int .u8 (i : Int)) = some (.int .u8 ((UInt8.ofNat i).toNat : Int))
    rw [e]
/-- Three filters of this law, apart. -/
structure Tri (w : World) (f g : Nat) (s : List UInt8) (o q : Nat) (t : List UInt8) (b r : Nat) (u : List UInt8) (W : World) : Prop where
  one : FlS W f g 256 3 s
  two : FlS W o q 256 3 t
  thr : FlS W b r 256 3 u
  gq : g ≠ q
  gr : g ≠ r
  lg : w.heap.size ≤ g
  bel : Below w.heap.size w W
theorem Tri.below {w : World} {f g : Nat} {s : List UInt8} {o q : Nat} {t : List UInt8} {b r : Nat} {u : List UInt8} {W W' : World} (h : Tri w f g s o q t b r u W) (hb : Below W.heap.size W W') : Tri w f g s o q t b r u W' :=
  ⟨h.one.below hb, h.two.below hb, h.thr.below hb, h.gq, h.gr, h.lg, h.bel.trans (hb.mono h.bel.size)⟩
theorem Tri.first {w : World} {f g : Nat} {s s' : List UInt8} {o q : Nat} {t : List UInt8} {b r : Nat} {u : List UInt8} {W W' : World} (h : Tri w f g s o q t b r u W) (hg : W.grownBy W' (some g)) (h1 : FlS W' f g 256 3 s') : Tri w f g s' o q t b r u W' :=
  ⟨h1, h.two.other h.one hg h.gq, h.thr.other h.one hg h.gr, h.gq, h.gr, h.lg, below_own h.bel h.bel.size hg h.lg⟩
set_option maxHeartbeats 4000000 in
set_option maxRecDepth 100000 in
theorem alone_walk (a : Option Addr) (L c : Nat) (a2 : Option Addr) (L2 c2 : Nat) (xs ys : List ByteArray) (w : World) (hm : MkS w) (hx : TxL w a xs) (nx : xs.length = L) (hL : L ≤ 140737488355328) (hy : TxL w a2 ys) (ny : ys.length = L2) (hL2 : L2 ≤ 140737488355328) :
    Calls Tryd.prog 7 #[.slice a L c, .slice a2 L2 c2] w fun e w' => e = .returned (.bool true) ∧ Below w.heap.size w w' := by
  obtain ⟨s, hs⟩ : ∃ s, mdR 256 3 xs = s := ⟨_, rfl⟩
  obtain ⟨t, ht⟩ : ∃ s, mdR 256 3 ys = s := ⟨_, rfl⟩
  have ls : 8 * s.length = 256 := by rw [← hs, mdR_len]
  have lt : 8 * t.length = 256 := by rw [← ht, mdR_len]
  obtain ⟨S, hS⟩ : ∃ S, enF 256 3 s = S := ⟨_, rfl⟩
  obtain ⟨T, hT⟩ : ∃ S, enF 256 3 t = S := ⟨_, rfl⟩
  have HM : Hid (MkS w) := hm
  have MD1 : Hid (∀ W, Below w.heap.size w W → Calls Tryd.prog 31 #[.int .i64 256, .int .i64 3, .slice a L c] W fun e w' => ∃ f g, e = .returned (.pointer (some ⟨f, 0, none⟩)) ∧ FlS w' f g 256 3 s ∧ Below W.heap.size W w' ∧ W.heap.size ≤ f ∧ W.heap.size ≤ g) := fun W hb => by
    rw [← hs]; exact made_any14 256 3 a L c xs W ok256 (hx.below hb) nx hL
  have MD2 : Hid (∀ W, Below w.heap.size w W → Calls Tryd.prog 31 #[.int .i64 256, .int .i64 3, .slice a2 L2 c2] W fun e w' => ∃ f g, e = .returned (.pointer (some ⟨f, 0, none⟩)) ∧ FlS w' f g 256 3 t ∧ Below W.heap.size W w' ∧ W.heap.size ≤ f ∧ W.heap.size ≤ g) := fun W hb => by
    rw [← ht]; exact made_any14 256 3 a2 L2 c2 ys W ok256 (hy.below hb) ny hL2
  have ES : Hid (∀ W f g, Below w.heap.size w W → FlS W f g 256 3 s → Calls Tryd.prog 15 #[.pointer (some ⟨f, 0, none⟩)] W fun e w' => e = .returned (.tuple #[.string S, .int .i64 0]) ∧ Below W.heap.size W w') := fun W f g hb h => by
    rw [← hS]; exact enc_any14 f g 256 3 s W h (hm.below hb)
  have ET : Hid (∀ W f g, Below w.heap.size w W → FlS W f g 256 3 t → Calls Tryd.prog 15 #[.pointer (some ⟨f, 0, none⟩)] W fun e w' => e = .returned (.tuple #[.string T, .int .i64 0]) ∧ Below W.heap.size W w') := fun W f g hb h => by
    rw [← hT]; exact enc_any14 f g 256 3 t W h (hm.below hb)
  have DS : Hid (∀ W, Below w.heap.size w W → Calls Tryd.prog 16 #[.string S] W fun e w' => ∃ f g, NwF W e w' f g 256 3 s) := fun W hb => by
    rw [← hS]; exact dec_yes14 ok256 ls W (hm.below hb)
  clear hm hx hy nx ny hs ht hS hT
  go_enter Tryd.func7, Tryd.ntmps7
  go_wp2_with fail
  refine (awake14 w).mono ?_
  rintro e w1 ⟨rfl, b1⟩
  have B1 : Hid (Below w.heap.size w w1) := b1
  clear b1
  go_wp2_with fail
  refine (MD1.out _ B1.out).mono ?_
  rintro e w2 ⟨f, g, rfl, f2, b2, lf, lg⟩
  have B2 : Hid (FlS w2 f g 256 3 s ∧ Below w.heap.size w w2 ∧ w.heap.size ≤ g) := ⟨f2, B1.out.trans (b2.mono B1.out.size), Nat.le_trans B1.out.size lg⟩
  clear f2 b2 lf lg B1 MD1
  go_wp2_with fail
  refine (MD2.out _ B2.out.2.1).mono ?_
  rintro e w3 ⟨o, q, rfl, f3, b3, lf, lg⟩
  have B3 : Hid (FlS w3 f g 256 3 s ∧ FlS w3 o q 256 3 t ∧ Below w.heap.size w w3 ∧ w.heap.size ≤ g ∧ g ≠ q) := ⟨B2.out.1.below b3, f3, B2.out.2.1.trans (b3.mono B2.out.2.1.size), B2.out.2.2, by have := B2.out.1.row.lt; omega⟩
  clear f3 b3 lf lg B2 MD2
  go_wp2_with fail
  refine (ES.out _ _ _ B3.out.2.2.1 B3.out.1).mono ?_
  rintro e w4 ⟨rfl, b4⟩
  have B4 : Hid (FlS w4 f g 256 3 s ∧ FlS w4 o q 256 3 t ∧ Below w.heap.size w w4 ∧ w.heap.size ≤ g ∧ g ≠ q) := ⟨B3.out.1.below b4, B3.out.2.1.below b4, B3.out.2.2.1.trans (b4.mono B3.out.2.2.1.size), B3.out.2.2.2⟩
  clear b4 B3
  go_wp2_with fail
  refine (ET.out _ _ _ B4.out.2.2.1 B4.out.2.1).mono ?_
  rintro e w5 ⟨rfl, b5⟩
  have B5 : Hid (FlS w5 f g 256 3 s ∧ FlS w5 o q 256 3 t ∧ Below w.heap.size w w5 ∧ w.heap.size ≤ g ∧ g ≠ q) := ⟨B4.out.1.below b5, B4.out.2.1.below b5, B4.out.2.2.1.trans (b5.mono B4.out.2.2.1.size), B4.out.2.2.2⟩
  clear b5 B4
  go_wp2_with fail
  refine (DS.out _ B5.out.2.2.1).mono ?_
  rintro e w6 ⟨b, r, h6⟩
  obtain rfl := h6.res
  have B6 : Hid (Tri w f g s o q t b r s w6) := ⟨B5.out.1.below h6.bel, B5.out.2.1.below h6.bel, h6.fil, B5.out.2.2.2.2, by have := B5.out.1.row.lt; have := h6.lg; omega, B5.out.2.2.2.1, B5.out.2.2.1.trans (h6.bel.mono B5.out.2.2.1.size)⟩
  clear h6 B5 DS
  go_wp2_with fail
  refine (join_yes14 f g 256 3 s o q t w6 B6.out.one B6.out.two B6.out.gq).mono ?_
  rintro e w7 ⟨rfl, f7, g7⟩
  have B7 : Hid (Tri w f g (jnR s t) o q t b r s w7) := B6.out.first g7 f7
  clear f7 g7 B6
  go_wp2_with fail
  refine (ES.out _ _ _ B7.out.bel B7.out.thr).mono ?_
  rintro e w8 ⟨rfl, b8⟩
  have B8 : Hid (Tri w f g (jnR s t) o q t b r s w8) := B7.out.below b8
  clear b8 B7
  go_wp2_with fail
  refine (ET.out _ _ _ B8.out.bel B8.out.two).mono ?_
  rintro e w9 ⟨rfl, b9⟩
  have B9 : Hid (Tri w f g (jnR s t) o q t b r s w9) := B8.out.below b9
  clear b9 B8
  go_wp2
  go_loopw [17] (fun v wr => ∃ (i : Nat) (s' : List UInt8), i ≤ 256 ∧ v = .int .i64 i ∧ Hid (Tri w f g s' o q t b r s wr ∧ ∀ p, p < i → btR s' p = true)) (fun v _ => 256 - (intOf v).toNat)
  case atStart => exact ⟨0, _, Nat.zero_le _, rfl, B9.out, fun p hp => by omega⟩
  case round =>
    clear B9
    obtain ⟨i, s', hi, rfl, HB⟩ := hrel
    by_cases hlt : i < 256
    · have hcv := conv4 i hlt
      have hw8 : IntKind.u8.wrap (i : Int) = (i : Int) := by rw [IntKind.wrap_u8]; omega
      have hw8e : (i : Int) % 256 = (i : Int) := by omega
      go_wp2_with fail
      refine (id_any14 (tx4 i) _).mono ?_
      rintro e v1 ⟨rfl, c1⟩
      have C1 : Hid (Tri w f g s' o q t b r s v1) := (HB.out.1.below ((Below.refl _ _).alloc (Nat.le_refl _) _)).below c1
      have AD : Hid (Calls Tryd.prog 12 #[.pointer (some ⟨f, 0, none⟩), .agg (idc (idF (tx4 i)))] v1 fun e w' => e = .returned (.int .i64 0) ∧ Hid (Tri w f g (adK 256 (idF (tx4 i)) 3 s') o q t b r s w' ∧ ∀ p, p < i + 1 → btR (adK 256 (idF (tx4 i)) 3 s') p = true)) := by
        refine (add_any14 (idF (tx4 i)) f g 256 3 s' v1 (idF_size _) C1.out.one).mono ?_
        rintro e v2 ⟨rfl, h1, h2⟩
        exact ⟨rfl, C1.out.first h2 h1, bits_more s' i hlt HB.out.1.one.len HB.out.2⟩
      obtain ⟨D, hD⟩ : ∃ D, idc (idF (tx4 i)) = D := ⟨_, rfl⟩
      rw [hD] at AD ⊢
      clear hD c1 hcv
      go_wp2_with fail
      refine AD.out.mono ?_
      rintro e v2 ⟨rfl, C2⟩
      go_wp2
      go_roundw
      case rel => exact ⟨i + 1, _, by omega, by go_num, C2.out⟩
      case measure => simp [intOf]; omega
    · have hik : i = 256 := by omega
      have HK : Hid (onR s' = 256) := by
        have hl := HB.out.1.one.len
        show _ = _
        rw [onR_eq, hl]
        exact smB_all _ _ (fun p hp => HB.out.2 p (by omega))
      have HT : Hid (Tri w f g s' o q t b r s wr) := HB.out.1
      clear HB hik
      go_wp2_with fail
      refine (ES.out _ _ _ HT.out.bel HT.out.thr).mono ?_
      rintro e v1 ⟨rfl, c1⟩
      have C1 : Hid (Tri w f g s' o q t b r s v1) := HT.out.below c1
      clear c1
      go_wp2_with fail
      refine (ET.out _ _ _ C1.out.bel C1.out.two).mono ?_
      rintro e v2 ⟨rfl, c2⟩
      have C2 : Hid (Tri w f g s' o q t b r s v2) := C1.out.below c2
      clear c2
      have ON : Hid (Calls Tryd.prog 21 #[.pointer (some ⟨f, 0, none⟩)] v2 fun e w' => e = .returned (.int .i64 256) ∧ w' = v2) := by
        have := ones_any14 f g 256 3 s' v2 C2.out.one
        rw [HK.out] at this
        exact this
      go_wp2_with fail
      refine ON.out.mono ?_
      rintro e v3 ⟨rfl, hv⟩
      obtain rfl : v2 = v3 := hv.symm
      go_wp2
      go_ret
      exact ⟨rfl, C2.out.bel⟩
end Go.Proofs.YtplfjfhpdfbpeaaDoor
