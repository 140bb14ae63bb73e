/- The document's Encode. -/
import Derived.Test.YtblmblbkfdcbjaaJ6
namespace Go.Proofs.Ytblmblbkfdcbjaa
open Go.RowKit
set_option linter.unusedSimpArgs false
set_option linter.unusedVariables false
theorem conv_by (s : ByteArray) (u : World) : ∃ (cap : Nat) (W : World), (convert 9 44 (.string s)).run Try.prog u = .ok (.slice (some ⟨u.heap.size, 0, none⟩) s.size cap) W ∧
    Below u.heap.size u W ∧ ByL W (some ⟨u.heap.size, 0, none⟩) s s.size := by
  refine ⟨grownCap u s.size 0 5, Lib.bytesWorld u 5 s, Lib.run_convert_string_bytes u _ _ _ s Try.underlying9 Try.underlying44 Try.underlying5, ?_, ?_⟩
  · refine ⟨?_, ?_, ?_, by rw [Lib.bytesWorld_size]; omega, fun k hk => Lib.bytesWorld_at_old _ _ _ _ hk⟩
    all_goals simp [Lib.bytesWorld, World.freeze, World.alloc, World.drew, -World.alloc_eq, -World.drew_eq]
  · intro j hj
    refine ⟨_, _, rfl, by rw [Lib.bytesWorld_size]; omega, ?_⟩
    rw [Nat.zero_add, cell_of_row _ _ j _ _ _ (Lib.bytesWorld_at_new u 5 s)]
    have hj' : j < s.data.size := hj
    rw [Lib.bytesCells, Array.getElem?_append_left (by simpa using hj)]
    simp only [Array.getElem?_map, Array.getElem?_eq_getElem hj', Option.map_some]
    rw [← bt_at s j hj]
    rfl
set_option maxHeartbeats 1000000 in
set_option maxRecDepth 100000 in
theorem rencode_any (a : Option Addr) (c n : Nat) (xs : List ByteArray) (m : Int) (w : World) (hx : TxL w a xs) (nx : xs.length = n) (ln : n ≤ 4611686018427387904) (sx : ∀ x ∈ xs, x.size ≤ 281474976710656) (m1 : -9223372036854775808 ≤ m) (m2 : m ≤ 9223372036854775807) :
    Calls Try.prog 24 #[.slice a n c, .int .i64 m] w fun e w' => ∃ ao k, e = .returned (.tuple #[.slice ao (enX xs m).length k, .int .i64 (enE xs m)]) ∧ Ans w ao (enX xs m) w' ∧ Below w.heap.size w w' := by
  have he := fun W hW => alike_any a c xs W hW (by omega)
  rw [nx] at he
  have HX : Hid (TxL w a xs) := hx
  by_cases h1 : 1 ≤ n
  · have h1a : ¬ (n : Int) < 1 := by omega
    by_cases h1' : n ≤ 32
    · have h1b : ¬ (n : Int) > 32 := by omega
      by_cases h2 : evn xs = true
      · rw [h2] at he
        have C2 : Hid _ := he
        clear he
        by_cases h3 : 0 ≤ m
        · have h3a : ¬ m < 0 := by omega
          by_cases h4 : m ≤ 64 - (n : Int)
          · have hok : enOk xs m := ⟨by omega, h2, h3, by omega⟩
            obtain ⟨k, rfl⟩ : ∃ k : Nat, m = k := ⟨m.toNat, by omega⟩
            have e1 : enX xs (k : Int) = mixL (cyX k n) xs (wid xs) := by unfold enX; rw [if_pos hok, Int.toNat_natCast, nx]
            have e2 : enE xs (k : Int) = 0 := if_pos hok
            have hl := cyX_len k n (by omega) (by omega) (by omega)
            have h4a : ¬ (k : Int) > 64 - (n : Int) := by omega
            rw [e1, e2]
            by_cases h5 : k = 0
            · have h5a : ((k : Int) == 0) = true := by rw [h5]; rfl
              have HE : Hid (mixL (cyX k n) xs (wid xs) = []) := by show _ = _; rw [h5, cyX_zero]; rfl
              clear h5 hl e1 e2 hok h2 nx hx sx
              go_enter Try.func24, Try.ntmps24
              go_wp2_with fail
              refine Calls.mono (C2.out _ HX.out) ?_
              rintro e w2 ⟨rfl, hb2⟩
              have B2 : Hid (Below w.heap.size w w2) := hb2
              clear hb2
              go_wp2
              go_ret2
              rw [HE.out]
              first | exact ⟨none, 0, rfl, ⟨fun i x hx => by simp at hx, fun b o s e => by cases e⟩, B2.out⟩ | exact ⟨none, ⟨0, rfl⟩, ⟨fun i x hx => by simp at hx, fun b o s e => by cases e⟩, B2.out⟩
            · have h5a : ((k : Int) == 0) = false := by rw [beq_eq_false_iff_ne]; omega
              have hc3 := fun W => rcy_any (k : Int) (n : Int) W
              have e3 : (caX (k : Int) (n : Int)).length = k := hl
              have e4 : caE (k : Int) (n : Int) = 0 := by unfold caE; rw [if_pos (by omega)]
              rw [e3, e4] at hc3
              have C3 : Hid _ := hc3
              have HL : Hid ((mixL (cyX k n) xs (wid xs)).length = k) := by show _ = k; rw [mixL_len, hl]
              have HCL : Hid ((cyX k n).length = k) := hl
              have HCS : Hid (∀ r ∈ cyX k n, r.size = n) := cyX_size k n (by omega) (by omega) (by omega)
              have hc4 := fun b2 cb2 r W hW hV => made_any b2 a n cb2 c n (wid xs) r xs W hW hV nx (by omega) (by omega) (Nat.le_refl _) (by omega) (evn_all xs h2) (wid_of (by omega) _ sx)
              have C4 : Hid _ := hc4
              clear hc3 hc4 e3 e4 hl e1 e2 hok h2 nx hx sx
              obtain ⟨i0, hi, hz0, hz1, hz2⟩ := info_parts inf_str
              go_enter Try.func24, Try.ntmps24
              go_wp2_with fail
              refine Calls.mono (C2.out _ HX.out) ?_
              rintro e w2 ⟨rfl, hb2⟩
              have B2 : Hid (Below w.heap.size w w2) := hb2
              clear hb2
              go_wp2_with fail
              refine Calls.mono (C3.out _) ?_
              rintro e w3 ⟨ac, cc, rfl, hA, hb3⟩
              have HA : Hid (Ans w2 ac (cyX k n) w3) := hA
              have B3 : Hid (Below w.heap.size w w3) := B2.out.trans (hb3.mono B2.out.size)
              have HX3 : Hid (TxL w3 a xs) := HX.out.below B3.out
              clear hA hb3
              go_wp2_with fail
              go_loopw [8, 9] (fun v t wr => ∃ i : Nat, i ≤ k ∧ t = .int .i64 i ∧ Hid (wr.ownsRow w3.heap.size 9 1 v i (sv ((mixL (cyX k n) xs (wid xs)).take i))) ∧ Hid (Below w3.heap.size w3 wr)) (fun _ t _ => k - (intOf t).toNat)
              case atStart => exact ⟨0, by omega, rfl, World.ownsRow_nil _ _ _ _, Below.refl _ _⟩
              case round =>
                obtain ⟨i, hik, rfl, HO, HB⟩ := hrel
                have hzr : w3.heap.size ≤ wr.heap.size := HB.out.size
                by_cases hlt : i < k
                · have hiz : (i : Int) < (k : Nat) := by omega
                  obtain ⟨r, hr⟩ : ∃ r, (cyX k n)[i]? = some r := ⟨_, List.getElem?_eq_getElem (by rw [HCL.out]; omega)⟩
                  have hrs := HCS.out r (List.mem_of_getElem? hr)
                  have HT : Hid ((mixL (cyX k n) xs (wid xs)).take (i + 1) = (mixL (cyX k n) xs (wid xs)).take i ++ [mixT r xs (wid xs)]) := by
                    show _ = _
                    rw [List.take_add_one, mixL, List.getElem?_map, hr]; rfl
                  obtain ⟨ga, oa, rfl, hga, hc⟩ := (HA.out.1.below HB.out) i r hr
                  obtain ⟨cap, W1, hcv, hb1, hby⟩ := conv_by r wr
                  rw [hrs] at hcv hby
                  have HO1 : Hid (W1.ownsRow w3.heap.size 9 1 u8 i (sv ((mixL (cyX k n) xs (wid xs)).take i))) := own_kept HO.out hb1
                  have HB1 : Hid (Below w3.heap.size w3 W1) := HB.out.trans (hb1.mono hzr)
                  have HBY : Hid (ByL W1 (some ⟨wr.heap.size, 0, none⟩) r n) := hby
                  clear hby hb1 hr hrs
                  go_wp2_with fail
                  refine Calls.mono (C4.out _ _ r _ HBY.out (HX3.out.below HB1.out)) ?_
                  rintro e w4 ⟨rfl, hb4⟩
                  have HO4 : Hid (w4.ownsRow w3.heap.size 9 1 u8 i (sv ((mixL (cyX k n) xs (wid xs)).take i))) := own_kept HO1.out hb4
                  have HB4 : Hid (Below w3.heap.size w3 w4) := HB1.out.trans (hb4.mono HB1.out.size)
                  have hz4 : w3.heap.size ≤ w4.heap.size := HB4.out.size
                  obtain ⟨pt, hpt⟩ : ∃ pt, mixT r xs (wid xs) = pt := ⟨_, rfl⟩
                  rw [hpt] at HT ⊢
                  clear hpt hb4 hcv HBY HO1 HB1 HO HB
                  go_wp2_with (at_builtin; refine wpList_append_own _ rfl _ _ 22 rfl w3.heap.size 9 i0 (.string ⟨#[]⟩) 1 16 Try.underlying22 hi hz0 hz1 hz2 rfl (by decide) _ _ _ rfl (HO4.out.alloc _) ⟨w4.heap.size, 0, none⟩ 1 1 [.string pt] rfl rfl (news_one _ _ _) (one_str _) (by unfold maxLen; omega) (by omega) (by simp; omega) ?_)
                  intro v' w7 hown1 hgrow _
                  have HO7 : Hid (w7.ownsRow w3.heap.size 9 1 v' (i + 1) (sv ((mixL (cyX k n) xs (wid xs)).take (i + 1)))) := by
                    show World.ownsRow _ _ _ _ _ _ _
                    rw [HT.out, sv_append]; exact hown1
                  have HB7 : Hid (Below w3.heap.size w3 w7) := apn_bel HB4.out hz4 HO4.out hgrow
                  clear hown1 hgrow HO4 HB4
                  go_wp2
                  go_roundw
                  case rel => exact ⟨i + 1, by omega, by go_num, HO7.out, HB7.out⟩
                  case measure => simp [intOf]; omega
                · have hiz : ¬ (i : Int) < (k : Nat) := by omega
                  have hik2 : i = k := by omega
                  have hown := HO.out
                  rw [hik2, List.take_of_length_le (by rw [HL.out]; omega)] at hown
                  obtain ⟨q, cq, hq, hA⟩ := ans_of (xs := mixL (cyX k n) xs (wid xs)) (by rw [HL.out]; exact hown)
                  subst hq
                  have HAn : Hid (Ans w q (mixL (cyX k n) xs (wid xs)) wr) := ⟨hA.1, fun b o s e => ⟨Nat.le_trans B3.out.size (hA.2 b o s e).1, (hA.2 b o s e).2⟩⟩
                  have HBn : Hid (Below w.heap.size w wr) := B3.out.trans (HB.out.mono B3.out.size)
                  clear hown hA hik2 HO HB
                  go_wp2
                  go_ret2
                  first | exact ⟨q, cq, rfl, HAn.out, HBn.out⟩ | exact ⟨q, ⟨cq, rfl⟩, HAn.out, HBn.out⟩
          · have h4z : m > 64 - (n : Int) := by omega
            have e1 : enX xs m = [] := if_neg (fun h => h4 (by have := h.2.2.2; omega))
            have e2 : enE xs m = 1 := if_neg (fun h => h4 (by have := h.2.2.2; omega))
            rw [e1, e2]
            clear e1 e2 nx hx sx h2
            go_enter Try.func24, Try.ntmps24
            go_wp2_with fail
            refine Calls.mono (C2.out _ HX.out) ?_
            rintro e w2 ⟨rfl, hb2⟩
            have B2 : Hid (Below w.heap.size w w2) := hb2
            clear hb2
            go_wp2
            go_ret2
            first | exact ⟨none, 0, rfl, ⟨fun i x hx => by simp at hx, fun b o s e => by cases e⟩, B2.out⟩ | exact ⟨none, ⟨0, rfl⟩, ⟨fun i x hx => by simp at hx, fun b o s e => by cases e⟩, B2.out⟩
        · have h3z : m < 0 := by omega
          have e1 : enX xs m = [] := if_neg (fun h => h3 h.2.2.1)
          have e2 : enE xs m = 1 := if_neg (fun h => h3 h.2.2.1)
          rw [e1, e2]
          clear e1 e2 nx hx sx h2
          go_enter Try.func24, Try.ntmps24
          go_wp2_with fail
          refine Calls.mono (C2.out _ HX.out) ?_
          rintro e w2 ⟨rfl, hb2⟩
          have B2 : Hid (Below w.heap.size w w2) := hb2
          clear hb2
          go_wp2
          go_ret2
          first | exact ⟨none, 0, rfl, ⟨fun i x hx => by simp at hx, fun b o s e => by cases e⟩, B2.out⟩ | exact ⟨none, ⟨0, rfl⟩, ⟨fun i x hx => by simp at hx, fun b o s e => by cases e⟩, B2.out⟩
      · have h2z : evn xs = false := by simpa using h2
        rw [h2z] at he
        have C2 : Hid _ := he
        clear he
        have e1 : enX xs m = [] := if_neg (fun h => h2 h.2.1)
        have e2 : enE xs m = 1 := if_neg (fun h => h2 h.2.1)
        rw [e1, e2]
        clear e1 e2 nx hx sx h2 h2z
        go_enter Try.func24, Try.ntmps24
        go_wp2_with fail
        refine Calls.mono (C2.out _ HX.out) ?_
        rintro e w2 ⟨rfl, hb2⟩
        have B2 : Hid (Below w.heap.size w w2) := hb2
        clear hb2
        go_wp2
        go_ret2
        first | exact ⟨none, 0, rfl, ⟨fun i x hx => by simp at hx, fun b o s e => by cases e⟩, B2.out⟩ | exact ⟨none, ⟨0, rfl⟩, ⟨fun i x hx => by simp at hx, fun b o s e => by cases e⟩, B2.out⟩
    · have h1b : (n : Int) > 32 := by omega
      have e1 : enX xs m = [] := if_neg (fun h => h1' (by have := h.1.2; omega))
      have e2 : enE xs m = 1 := if_neg (fun h => h1' (by have := h.1.2; omega))
      rw [e1, e2]
      clear e1 e2 nx hx sx he
      go_enter Try.func24, Try.ntmps24
      go_wp2
      go_ret2
      first | exact ⟨none, 0, rfl, ⟨fun i x hx => by simp at hx, fun b o s e => by cases e⟩, Below.refl _ _⟩ | exact ⟨none, ⟨0, rfl⟩, ⟨fun i x hx => by simp at hx, fun b o s e => by cases e⟩, Below.refl _ _⟩
  · have h1a : (n : Int) < 1 := by omega
    have e1 : enX xs m = [] := if_neg (fun h => h1 (by have := h.1.1; omega))
    have e2 : enE xs m = 1 := if_neg (fun h => h1 (by have := h.1.1; omega))
    rw [e1, e2]
    clear e1 e2 nx hx sx he
    go_enter Try.func24, Try.ntmps24
    go_wp2
    go_ret2
    first | exact ⟨none, 0, rfl, ⟨fun i x hx => by simp at hx, fun b o s e => by cases e⟩, Below.refl _ _⟩ | exact ⟨none, ⟨0, rfl⟩, ⟨fun i x hx => by simp at hx, fun b o s e => by cases e⟩, Below.refl _ _⟩
end Go.Proofs.Ytblmblbkfdcbjaa
