/- The walk of munimentlaw01.WireOnce: it returns true; nothing that was there has turned. -/
import Derived.Test.YtehbgkbnbaogoaaDoorW10
import Derived.Test.YtehbgkbnbaogoaaDoorX3
import Derived.Test.YtehbgkbnbaogoaaDoorP6
import Derived.Test.YtehbgkbnbaogoaaDoorO2
namespace Go.Proofs.YtehbgkbnbaogoaaDoor
open Go.RowKit
set_option linter.unusedSimpArgs false
set_option linter.unusedVariables false
theorem once_rel {B : Nat} {w w3 w4 : World} {r : ByteArray} (hz : B < w3.heap.size) (hb : Below B w w3) (h : Step B w3 w4 r) :
    w4.cell? ⟨B, 0, none⟩ = some (.string r) ∧ w4.frozen? ⟨B, 0, none⟩ = false ∧ B < w4.heap.size ∧ Below B w w4 :=
  ⟨h.cell, h.frozen, by have := h.size; omega, hb.trans (h.below (Nat.le_refl _) (by omega))⟩
theorem once_put {B : Nat} {w w4 w5 : World} {r : ByteArray} (h : w4.cell? ⟨B, 0, none⟩ = some (.string r) ∧ w4.frozen? ⟨B, 0, none⟩ = false ∧ B < w4.heap.size ∧ Below B w w4) (h5 : Below w4.heap.size w4 w5) :
    w5.cell? ⟨B, 0, none⟩ = some (.string r) ∧ w5.frozen? ⟨B, 0, none⟩ = false ∧ B < w5.heap.size ∧ Below B w w5 :=
  ⟨(h5.cell (p := ⟨B, 0, none⟩) h.2.2.1).trans h.1, (h5.frozen (p := ⟨B, 0, none⟩) h.2.2.1).trans h.2.1, by have := h5.size; omega, h.2.2.2.trans (h5.mono (by omega))⟩
theorem pow_le8 (d : Nat) (h : d ≤ 8) : 256 ^ d ≤ 18446744073709551616 := Nat.le_trans (Nat.pow_le_pow_right (by omega) h) (by decide)
theorem ex_size0 (r : ByteArray) (k : Nat) (h : k ≤ r.size) : (r.extract 0 k).size = k := by rw [ByteArray.size_extract]; omega
theorem ex_size (r : ByteArray) (k : Nat) : (r.extract k r.size).size ≤ r.size := by rw [ByteArray.size_extract]; omega
theorem next_of2 (s a r p q r' : ByteArray) (h : s = a ++ r) (hr : p ++ q ++ r' = r) : s = a ++ p ++ q ++ r' := by
  rw [h, ← hr]; apply bl_inj; simp [bl_append]
theorem uhS_size (s : ByteArray) : (uhS s).size ≤ s.size := by
  cases e : unhexL (bl s) with
  | none => rw [(uh_none e).1]; exact Nat.zero_le _
  | some m =>
    have := (hex_unhex _ _ (Nat.le_refl _) m e).2
    rw [bl_length] at this
    rw [(uh_some e).1, sb_size]
    omega
theorem unhex_any (s : ByteArray) (w : World) (hs : s.size ≤ 281474976710656) (hT : TabIs w) (hw : 0 < w.heap.size) :
    Calls Tryd.prog 7 #[.string s] w fun e w' => e = .returned (.tuple #[.string (uhS s), .int .i64 (uhE s)]) ∧ Below w.heap.size w w' := by
  by_cases h : s.size % 2 = 1
  · exact (unhex_odd s w hs h).mono fun e w' ⟨he, hw'⟩ => ⟨he, by subst hw'; exact Below.refl _ _⟩
  · exact unhex_even s w (s.size / 2) hs (by omega) hT hw
set_option maxHeartbeats 8000000 in
set_option maxRecDepth 100000 in
theorem once_walk (s : ByteArray) (a0 : Option Addr) (len cap : Nat) (K Wd : Nat → Int) (Nn : Nat → Nat) (T : Nat → ByteArray) (w : World) (hs : s.size ≤ 140737488351232) (hlen : len ≤ maxLen) (hL : Lie w a0 len K Wd Nn T)
    (hW : ∀ i, i < len → -9223372036854775808 ≤ Wd i ∧ Wd i ≤ 9223372036854775807) (hT : TabIs w) (hw : 0 < w.heap.size) :
    Calls Tryd.prog 4 #[.string s, .slice a0 len cap] w fun e w' => e = .returned (.bool true) ∧ Below w.heap.size w w' := by
  unfold maxLen at hlen
  have HL : Hid (Lie w a0 len K Wd Nn T) := hL
  have HW : Hid (∀ i, i < len → -9223372036854775808 ≤ Wd i ∧ Wd i ≤ 9223372036854775807) := hW
  have HT : Hid (TabIs w) := hT
  clear hL hW hT
  go_enter Tryd.func4, Tryd.ntmps4
  go_wp2_with (go_at_call 18; refine (new_any _ _).mono ?_; rintro e w' ⟨rfl, rfl⟩)
  go_loopw [6, 7] (fun v i wr => ∃ (k : Nat) (a r : ByteArray), k ≤ len ∧ k ≤ 300 ∧ i = .int .i64 k ∧ v = .string a ∧ a.size ≤ 140737488351232 ∧ r.size ≤ 140737488351232 ∧ Hid (s = a ++ r) ∧ wr.cell? ⟨w.heap.size, 0, none⟩ = some (.string r) ∧
      wr.frozen? ⟨w.heap.size, 0, none⟩ = false ∧ w.heap.size < wr.heap.size ∧ Below w.heap.size w wr) (fun _ i _ => 300 - (intOf i).toNat)
  case atStart => exact ⟨0, ⟨#[]⟩, s, by omega, by omega, rfl, rfl, by decide, hs, by show s = ⟨#[]⟩ ++ s; apply bl_inj; rw [bl_append]; rfl, al_ptr _ _ _, by simp, by simp, (Below.refl _ _).alloc (Nat.le_refl _) _⟩
  case round =>
    obtain ⟨k, a, r, hk1, hk2, rfl, rfl, has, hrs, HE, hrc, hrf, hz, hbel⟩ := hrel
    have hrm : r.size ≤ maxLen := by unfold maxLen; omega
    by_cases hlt : k < len ∧ k < 300
    · obtain ⟨g1, g2⟩ := hlt
      obtain ⟨b, off, rfl, hb, c0, c1, c2, c3⟩ := HL.out k g1
      have d0 := (hbel.cell (p := ⟨b, off + k * 4, none⟩) hb).trans c0
      have d1 := (hbel.cell (p := ⟨b, off + k * 4 + 1, none⟩) hb).trans c1
      clear c0 c1 c2 c3
      obtain ⟨w1, w2⟩ := HW.out k g1
      by_cases hk1 : (K k).tmod 3 = 1
      · have e1 : ((K k).tmod 3 == 1) = true := by simp [hk1]
        clear hk1
        have p1 := wd_pos (Wd k)
        have p2 := wd_le (Wd k)
        go_wp2_with fail
        refine (width_any (Wd k) _ w1 w2).mono ?_
        rintro e w3 ⟨rfl, hw3⟩
        subst hw3
        go_wp2_with fail
        by_cases hd : r.size < wd (Wd k)
        · refine (fixed_no r w.heap.size _ hrm hrc hrf hz (wd (Wd k)) p1 p2 hd).mono ?_
          rintro e w4 ⟨rfl, h4⟩
          obtain ⟨q1, q2, q3, q4⟩ := once_rel hz hbel h4
          clear h4
          clear hrc hrf
          have HN : Hid (s = a ++ r) := HE.out
          have za : (a).size ≤ 140737488351232 := has
          have zr : (r).size ≤ 140737488351232 := hrs
          have hrm' : (r).size ≤ maxLen := by unfold maxLen; omega
          have hq2 : ((r).size : Int) ≤ s.size := by have := app_size HN.out; omega
          have hq3 : s.extract 0 (s.size - (r).size) = a := front_of s _ _ HN.out
          go_wp2_with (go_at_call 23; refine (left_any (r) w.heap.size _ hrm' q1).mono ?_; rintro e w9 ⟨rfl, hw9⟩; subst hw9)
          go_roundw
          case rel => exact ⟨k + 1, _, _, by omega, by omega, by go_num, rfl, za, zr, HN, q1, q2, q3, q4⟩
          case measure => simp [intOf]; omega
        · have hd2 : wd (Wd k) ≤ r.size := by omega
          refine (fixed_ok r w.heap.size _ hrm hrc hrf hz (wd (Wd k)) p1 p2 hd2).mono ?_
          rintro e w4 ⟨rfl, h4⟩
          obtain ⟨q1, q2, q3, q4⟩ := once_rel hz hbel h4
          clear h4
          go_wp2_with fail
          refine (putFixed_ok a (fixV ((bl r).take (wd (Wd k)))) (wd (Wd k)) _ (by omega) (by have := fix_lt r _ hd2; have := pow_le8 (wd (Wd k)) p2; omega) p1 p2 (by rw [Int.toNat_natCast]; exact fix_lt r _ hd2) (by omega)).mono ?_
          rintro e w5 ⟨rfl, h5⟩
          obtain ⟨q1, q2, q3, q4⟩ := once_put ⟨q1, q2, q3, q4⟩ h5
          clear h5
          rw [Int.toNat_natCast, fix_again r _ hd2]
          clear hrc hrf
          generalize hA2 : a ++ r.extract 0 (wd (Wd k)) = a2
          generalize hR2 : r.extract (wd (Wd k)) r.size = r2 at q1
          have HN : Hid (s = a2 ++ r2) := by rw [← hA2, ← hR2]; exact next_of s a r _ _ HE.out (split_at r _ hd2)
          have za : a2.size ≤ 140737488351232 := by rw [← hA2]; have := app_size HE.out; rw [append_size, ex_size0 r _ hd2]; omega
          have zr : r2.size ≤ 140737488351232 := by rw [← hR2]; have := ex_size r (wd (Wd k)); omega
          clear hA2 hR2
          have hrm' : (r2).size ≤ maxLen := by unfold maxLen; omega
          have hq2 : ((r2).size : Int) ≤ s.size := by have := app_size HN.out; omega
          have hq3 : s.extract 0 (s.size - (r2).size) = a2 := front_of s _ _ HN.out
          go_wp2_with (go_at_call 23; refine (left_any (r2) w.heap.size _ hrm' q1).mono ?_; rintro e w9 ⟨rfl, hw9⟩; subst hw9)
          go_roundw
          case rel => exact ⟨k + 1, _, _, by omega, by omega, by go_num, rfl, za, zr, HN, q1, q2, q3, q4⟩
          case measure => simp [intOf]; omega
      · have e1 : ((K k).tmod 3 == 1) = false := by simp [hk1]
        clear hk1
        by_cases hk2' : (K k).tmod 3 = 2
        · have e2 : ((K k).tmod 3 == 2) = true := by simp [hk2']
          clear hk2'
          go_wp2_with fail
          by_cases hk : shK r = 0
          · refine (text_no1 r w.heap.size _ hrm hrc hrf hz 1048576 (by omega) hk).mono ?_
            rintro e w4 ⟨rfl, h4⟩
            obtain ⟨q1, q2, q3, q4⟩ := once_rel hz hbel h4
            clear h4
            clear hrc hrf
            have HN : Hid (s = a ++ r) := HE.out
            have za : (a).size ≤ 140737488351232 := has
            have zr : (r).size ≤ 140737488351232 := hrs
            have hrm' : (r).size ≤ maxLen := by unfold maxLen; omega
            have hq2 : ((r).size : Int) ≤ s.size := by have := app_size HN.out; omega
            have hq3 : s.extract 0 (s.size - (r).size) = a := front_of s _ _ HN.out
            go_wp2_with (go_at_call 23; refine (left_any (r) w.heap.size _ hrm' q1).mono ?_; rintro e w9 ⟨rfl, hw9⟩; subst hw9)
            go_roundw
            case rel => exact ⟨k + 1, _, _, by omega, by omega, by go_num, rfl, za, zr, HN, q1, q2, q3, q4⟩
            case measure => simp [intOf]; omega
          · by_cases hn : 1048576 < shN r
            · refine (text_no2 r w.heap.size _ hrm hrc hrf hz 1048576 (by omega) hk hn).mono ?_
              rintro e w4 ⟨rfl, h4⟩
              obtain ⟨q1, q2, q3, q4⟩ := once_rel hz hbel h4
              clear h4
              clear hrc hrf
              have HN : Hid (s = a ++ r) := HE.out
              have za : (a).size ≤ 140737488351232 := has
              have zr : (r).size ≤ 140737488351232 := hrs
              have hrm' : (r).size ≤ maxLen := by unfold maxLen; omega
              have hq2 : ((r).size : Int) ≤ s.size := by have := app_size HN.out; omega
              have hq3 : s.extract 0 (s.size - (r).size) = a := front_of s _ _ HN.out
              go_wp2_with (go_at_call 23; refine (left_any (r) w.heap.size _ hrm' q1).mono ?_; rintro e w9 ⟨rfl, hw9⟩; subst hw9)
              go_roundw
              case rel => exact ⟨k + 1, _, _, by omega, by omega, by go_num, rfl, za, zr, HN, q1, q2, q3, q4⟩
              case measure => simp [intOf]; omega
            · by_cases hl : r.size - shK r < shN r
              · refine (text_no3 r w.heap.size _ hrm hrc hrf hz 1048576 (by omega) hk (by omega) hl).mono ?_
                rintro e w4 ⟨rfl, h4⟩
                obtain ⟨q1, q2, q3, q4⟩ := once_rel hz hbel h4
                clear h4
                clear hrc hrf
                have HN : Hid (s = a ++ r) := HE.out
                have za : (a).size ≤ 140737488351232 := has
                have zr : (r).size ≤ 140737488351232 := hrs
                have hrm' : (r).size ≤ maxLen := by unfold maxLen; omega
                have hq2 : ((r).size : Int) ≤ s.size := by have := app_size HN.out; omega
                have hq3 : s.extract 0 (s.size - (r).size) = a := front_of s _ _ HN.out
                go_wp2_with (go_at_call 23; refine (left_any (r) w.heap.size _ hrm' q1).mono ?_; rintro e w9 ⟨rfl, hw9⟩; subst hw9)
                go_roundw
                case rel => exact ⟨k + 1, _, _, by omega, by omega, by go_num, rfl, za, zr, HN, q1, q2, q3, q4⟩
                case measure => simp [intOf]; omega
              · have hkl := shK_le r
                have hl2 : shK r + shN r ≤ r.size := by omega
                have hts : (r.extract (shK r) (shK r + shN r)).size = shN r := by rw [ByteArray.size_extract]; omega
                refine (text_ok r w.heap.size _ hrm hrc hrf hz 1048576 (by omega) hk (by omega) hl2).mono ?_
                rintro e w4 ⟨rfl, h4⟩
                obtain ⟨q1, q2, q3, q4⟩ := once_rel hz hbel h4
                clear h4
                go_wp2_with fail
                refine (putText_any a (r.extract (shK r) (shK r + shN r)) _ (by omega) (by omega)).mono ?_
                rintro e w5 ⟨rfl, h5⟩
                obtain ⟨q1, q2, q3, q4⟩ := once_put ⟨q1, q2, q3, q4⟩ h5
                clear h5
                rw [hts, sh_again r hk]
                clear hrc hrf
                generalize hA2 : a ++ r.extract 0 (shK r) ++ r.extract (shK r) (shK r + shN r) = a2
                generalize hR2 : r.extract (shK r + shN r) r.size = r2 at q1
                have HN : Hid (s = a2 ++ r2) := by rw [← hA2, ← hR2]; exact next_of2 s a r _ _ _ HE.out (split_mid r _ _ (by omega) hl2)
                have za : a2.size ≤ 140737488351232 := by rw [← hA2]; have := app_size HE.out; rw [append_size, append_size, ex_size0 r _ hkl, hts]; omega
                have zr : r2.size ≤ 140737488351232 := by rw [← hR2]; have := ex_size r (shK r + shN r); omega
                clear hA2 hR2
                have hrm' : (r2).size ≤ maxLen := by unfold maxLen; omega
                have hq2 : ((r2).size : Int) ≤ s.size := by have := app_size HN.out; omega
                have hq3 : s.extract 0 (s.size - (r2).size) = a2 := front_of s _ _ HN.out
                go_wp2_with (go_at_call 23; refine (left_any (r2) w.heap.size _ hrm' q1).mono ?_; rintro e w9 ⟨rfl, hw9⟩; subst hw9)
                go_roundw
                case rel => exact ⟨k + 1, _, _, by omega, by omega, by go_num, rfl, za, zr, HN, q1, q2, q3, q4⟩
                case measure => simp [intOf]; omega
        · have e2 : ((K k).tmod 3 == 2) = false := by simp [hk2']
          clear hk2'
          go_wp2_with fail
          by_cases hk : shK r = 0
          · refine (uint_no r w.heap.size _ hrm hrc hrf hz hk).mono ?_
            rintro e w4 ⟨rfl, h4⟩
            obtain ⟨q1, q2, q3, q4⟩ := once_rel hz hbel h4
            clear h4
            clear hrc hrf
            have HN : Hid (s = a ++ r) := HE.out
            have za : (a).size ≤ 140737488351232 := has
            have zr : (r).size ≤ 140737488351232 := hrs
            have hrm' : (r).size ≤ maxLen := by unfold maxLen; omega
            have hq2 : ((r).size : Int) ≤ s.size := by have := app_size HN.out; omega
            have hq3 : s.extract 0 (s.size - (r).size) = a := front_of s _ _ HN.out
            go_wp2_with (go_at_call 23; refine (left_any (r) w.heap.size _ hrm' q1).mono ?_; rintro e w9 ⟨rfl, hw9⟩; subst hw9)
            go_roundw
            case rel => exact ⟨k + 1, _, _, by omega, by omega, by go_num, rfl, za, zr, HN, q1, q2, q3, q4⟩
            case measure => simp [intOf]; omega
          · have hkl := shK_le r
            refine (uint_ok r w.heap.size _ hrm hrc hrf hz hk).mono ?_
            rintro e w4 ⟨rfl, h4⟩
            obtain ⟨q1, q2, q3, q4⟩ := once_rel hz hbel h4
            clear h4
            go_wp2_with fail
            refine (put_any a (shN r) _ (by omega) (by have := shN_lt r; omega) (by omega)).mono ?_
            rintro e w5 ⟨rfl, h5⟩
            obtain ⟨q1, q2, q3, q4⟩ := once_put ⟨q1, q2, q3, q4⟩ h5
            clear h5
            rw [Int.toNat_natCast, sh_again r hk]
            clear hrc hrf
            generalize hA2 : a ++ r.extract 0 (shK r) = a2
            generalize hR2 : r.extract (shK r) r.size = r2 at q1
            have HN : Hid (s = a2 ++ r2) := by rw [← hA2, ← hR2]; exact next_of s a r _ _ HE.out (split_at r _ hkl)
            have za : a2.size ≤ 140737488351232 := by rw [← hA2]; have := app_size HE.out; rw [append_size, ex_size0 r _ hkl]; omega
            have zr : r2.size ≤ 140737488351232 := by rw [← hR2]; have := ex_size r (shK r); omega
            clear hA2 hR2
            have hrm' : (r2).size ≤ maxLen := by unfold maxLen; omega
            have hq2 : ((r2).size : Int) ≤ s.size := by have := app_size HN.out; omega
            have hq3 : s.extract 0 (s.size - (r2).size) = a2 := front_of s _ _ HN.out
            go_wp2_with (go_at_call 23; refine (left_any (r2) w.heap.size _ hrm' q1).mono ?_; rintro e w9 ⟨rfl, hw9⟩; subst hw9)
            go_roundw
            case rel => exact ⟨k + 1, _, _, by omega, by omega, by go_num, rfl, za, zr, HN, q1, q2, q3, q4⟩
            case measure => simp [intOf]; omega
    · have hcase : (k < len ∧ 300 ≤ k) ∨ ¬ k < len := by omega
      clear hlt HE hrc hrf
      have hsz0 := hbel.size
      have hTw : TabIs wr := HT.out.below hbel hw
      have HTw : Hid (TabIs wr) := hTw
      clear hTw
      rcases hcase with ⟨hkl, hk3⟩ | hkl
      all_goals
        go_wp2_with fail
        refine (hex_any s _ hs HTw.out (by omega)).mono ?_
        rintro e w4 ⟨rfl, h4⟩
        have z4 := h4.size
        have HT4 : Hid (TabIs w4) := HTw.out.below h4 (by omega)
        have hb4 : Below w.heap.size w w4 := hbel.trans (h4.mono (by omega))
        have hx : (sb (hexL (bl s))).size = 2 * s.size := by rw [sb_size, hexL_length, bl_length]
        clear h4
        go_wp2_with fail
        refine (unhex_even (sb (hexL (bl s))) _ s.size (by omega) hx HT4.out (by omega)).mono ?_
        rintro e w5 ⟨rfl, h5⟩
        rw [(uh_hex s).1, (uh_hex s).2]
        have z5 := h5.size
        have HT5 : Hid (TabIs w5) := HT4.out.below h5 (by omega)
        have hb5 : Below w.heap.size w w5 := hb4.trans (h5.mono (by omega))
        clear h5 hb4 hx
        go_wp2_with fail
        refine (unhex_any s _ (by omega) HT5.out (by omega)).mono ?_
        rintro e w6 ⟨rfl, h6⟩
        have z6 := h6.size
        have HT6 : Hid (TabIs w6) := HT5.out.below h6 (by omega)
        have hb6 : Below w.heap.size w w6 := hb5.trans (h6.mono (by omega))
        clear h6 hb5
        rcases uhE_cases s with hu | hu
        · rw [hu]
          have hus := uhS_size s
          go_wp2_with fail
          refine (hex_any (uhS s) _ (by omega) HT6.out (by omega)).mono ?_
          rintro e w7 ⟨rfl, h7⟩
          rw [hex_uh s hu]
          have z7 := h7.size
          have hb7 : Below w.heap.size w w7 := hb6.trans (h7.mono (by omega))
          clear h7 hb6 hu
          go_wp2_with fail
          refine (awake_any _).mono ?_
          rintro e w8 ⟨rfl, h8⟩
          go_wp2
          go_ret
          exact ⟨rfl, hb7.trans (h8.mono (by omega))⟩
        · rw [hu]
          clear hu
          go_wp2_with fail
          refine (awake_any _).mono ?_
          rintro e w8 ⟨rfl, h8⟩
          go_wp2
          go_ret
          exact ⟨rfl, hb6.trans (h8.mono (by omega))⟩
end Go.Proofs.YtehbgkbnbaogoaaDoor
