import Derived.Test.YtcfniaknbbgheaaDoorY2
import Derived.Test.YtcfniaknbbgheaaDoorY6
import Derived.Deep.RegionHeld3
import Derived.BigQuiet
/- Plain facts: a short number's bytes, one after another. -/
namespace Go.Proofs.YtcfniaknbbgheaaDoor
set_option linter.unusedSimpArgs false
set_option linter.unusedVariables false
open Go
theorem encS_small (n : Nat) (h : n < 128) : encS n = [n] := by
  have e : slen n = 1 := by
    have h1 := slen_pos n
    rcases Nat.lt_or_ge 1 (slen n) with g | g
    · have h2 := slen_lo n (by omega) g
      have h3 : 128 ^ 1 ≤ 128 ^ (slen n - 1) := Nat.pow_le_pow_right (by omega) (by omega)
      omega
    · omega
  unfold encS; rw [e]; rfl
theorem encS_step (n : Nat) (h : 128 ≤ n) (hn : n < 2 ^ 64) : encS n = (n % 128 + 128) :: encS (n / 128) := by
  have a1 := slen_pos n
  have a2 := slen_hi n hn
  have q1 := slen_pos (n / 128)
  have q2 := slen_hi (n / 128) (by omega)
  have g : 1 < slen n := by
    rcases Nat.lt_or_ge 1 (slen n) with g | g
    · exact g
    · have : slen n = 1 := by omega
      rw [this] at a2; omega
  have a3 := slen_lo n hn g
  have e : slen n = slen (n / 128) + 1 := by
    rcases Nat.lt_trichotomy (slen n) (slen (n / 128) + 1) with c | c | c
    · have q3 := slen_lo (n / 128) (by omega) (by omega)
      have x1 : 128 ^ (slen n - 1) ≤ 128 ^ (slen (n / 128) - 1) := Nat.pow_le_pow_right (by omega) (by omega)
      have x2 : 128 ^ slen n = 128 ^ (slen n - 1) * 128 := by rw [← Nat.pow_succ]; congr 1; omega
      omega
    · exact c
    · have x1 : 128 ^ slen (n / 128) ≤ 128 ^ (slen n - 2) := Nat.pow_le_pow_right (by omega) (by omega)
      have x2 : 128 ^ (slen n - 1) = 128 ^ (slen n - 2) * 128 := by rw [← Nat.pow_succ]; congr 1; omega
      omega
  unfold encS
  rw [e, show slen (n / 128) + 1 - 1 = (slen (n / 128) - 1) + 1 from by omega, encN]
end Go.Proofs.YtcfniaknbbgheaaDoor
/- The document's own fits, and a byte as a string. -/
namespace Go.Proofs.YtcfniaknbbgheaaDoor
open Go.RowKit
set_option linter.unusedSimpArgs false
set_option linter.unusedVariables false
/-- One byte, as a slice of its own, as a string. -/
theorem conv1 (w : World) (v : Int) : (convert 58 9 (.slice (some ⟨w.heap.size, 0, none⟩) 1 1)).run Tryd.prog (w.alloc (.cells #[.int .u8 v] 5)) = .ok (.string (strOfNums [v])) (w.alloc (.cells #[.int .u8 v] 5)) :=
  run_convert_bytes_arg _ 58 5 Tryd.underlying58 Tryd.underlying5 _ 0 1 1 [v] rfl (fun i hi => by
    have : i = 0 := by omega
    subst this
    rw [World.cell?_alloc_new]; rfl) 9 Tryd.underlying9
theorem one_size (v : Int) : (strOfNums [v]).size = 1 := strOfNums_size _
theorem one_is (n : Nat) (v : Int) (h : v = n) : strOfNums [v] = sb [n] := by rw [h]; exact sb_nums [n]
end Go.Proofs.YtcfniaknbbgheaaDoor
/- The document's own Put, PutText, Len. -/
namespace Go.Proofs.YtcfniaknbbgheaaDoor
open Go.RowKit
set_option linter.unusedSimpArgs false
set_option linter.unusedVariables false
/-- One byte, as a slice of its own, as a string. -/
theorem put_more (s a : ByteArray) (n y : Nat) (v : Int) (h : a ++ sb (encS y) = s ++ sb (encS n)) (hy : 128 ≤ y) (hy2 : y < 2 ^ 64) (hv : v = (y % 128 + 128 : Nat)) :
    (a ++ strOfNums [v]) ++ sb (encS (y / 128)) = s ++ sb (encS n) := by
  rw [← h, encS_step y hy hy2, one_is _ v hv]
  apply bl_inj
  simp [bl_append, bl_sb, by8]
theorem put_done (s a : ByteArray) (n y : Nat) (v : Int) (h : a ++ sb (encS y) = s ++ sb (encS n)) (hy : y < 128) (hv : v = (y : Nat)) : a ++ strOfNums [v] = s ++ sb (encS n) := by
  rw [← h, encS_small y hy, one_is _ v hv]
theorem slen_step (y : Nat) (h : 128 ≤ y) (hy : y < 2 ^ 64) : slen y = slen (y / 128) + 1 := by
  rw [← encS_length y, ← encS_length (y / 128), encS_step y h hy]; rfl
set_option maxHeartbeats 400000 in
set_option maxRecDepth 100000 in
theorem rput_any (s : ByteArray) (x : Int) (w : World) (h0 : 0 ≤ x) (h1 : x ≤ 18446744073709551615) (hs : s.size ≤ 4611686018427387904) :
    Calls Tryd.prog 47 #[.string s, .int .u64 x] w fun e w' => e = .returned (.string (s ++ sb (encS x.toNat))) ∧ Below w.heap.size w w' := by
  obtain ⟨n, rfl⟩ := Int.eq_ofNat_of_zero_le h0
  rw [Int.toNat_natCast]
  have hc1 := conv1
  have hz1 := one_size
  have hn : n < 18446744073709551616 := by omega
  go_enter Tryd.func47, Tryd.ntmps47
  go_wp2
  go_loopw [0, 1] (fun v i wr => ∃ (y : Nat) (a : ByteArray), i = .int .u64 y ∧ y < 18446744073709551616 ∧ v = .string a ∧ a.size + slen y = s.size + slen n ∧ Hid (a ++ sb (encS y) = s ++ sb (encS n)) ∧ Below w.heap.size w wr) (fun _ i _ => (intOf i).toNat)
  case atStart => exact ⟨n, s, rfl, hn, rfl, rfl, rfl, Below.refl _ _⟩
  case round =>
    obtain ⟨y, a, rfl, hy, rfl, haz, HE, hbel⟩ := hrel
    have hb0 := hbel.size
    have l1 := slen_le n (by omega)
    have hab : a.size ≤ 4611686018427387914 := by omega
    have HZ : Hid (a.size + slen y = s.size + slen n) := haz
    clear haz
    by_cases hy1 : 128 ≤ y
    · go_wp2
      go_roundw
      case rel => exact ⟨y / 128, _, by go_num, by omega, rfl, by rw [append_size, one_size]; have := slen_step y hy1 (by omega); have := HZ.out; omega, put_more s a n y _ HE.out hy1 (by omega) (by omega), hbel.alloc hb0 _⟩
      case measure => simp [intOf]; omega
    · go_wp2
      go_ret
      exact ⟨ret_str (put_done s a n y _ HE.out (by omega) rfl), hbel.alloc hb0 _⟩
end Go.Proofs.YtcfniaknbbgheaaDoor
/- The document's own PutText. -/
namespace Go.Proofs.YtcfniaknbbgheaaDoor
open Go.RowKit
set_option linter.unusedSimpArgs false
set_option linter.unusedVariables false
set_option maxHeartbeats 400000 in
theorem rputText_any (s t : ByteArray) (w : World) (hs : s.size ≤ 4611686018427387000) (ht : t.size ≤ 140737488351232) :
    Calls Tryd.prog 48 #[.string s, .string t] w fun e w' => e = .returned (.string (s ++ sb (encS t.size) ++ t)) ∧ Below w.heap.size w w' := by
  have hsb : (sb (encS t.size)).size ≤ 10 := by rw [sb_size, encS_length]; exact slen_le _ (by omega)
  have hsz := append_size s (sb (encS t.size))
  go_enter Tryd.func48, Tryd.ntmps48
  go_wp2_with fail
  refine (rput_any s t.size w (by omega) (by omega) (by omega)).mono ?_
  rintro e w1 ⟨rfl, hb⟩
  rw [Int.toNat_natCast]
  go_wp2
  go_ret
  exact ⟨rfl, hb⟩
end Go.Proofs.YtcfniaknbbgheaaDoor
/- The document's Laid. -/
namespace Go.Proofs.YtcfniaknbbgheaaDoor
open Go.RowKit
set_option linter.unusedSimpArgs false
set_option linter.unusedVariables false
theorem bl_put (s : ByteArray) (n : Nat) : bl (s ++ sb (encS n)) = bl s ++ e8 n := by rw [bl_append, bl_sb]; rfl
theorem bl_txt (s t : ByteArray) : bl (s ++ sb (encS t.size) ++ t) = bl s ++ tx t := by rw [bl_append, bl_put, List.append_assoc]; rfl
theorem rput_nat (s : ByteArray) (n : Nat) (w : World) (h1 : n ≤ 18446744073709551615) (hs : s.size ≤ 1000000) : Calls Tryd.prog 47 #[.string s, .int .u64 (n : Int)] w fun e w' => ∃ t, e = .returned (.string t) ∧ bl t = bl s ++ e8 n ∧ Below w.heap.size w w' := by
  have h := rput_any s (n : Int) w (by omega) (by omega) (by omega)
  rw [Int.toNat_natCast] at h
  exact h.mono fun e w' ⟨he, hb⟩ => ⟨_, he, bl_put s n, hb⟩
theorem rtxt_nat (s x : ByteArray) (w : World) (h1 : x.size ≤ 1000000) (hs : s.size ≤ 1000000) : Calls Tryd.prog 48 #[.string s, .string x] w fun e w' => ∃ t, e = .returned (.string t) ∧ bl t = bl s ++ tx x ∧ Below w.heap.size w w' :=
  (rputText_any s x w (by omega) (by omega)).mono fun e w' ⟨he, hb⟩ => ⟨_, he, bl_txt s x, hb⟩
theorem sz_of {t s : ByteArray} {l : List UInt8} (h : bl t = bl s ++ l) : t.size = s.size + l.length := by rw [← bl_length, h, List.length_append, bl_length]
set_option maxHeartbeats 8000000 in
set_option maxRecDepth 100000 in
theorem rlaid10 (nd md ui gi : Nat) (mt : Int) (tg : ByteArray) (xs : List (ByteArray × ByteArray)) (ad : Option Addr) (n c : Nat) (w : World) (hX : XaL w ad xs) (hl : xs.length = n) (hu : ui < 4294967296) (hg : gi < 4294967296) (hok : okA ⟨nd, md, ui, gi, mt, tg, xs⟩ = true) :
    Calls Tryd.prog 24 #[atV nd md ui gi mt tg (.slice ad n c)] w fun e w' => e = .returned (.string ⟨(lay ⟨nd, md, ui, gi, mt, tg, xs⟩).toArray⟩) ∧ Below w.heap.size w w' := by
  obtain ⟨k1, k2, k3, k4, k5⟩ := okA_out hok
  simp only at k1 k2 k3 k4 k5
  have HX : Hid (XaL w ad xs) := hX
  have HL : Hid (xs.length = n) := hl
  have hn16 : n ≤ 16 := by rw [← hl]; exact (xsB_out k5).1
  have htg : tg.size ≤ 1024 := tg_small k4
  have HS : Hid (∀ x ∈ xs, x.1.size ≤ 255 ∧ x.2.size ≤ 4096) := xs_small k5
  obtain ⟨m, rfl⟩ : ∃ m : Nat, mt = (m : Int) := ⟨mt.toNat, by omega⟩
  have hm : m ≤ 1099511627776 := by omega
  have hnd : nd < 256 := by omega
  have hmd : md ≤ 4095 := k2
  have q1 := e8_len md (by omega)
  have q2 := e8_len ui (by omega)
  have q3 := e8_len gi (by omega)
  have q4 := e8_len m (by omega)
  have q5 := e8_len n (by omega)
  have q6 := tx_len tg (by omega)
  have hcv := conv1 (w.alloc (.cells #[.int .u8 (nd : Int), .int .u32 (md : Int), .int .u32 (ui : Int), .int .u32 (gi : Int), .int .i64 (m : Int), .string tg, .slice ad n c] 25)) (nd : Int)
  obtain ⟨s0, hs0⟩ : ∃ s0, strOfNums [(nd : Int)] = s0 := ⟨_, rfl⟩
  have hb0 : bl s0 = [UInt8.ofNat nd] := by rw [← hs0, one_is nd _ rfl]; rfl
  have hz0 : s0.size = 1 := by rw [← bl_length, hb0]; rfl
  rw [hs0, al_size] at hcv
  have HB0 : Hid (bl s0 = [UInt8.ofNat nd]) := hb0
  have BA : Hid (Bk ((w.alloc (.cells #[.int .u8 (nd : Int), .int .u32 (md : Int), .int .u32 (ui : Int), .int .u32 (gi : Int), .int .i64 (m : Int), .string tg, .slice ad n c] 25)).alloc (.cells #[.int .u8 (nd : Int)] 5)) w.heap.size #[.int .u8 (nd : Int), .int .u32 (md : Int), .int .u32 (ui : Int), .int .u32 (gi : Int), .int .i64 (m : Int), .string tg, .slice ad n c] 25) := (bk_new _ _ _).alloc _
  have BE : Hid (Below w.heap.size w ((w.alloc (.cells #[.int .u8 (nd : Int), .int .u32 (md : Int), .int .u32 (ui : Int), .int .u32 (gi : Int), .int .i64 (m : Int), .string tg, .slice ad n c] 25)).alloc (.cells #[.int .u8 (nd : Int)] 5))) := ((Below.refl _ _).alloc (Nat.le_refl _) _).alloc (by simp) _
  clear hX hok k1 k2 k3 k4 k5 hl hs0 hb0
  go_enter Tryd.func24, Tryd.ntmps24
  go_wp2_with fail
  refine (rput_nat s0 md _ (by omega) (by omega)).mono ?_
  rintro e w1 ⟨s1, rfl, hs, hb⟩
  have BA1 : Hid (Bk w1 w.heap.size #[.int .u8 (nd : Int), .int .u32 (md : Int), .int .u32 (ui : Int), .int .u32 (gi : Int), .int .i64 (m : Int), .string tg, .slice ad n c] 25) := BA.out.below hb BA.out.lt
  have BE1 : Hid (Below w.heap.size w w1) := BE.out.trans (hb.mono BE.out.size)
  have hz1 := sz_of hs
  have HB1 : Hid (bl s1 = [UInt8.ofNat nd] ++ e8 md) := by rw [HB0.out] at hs; exact hs
  have c1 : w1.cell? ⟨w.heap.size, 2, none⟩ = some (.int .u32 (ui : Int)) := by rw [BA1.out.cell]; rfl
  clear hs hb
  go_wp2_with fail
  refine (rput_nat s1 ui _ (by omega) (by omega)).mono ?_
  rintro e w2 ⟨s2, rfl, hs, hb⟩
  have BA2 : Hid (Bk w2 w.heap.size #[.int .u8 (nd : Int), .int .u32 (md : Int), .int .u32 (ui : Int), .int .u32 (gi : Int), .int .i64 (m : Int), .string tg, .slice ad n c] 25) := BA1.out.below hb BA1.out.lt
  have BE2 : Hid (Below w.heap.size w w2) := BE1.out.trans (hb.mono BE1.out.size)
  have hz2 := sz_of hs
  have HB2 : Hid (bl s2 = [UInt8.ofNat nd] ++ e8 md ++ e8 ui) := by rw [HB1.out] at hs; exact hs
  have c2 : w2.cell? ⟨w.heap.size, 3, none⟩ = some (.int .u32 (gi : Int)) := by rw [BA2.out.cell]; rfl
  clear hs hb
  go_wp2_with fail
  refine (rput_nat s2 gi _ (by omega) (by omega)).mono ?_
  rintro e w3 ⟨s3, rfl, hs, hb⟩
  have BA3 : Hid (Bk w3 w.heap.size #[.int .u8 (nd : Int), .int .u32 (md : Int), .int .u32 (ui : Int), .int .u32 (gi : Int), .int .i64 (m : Int), .string tg, .slice ad n c] 25) := BA2.out.below hb BA2.out.lt
  have BE3 : Hid (Below w.heap.size w w3) := BE2.out.trans (hb.mono BE2.out.size)
  have hz3 := sz_of hs
  have HB3 : Hid (bl s3 = [UInt8.ofNat nd] ++ e8 md ++ e8 ui ++ e8 gi) := by rw [HB2.out] at hs; exact hs
  have c3 : w3.cell? ⟨w.heap.size, 4, none⟩ = some (.int .i64 (m : Int)) := by rw [BA3.out.cell]; rfl
  clear hs hb
  go_wp2_with fail
  refine (rput_nat s3 m _ (by omega) (by omega)).mono ?_
  rintro e w4 ⟨s4, rfl, hs, hb⟩
  have BA4 : Hid (Bk w4 w.heap.size #[.int .u8 (nd : Int), .int .u32 (md : Int), .int .u32 (ui : Int), .int .u32 (gi : Int), .int .i64 (m : Int), .string tg, .slice ad n c] 25) := BA3.out.below hb BA3.out.lt
  have BE4 : Hid (Below w.heap.size w w4) := BE3.out.trans (hb.mono BE3.out.size)
  have hz4 := sz_of hs
  have HB4 : Hid (bl s4 = [UInt8.ofNat nd] ++ e8 md ++ e8 ui ++ e8 gi ++ e8 m) := by rw [HB3.out] at hs; exact hs
  have c4 : w4.cell? ⟨w.heap.size, 0, none⟩ = some (.int .u8 (nd : Int)) := by rw [BA4.out.cell]; rfl
  clear hs hb
  by_cases h3 : nd = 3
  · have h3z : ((nd : Int) == 3) = true := by simp [h3]
    have H3 : Hid (nd = 3) := h3
    clear h3
    have c4b : w4.cell? ⟨w.heap.size, 5, none⟩ = some (.string tg) := by rw [BA4.out.cell]; rfl
    go_wp2_with fail
    refine (rtxt_nat s4 tg _ (by omega) (by omega)).mono ?_
    rintro e w5 ⟨s5, rfl, hs, hb⟩
    have BA5 : Hid (Bk w5 w.heap.size #[.int .u8 (nd : Int), .int .u32 (md : Int), .int .u32 (ui : Int), .int .u32 (gi : Int), .int .i64 (m : Int), .string tg, .slice ad n c] 25) := BA4.out.below hb BA4.out.lt
    have BE5 : Hid (Below w.heap.size w w5) := BE4.out.trans (hb.mono BE4.out.size)
    have hz5 := sz_of hs
    have HB5 : Hid (bl s5 = [UInt8.ofNat nd] ++ e8 md ++ e8 ui ++ e8 gi ++ e8 m ++ tx tg) := by rw [HB4.out] at hs; exact hs
    clear hs hb c4b
    have c5b : w5.cell? ⟨w.heap.size, 6, none⟩ = some (.slice ad n c) := by rw [BA5.out.cell]; rfl
    go_wp2_with fail
    refine (rput_nat s5 n _ (by omega) (by omega)).mono ?_
    rintro e w6 ⟨s6, rfl, hs, hb⟩
    have BA6 : Hid (Bk w6 w.heap.size #[.int .u8 (nd : Int), .int .u32 (md : Int), .int .u32 (ui : Int), .int .u32 (gi : Int), .int .i64 (m : Int), .string tg, .slice ad n c] 25) := BA5.out.below hb BA5.out.lt
    have BE6 : Hid (Below w.heap.size w w6) := BE5.out.trans (hb.mono BE5.out.size)
    have hz6 := sz_of hs
    obtain ⟨p, hp⟩ : ∃ p, [UInt8.ofNat nd] ++ e8 md ++ e8 ui ++ e8 gi ++ e8 m ++ tx tg ++ e8 n = p := ⟨_, rfl⟩
    have HB6 : Hid (bl s6 = p ++ xsL (xs.take 0)) := by
      rw [HB5.out, hp] at hs
      show _ = _
      rw [hs]; simp [xsL]
    have HP : Hid (lay ⟨nd, md, ui, gi, (m : Int), tg, xs⟩ = p ++ xsL xs) := by show _ = _; rw [← hp]; simp [lay, ltg, H3.out, HL.out]
    have hpl : p.length ≤ 10000 := by rw [← hp]; simp only [List.length_append, List.length_cons, List.length_nil]; omega
    clear hs hb hp c5b
    go_wp2
    go_loopw [3, 4] (fun v3 v4 wr => ∃ (i : Nat) (s : ByteArray), v3 = .string s ∧ v4 = .int .i64 i ∧ i ≤ n ∧ Hid (Bk wr w.heap.size #[.int .u8 (nd : Int), .int .u32 (md : Int), .int .u32 (ui : Int), .int .u32 (gi : Int), .int .i64 (m : Int), .string tg, .slice ad n c] 25) ∧ Hid (Below w.heap.size w wr) ∧ Hid (bl s = p ++ xsL (xs.take i))) (fun _ v4 _ => n - (intOf v4).toNat)
    case atStart => exact ⟨0, s6, rfl, rfl, Nat.zero_le _, BA6.out, BE6.out, HB6.out⟩
    case round =>
      obtain ⟨i, s, rfl, rfl, hi, BK, HB, HS2⟩ := hrel
      have a6 : wr.cell? ⟨w.heap.size, 6, none⟩ = some (.slice ad n c) := by rw [BK.out.cell]; rfl
      have hba := BK.out.lt
      by_cases hlt : i < n
      · have hiz : (i : Int) < (n : Nat) := by omega
        obtain ⟨x, hx⟩ : ∃ x, xs[i]? = some x := ⟨xs[i]'(by rw [HL.out]; exact hlt), List.getElem?_eq_getElem _⟩
        obtain ⟨g, o, rfl, hg2, hc1, hc2, _, _⟩ := HX.out.below HB.out i x hx
        have hxs := HS.out x (List.mem_of_getElem? hx)
        have HTK : Hid (xsL (xs.take (i + 1)) = xsL (xs.take i) ++ tx x.1 ++ tx x.2) := by
          show _ = _
          rw [List.take_add_one, hx, Option.toList_some, xsL_app, xsL_one, List.append_assoc]
        have hlen : s.size ≤ 80000 := by
          have h1 := xsL_len (xs.take i) (fun y hy => HS.out y (List.mem_of_mem_take hy))
          have h2 : (xs.take i).length ≤ 16 := by rw [List.length_take]; omega
          rw [← bl_length, HS2.out, List.length_append]
          omega
        obtain ⟨x1, x2⟩ := x
        simp only at hc1 hc2 hxs HTK
        have q7 := tx_len x1 (by omega)
        have CP1 : Hid (Calls Tryd.prog 48 #[.string s, .string x1] wr.drew fun e w' => ∃ t, e = .returned (.string t) ∧ Hid (bl t = bl s ++ tx x1 ∧ Below wr.heap.size wr w') ∧ t.size ≤ 90000 ∧ w'.cell? ⟨w.heap.size, 6, none⟩ = some (.slice (some ⟨g, o, none⟩) n c) ∧ w'.cell? ⟨g, o + i * 2, none⟩ = some (.string x1) ∧ w'.cell? ⟨g, o + i * 2 + 1, none⟩ = some (.string x2)) := by
          refine (rtxt_nat s x1 wr.drew (by omega) (by omega)).mono ?_
          rintro e w' ⟨t, rfl, ht, hb⟩
          have hb' : Below wr.heap.size wr w' := (Below.refl _ _).drew.trans hb
          have := sz_of ht
          exact ⟨t, rfl, ⟨ht, hb'⟩, by omega, by rw [hb'.cell (p := ⟨w.heap.size, 6, none⟩) hba]; exact a6, by rw [hb'.cell (p := ⟨g, o + i * 2, none⟩) hg2]; exact hc1, by rw [hb'.cell (p := ⟨g, o + i * 2 + 1, none⟩) hg2]; exact hc2⟩
        have CP2 : Hid (∀ (t : ByteArray) (u : World), Below wr.heap.size wr u → t.size ≤ 90000 → Calls Tryd.prog 48 #[.string t, .string x2] u fun e w' => ∃ t2, e = .returned (.string t2) ∧ Hid (bl t2 = bl t ++ tx x2 ∧ Below wr.heap.size wr w') ∧ w'.cell? ⟨w.heap.size, 6, none⟩ = some (.slice (some ⟨g, o, none⟩) n c) ∧ w'.cell? ⟨g, o + i * 2, none⟩ = some (.string x1) ∧ w'.cell? ⟨g, o + i * 2 + 1, none⟩ = some (.string x2)) := fun t u hu htz => by
          refine (rtxt_nat t x2 u (by omega) (by omega)).mono ?_
          rintro e w' ⟨t2, rfl, ht, hb⟩
          have hb' : Below wr.heap.size wr w' := hu.trans (hb.mono hu.size)
          exact ⟨t2, rfl, ⟨ht, hb'⟩, by rw [hb'.cell (p := ⟨w.heap.size, 6, none⟩) hba]; exact a6, by rw [hb'.cell (p := ⟨g, o + i * 2, none⟩) hg2]; exact hc1, by rw [hb'.cell (p := ⟨g, o + i * 2 + 1, none⟩) hg2]; exact hc2⟩
        clear hx
        go_wp2
        go_region_held3 (fun w' => w'.cell? ⟨w.heap.size, 6, none⟩ = some (.slice (some ⟨g, o, none⟩) n c) ∧ w'.cell? ⟨g, o + i * 2, none⟩ = some (.string x1) ∧ w'.cell? ⟨g, o + i * 2 + 1, none⟩ = some (.string x2)) (go_keep) (first
          | (go_at_call 48; refine (CP2.out t7 _ H7.out.2 hz7).mono ?_; rintro e w8 ⟨t8, rfl, H8, y4, y5, y6⟩)
          | (go_at_call 48; refine CP1.out.mono ?_; rintro e w7 ⟨t7, rfl, H7, hz7, y1, y2, y3⟩))
        all_goals (first | go_wp2 | skip)
        all_goals go_roundw
        all_goals first
          | (case rel => exact ⟨i + 1, t8, rfl, by go_num, by omega, BK.out.below H8.out.2 BK.out.lt, HB.out.trans (H8.out.2.mono HB.out.size), by (show _ = _; rw [H8.out.1, H7.out.1, HS2.out, HTK.out]; simp)⟩)
          | (case measure => simp [intOf]; omega)
      · have hiz : ¬ (i : Int) < (n : Nat) := by omega
        have HE : Hid (s = ⟨(lay ⟨nd, md, ui, gi, (m : Int), tg, xs⟩).toArray⟩) := bl_inj (by
          rw [HS2.out, List.take_of_length_le (by rw [HL.out]; omega), ← HP.out]; rfl)
        go_wp2
        go_ret
        exact ⟨by rw [← HE.out]; rfl, HB.out⟩
  · have h3z : ((nd : Int) == 3) = false := by simp; omega
    have H3 : Hid (¬ nd = 3) := h3
    clear h3
    have c4b : w4.cell? ⟨w.heap.size, 6, none⟩ = some (.slice ad n c) := by rw [BA4.out.cell]; rfl
    go_wp2_with fail
    refine (rput_nat s4 n _ (by omega) (by omega)).mono ?_
    rintro e w6 ⟨s6, rfl, hs, hb⟩
    have BA6 : Hid (Bk w6 w.heap.size #[.int .u8 (nd : Int), .int .u32 (md : Int), .int .u32 (ui : Int), .int .u32 (gi : Int), .int .i64 (m : Int), .string tg, .slice ad n c] 25) := BA4.out.below hb BA4.out.lt
    have BE6 : Hid (Below w.heap.size w w6) := BE4.out.trans (hb.mono BE4.out.size)
    have hz6 := sz_of hs
    obtain ⟨p, hp⟩ : ∃ p, [UInt8.ofNat nd] ++ e8 md ++ e8 ui ++ e8 gi ++ e8 m ++ e8 n = p := ⟨_, rfl⟩
    have HB6 : Hid (bl s6 = p ++ xsL (xs.take 0)) := by
      rw [HB4.out, hp] at hs
      show _ = _
      rw [hs]; simp [xsL]
    have HP : Hid (lay ⟨nd, md, ui, gi, (m : Int), tg, xs⟩ = p ++ xsL xs) := by show _ = _; rw [← hp]; simp [lay, ltg, H3.out, HL.out]
    have hpl : p.length ≤ 10000 := by rw [← hp]; simp only [List.length_append, List.length_cons, List.length_nil]; omega
    clear hs hb hp c4b
    go_wp2
    go_loopw [3, 4] (fun v3 v4 wr => ∃ (i : Nat) (s : ByteArray), v3 = .string s ∧ v4 = .int .i64 i ∧ i ≤ n ∧ Hid (Bk wr w.heap.size #[.int .u8 (nd : Int), .int .u32 (md : Int), .int .u32 (ui : Int), .int .u32 (gi : Int), .int .i64 (m : Int), .string tg, .slice ad n c] 25) ∧ Hid (Below w.heap.size w wr) ∧ Hid (bl s = p ++ xsL (xs.take i))) (fun _ v4 _ => n - (intOf v4).toNat)
    case atStart => exact ⟨0, s6, rfl, rfl, Nat.zero_le _, BA6.out, BE6.out, HB6.out⟩
    case round =>
      obtain ⟨i, s, rfl, rfl, hi, BK, HB, HS2⟩ := hrel
      have a6 : wr.cell? ⟨w.heap.size, 6, none⟩ = some (.slice ad n c) := by rw [BK.out.cell]; rfl
      have hba := BK.out.lt
      by_cases hlt : i < n
      · have hiz : (i : Int) < (n : Nat) := by omega
        obtain ⟨x, hx⟩ : ∃ x, xs[i]? = some x := ⟨xs[i]'(by rw [HL.out]; exact hlt), List.getElem?_eq_getElem _⟩
        obtain ⟨g, o, rfl, hg2, hc1, hc2, _, _⟩ := HX.out.below HB.out i x hx
        have hxs := HS.out x (List.mem_of_getElem? hx)
        have HTK : Hid (xsL (xs.take (i + 1)) = xsL (xs.take i) ++ tx x.1 ++ tx x.2) := by
          show _ = _
          rw [List.take_add_one, hx, Option.toList_some, xsL_app, xsL_one, List.append_assoc]
        have hlen : s.size ≤ 80000 := by
          have h1 := xsL_len (xs.take i) (fun y hy => HS.out y (List.mem_of_mem_take hy))
          have h2 : (xs.take i).length ≤ 16 := by rw [List.length_take]; omega
          rw [← bl_length, HS2.out, List.length_append]
          omega
        obtain ⟨x1, x2⟩ := x
        simp only at hc1 hc2 hxs HTK
        have q7 := tx_len x1 (by omega)
        have CP1 : Hid (Calls Tryd.prog 48 #[.string s, .string x1] wr.drew fun e w' => ∃ t, e = .returned (.string t) ∧ Hid (bl t = bl s ++ tx x1 ∧ Below wr.heap.size wr w') ∧ t.size ≤ 90000 ∧ w'.cell? ⟨w.heap.size, 6, none⟩ = some (.slice (some ⟨g, o, none⟩) n c) ∧ w'.cell? ⟨g, o + i * 2, none⟩ = some (.string x1) ∧ w'.cell? ⟨g, o + i * 2 + 1, none⟩ = some (.string x2)) := by
          refine (rtxt_nat s x1 wr.drew (by omega) (by omega)).mono ?_
          rintro e w' ⟨t, rfl, ht, hb⟩
          have hb' : Below wr.heap.size wr w' := (Below.refl _ _).drew.trans hb
          have := sz_of ht
          exact ⟨t, rfl, ⟨ht, hb'⟩, by omega, by rw [hb'.cell (p := ⟨w.heap.size, 6, none⟩) hba]; exact a6, by rw [hb'.cell (p := ⟨g, o + i * 2, none⟩) hg2]; exact hc1, by rw [hb'.cell (p := ⟨g, o + i * 2 + 1, none⟩) hg2]; exact hc2⟩
        have CP2 : Hid (∀ (t : ByteArray) (u : World), Below wr.heap.size wr u → t.size ≤ 90000 → Calls Tryd.prog 48 #[.string t, .string x2] u fun e w' => ∃ t2, e = .returned (.string t2) ∧ Hid (bl t2 = bl t ++ tx x2 ∧ Below wr.heap.size wr w') ∧ w'.cell? ⟨w.heap.size, 6, none⟩ = some (.slice (some ⟨g, o, none⟩) n c) ∧ w'.cell? ⟨g, o + i * 2, none⟩ = some (.string x1) ∧ w'.cell? ⟨g, o + i * 2 + 1, none⟩ = some (.string x2)) := fun t u hu htz => by
          refine (rtxt_nat t x2 u (by omega) (by omega)).mono ?_
          rintro e w' ⟨t2, rfl, ht, hb⟩
          have hb' : Below wr.heap.size wr w' := hu.trans (hb.mono hu.size)
          exact ⟨t2, rfl, ⟨ht, hb'⟩, by rw [hb'.cell (p := ⟨w.heap.size, 6, none⟩) hba]; exact a6, by rw [hb'.cell (p := ⟨g, o + i * 2, none⟩) hg2]; exact hc1, by rw [hb'.cell (p := ⟨g, o + i * 2 + 1, none⟩) hg2]; exact hc2⟩
        clear hx
        go_wp2
        go_region_held3 (fun w' => w'.cell? ⟨w.heap.size, 6, none⟩ = some (.slice (some ⟨g, o, none⟩) n c) ∧ w'.cell? ⟨g, o + i * 2, none⟩ = some (.string x1) ∧ w'.cell? ⟨g, o + i * 2 + 1, none⟩ = some (.string x2)) (go_keep) (first
          | (go_at_call 48; refine (CP2.out t7 _ H7.out.2 hz7).mono ?_; rintro e w8 ⟨t8, rfl, H8, y4, y5, y6⟩)
          | (go_at_call 48; refine CP1.out.mono ?_; rintro e w7 ⟨t7, rfl, H7, hz7, y1, y2, y3⟩))
        all_goals (first | go_wp2 | skip)
        all_goals go_roundw
        all_goals first
          | (case rel => exact ⟨i + 1, t8, rfl, by go_num, by omega, BK.out.below H8.out.2 BK.out.lt, HB.out.trans (H8.out.2.mono HB.out.size), by (show _ = _; rw [H8.out.1, H7.out.1, HS2.out, HTK.out]; simp)⟩)
          | (case measure => simp [intOf]; omega)
      · have hiz : ¬ (i : Int) < (n : Nat) := by omega
        have HE : Hid (s = ⟨(lay ⟨nd, md, ui, gi, (m : Int), tg, xs⟩).toArray⟩) := bl_inj (by
          rw [HS2.out, List.take_of_length_le (by rw [HL.out]; omega), ← HP.out]; rfl)
        go_wp2
        go_ret
        exact ⟨by rw [← HE.out]; rfl, HB.out⟩
end Go.Proofs.YtcfniaknbbgheaaDoor
/- slices.Equal of extended attributes; attrs.Same. -/
namespace Go.Proofs.YtcfniaknbbgheaaDoor
open Go.RowKit
set_option linter.unusedSimpArgs false
set_option linter.unusedVariables false
theorem toL_eq (x y : ByteArray) : (x.toList == y.toList) = decide (x = y) := by
  rw [Lib.toList_data, Lib.toList_data]
  by_cases h : x = y
  · subst h; simp
  · rw [decide_eq_false h]
    simp only [beq_eq_false_iff_ne, ne_eq]
    intro e
    exact h (bl_inj e)
set_option maxHeartbeats 2000000 in
set_option maxRecDepth 100000 in
theorem equal10 (a b : Option Addr) (ca cb : Nat) (xs ys : List (ByteArray × ByteArray)) (w : World) (hx : XaL w a xs) (hy : XaL w b ys) (nx : xs.length ≤ 4611686018427387904) (ny : ys.length ≤ 4611686018427387904) :
    Calls Tryd.prog 40 #[.slice a xs.length ca, .slice b ys.length cb] w fun e w' => e = .returned (.bool (decide (xs = ys))) ∧ Below w.heap.size w w' := by
  have HX : Hid (XaL w a xs) := hx
  have HY : Hid (XaL w b ys) := hy
  clear hx hy
  by_cases hl : xs.length = ys.length
  · obtain ⟨n, hn⟩ : ∃ n, xs.length = n := ⟨_, rfl⟩
    have hn2 : ys.length = n := by omega
    have HL : Hid (xs.length = n ∧ ys.length = n) := ⟨hn, hn2⟩
    rw [hn, hn2]
    have hnn : n ≤ 4611686018427387904 := by omega
    clear hn hn2 hl nx ny
    go_enter Tryd.func40, Tryd.ntmps40
    go_wp2
    go_loopw [13] (fun v wr => ∃ k : Nat, v = .int .i64 k ∧ k ≤ n ∧ Hid (Below w.heap.size w wr) ∧ Hid (∀ i, i < k → xs[i]? = ys[i]?)) (fun v _ => n - (intOf v).toNat)
    case atStart => exact ⟨0, rfl, Nat.zero_le _, Below.refl _ _, fun i hi => by omega⟩
    case round =>
      obtain ⟨k, rfl, hk, HB, HE⟩ := hrel
      by_cases hlt : k < n
      · obtain ⟨x, hx⟩ : ∃ x, xs[k]? = some x := ⟨xs[k]'(by rw [HL.out.1]; exact hlt), List.getElem?_eq_getElem _⟩
        obtain ⟨y, hy⟩ : ∃ y, ys[k]? = some y := ⟨ys[k]'(by rw [HL.out.2]; exact hlt), List.getElem?_eq_getElem _⟩
        obtain ⟨g, o, rfl, hg, hc1, hc2, _, _⟩ := HX.out.below HB.out k x hx
        obtain ⟨g2, o2, rfl, hg2, hd1, hd2, _, _⟩ := HY.out.below HB.out k y hy
        obtain ⟨x1, x2⟩ := x
        obtain ⟨y1, y2⟩ := y
        simp only at hc1 hc2 hd1 hd2
        have H1 : Hid (xs[k]? = some (x1, x2) ∧ ys[k]? = some (y1, y2)) := ⟨hx, hy⟩
        clear hx hy
        have hkz : (k : Int) < (n : Nat) := by omega
        have t1 := toL_eq x1 y1
        have t2 := toL_eq x2 y2
        by_cases he : x1 = y1 ∧ x2 = y2
        · obtain ⟨rfl, rfl⟩ := he
          simp only [decide_true] at t1 t2
          go_wp2
          go_quiet (fail)
          go_wp2
          go_roundw
          case rel =>
            refine ⟨k + 1, by go_num, by omega, below_drewN HB.out _, fun i hi => ?_⟩
            by_cases hik : i < k
            · exact HE.out i hik
            · obtain rfl : i = k := by omega
              rw [H1.out.1, H1.out.2]
          case measure => simp [intOf]; omega
        · have hfin : Hid (decide (xs = ys) = false) := decide_eq_false fun e => he (by
            have := H1.out
            rw [e] at this
            have q := Option.some.inj (this.1.symm.trans this.2)
            exact ⟨congrArg Prod.fst q, congrArg Prod.snd q⟩)
          by_cases h1 : x1 = y1
          · subst h1
            have h2 : ¬ x2 = y2 := fun h => he ⟨rfl, h⟩
            simp only [decide_true] at t1
            simp only [h2, decide_false] at t2
            clear he
            go_wp2
            go_quiet (fail)
            go_wp2
            go_ret
            exact ⟨retB hfin.out.symm, below_drewN HB.out _⟩
          · simp only [h1, decide_false] at t1
            clear he
            go_wp2
            go_quiet (fail)
            go_wp2
            go_ret
            exact ⟨retB hfin.out.symm, below_drewN HB.out _⟩
      · have hkz : ¬ (k : Int) < (n : Nat) := by omega
        go_wp2
        go_ret
        refine ⟨retB (Eq.symm (decide_eq_true (List.ext_getElem? fun i => ?_))), HB.out⟩
        by_cases hi : i < n
        · exact HE.out i (by omega)
        · rw [List.getElem?_eq_none (by rw [HL.out.1]; omega), List.getElem?_eq_none (by rw [HL.out.2]; omega)]
  · have hz : ((xs.length : Int) != (ys.length : Int)) = true := by simp; omega
    have hd : decide (xs = ys) = false := decide_eq_false fun e => hl (by rw [e])
    rw [hd]
    clear hd HX HY
    go_enter Tryd.func40, Tryd.ntmps40
    go_wp2
    go_ret
    exact ⟨rfl, Below.refl _ _⟩
/-- Are two the same? -/
def smB (a b : At) : Bool := decide (a.nd = b.nd) && (decide (a.md = b.md) && (decide (a.ui = b.ui) && (decide (a.gi = b.gi) && (decide (a.mt = b.mt) && (decide (a.tg = b.tg) && decide (a.xs = b.xs))))))
theorem smB_iff (a b : At) : smB a b = true ↔ a = b := by
  unfold smB
  simp only [Bool.and_eq_true, decide_eq_true_eq]
  cases a; cases b
  simp
theorem smB_eq (a b : At) [Decidable (a = b)] : smB a b = decide (a = b) := by
  cases h : smB a b with
  | true => rw [decide_eq_true ((smB_iff a b).1 h)]
  | false =>
    rw [decide_eq_false fun e => ?_]
    have := (smB_iff a b).2 e
    rw [h] at this; cases this
set_option maxHeartbeats 8000000 in
set_option maxRecDepth 100000 in
theorem same10 (nd md ui gi : Nat) (mt : Int) (tg : ByteArray) (xs : List (ByteArray × ByteArray)) (ad : Option Addr) (c : Nat) (nd' md' ui' gi' : Nat) (mt' : Int) (tg' : ByteArray) (ys : List (ByteArray × ByteArray)) (bd : Option Addr) (d : Nat) (w : World)
    (hx : XaL w ad xs) (hy : XaL w bd ys) (nx : xs.length ≤ 4611686018427387904) (ny : ys.length ≤ 4611686018427387904) :
    Calls Tryd.prog 16 #[atV nd md ui gi mt tg (.slice ad xs.length c), atV nd' md' ui' gi' mt' tg' (.slice bd ys.length d)] w fun e w' => e = .returned (.bool (smB ⟨nd, md, ui, gi, mt, tg, xs⟩ ⟨nd', md', ui', gi', mt', tg', ys⟩)) ∧ Below w.heap.size w w' := by
  obtain ⟨b1, h1⟩ : ∃ q, decide (nd = nd') = q := ⟨_, rfl⟩
  obtain ⟨b2, h2⟩ : ∃ q, decide (md = md') = q := ⟨_, rfl⟩
  obtain ⟨b3, h3⟩ : ∃ q, decide (ui = ui') = q := ⟨_, rfl⟩
  obtain ⟨b4, h4⟩ : ∃ q, decide (gi = gi') = q := ⟨_, rfl⟩
  obtain ⟨b5, h5⟩ : ∃ q, decide (mt = mt') = q := ⟨_, rfl⟩
  obtain ⟨b6, h6⟩ : ∃ q, decide (tg = tg') = q := ⟨_, rfl⟩
  obtain ⟨b7, h7⟩ : ∃ q, decide (xs = ys) = q := ⟨_, rfl⟩
  have hE : smB ⟨nd, md, ui, gi, mt, tg, xs⟩ ⟨nd', md', ui', gi', mt', tg', ys⟩ = (b1 && (b2 && (b3 && (b4 && (b5 && (b6 && b7)))))) := by unfold smB; rw [h1, h2, h3, h4, h5, h6, h7]
  have z1 : ((nd : Int) == nd') = b1 := by rw [← h1]; rw [Bool.eq_iff_iff]; simp; omega
  have z2 : ((md : Int) == md') = b2 := by rw [← h2]; rw [Bool.eq_iff_iff]; simp; omega
  have z3 : ((ui : Int) == ui') = b3 := by rw [← h3]; rw [Bool.eq_iff_iff]; simp; omega
  have z4 : ((gi : Int) == gi') = b4 := by rw [← h4]; rw [Bool.eq_iff_iff]; simp; omega
  have z5 : (mt == mt') = b5 := by rw [← h5]; rw [Bool.eq_iff_iff]; simp
  have z6 : (tg.toList == tg'.toList) = b6 := by rw [toL_eq, h6]
  have C1 : Hid (∀ u, Below w.heap.size w u → Calls Tryd.prog 40 #[.slice ad xs.length c, .slice bd ys.length d] u fun e w' => e = .returned (.bool b7) ∧ Below u.heap.size u w') := fun u hu => h7 ▸ equal10 ad bd c d xs ys u (hx.below hu) (hy.below hu) nx ny
  rw [hE]
  clear hE h1 h2 h3 h4 h5 h6 h7 hx hy
  cases b1
  · go_enter Tryd.func16, Tryd.ntmps16
    go_wp2
    go_ret
    exact ⟨rfl, ((Below.refl _ _).alloc (Nat.le_refl _) _).alloc (by simp) _⟩
  cases b2
  · go_enter Tryd.func16, Tryd.ntmps16
    go_wp2
    go_ret
    exact ⟨rfl, ((Below.refl _ _).alloc (Nat.le_refl _) _).alloc (by simp) _⟩
  cases b3
  · go_enter Tryd.func16, Tryd.ntmps16
    go_wp2
    go_ret
    exact ⟨rfl, ((Below.refl _ _).alloc (Nat.le_refl _) _).alloc (by simp) _⟩
  cases b4
  · go_enter Tryd.func16, Tryd.ntmps16
    go_wp2
    go_ret
    exact ⟨rfl, ((Below.refl _ _).alloc (Nat.le_refl _) _).alloc (by simp) _⟩
  cases b5
  · go_enter Tryd.func16, Tryd.ntmps16
    go_wp2
    go_ret
    exact ⟨rfl, ((Below.refl _ _).alloc (Nat.le_refl _) _).alloc (by simp) _⟩
  cases b6
  · go_enter Tryd.func16, Tryd.ntmps16
    go_wp2
    go_ret
    exact ⟨rfl, ((Below.refl _ _).alloc (Nat.le_refl _) _).alloc (by simp) _⟩
  · go_enter Tryd.func16, Tryd.ntmps16
    go_wp2_with fail
    refine (C1.out _ (((Below.refl _ _).alloc (Nat.le_refl _) _).alloc (by simp) _)).mono ?_
    rintro e w1 ⟨rfl, hb⟩
    have HB : Hid (Below w.heap.size w w1) := (((Below.refl _ _).alloc (Nat.le_refl _) _).alloc (by simp) _).trans (hb.mono (by simp; omega))
    clear hb
    go_wp2
    go_ret
    exact ⟨rfl, HB.out⟩
end Go.Proofs.YtcfniaknbbgheaaDoor
