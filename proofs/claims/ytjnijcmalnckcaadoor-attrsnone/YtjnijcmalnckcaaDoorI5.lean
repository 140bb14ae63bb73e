/- attrs.Put. -/
import Derived.Test.YtjnijcmalnckcaaDoorI4
namespace Go.Proofs.YtjnijcmalnckcaaDoor
open Go.RowKit
set_option linter.unusedSimpArgs false
set_option linter.unusedVariables false
/-- What Put answers. -/
def pte (a : At) : Int := if okA a = true then 0 else 1
def ptl (a : At) : List UInt8 := if okA a = true then lay a else []
set_option maxHeartbeats 4000000 in
set_option maxRecDepth 100000 in
theorem aput_no (nd md ui gi : Nat) (mt : Int) (tg : ByteArray) (xs : List (ByteArray × ByteArray)) (ad : Option Addr) (n c : Nat) (w : World) (hX : XaL w ad xs) (hl : xs.length = n) (hn : n ≤ 4611686018427387904) (ht : tg.size ≤ 140737488351232) (hT : U8 w) (hok : okA ⟨nd, md, ui, gi, mt, tg, xs⟩ = false) :
    Calls Tryd.prog 8 #[atV nd md ui gi mt tg (.slice ad n c)] w fun e w' => e = .returned (.tuple #[.string ⟨#[]⟩, .int .i64 1]) ∧ Below w.heap.size w w' := by
  have C1 : Hid (∀ u, Below w.heap.size w u → Calls Tryd.prog 16 #[atV nd md ui gi mt tg (.slice ad n c)] u fun e w' => e = .returned (.int .i64 1) ∧ Below u.heap.size u w') := fun u hu => by
    have := acheck_any nd md ui gi mt tg xs ad n c u (hX.below hu) hl hn ht (hT.below hu)
    unfold ckE at this
    rw [hok] at this
    exact this
  clear hX hT hok
  go_enter Tryd.func8, Tryd.ntmps8
  go_wp2_with fail
  refine (C1.out _ ((Below.refl _ _).alloc (Nat.le_refl _) _)).mono ?_
  rintro e w1 ⟨rfl, hb⟩
  have HB : Hid (Below w.heap.size w w1) := ((Below.refl _ _).alloc (Nat.le_refl _) _).trans (hb.mono (by simp))
  clear hb
  go_wp2
  go_ret2
  exact ⟨rfl, HB.out⟩
set_option maxHeartbeats 8000000 in
set_option maxRecDepth 100000 in
theorem aput_yes (nd md ui gi : Nat) (mt : Int) (tg : ByteArray) (xs : List (ByteArray × ByteArray)) (ad : Option Addr) (n c : Nat) (w : World) (hX : XaL w ad xs) (hl : xs.length = n) (hn : n ≤ 4611686018427387904) (ht : tg.size ≤ 140737488351232) (hT : U8 w) (hu : ui < 4294967296) (hg : gi < 4294967296) (hok : okA ⟨nd, md, ui, gi, mt, tg, xs⟩ = true) :
    Calls Tryd.prog 8 #[atV nd md ui gi mt tg (.slice ad n c)] w fun e w' => e = .returned (.tuple #[.string ⟨(lay ⟨nd, md, ui, gi, mt, tg, xs⟩).toArray⟩, .int .i64 0]) ∧ Below w.heap.size w w' := by
  have C1 : Hid (∀ u, Below w.heap.size w u → Calls Tryd.prog 16 #[atV nd md ui gi mt tg (.slice ad n c)] u fun e w' => e = .returned (.int .i64 0) ∧ Below u.heap.size u w') := fun u hu => by
    have := acheck_any nd md ui gi mt tg xs ad n c u (hX.below hu) hl hn ht (hT.below hu)
    unfold ckE at this
    rw [hok] at this
    exact this
  obtain ⟨k1, k2, k3, k4, k5⟩ := okA_out hok
  simp only at k1 k2 k3 k4 k5
  have HX : Hid (XaL w ad xs) := hX
  have HL : Hid (xs.length = n) := hl
  have HK : Hid (xsB xs = true) := k5
  have hn16 : n ≤ 16 := by rw [← hl]; exact (xsB_out k5).1
  have htg : tg.size ≤ 1024 := tg_small k4
  have HS : Hid (∀ x ∈ xs, x.1.size ≤ 255 ∧ x.2.size ≤ 4096) := xs_small k5
  obtain ⟨m, rfl⟩ : ∃ m : Nat, mt = (m : Int) := ⟨mt.toNat, by omega⟩
  have hm : m ≤ 1099511627776 := by omega
  have hnd : nd < 256 := by omega
  have hmd : md ≤ 4095 := k2
  have q1 := e8_len md (by omega)
  have q2 := e8_len ui (by omega)
  have q3 := e8_len gi (by omega)
  have q4 := e8_len m (by omega)
  have q5 := e8_len n (by omega)
  have q6 := tx_len tg (by omega)
  clear hX hT hok k1 k2 k3 k4 k5 hl
  go_enter Tryd.func8, Tryd.ntmps8
  go_wp2_with fail
  refine (C1.out _ ((Below.refl _ _).alloc (Nat.le_refl _) _)).mono ?_
  rintro e w1 ⟨rfl, hb⟩
  have HB : Hid (Below w.heap.size w w1) := ((Below.refl _ _).alloc (Nat.le_refl _) _).trans (hb.mono (by simp))
  have HA : Hid (Bk w1 w.heap.size #[.int .u8 (nd : Int), .int .u32 (md : Int), .int .u32 (ui : Int), .int .u32 (gi : Int), .int .i64 (m : Int), .string tg, .slice ad n c] 28) := (bk_new w _ _).below hb (by simp)
  have hz : w.heap.size < w1.heap.size := Nat.lt_of_lt_of_le (by simp) hb.size
  clear hb C1
  go_wp2_with fail
  refine (putter_any _ _).mono ?_
  rintro e w2 ⟨rfl, hw2⟩
  have P2 : Hid (PS w1 w1.heap.size w1.heap.size (w1.heap.size + 1) [] w2) := by rw [hw2]; exact PS.begin w1
  have HC : Hid (∀ pre u, PS w1 w1.heap.size w1.heap.size (w1.heap.size + 1) pre u → Bk u w.heap.size #[.int .u8 (nd : Int), .int .u32 (md : Int), .int .u32 (ui : Int), .int .u32 (gi : Int), .int .i64 (m : Int), .string tg, .slice ad n c] 28) := fun pre u hu => HA.out.below hu.bel hz
  rw [al_size]
  have c2 : w2.cell? ⟨w.heap.size, 0, none⟩ = some (.int .u8 (nd : Int)) := by rw [(HC.out _ _ P2.out).cell]; rfl
  clear hw2
  go_wp2_with fail
  refine (P2.out.byte nd hnd (by simp)).mono ?_
  rintro e w3 ⟨rfl, p3, _⟩
  have P3 : Hid (PS w1 w1.heap.size w1.heap.size (w1.heap.size + 1) ([] ++ [UInt8.ofNat nd]) w3) := p3
  have c3 : w3.cell? ⟨w.heap.size, 1, none⟩ = some (.int .u32 (md : Int)) := by rw [(HC.out _ _ P3.out).cell]; rfl
  clear p3 c2 P2
  go_wp2_with fail
  refine (pnum_nat _ _ _ _ _ md _ P3.out (by omega) (by simp only [List.length_append, List.length_cons, List.length_nil]; omega)).mono ?_
  rintro e w4 ⟨rfl, p4, _⟩
  have P4 : Hid (PS w1 w1.heap.size w1.heap.size (w1.heap.size + 1) ([] ++ [UInt8.ofNat nd] ++ e8 md) w4) := p4
  have c4 : w4.cell? ⟨w.heap.size, 2, none⟩ = some (.int .u32 (ui : Int)) := by rw [(HC.out _ _ P4.out).cell]; rfl
  clear p4 c3 P3
  go_wp2_with fail
  refine (pnum_nat _ _ _ _ _ ui _ P4.out (by omega) (by simp only [List.length_append, List.length_cons, List.length_nil]; omega)).mono ?_
  rintro e w5 ⟨rfl, p5, _⟩
  have P5 : Hid (PS w1 w1.heap.size w1.heap.size (w1.heap.size + 1) ([] ++ [UInt8.ofNat nd] ++ e8 md ++ e8 ui) w5) := p5
  have c5 : w5.cell? ⟨w.heap.size, 3, none⟩ = some (.int .u32 (gi : Int)) := by rw [(HC.out _ _ P5.out).cell]; rfl
  clear p5 c4 P4
  go_wp2_with fail
  refine (pnum_nat _ _ _ _ _ gi _ P5.out (by omega) (by simp only [List.length_append, List.length_cons, List.length_nil]; omega)).mono ?_
  rintro e w6 ⟨rfl, p6, _⟩
  have P6 : Hid (PS w1 w1.heap.size w1.heap.size (w1.heap.size + 1) ([] ++ [UInt8.ofNat nd] ++ e8 md ++ e8 ui ++ e8 gi) w6) := p6
  have c6 : w6.cell? ⟨w.heap.size, 4, none⟩ = some (.int .i64 (m : Int)) := by rw [(HC.out _ _ P6.out).cell]; rfl
  clear p6 c5 P5
  go_wp2_with fail
  refine (pnum_nat _ _ _ _ _ m _ P6.out (by omega) (by simp only [List.length_append, List.length_cons, List.length_nil]; omega)).mono ?_
  rintro e w7 ⟨rfl, p7, _⟩
  have P7 : Hid (PS w1 w1.heap.size w1.heap.size (w1.heap.size + 1) ([] ++ [UInt8.ofNat nd] ++ e8 md ++ e8 ui ++ e8 gi ++ e8 m) w7) := p7
  have c7 : w7.cell? ⟨w.heap.size, 0, none⟩ = some (.int .u8 (nd : Int)) := by rw [(HC.out _ _ P7.out).cell]; rfl
  clear p7 c6 P6
  by_cases h3 : nd = 3
  · have h3z : ((nd : Int) == 3) = true := by simp [h3]
    have H3 : Hid (nd = 3) := h3
    clear h3
    have c7b : w7.cell? ⟨w.heap.size, 5, none⟩ = some (.string tg) := by rw [(HC.out _ _ P7.out).cell]; rfl
    go_wp2_with fail
    refine (ptxt_any _ _ _ _ _ tg _ P7.out (by omega) (by simp only [List.length_append, List.length_cons, List.length_nil]; omega)).mono ?_
    rintro e w8 ⟨rfl, p8, _⟩
    have P8 : Hid (PS w1 w1.heap.size w1.heap.size (w1.heap.size + 1) ([] ++ [UInt8.ofNat nd] ++ e8 md ++ e8 ui ++ e8 gi ++ e8 m ++ tx tg) w8) := p8
    clear p8 c7 c7b P7
    have c8a : w8.cell? ⟨w.heap.size, 6, none⟩ = some (.slice ad n c) := by rw [(HC.out _ _ P8.out).cell]; rfl
    go_wp2_with fail
    refine (pnum_nat _ _ _ _ _ n _ P8.out (by omega) (by simp only [List.length_append, List.length_cons, List.length_nil]; omega)).mono ?_
    rintro e w9 ⟨rfl, p9, _⟩
    obtain ⟨p, hp⟩ : ∃ p, [] ++ [UInt8.ofNat nd] ++ e8 md ++ e8 ui ++ e8 gi ++ e8 m ++ tx tg ++ e8 n = p := ⟨_, rfl⟩
    have HP : Hid (lay ⟨nd, md, ui, gi, (m : Int), tg, xs⟩ = p ++ xsL xs) := by show _ = _; rw [← hp]; simp [lay, ltg, H3.out, HL.out]
    have hpl : p.length ≤ 10000 := by rw [← hp]; simp only [List.length_append, List.length_cons, List.length_nil]; omega
    rw [hp] at p9
    have P9 : Hid (PS w1 w1.heap.size w1.heap.size (w1.heap.size + 1) p w9) := p9
    have c9 : w9.cell? ⟨w.heap.size, 6, none⟩ = some (.slice ad n c) := by rw [(HC.out _ _ P9.out).cell]; rfl
    clear p9 hp c8a P8
    go_wp2
    clear c9
    go_loopw [58] (fun v wr => ∃ k : Nat, v = .int .i64 k ∧ k ≤ n ∧ Hid (PS w1 w1.heap.size w1.heap.size (w1.heap.size + 1) (p ++ xsL (xs.take k)) wr)) (fun v _ => n - (intOf v).toNat)
    case atStart => exact ⟨0, rfl, Nat.zero_le _, by (show PS w1 w1.heap.size w1.heap.size (w1.heap.size + 1) (p ++ xsL []) w9; rw [show xsL [] = [] from rfl, List.append_nil]; exact P9.out)⟩
    case round =>
      obtain ⟨k, rfl, hk, PR⟩ := hrel
      have HBr : Hid (Below w.heap.size w wr) := HB.out.trans (PR.out.bel.mono (by omega))
      have hzr : w1.heap.size ≤ wr.heap.size := PR.out.le
      have hzg := PR.out.box.lt
      by_cases hlt : k < n
      · have hkz : (k : Int) < (n : Nat) := by omega
        obtain ⟨x, hx⟩ : ∃ x, xs[k]? = some x := ⟨xs[k]'(by rw [HL.out]; exact hlt), List.getElem?_eq_getElem _⟩
        obtain ⟨g, o, rfl, hg2, hc1, hc2, _, _⟩ := HX.out.below HBr.out k x hx
        have hxs := HS.out x (List.mem_of_getElem? hx)
        have HTK : Hid (xsL (xs.take (k + 1)) = xsL (xs.take k) ++ tx x.1 ++ tx x.2) := by
          show _ = _
          rw [List.take_add_one, hx, Option.toList_some, xsL_app, xsL_one, List.append_assoc]
        have hlen : (xsL (xs.take k)).length ≤ 70000 := by
          have := xsL_len (xs.take k) (fun y hy => HS.out y (List.mem_of_mem_take hy))
          have h2 : (xs.take k).length ≤ 16 := by rw [List.length_take]; omega
          omega
        obtain ⟨q, hq⟩ : ∃ q, xsL (xs.take k) = q := ⟨_, rfl⟩
        rw [hq] at PR HTK hlen
        obtain ⟨x1, x2⟩ := x
        simp only at hc1 hc2 hxs HTK
        have q7 := tx_len x1 (by omega)
        have PU : Hid (PS w1 w1.heap.size w1.heap.size (w1.heap.size + 1) (p ++ q) (wr.alloc (.cells #[.string x1, .string x2] 57))) := PR.out.keep ((Below.refl _ _).alloc (Nat.le_refl _) _)
        have HU : Hid (Bk (wr.alloc (.cells #[.string x1, .string x2] 57)) wr.heap.size #[.string x1, .string x2] 57) := bk_new _ _ _
        clear hx hq
        go_wp2_with fail
        refine (ptxt_any _ _ _ _ _ x1 _ PU.out (by omega) (by simp only [List.length_append]; omega)).mono ?_
        rintro e w10 ⟨rfl, p10, o10⟩
        have P10 : Hid (PS w1 w1.heap.size w1.heap.size (w1.heap.size + 1) (p ++ q ++ tx x1) w10) := p10
        have c10 : w10.cell? ⟨wr.heap.size, 1, none⟩ = some (.string x2) := by
          have hbk := oth_bk o10 HU.out (by omega) (by decide)
          rw [hbk.cell]; rfl
        clear p10 o10
        go_wp2_with fail
        refine (ptxt_any _ _ _ _ _ x2 _ P10.out (by omega) (by simp only [List.length_append]; omega)).mono ?_
        rintro e w11 ⟨rfl, p11, o11⟩
        have P11 : Hid (PS w1 w1.heap.size w1.heap.size (w1.heap.size + 1) (p ++ xsL (xs.take (k + 1))) w11) := by rw [HTK.out, ← List.append_assoc, ← List.append_assoc]; exact p11
        clear p11 o11
        go_wp2
        go_roundw
        case rel => exact ⟨k + 1, by go_num, by omega, P11.out⟩
        case measure => simp [intOf]; omega
      · have hkz : ¬ (k : Int) < (n : Nat) := by omega
        have PE : Hid (PS w1 w1.heap.size w1.heap.size (w1.heap.size + 1) (lay ⟨nd, md, ui, gi, (m : Int), tg, xs⟩) wr) := by
          rw [HP.out]
          have := PR.out
          rw [List.take_of_length_le (by rw [HL.out]; omega)] at this
          exact this
        go_wp2_with fail
        refine PE.out.str.mono ?_
        rintro e w12 ⟨rfl, hb12, hz12⟩
        have HF : Hid (Below w.heap.size w w12) := HB.out.trans (hb12.mono (by omega))
        clear hb12
        go_wp2
        go_ret2
        exact ⟨rfl, HF.out⟩
  · have h3z : ((nd : Int) == 3) = false := by simp; omega
    have H3 : Hid (¬ nd = 3) := h3
    clear h3
    have c7a : w7.cell? ⟨w.heap.size, 6, none⟩ = some (.slice ad n c) := by rw [(HC.out _ _ P7.out).cell]; rfl
    go_wp2_with fail
    refine (pnum_nat _ _ _ _ _ n _ P7.out (by omega) (by simp only [List.length_append, List.length_cons, List.length_nil]; omega)).mono ?_
    rintro e w9 ⟨rfl, p9, _⟩
    obtain ⟨p, hp⟩ : ∃ p, [] ++ [UInt8.ofNat nd] ++ e8 md ++ e8 ui ++ e8 gi ++ e8 m ++ e8 n = p := ⟨_, rfl⟩
    have HP : Hid (lay ⟨nd, md, ui, gi, (m : Int), tg, xs⟩ = p ++ xsL xs) := by show _ = _; rw [← hp]; simp [lay, ltg, H3.out, HL.out]
    have hpl : p.length ≤ 10000 := by rw [← hp]; simp only [List.length_append, List.length_cons, List.length_nil]; omega
    rw [hp] at p9
    have P9 : Hid (PS w1 w1.heap.size w1.heap.size (w1.heap.size + 1) p w9) := p9
    have c9 : w9.cell? ⟨w.heap.size, 6, none⟩ = some (.slice ad n c) := by rw [(HC.out _ _ P9.out).cell]; rfl
    clear p9 hp c7a P7
    go_wp2
    clear c9
    go_loopw [58] (fun v wr => ∃ k : Nat, v = .int .i64 k ∧ k ≤ n ∧ Hid (PS w1 w1.heap.size w1.heap.size (w1.heap.size + 1) (p ++ xsL (xs.take k)) wr)) (fun v _ => n - (intOf v).toNat)
    case atStart => exact ⟨0, rfl, Nat.zero_le _, by (show PS w1 w1.heap.size w1.heap.size (w1.heap.size + 1) (p ++ xsL []) w9; rw [show xsL [] = [] from rfl, List.append_nil]; exact P9.out)⟩
    case round =>
      obtain ⟨k, rfl, hk, PR⟩ := hrel
      have HBr : Hid (Below w.heap.size w wr) := HB.out.trans (PR.out.bel.mono (by omega))
      have hzr : w1.heap.size ≤ wr.heap.size := PR.out.le
      have hzg := PR.out.box.lt
      by_cases hlt : k < n
      · have hkz : (k : Int) < (n : Nat) := by omega
        obtain ⟨x, hx⟩ : ∃ x, xs[k]? = some x := ⟨xs[k]'(by rw [HL.out]; exact hlt), List.getElem?_eq_getElem _⟩
        obtain ⟨g, o, rfl, hg2, hc1, hc2, _, _⟩ := HX.out.below HBr.out k x hx
        have hxs := HS.out x (List.mem_of_getElem? hx)
        have HTK : Hid (xsL (xs.take (k + 1)) = xsL (xs.take k) ++ tx x.1 ++ tx x.2) := by
          show _ = _
          rw [List.take_add_one, hx, Option.toList_some, xsL_app, xsL_one, List.append_assoc]
        have hlen : (xsL (xs.take k)).length ≤ 70000 := by
          have := xsL_len (xs.take k) (fun y hy => HS.out y (List.mem_of_mem_take hy))
          have h2 : (xs.take k).length ≤ 16 := by rw [List.length_take]; omega
          omega
        obtain ⟨q, hq⟩ : ∃ q, xsL (xs.take k) = q := ⟨_, rfl⟩
        rw [hq] at PR HTK hlen
        obtain ⟨x1, x2⟩ := x
        simp only at hc1 hc2 hxs HTK
        have q7 := tx_len x1 (by omega)
        have PU : Hid (PS w1 w1.heap.size w1.heap.size (w1.heap.size + 1) (p ++ q) (wr.alloc (.cells #[.string x1, .string x2] 57))) := PR.out.keep ((Below.refl _ _).alloc (Nat.le_refl _) _)
        have HU : Hid (Bk (wr.alloc (.cells #[.string x1, .string x2] 57)) wr.heap.size #[.string x1, .string x2] 57) := bk_new _ _ _
        clear hx hq
        go_wp2_with fail
        refine (ptxt_any _ _ _ _ _ x1 _ PU.out (by omega) (by simp only [List.length_append]; omega)).mono ?_
        rintro e w10 ⟨rfl, p10, o10⟩
        have P10 : Hid (PS w1 w1.heap.size w1.heap.size (w1.heap.size + 1) (p ++ q ++ tx x1) w10) := p10
        have c10 : w10.cell? ⟨wr.heap.size, 1, none⟩ = some (.string x2) := by
          have hbk := oth_bk o10 HU.out (by omega) (by decide)
          rw [hbk.cell]; rfl
        clear p10 o10
        go_wp2_with fail
        refine (ptxt_any _ _ _ _ _ x2 _ P10.out (by omega) (by simp only [List.length_append]; omega)).mono ?_
        rintro e w11 ⟨rfl, p11, o11⟩
        have P11 : Hid (PS w1 w1.heap.size w1.heap.size (w1.heap.size + 1) (p ++ xsL (xs.take (k + 1))) w11) := by rw [HTK.out, ← List.append_assoc, ← List.append_assoc]; exact p11
        clear p11 o11
        go_wp2
        go_roundw
        case rel => exact ⟨k + 1, by go_num, by omega, P11.out⟩
        case measure => simp [intOf]; omega
      · have hkz : ¬ (k : Int) < (n : Nat) := by omega
        have PE : Hid (PS w1 w1.heap.size w1.heap.size (w1.heap.size + 1) (lay ⟨nd, md, ui, gi, (m : Int), tg, xs⟩) wr) := by
          rw [HP.out]
          have := PR.out
          rw [List.take_of_length_le (by rw [HL.out]; omega)] at this
          exact this
        go_wp2_with fail
        refine PE.out.str.mono ?_
        rintro e w12 ⟨rfl, hb12, hz12⟩
        have HF : Hid (Below w.heap.size w w12) := HB.out.trans (hb12.mono (by omega))
        clear hb12
        go_wp2
        go_ret2
        exact ⟨rfl, HF.out⟩
end Go.Proofs.YtjnijcmalnckcaaDoor
