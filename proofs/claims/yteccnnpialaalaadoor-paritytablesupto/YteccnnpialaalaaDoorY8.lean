import Derived.Test.YteccnnpialaalaaDoorY7
import Derived.Test.YteccnnpialaalaaDoorY6
import Derived.Test.YteccnnpialaalaaDoorY4
import Derived.Deep.AppendLies
import Derived.Test.YteccnnpialaalaaDoorChecked
import Derived.BigQuiet
import Derived.Deep.QuietTactic
import Derived.Test.YteccnnpialaalaaDoorY3
import Derived.Laws.StructEq
/- parity: the document's May, Encode. -/
namespace Go.Proofs.YteccnnpialaalaaDoor
open Go.RowKit
set_option linter.unusedSimpArgs false
set_option linter.unusedVariables false
def unB (d p : Int) : Bool := decide (1 ≤ d ∧ d ≤ 32 ∧ 1 ≤ p ∧ p ≤ 64 - d)
theorem unB_no {d p : Int} (h : ¬ (1 ≤ d ∧ d ≤ 32 ∧ 1 ≤ p ∧ p ≤ 64 - d)) : unB d p = false := by
  cases hm : unB d p with
  | false => rfl
  | true => exact absurd (by simpa [unB] using hm) h
theorem unB_yes {d p : Int} (h : unB d p = true) : 1 ≤ d ∧ d ≤ 32 ∧ 1 ≤ p ∧ p ≤ 64 - d := by simpa [unB] using h
set_option maxHeartbeats 2000000 in
set_option maxRecDepth 100000 in
theorem units17 (d p : Int) (w : World) : Calls Tryd.prog 25 #[.int .i64 d, .int .i64 p] w fun e w' => e = .returned (.bool (unB d p)) ∧ w' = w := by
  by_cases h1 : 1 ≤ d
  · by_cases h2 : d ≤ 32
    · have hw : IntKind.i64.wrap (64 - d) = 64 - d := by rw [IntKind.wrap_i64]; omega
      by_cases h3 : 1 ≤ p
      · by_cases h4 : p ≤ 64 - d
        · have HF : Hid (unB d p = true) := by show _ = _; simp [unB]; omega
          go_enter Tryd.func25, Tryd.ntmps25
          go_wp2
          go_ret
          exact ⟨ret_b17 HF.out, rfl⟩
        · have HF : Hid (unB d p = false) := unB_no (by omega)
          go_enter Tryd.func25, Tryd.ntmps25
          go_wp2
          go_ret
          exact ⟨ret_b17 HF.out, rfl⟩
      · have HF : Hid (unB d p = false) := unB_no (by omega)
        go_enter Tryd.func25, Tryd.ntmps25
        go_wp2
        go_ret
        exact ⟨ret_b17 HF.out, rfl⟩
    · have HF : Hid (unB d p = false) := unB_no (by omega)
      go_enter Tryd.func25, Tryd.ntmps25
      go_wp2
      go_ret
      exact ⟨ret_b17 HF.out, rfl⟩
  · have HF : Hid (unB d p = false) := unB_no (by omega)
    go_enter Tryd.func25, Tryd.ntmps25
    go_wp2
    go_ret
    exact ⟨ret_b17 HF.out, rfl⟩
theorem okT_un (d p z : Int) (n : Nat) : okT d p z n = (unB d p && decide (0 ≤ z) && decide (z ≤ 67108864) && decide ((n : Int) = d + p)) := by
  unfold okT mayN unB
  by_cases h1 : (1 ≤ d ∧ d ≤ 32 ∧ 1 ≤ p ∧ p ≤ 64 - d)
  · simp [h1]
  · have : ¬ (1 ≤ d ∧ d ≤ 32 ∧ 1 ≤ p ∧ p ≤ 64 - d ∧ 0 ≤ z ∧ z ≤ 67108864) := by omega
    rw [decide_eq_false h1, decide_eq_false this]
    simp
set_option maxHeartbeats 2000000 in
set_option maxRecDepth 100000 in
theorem rmay17 (d p z : Int) (a : Option Addr) (n c : Nat) (w : World) : Calls Tryd.prog 7 #[.agg #[.int .i64 d, .int .i64 p, .int .i64 z, .slice a n c]] w fun e w' => e = .returned (.bool (okT d p z n)) ∧ Below w.heap.size w w' := by
  have hb : Bk (w.alloc (.cells #[.int .i64 d, .int .i64 p, .int .i64 z, .slice a n c] 25)) w.heap.size #[.int .i64 d, .int .i64 p, .int .i64 z, .slice a n c] 25 := bk_new _ _ _
  have HB : Hid (Below w.heap.size w (w.alloc (.cells #[.int .i64 d, .int .i64 p, .int .i64 z, .slice a n c] 25))) := (Below.refl _ _).alloc (Nat.le_refl _) _
  have c0 : (w.alloc (.cells #[.int .i64 d, .int .i64 p, .int .i64 z, .slice a n c] 25)).cell? ⟨w.heap.size, 0, none⟩ = some (.int .i64 d) := by rw [hb.cell]; rfl
  have c1 : (w.alloc (.cells #[.int .i64 d, .int .i64 p, .int .i64 z, .slice a n c] 25)).cell? ⟨w.heap.size, 1, none⟩ = some (.int .i64 p) := by rw [hb.cell]; rfl
  have c2 : (w.alloc (.cells #[.int .i64 d, .int .i64 p, .int .i64 z, .slice a n c] 25)).cell? ⟨w.heap.size, 2, none⟩ = some (.int .i64 z) := by rw [hb.cell]; rfl
  have c3 : (w.alloc (.cells #[.int .i64 d, .int .i64 p, .int .i64 z, .slice a n c] 25)).cell? ⟨w.heap.size, 3, none⟩ = some (.slice a n c) := by rw [hb.cell]; rfl
  have hu := units17 d p (w.alloc (.cells #[.int .i64 d, .int .i64 p, .int .i64 z, .slice a n c] 25))
  have HO : Hid _ := okT_un d p z n
  clear hb
  cases hun : unB d p with
  | false =>
    rw [hun] at hu HO
    have HF : Hid (okT d p z n = false) := by show _ = _; rw [HO.out]; simp
    clear hun HO
    go_enter Tryd.func7, Tryd.ntmps7
    go_wp2_with fail
    refine hu.mono ?_
    rintro e w1 ⟨rfl, rfl⟩
    go_wp2
    go_ret
    exact ⟨ret_b17 HF.out, HB.out⟩
  | true =>
    rw [hun] at hu HO
    obtain ⟨q1, q2, q3, q4⟩ := unB_yes hun
    have hw : IntKind.i64.wrap (d + p) = d + p := by rw [IntKind.wrap_i64]; omega
    clear hun
    by_cases h5 : 0 ≤ z
    · by_cases h6 : z ≤ 67108864
      · by_cases hn : (n : Int) = d + p
        · have HF : Hid (okT d p z n = true) := by show _ = _; rw [HO.out]; simp [h5, h6, hn]
          have hnb : ((n : Int) == d + p) = true := by rw [beq_iff_eq]; exact hn
          clear HO
          go_enter Tryd.func7, Tryd.ntmps7
          go_wp2_with fail
          refine hu.mono ?_
          rintro e w1 ⟨rfl, rfl⟩
          go_wp2
          go_ret
          exact ⟨ret_b17 HF.out, HB.out⟩
        · have HF : Hid (okT d p z n = false) := by show _ = _; rw [HO.out]; simp [h5, h6, hn]
          have hnb : ((n : Int) == d + p) = false := by rw [beq_eq_false_iff_ne]; exact hn
          clear HO
          go_enter Tryd.func7, Tryd.ntmps7
          go_wp2_with fail
          refine hu.mono ?_
          rintro e w1 ⟨rfl, rfl⟩
          go_wp2
          go_ret
          exact ⟨ret_b17 HF.out, HB.out⟩
      · have HF : Hid (okT d p z n = false) := by show _ = _; rw [HO.out]; simp [h5, h6]
        clear HO
        go_enter Tryd.func7, Tryd.ntmps7
        go_wp2_with fail
        refine hu.mono ?_
        rintro e w1 ⟨rfl, rfl⟩
        go_wp2
        go_ret
        exact ⟨ret_b17 HF.out, HB.out⟩
    · have HF : Hid (okT d p z n = false) := by show _ = _; rw [HO.out]; simp [h5]
      clear HO
      go_enter Tryd.func7, Tryd.ntmps7
      go_wp2_with fail
      refine hu.mono ?_
      rintro e w1 ⟨rfl, rfl⟩
      go_wp2
      go_ret
      exact ⟨ret_b17 HF.out, HB.out⟩
theorem conv_at17 (s : ByteArray) (g o : Nat) (w : World) (hs : s.size = 32) (hc : ∀ (j : Nat) v, (idc s)[j]? = some v → w.cell? ⟨g, o + j, none⟩ = some v) :
    (convert 48 9 (.slice (some ⟨g, o, none⟩) 32 32)).run Tryd.prog w = .ok (.string s) w := by
  have h := run_convert_bytes_arg w 48 5 Tryd.underlying48 Tryd.underlying5 g o 32 32 ((byl s).map Int.ofNat) (by simp [byl_length, hs]) (fun i hi => by
    rw [hc i _ (idc_get s i (by omega)), List.getD, List.getElem?_map, byl_getD s i (by omega)]; rfl) 9 Tryd.underlying9
  rw [sb_nums, sb_byl] at h
  exact h
theorem slice32p (g o : Nat) (w : World) : (Instr.sliceAt 27 (.pointer (some ⟨g, o, none⟩)) none none none).run Tryd.prog w = .ok (.slice (some ⟨g, o, none⟩) 32 32) w := by
  have e1 : Tryd.prog.elem 27 = 5 := by kernel_rfl
  have e2 : Tryd.prog.arrayLen 27 = 32 := by kernel_rfl
  have e0 : Tryd.prog.underlying 27 = some (.array (Tryd.prog.arrayLen 27) (Tryd.prog.elem 27)) := by kernel_rfl
  rw [run_sliceAt_array_all (P := Tryd.prog) w 27 ⟨g, o, none⟩ e0]
  rw [e1, e2, sizeOf_u8']
  simp only [slicedAt, Result.andThen, Addr.add_mid]
  simp
set_option maxHeartbeats 8000000 in
set_option maxRecDepth 100000 in
theorem rencode17 (d p z : Int) (a : Option Addr) (n c : Nat) (l : List ByteArray) (w : World) (hl : NmL w a l) (hn : l.length = n) :
    Calls Tryd.prog 5 #[.agg #[.int .i64 d, .int .i64 p, .int .i64 z, .slice a n c]] w fun e w' => e = encE17 d p z l ∧ Below w.heap.size w w' := by
  have hb : Bk (w.alloc (.cells #[.int .i64 d, .int .i64 p, .int .i64 z, .slice a n c] 25)) w.heap.size #[.int .i64 d, .int .i64 p, .int .i64 z, .slice a n c] 25 := bk_new _ _ _
  obtain ⟨w1, hw1⟩ : ∃ W, w.alloc (.cells #[.int .i64 d, .int .i64 p, .int .i64 z, .slice a n c] 25) = W := ⟨_, rfl⟩
  have HB0 : Hid (Bk w1 w.heap.size #[.int .i64 d, .int .i64 p, .int .i64 z, .slice a n c] 25 ∧ Below w.heap.size w w1) := by
    rw [← hw1]; exact ⟨hb, (Below.refl _ _).alloc (Nat.le_refl _) _⟩
  have HW1 : Hid (w.alloc (.cells #[.int .i64 d, .int .i64 p, .int .i64 z, .slice a n c] 25) = w1) := hw1
  have HL : Hid (NmL w a l ∧ l.length = n) := ⟨hl, hn⟩
  have BC : Hid (∀ W, Below w1.heap.size w1 W → W.cell? ⟨w.heap.size, 0, none⟩ = some (.int .i64 d) ∧ W.cell? ⟨w.heap.size, 1, none⟩ = some (.int .i64 p) ∧ W.cell? ⟨w.heap.size, 2, none⟩ = some (.int .i64 z) ∧ W.cell? ⟨w.heap.size, 3, none⟩ = some (.slice a n c)) := fun W hW => by
    have := HB0.out.1.below hW HB0.out.1.lt
    refine ⟨?_, ?_, ?_, ?_⟩ <;> rw [this.cell] <;> rfl
  have c0 := (BC.out w1 (Below.refl _ _)).1
  have c1 := (BC.out w1 (Below.refl _ _)).2.1
  have c2 := (BC.out w1 (Below.refl _ _)).2.2.1
  have c3 := (BC.out w1 (Below.refl _ _)).2.2.2
  have HCK : Hid (Calls Tryd.prog 7 #[.agg #[.int .i64 d, .int .i64 p, .int .i64 z, .slice a n c]] w1 fun e w' => e = .returned (.bool (okT d p z n)) ∧ Below w1.heap.size w1 w') := rmay17 d p z a n c w1
  clear hb hw1 hl hn
  cases hok : okT d p z n with
  | false =>
    rw [hok] at HCK
    have HE : Hid (encE17 d p z l = .returned (.tuple #[.string ⟨#[]⟩, .int .i64 1])) := by show _ = _; rw [encE17, HL.out.2, hok]; rfl
    clear hok
    go_enter Tryd.func5, Tryd.ntmps5
    go_upto_region 1 with fail
    rw [HW1.out]
    go_wp2_with fail
    refine HCK.out.mono ?_
    rintro e w2 ⟨rfl, b2⟩
    have H2 : Hid (Below w.heap.size w w2) := HB0.out.2.trans (b2.mono HB0.out.2.size)
    clear b2
    go_wp2
    go_ret2
    exact ⟨by rw [HE.out]; rfl, H2.out⟩
  | true =>
    rw [hok] at HCK
    obtain ⟨hmy, hnd⟩ : mayN d p z = true ∧ (n : Int) = d + p := by
      have := hok
      simp only [okT, Bool.and_eq_true, decide_eq_true_eq] at this
      exact this
    obtain ⟨q1, q2, q3, q4, q5, q6⟩ := (mayN_iff d p z).1 hmy
    obtain ⟨D, rfl⟩ : ∃ D : Nat, d = (D : Int) := ⟨d.toNat, by omega⟩
    obtain ⟨P, rfl⟩ : ∃ D : Nat, p = (D : Int) := ⟨p.toNat, by omega⟩
    obtain ⟨Z, rfl⟩ : ∃ D : Nat, z = (D : Int) := ⟨z.toNat, by omega⟩
    have hn64 : n ≤ 64 := by omega
    have HE : Hid (encE17 D P Z l = .returned (.tuple #[.string (frm ⟨(tbP D P Z l).toArray⟩), .int .i64 0])) := by show _ = _; rw [encE17, HL.out.2, hok]; rfl
    have wD : IntKind.u64.wrap (D : Int) = (D : Int) := by rw [IntKind.wrap_u64]; omega
    have wP : IntKind.u64.wrap (P : Int) = (P : Int) := by rw [IntKind.wrap_u64]; omega
    have wZ : IntKind.u64.wrap (Z : Int) = (Z : Int) := by rw [IntKind.wrap_u64]; omega
    have hPX : ∀ (s : ByteArray) (x : Nat), x ≤ 67108864 → s.size ≤ 1000 → ∃ t : ByteArray, s ++ sb (encS (x : Int).toNat) = t ∧ bl t = bl s ++ eN x ∧ t.size ≤ s.size + 10 := fun s x hx hs => by
      refine ⟨_, rfl, by rw [bl_append]; rfl, ?_⟩
      rw [← bl_length, bl_append, List.length_append, bl_length]
      have := eN_len x (by omega)
      have e : (bl (sb (encS (x : Int).toNat))).length = (eN x).length := rfl
      omega
    clear hok hmy hnd
    go_enter Tryd.func5, Tryd.ntmps5
    go_upto_region 1 with fail
    rw [HW1.out]
    go_wp2_with fail
    refine HCK.out.mono ?_
    rintro e w2 ⟨rfl, b2⟩
    have H2 : Hid (Below w1.heap.size w1 w2) := b2
    clear b2 c0 c1 c2 c3
    obtain ⟨t1, ht1, hb1, hz1⟩ := hPX ⟨#[]⟩ 1 (by omega) (by show 0 ≤ _; omega)
    have hz1' : t1.size ≤ 10 := hz1
    go_wp2_with fail
    refine (rput_any ⟨#[]⟩ 1 w2 (by omega) (by omega) (by show 0 ≤ _; omega)).mono ?_
    rintro e w3 ⟨rfl, b3⟩
    rw [show (⟨#[]⟩ : ByteArray) ++ sb (encS (1 : Int).toNat) = t1 from ht1]
    have H3 : Hid (Below w1.heap.size w1 w3 ∧ bl t1 = eN 1) := ⟨H2.out.trans (b3.mono H2.out.size), hb1⟩
    clear b3 H2 ht1 hb1 hz1
    have c0 := (BC.out w3 H3.out.1).1
    obtain ⟨t2, ht2, hb2, hz2⟩ := hPX t1 D (by omega) (by omega)
    go_wp2_with fail
    refine (rput_any t1 (D : Int) w3 (by omega) (by omega) (by omega)).mono ?_
    rintro e w4 ⟨rfl, b4⟩
    rw [ht2]
    have H4 : Hid (Below w1.heap.size w1 w4 ∧ bl t2 = eN 1 ++ eN D) := ⟨H3.out.1.trans (b4.mono H3.out.1.size), by rw [hb2, H3.out.2]⟩
    clear b4 H3 ht2 hb2 c0
    have c1 := (BC.out w4 H4.out.1).2.1
    obtain ⟨t3, ht3, hb3, hz3⟩ := hPX t2 P (by omega) (by omega)
    go_wp2_with fail
    refine (rput_any t2 (P : Int) w4 (by omega) (by omega) (by omega)).mono ?_
    rintro e w5 ⟨rfl, b5⟩
    rw [ht3]
    have H5 : Hid (Below w1.heap.size w1 w5 ∧ bl t3 = eN 1 ++ eN D ++ eN P) := ⟨H4.out.1.trans (b5.mono H4.out.1.size), by rw [hb3, H4.out.2]⟩
    clear b5 H4 ht3 hb3 c1
    have c2 := (BC.out w5 H5.out.1).2.2.1
    obtain ⟨t4, ht4, hb4, hz4⟩ := hPX t3 Z (by omega) (by omega)
    go_wp2_with fail
    refine (rput_any t3 (Z : Int) w5 (by omega) (by omega) (by omega)).mono ?_
    rintro e w6 ⟨rfl, b6⟩
    rw [ht4]
    have H6 : Hid (Below w1.heap.size w1 w6 ∧ bl t4 = (nmsP D P Z).flatMap eN ++ (l.take 0).flatMap bl) := ⟨H5.out.1.trans (b6.mono H5.out.1.size), by rw [hb4, H5.out.2]; simp [nmsP]⟩
    have hz4' : t4.size ≤ 40 := by omega
    clear b6 H5 ht4 hb4 c2 hz1' hz2 hz3 hz4 hPX
    go_wp2
    go_loopw [4, 5] (fun u v W => ∃ (i : Nat) (X : ByteArray), v = .int .i64 i ∧ i ≤ n ∧ u = .string X ∧ X.size ≤ 40 + 32 * i ∧ Hid (Below w1.heap.size w1 W ∧ bl X = (nmsP D P Z).flatMap eN ++ (l.take i).flatMap bl)) (fun _ v _ => n - (intOf v).toNat)
    case atStart => exact ⟨0, t4, rfl, Nat.zero_le _, rfl, by omega, H6.out⟩
    case round =>
      clear H6 hz4'
      obtain ⟨i, X, rfl, hi, rfl, hXz, HS⟩ := hrel
      have c3 := (BC.out wr HS.out.1).2.2.2
      by_cases hin : i < n
      · have hiz : (i : Int) < (n : Nat) := by omega
        obtain ⟨s, hs⟩ : ∃ s, l[i]? = some s := ⟨_, List.getElem?_eq_getElem (by rw [HL.out.2]; exact hin)⟩
        obtain ⟨hs32, g, o, rfl, hg, hc⟩ := HL.out.1 i s hs
        have HTK : Hid ((l.take (i + 1)).flatMap bl = (l.take i).flatMap bl ++ bl s) := by
          show _ = _
          rw [List.take_add_one, hs, Option.toList_some, List.flatMap_append]
          simp
        have hcv := conv_at17 s g (o + i * 32) wr hs32 (fun j v hv => by
          rw [(HB0.out.2.trans (HS.out.1.mono HB0.out.2.size)).cell (p := ⟨g, o + i * 32 + j, none⟩) hg]
          exact hc j v hv)
        have hsl := slice32p g (o + i * 32) wr
        have HN : Hid (Below w1.heap.size w1 wr ∧ bl (X ++ s) = (nmsP D P Z).flatMap eN ++ (l.take (i + 1)).flatMap bl) := ⟨HS.out.1, by rw [bl_append, HS.out.2, HTK.out, List.append_assoc]⟩
        have hz9 : (X ++ s).size ≤ 40 + 32 * (i + 1) := by rw [ByteArray.size_append, hs32]; omega
        clear hs hg hc HS HTK
        go_wp2
        go_roundw
        case rel => exact ⟨i + 1, X ++ s, by go_num, by omega, rfl, hz9, HN.out⟩
        case measure => simp [intOf]; omega
      · have hiz : ¬ (i : Int) < (n : Nat) := by omega
        have hXe : X = ⟨(tbP D P Z l).toArray⟩ := bl_inj (by
          rw [HS.out.2, List.take_of_length_le (by rw [HL.out.2]; omega)]
          rfl)
        have hX6 : X.size ≤ 67108864 := by omega
        have H9 : Hid (Below w1.heap.size w1 wr ∧ X = ⟨(tbP D P Z l).toArray⟩) := ⟨HS.out.1, hXe⟩
        clear HS hXe
        go_wp2_with fail
        refine (rframe_ok X wr hX6).mono ?_
        rintro e w8 ⟨rfl, b8⟩
        have H8 : Hid (Below w.heap.size w w8) := HB0.out.2.trans ((H9.out.1.trans (b8.mono H9.out.1.size)).mono HB0.out.2.size)
        clear b8
        go_wp2
        go_ret2
        exact ⟨by rw [HE.out, ← H9.out.2]; rfl, H8.out⟩
end Go.Proofs.YteccnnpialaalaaDoor
/- digest.Of. -/
namespace Go.Proofs.YteccnnpialaalaaDoor
open Go.RowKit
set_option linter.unusedSimpArgs false
set_option linter.unusedVariables false
end Go.Proofs.YteccnnpialaalaaDoor
/- digest.Parse. -/
namespace Go.Proofs.YteccnnpialaalaaDoor
open Go.RowKit
set_option linter.unusedSimpArgs false
set_option linter.unusedVariables false
theorem sha_size (m : List Nat) : (sb (sha m)).size = 32 := by rw [sb_size, sha_length]
/-- The name that digits say, as its cells. -/
def pid (t : ByteArray) : Array Value := putA z32c 0 (bvc ((byl (uhS t)).take (Nat.min (uhS t).size 32)))
theorem pid_size (t : ByteArray) : (pid t).size = 32 := by rw [pid, putA_size, z32c_size]
theorem pid_one (t : ByteArray) : (pid t).all (·.oneCell') = true :=
  Array.all_eq_true_iff_forall_mem.2 (putA_one _ _ _ (bvc_one _) (by intro v hv; exact bvc_one _ v (by simpa [z32c] using hv)))
theorem pid_ok (t : ByteArray) (h : (uhS t).size = 32) : pid t = idc (uhS t) := by
  have hl : (bvc ((byl (uhS t)).take 32)).length = 32 := by simp [bvc, byl_length, h]
  rw [pid, h]
  apply Array.ext_getElem?
  intro i
  show (putA z32c 0 (bvc ((byl (uhS t)).take 32)))[i]? = _
  rw [putA_get _ _ _ _ (by rw [z32c_size, hl]; omega), hl]
  by_cases hi : i < 32
  · rw [if_pos (by omega), Nat.sub_zero, idc, List.getElem?_toArray, List.take_of_length_le (by rw [byl_length, h]; omega)]
  · rw [if_neg (by omega), Array.getElem?_eq_none (by rw [z32c_size]; omega), Array.getElem?_eq_none (by rw [idc_size, h]; omega)]
theorem pid_none (t : ByteArray) (h : uhS t = ⟨#[]⟩) : pid t = z32c := by rw [pid, h]; rfl
theorem copy32 {w : World} {g : Nat} {T : TypeId} (hB : Blk w g z32c T) (s : ByteArray) (ty : TypeId) :
    (Builtin.copy_ #[48, 9] ty #[.slice (some ⟨g, 0, none⟩) 32 32, .string s]).run Tryd.prog w = .ok (goInt (Nat.min s.size 32)) (w.setCells g 0 (bvc ((byl s).take (Nat.min s.size 32)))) := by
  have hi : (Tryd.prog.info? 5).map (·.size) = some 1 := by kernel_rfl
  refine copy_str w 48 9 ty 5 g 0 _ _ s Tryd.underlying48 hi (fun j hj => ?_) (fun j hj => hB.frozen _)
  have hj2 := Nat.lt_of_lt_of_le hj (Nat.min_le_right _ _)
  rw [hB.cell, Nat.zero_add, z32c_get j (by omega)]; rfl
theorem par_res {w w1 : World} {cs : List Value} (h : Below ((w.alloc (.cells z32c 27)).alloc (.cells z32c 27)).heap.size ((w.alloc (.cells z32c 27)).alloc (.cells z32c 27)) w1) : Blk (w1.setCells (w.heap.size + 1) 0 cs) w.heap.size z32c 27 :=
  Blk.grown (Blk.grown (Blk.grown (blk_new w (.cells z32c 27)) (World.grownBy_alloc _ _ none) (by simp)) (grown_of_below h none) (by simp)) (grown_puts (w.heap.size + 1) cs 0 (World.grownBy.refl w1 _)) (by simp)
theorem par_grown {w w1 : World} {cs : List Value} (h : Below ((w.alloc (.cells z32c 27)).alloc (.cells z32c 27)).heap.size ((w.alloc (.cells z32c 27)).alloc (.cells z32c 27)) w1) : w.grownBy (w1.setCells (w.heap.size + 1) 0 cs) none :=
  (((World.grownBy_alloc w _ none).trans (World.grownBy_alloc _ _ none)).trans (grown_of_below h none)).andThen (grown_puts (w.heap.size + 1) cs 0 (World.grownBy.refl w1 _)) (fun j hj => by left; simp at hj; omega)
set_option maxHeartbeats 400000 in
set_option maxRecDepth 100000 in
theorem parse_bad (t : ByteArray) (w : World) (ht : t.size ≠ 64) (hm : t.size ≤ 140737488351232) :
    Calls Tryd.prog 34 #[.string t] w fun e w' => e = .returned (.tuple #[.agg z32c, .int .i64 4]) ∧ Below w.heap.size w w' := by
  have hne : ¬ (t.size : Int) = 64 := by omega
  have hz := zero_id
  go_enter Tryd.func34, Tryd.ntmps34
  go_wp2_with (refine wpList_store_row rfl 27 (.tmp 2) (.tmp 10) rfl w.heap.size z32c rfl rfl 27 z32c (Blk.grown (blk_new w _) (World.grownBy_alloc _ _ none) (by simp)) (info_32 z32c_size) rfl z32c_one ?_)
  refine bodyPost_ret (results_cell_tmp_row rfl _ _ w.heap.size 27 z32c (0, 0) _ rfl (setRow_heap _ _ _ _ _ _ (Blk.grown (blk_new w (.cells z32c 27)) (World.grownBy_alloc _ _ none) (by simp))) Tryd.underlying27 rfl (info_32 z32c_size)) rfl ⟨rfl, ?_⟩
  exact below_setRow (below_of_grown ((World.grownBy_alloc w _ none).trans (World.grownBy_alloc _ _ none))) (Nat.le_refl _) _
end Go.Proofs.YteccnnpialaalaaDoor
/- parity: digest's Text and Parse, by the listed digits alone. -/
namespace Go.Proofs.YteccnnpialaalaaDoor
open Go.RowKit
set_option linter.unusedSimpArgs false
set_option linter.unusedVariables false
/-- The listed digits lie there. -/
structure Dig (w : World) : Prop where
  t : TabIs w
  lt : 0 < w.heap.size
theorem Dig.below {w w' : World} (h : Dig w) (hb : Below w.heap.size w w') : Dig w' := ⟨h.t.below hb h.lt, Nat.lt_of_lt_of_le h.lt hb.size⟩
theorem Dig.alloc {w : World} (h : Dig w) (o : Obj) : Dig (w.alloc o) := h.below ((Below.refl _ _).alloc (Nat.le_refl _) _)
set_option maxHeartbeats 400000 in
set_option maxRecDepth 100000 in
theorem text17 (s : ByteArray) (w : World) (hs : s.size = 32) (hA : Dig w) :
    Calls Tryd.prog 35 #[.agg (idc s)] w fun e w' => e = .returned (.string (sb (hexL (bl s)))) ∧ Below w.heap.size w w' := by
  have HA : Hid (Dig w) := hA
  have hlt := hA.lt
  have h1 := slice32 w.heap.size
  have h2 := conv32 s w.heap.size 27 (w.alloc (.cells (idc s) 27)) hs (blk_new _ _)
  clear hA
  go_enter Tryd.func35, Tryd.ntmps35
  go_wp2_with (go_at_call 53; refine (hex_any s _ (by omega) (HA.out.alloc _).t (by rw [alloc_size]; omega)).mono ?_; rintro e w1 ⟨rfl, hb1⟩)
  go_ret
  exact ⟨rfl, ((Below.refl _ _).alloc (Nat.le_refl _) _).trans (hb1.mono (by rw [alloc_size]; omega))⟩
set_option maxHeartbeats 400000 in
set_option maxRecDepth 100000 in
theorem parse17 (t : ByteArray) (w : World) (ht : t.size = 64) (hA : Dig w) :
    Calls Tryd.prog 34 #[.string t] w fun e w' => e = .returned (.tuple #[.agg (pid t), .int .i64 (uhE t)]) ∧ Below w.heap.size w w' := by
  have HA : Hid (Dig w) := hA
  have hlt := hA.lt
  clear hA
  have h1 := slice32 (w.heap.size + 1)
  go_enter Tryd.func34, Tryd.ntmps34
  go_wp2_with (first
    | (go_at_call 52; refine (unhex_even t _ 32 (by omega) (by omega) ((HA.out.alloc _).alloc _).t (by rw [alloc_size, alloc_size]; omega)).mono ?_; rintro e w1 ⟨rfl, hb1⟩; have HB1 : Hid (Below (((w.alloc (.cells z32c 27)).alloc (.cells z32c 27))).heap.size ((w.alloc (.cells z32c 27)).alloc (.cells z32c 27)) w1) := hb1; clear hb1; have HI : Hid (Blk w1 (w.heap.size + 1) z32c 27) := Blk.grown (by { have e := blk_new (w.alloc (.cells z32c 27)) (.cells z32c 27); rw [alloc_size] at e; exact e }) (grown_of_below HB1.out none) (by simp); have hcp := copy32 HI.out (uhS t))
    | (refine wpList_load_row rfl 27 (.tmp 4) rfl (w.heap.size + 1) rfl 27 (pid t) (0, 0) _ (Blk.puts _ 0 _ _ HI.out) Tryd.underlying27 rfl (info_32 (pid_size t)) ?_)
    | (refine wpList_store_row rfl 27 (.tmp 2) (.tmp 19) rfl w.heap.size (pid t) rfl rfl 27 z32c (par_res HB1.out) (info_32 (pid_size t)) (by rw [z32c_size, pid_size]) (pid_one t) ?_))
  refine bodyPost_ret (results_cell_tmp_row rfl _ _ w.heap.size 27 (pid t) (0, 0) _ rfl (setRow_heap _ _ _ _ _ _ (par_res HB1.out)) Tryd.underlying27 rfl (info_32 (pid_size t))) rfl ⟨rfl, ?_⟩
  exact below_setRow (below_of_grown (par_grown HB1.out)) (Nat.le_refl _) _
end Go.Proofs.YteccnnpialaalaaDoor
/- The walks of the document's own Unhex and Hex (munimentref01), for texts of at most 1048576 bytes. -/
namespace Go.Proofs.YteccnnpialaalaaDoor
open Go.RowKit
set_option linter.unusedSimpArgs false
set_option linter.unusedVariables false
theorem news_oneR (w : World) (a : Value) (T : TypeId) : ∀ (j : Nat) (u : Value), [a][j]? = some u → (w.alloc (.cells #[a] T)).cell? ((⟨w.heap.size, 0, none⟩ : Addr).add j) = some u := by
  intro j u h
  rw [WideShapes.add_plain, Nat.zero_add, World.cell?_alloc_new]
  simpa using h
theorem one_one (a : Int) : ∀ u ∈ [Value.int .u8 a], u.oneCell' = true := by
  intro u hu
  simp at hu
  subst hu; rfl
theorem app_below {B n : Nat} {w wr w1 : World} {o : Obj} {v : Value} {xs : List Value} {e : TypeId} (hb : Below B w wr) (hz : B ≤ wr.heap.size) (ho : wr.ownsRow B e 1 v n xs) (hg : (wr.alloc o).grownBy w1 v.ownBlock) : Below B w w1 := by
  refine (hb.alloc hz o).grown hg (by simp; omega) (fun k hk => ?_)
  rcases ho.2 with ⟨rfl, _⟩ | ⟨g, cap, cur, rfl, hle, _⟩
  · cases hk
  · simp [Value.ownBlock] at hk; omega
set_option maxHeartbeats 400000 in
theorem runhex_odd (s : ByteArray) (w : World) (hs : s.size ≤ 140737488351232) (ho : s.size % 2 = 1) :
    Calls Tryd.prog 48 #[.string s] w fun e w' => e = .returned (.tuple #[.string (uhS s), .int .i64 (uhE s)]) ∧ w' = w := by
  have HN := uh_none (unhexL_odd _ (bl s) (Nat.le_refl _) (by rw [bl_length]; exact ho))
  rw [HN.1, HN.2]
  clear HN
  have h1 : (((s.size : Int) % 2) == 1) = true := by rw [beq_iff_eq]; omega
  go_enter Tryd.func48, Tryd.ntmps48
  go_wp2
  go_ret2
  exact ⟨rfl, rfl⟩
set_option maxHeartbeats 800000 in
set_option maxRecDepth 100000 in
theorem runhex_even (s : ByteArray) (w : World) (n : Nat) (hs : s.size ≤ 140737488351232) (ho : s.size = 2 * n) :
    Calls Tryd.prog 48 #[.string s] w fun e w' => e = .returned (.tuple #[.string (uhS s), .int .i64 (uhE s)]) ∧ Below w.heap.size w w' := by
  have h1 : (((s.size : Int) % 2) == 1) = false := by rw [beq_eq_false_iff_ne]; omega
  have HO : Hid (s.size = 2 * n) := ho
  have hn2 : 2 * n ≤ 140737488351232 := by omega
  clear ho
  obtain ⟨i0, hi, hz0, hz1, hz2⟩ := info_parts info_u8
  go_enter Tryd.func48, Tryd.ntmps48
  go_wp2
  go_loopw [4, 5] (fun v i wr => ∃ (k : Nat) (m : List Nat), k ≤ n ∧ i = .int .i64 (2 * (k : Int)) ∧ wr.ownsRow w.heap.size 5 1 v k (bvX m) ∧ Hid (m.length = k ∧ unhexL (bl s) = (unhexL ((bl s).drop (2 * k))).map (m ++ ·)) ∧ Below w.heap.size w wr) (fun _ i _ => (2 * n - (intOf i).toNat))
  case atStart => exact ⟨0, [], by omega, rfl, World.ownsRow_nil _ _ _ _, ⟨rfl, by simp⟩, Below.refl _ _⟩
  case round =>
    obtain ⟨k, m, hk, rfl, hown, HR, hbel⟩ := hrel
    have hb0 := hbel.size
    by_cases hlt : k < n
    · have g1 : 2 * k < s.size := by have := HO.out; omega
      have g2 : 2 * k + 1 < s.size := by have := HO.out; omega
      cases ea : dvl s[2 * k].toNat with
      | none =>
        have HA : Hid (dvl s[2 * k].toNat = none) := ea
        clear ea
        go_wp2_with fail
        refine (digit_any _ _ (by exact s[2 * k].toNat_lt)).mono ?_
        rintro e w1 ⟨rfl, hw1⟩
        subst hw1
        rw [HA.out]
        go_wp2_with fail
        refine (digit_any _ _ (by exact s[2 * k + 1].toNat_lt)).mono ?_
        rintro e w1 ⟨rfl, hw1⟩
        subst hw1
        go_wp2
        go_ret2
        refine ⟨ret_uh ?_, hbel⟩
        have hn := uh_none (unhex_bad s (2 * k) m g2 HR.out.2 (Or.inl HA.out))
        exact ⟨hn.1.symm, hn.2.symm⟩
      | some x =>
        have HA : Hid (dvl s[2 * k].toNat = some x) := ea
        clear ea
        have hx := (dvl_some HA.out).1
        cases eb : dvl s[2 * k + 1].toNat with
        | none =>
          have HB : Hid (dvl s[2 * k + 1].toNat = none) := eb
          clear eb
          go_wp2_with fail
          refine (digit_any _ _ (by exact s[2 * k].toNat_lt)).mono ?_
          rintro e w1 ⟨rfl, hw1⟩
          subst hw1
          rw [HA.out]
          go_wp2_with fail
          refine (digit_any _ _ (by exact s[2 * k + 1].toNat_lt)).mono ?_
          rintro e w1 ⟨rfl, hw1⟩
          subst hw1
          rw [HB.out]
          go_wp2
          go_ret2
          refine ⟨ret_uh ?_, hbel⟩
          have hn := uh_none (unhex_bad s (2 * k) m g2 HR.out.2 (Or.inr HB.out))
          exact ⟨hn.1.symm, hn.2.symm⟩
        | some y =>
          have HB : Hid (dvl s[2 * k + 1].toNat = some y) := eb
          clear eb
          have hy := (dvl_some HB.out).1
          go_wp2_with fail
          refine (digit_any _ _ (by exact s[2 * k].toNat_lt)).mono ?_
          rintro e w1 ⟨rfl, hw1⟩
          subst hw1
          rw [HA.out]
          go_wp2_with fail
          refine (digit_any _ _ (by exact s[2 * k + 1].toNat_lt)).mono ?_
          rintro e w1 ⟨rfl, hw1⟩
          subst hw1
          rw [HB.out]
          go_wp2_with (at_builtin; refine wpList_append_own _ rfl _ _ 48 rfl w.heap.size 5 i0 (.int .u8 0) 1 1 Tryd.underlying48 hi hz0 hz1 hz2 rfl (by decide) _ _ _ rfl (hown.alloc _) ⟨w1.heap.size, 0, none⟩ 1 1 [.int .u8 (16 * (x : Int) + y)] rfl rfl ?c1 ?c2 ?c3 ?c4 ?c5 ?_)
          case c1 => exact news_oneR _ _ _
          case c2 => exact one_one _
          case c3 => unfold maxLen; omega
          case c4 => omega
          case c5 => simp; omega
          intro v' w7 hown1 hgrow _
          go_wp2
          go_roundw
          case rel =>
            obtain ⟨a2, a5⟩ := HR.out
            refine ⟨k + 1, m ++ [x * 16 + y], by omega, by go_num, ?_, ⟨by simp [a2], unhex_step s (2 * k) m x y g2 a5 HA.out HB.out⟩, ?_⟩
            · rw [bvX_append]
              have e : bvX [x * 16 + y] = [.int .u8 (16 * (x : Int) + y)] := by
                show [Value.int .u8 ((x * 16 + y : Nat) : Int)] = _
                congr 2; omega
              rw [e]; exact hown1
            · exact app_below hbel hb0 hown hgrow
          case measure => simp [intOf]; omega
    · have hkn : k = n := by omega
      subst hkn
      have hc := own_conv hown
      have hform : (∃ g c, u4 = .slice (some ⟨g, 0, none⟩) k c) ∨ u4 = .slice none 0 0 := by
        rcases hown.2 with ⟨h, _⟩ | ⟨g, c, _, h, _⟩
        · exact Or.inr h
        · exact Or.inl ⟨g, c, h⟩
      have HR2 : Hid (unhexL (bl s) = (unhexL ((bl s).drop (2 * k))).map (m ++ ·)) := HR.out.2
      have hend : (s.size : Int) ≤ 2 * (k : Int) := by have := HO.out; omega
      clear hown HR
      rcases hform with ⟨g, c, hv⟩ | hv
      · subst hv
        go_wp2
        go_ret2
        refine ⟨ret_uh ?_, hbel⟩
        have hn := uh_some (unhex_all s (2 * k) m (by have := HO.out; omega) HR2.out)
        exact ⟨hn.1.symm, hn.2.symm⟩
      · subst hv
        go_wp2
        go_ret2
        refine ⟨ret_uh ?_, hbel⟩
        have hn := uh_some (unhex_all s (2 * k) m (by have := HO.out; omega) HR2.out)
        exact ⟨hn.1.symm, hn.2.symm⟩
end Go.Proofs.YteccnnpialaalaaDoor
/- The walk of the document's own Hex (munimentref01), for texts of at most 1048576 bytes. -/
namespace Go.Proofs.YteccnnpialaalaaDoor
open Go.RowKit
set_option linter.unusedSimpArgs false
set_option linter.unusedVariables false
theorem tab_get (v : Nat) (h : v < (⟨#[48, 49, 50, 51, 52, 53, 54, 55, 56, 57, 97, 98, 99, 100, 101, 102]⟩ : ByteArray).size) : ((⟨#[48, 49, 50, 51, 52, 53, 54, 55, 56, 57, 97, 98, 99, 100, 101, 102]⟩ : ByteArray)[v]'h).toNat = dg v := by
  have : ∀ v : Fin 16, ((⟨#[48, 49, 50, 51, 52, 53, 54, 55, 56, 57, 97, 98, 99, 100, 101, 102]⟩ : ByteArray)[v.val]'v.isLt).toNat = dg v.val := by decide
  exact this ⟨v, h⟩
theorem rhex_own (s : ByteArray) (k : Nat) (hk : k < s.size) {w1 : World} {base : Nat} {v : Value} (h : w1.ownsRow base 5 1 v (2 * k + 2) (bvX (hexL ((bl s).take k)) ++ [.int .u8 (dg (s[k].toNat / 16) : Nat), .int .u8 (dg (s[k].toNat % 16) : Nat)])) :
    w1.ownsRow base 5 1 v (2 * (k + 1)) (bvX (hexL ((bl s).take (k + 1)))) := by
  have e : bvX (hexL ((bl s).take (k + 1))) = bvX (hexL ((bl s).take k)) ++ [.int .u8 (dg (s[k].toNat / 16) : Nat), .int .u8 (dg (s[k].toNat % 16) : Nat)] := by
    rw [take_snoc s k hk, hexL_append, bvX_append]; rfl
  rw [e, show 2 * (k + 1) = 2 * k + 2 from by omega]
  exact h
theorem app_below_drew {B n : Nat} {w wr w1 : World} {o : Obj} {v : Value} {xs : List Value} {e : TypeId} (hb : Below B w wr) (hz : B ≤ wr.heap.size) (ho : wr.ownsRow B e 1 v n xs) (hg : ((wr.alloc o).drew).grownBy w1 v.ownBlock) : Below B w w1 := by
  refine ((hb.alloc hz o).drew).grown hg (by show B ≤ (wr.alloc o).heap.size; simp; omega) (fun k hk => ?_)
  rcases ho.2 with ⟨rfl, _⟩ | ⟨g, cap, cur, rfl, hle, _⟩
  · cases hk
  · simp [Value.ownBlock] at hk; omega
set_option maxHeartbeats 800000 in
set_option maxRecDepth 100000 in
theorem rhex_any (s : ByteArray) (w : World) (hs : s.size ≤ 1048576) :
    Calls Tryd.prog 54 #[.string s] w fun e w' => e = .returned (.string (sb (hexL (bl s)))) ∧ Below w.heap.size w w' := by
  obtain ⟨i0, hi, hz0, hz1, hz2⟩ := info_parts info_u8
  have hsz16 : (⟨#[48, 49, 50, 51, 52, 53, 54, 55, 56, 57, 97, 98, 99, 100, 101, 102]⟩ : ByteArray).size = 16 := rfl
  go_enter Tryd.func54, Tryd.ntmps54
  go_wp2
  go_loopw [3, 4] (fun v i wr => ∃ k : Nat, k ≤ s.size ∧ i = .int .i64 k ∧ wr.ownsRow w.heap.size 5 1 v (2 * k) (bvX (hexL ((bl s).take k))) ∧ Below w.heap.size w wr) (fun _ i _ => s.size - (intOf i).toNat)
  case atStart => exact ⟨0, by omega, rfl, World.ownsRow_nil _ _ _ _, Below.refl _ _⟩
  case round =>
    obtain ⟨k, hk, rfl, hown, hbel⟩ := hrel
    have hb0 := hbel.size
    by_cases hlt : k < s.size
    · have hlt256 : s[k].toNat < 256 := s[k].toNat_lt
      have hq1 : IntKind.u8.wrap ((s[k].toNat : Int) / 16) = (s[k].toNat : Int) / 16 := by rw [IntKind.wrap_u8']; omega
      have hq2 : ((s[k].toNat : Int)).tmod 16 = (s[k].toNat : Int) % 16 := Int.tmod_eq_emod_of_nonneg (by omega)
      have hv1 : ((⟨#[48, 49, 50, 51, 52, 53, 54, 55, 56, 57, 97, 98, 99, 100, 101, 102]⟩ : ByteArray)[((s[k].toNat : Int) / 16).toNat]'(by show _ < 16; omega)).toNat = dg (s[k].toNat / 16) := by
        rw [tab_get]; congr 1
      have hv2 : ((⟨#[48, 49, 50, 51, 52, 53, 54, 55, 56, 57, 97, 98, 99, 100, 101, 102]⟩ : ByteArray)[((s[k].toNat : Int) % 16).toNat]'(by show _ < 16; omega)).toNat = dg (s[k].toNat % 16) := by
        rw [tab_get]; congr 1
      have b1 : (0 : Int) ≤ (s[k].toNat : Int) / 16 := by omega
      have b2 : (s[k].toNat : Int) / 16 < 16 := by have := s[k].toNat_lt; omega
      have b3 : (s[k].toNat : Int) % 16 < 16 := by omega
      have b4 : (0 : Int) ≤ (s[k].toNat : Int) % 16 := by omega
      go_wp2_with fail
      go_region_held3 (fun w' => True) (trivial)
        ((refine step_append_lies _ (by rfl) _ _ _ (by rfl) w.heap.size 5 i0 (.int .u8 0) 1 1 Tryd.underlying48 hi hz0 hz1 hz2 rfl (by decide) u3 (2 * k) _ (by rfl) (own_drew hown _) ⟨wr.heap.size, 0, none⟩ 2 2 [.int .u8 (dg (s[k].toNat / 16) : Nat), .int .u8 (dg (s[k].toNat % 16) : Nat)] (by rfl) rfl (news_two wr _ _ _) (one_two _ _) (by omega) (by unfold maxLen; omega) (by omega) (by show w.heap.size ≤ (wr.alloc _).heap.size; simp; omega) (wr.heap.size + 1) (by show (wr.alloc _).heap.size = _; simp) ?_; intro g cap w1 hown1 hgrow hat hlt1))
      all_goals go_wp2
      all_goals go_roundw
      all_goals first
        | exact ⟨k + 1, by omega, by go_num, rhex_own s k hlt hown1, app_below_drew hbel hb0 hown hgrow⟩
        | (simp [intOf]; omega)
    · have hke : k = s.size := by omega
      subst hke
      have hc := own_conv hown
      rw [List.take_of_length_le (by rw [bl_length]; exact Nat.le_refl _)] at hc
      have hform : (∃ g c, u3 = .slice (some ⟨g, 0, none⟩) (2 * s.size) c) ∨ u3 = .slice none 0 0 := by
        rcases hown.2 with ⟨h, _⟩ | ⟨g, c, _, h, _⟩
        · exact Or.inr h
        · exact Or.inl ⟨g, c, h⟩
      clear hown
      rcases hform with ⟨g, c, hv⟩ | hv
      · subst hv
        go_wp2
        go_ret
        exact ⟨rfl, hbel⟩
      · subst hv
        go_wp2
        go_ret
        exact ⟨rfl, hbel⟩
end Go.Proofs.YteccnnpialaalaaDoor
/- The document's own Text (munimentref02). -/
namespace Go.Proofs.YteccnnpialaalaaDoor
open Go.RowKit
set_option linter.unusedSimpArgs false
set_option linter.unusedVariables false
set_option maxHeartbeats 1000000 in
set_option maxRecDepth 100000 in
theorem rText_any (s : ByteArray) (w : World) (hs : s.size = 32) :
    Calls Tryd.prog 36 #[.agg (idc s)] w fun e w' => e = .returned (.string (sb (hexL (bl s)))) ∧ Below w.heap.size w w' := by
  have h1 := slice32 w.heap.size
  have h2 := conv32 s w.heap.size 27 (w.alloc (.cells (idc s) 27)) hs (blk_new _ _)
  go_enter Tryd.func36, Tryd.ntmps36
  go_wp2_with (go_at_call 54; refine (rhex_any s _ (by omega)).mono ?_; rintro e w1 ⟨rfl, hb1⟩)
  go_ret
  exact ⟨rfl, ((Below.refl _ _).alloc (Nat.le_refl _) _).trans (hb1.mono (by rw [alloc_size]; omega))⟩
end Go.Proofs.YteccnnpialaalaaDoor
/- A region that draws its order, over a class of worlds of one's own: each operation gives the same value in every world of the class. -/
namespace Go.Proofs.YteccnnpialaalaaDoor
open Go.RowKit
set_option linter.unusedSimpArgs false
set_option linter.unusedVariables false
theorem region_class10 {P : Program} {id : Nat} {Q : Exit → Act → World → Prop} {a : Act} {w : World} {l : List Oper} (C : World → Prop) (hm : P.follows .mixedOrders = true) (hB : Region.lexB .any l.toArray = true) (hC : C w.drew)
    (h : wpQuiet P l.toArray C (fun a' => ∀ w', C w' → Q .normal a' w') l a) : (Code.region id l.toArray true).wp P Q a w :=
  wp_region_quiet (C := C) hm hB hC (by simpa using h)
theorem quiet_val10 {P : Program} {o : Oper} {a : Act} {C : World → Prop} {K : Act → Prop} (v : Value) (h : ∀ w, C w → (execOp a.eval o).run P w = .ok (.value v) w) (hn : K (a.put o.dst v)) : o.quiet P a C K :=
  ⟨v, fun w hw => by unfold Oper.quietAt; rw [h w hw]; exact ⟨rfl, rfl⟩, hn⟩
theorem quiet_call10 {P : Program} {o : Oper} {a : Act} {C : World → Prop} {K : Act → Prop} (v : Value) (f : FuncId) (args : Array Value) (h : ∀ w, C w → (execOp a.eval o).run P w = .ok (.enter f args) w)
    (hc : ∀ w, C w → Calls P f args w (fun e w'' => e = .returned v ∧ C w'')) (hn : K (a.put o.dst v)) : o.quiet P a C K :=
  ⟨v, fun w hw => by unfold Oper.quietAt; rw [h w hw]; exact ⟨rfl, hc w hw⟩, hn⟩
theorem quiet_str10 {o : Oper} {a : Act} {C : World → Prop} {K : Act → Prop} (x : Operand) (ho : o.op = .load 9 x) (g f : Nat) (s : ByteArray) (hx : a.eval x = .pointer (some ⟨g, f, none⟩))
    (hc : ∀ w, C w → w.cell? ⟨g, f, none⟩ = some (.string s)) (hn : K (a.put o.dst (.string s))) : o.quiet Tryd.prog a C K :=
  quiet_val10 (.string s) (fun w hw => by
    have h := hc w hw
    have ha : (isAgg 9).run Tryd.prog w = .ok false w := by kernel_rfl
    unfold execOp
    simp [ho, hx, Instr.loadAt, Instr.sureAddr, loadVar, ha, h]) hn
end Go.Proofs.YteccnnpialaalaaDoor
/- Loads in a class of worlds: one cell, many cells. -/
namespace Go.Proofs.YteccnnpialaalaaDoor
open Go.RowKit
set_option linter.unusedSimpArgs false
set_option linter.unusedVariables false
theorem quiet_one {P : Program} {o : Oper} {a : Act} {C : World → Prop} {K : Act → Prop} (t : TypeId) (x : Operand) (ho : o.op = .load t x) (g f : Nat) (v : Value) (hx : a.eval x = .pointer (some ⟨g, f, none⟩)) (ha : ∀ w, (isAgg t).run P w = .ok false w)
    (hc : ∀ w, C w → w.cell? ⟨g, f, none⟩ = some v) (hn : K (a.put o.dst v)) : o.quiet P a C K :=
  quiet_val10 v (fun w hw => by
    have h := hc w hw
    have h2 := ha w
    unfold execOp
    simp [ho, hx, Instr.loadAt, Instr.sureAddr, loadVar, h2, h]) hn
theorem quiet_row {P : Program} {o : Oper} {a : Act} {C : World → Prop} {K : Act → Prop} (t : TypeId) (x : Operand) (ho : o.op = .load t x) (g f : Nat) (D cells : Array Value) (T : TypeId) (d : TypeDesc) (hx : a.eval x = .pointer (some ⟨g, f, none⟩))
    (hc : ∀ w, C w → Bk w g D T) (hD : ∀ j v, cells[j]? = some v → D[f + j]? = some v) (hu : P.underlying t = some d) (hd : d.isRow = true) (hi : (P.info? t).map (·.size) = some cells.size) (hn : K (a.put o.dst (.agg cells))) : o.quiet P a C K :=
  quiet_val10 (.agg cells) (fun w hw => by
    have h := hc w hw
    have hr := run_loadVar_mid (P := P) w g f t cells.toList d (fun j v hv => by rw [h.cell]; exact hD j v (by rwa [Array.getElem?_toList] at hv)) hu hd (by rw [Array.length_toList]; exact hi)
    unfold execOp
    simp [ho, hx, Instr.loadAt, Instr.sureAddr, hr]) hn
/-- The load of many cells, of an operation that is wanted. -/
theorem wpList_getG {P : Program} {ops : Array Oper} {rest : List Oper} {op : Oper} {a : Act} {w : World} {Q : Exit → Act → World → Prop} (hw : Region.wanted op (yielded ops a.tmps) = true) (ty : TypeId) (x : Operand) (ho : op.op = .load ty x)
    (b o : Nat) (C cells : Array Value) (T : TypeId) (d : TypeDesc) (hx : a.eval x = .pointer (some ⟨b, o, none⟩))
    (hB : Bk w b C T) (hc : ∀ j v, cells[j]? = some v → C[o + j]? = some v) (hu : P.underlying ty = some d) (hd : d.isRow = true) (hi : (P.info? ty).map (·.size) = some cells.size)
    (h : wpList P ops Q rest (a.put op.dst (.agg cells)) w) : wpList P ops Q (op :: rest) a w :=
  wpList_step fun K hK => by
    rw [if_pos hw]
    have e : cells.toList.toArray = cells := Array.toArray_toList
    refine wp_load_mid ty x ho b o hx cells.toList d (fun j v hv => by rw [hB.cell]; exact hc j v (by rwa [Array.getElem?_toList] at hv)) hu hd (by rw [hi]; simp) ?_
    rw [e]
    exact hK _ _ h
/-- A comparison whose run is known. -/
theorem wpList_eqR {P : Program} {ops : Array Oper} {rest : List Oper} {op : Oper} {a : Act} {w : World} {Q : Exit → Act → World → Prop} (hw : Region.wanted op (yielded ops a.tmps) = true) (t : TypeId) (x y : Operand) (ho : op.op = .binOp .eql t x y t)
    (v1 v2 : Array Value) (r : Value) (hm : P.eqGuardType P.depth t = false) (hx : a.eval x = .agg v1) (hy : a.eval y = .agg v2) (hr : (binOp .eql t (.agg v1) (.agg v2)).run P w = .ok r w)
    (h : wpList P ops Q rest (a.put op.dst r) w) : wpList P ops Q (op :: rest) a w :=
  wpList_step fun K hK => by
    rw [if_pos hw]
    unfold Oper.wp execOp
    simp only [ho, hx, hy, Sem.run_bind, run_eqGuard_agg w .eql t x y v1 v2 hm, hr, Result.andThen_ok, Sem.run_pure]
    exact hK _ _ h
theorem list_of_quiet {P : Program} {ops : Array Oper} {Q : Exit → Act → World → Prop} {C : World → Prop} : ∀ (l : List Oper) (a : Act) (w : World), wpQuiet P ops C (fun a' => ∀ w', C w' → Q .normal a' w') l a → C w → wpList P ops Q l a w
  | [], a, w, h, hC => h w hC
  | o :: rest, a, w, h, hC => by
    unfold wpQuiet at h
    refine wpList_step fun K hK => ?_
    split at h
    · rename_i hw
      rw [if_pos hw]
      exact Oper.wp_of_quiet hC (fun a w' hw' ha => hK a w' (list_of_quiet rest a w' ha hw')) h
    · rename_i hw
      rw [if_neg hw]
      exact hK _ _ (list_of_quiet rest _ w h hC)
/-- A region that does not draw, over a class of worlds. -/
theorem region_plain11 {P : Program} {id : Nat} {Q : Exit → Act → World → Prop} {a : Act} {w : World} {l : List Oper} (C : World → Prop) (hC : C w)
    (h : wpQuiet P l.toArray C (fun a' => ∀ w', C w' → Q .normal a' w') l a) : (Code.region id l.toArray false).wp P Q a w :=
  wp_region_lit (list_of_quiet l a w h hC)
end Go.Proofs.YteccnnpialaalaaDoor
