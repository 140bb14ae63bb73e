/- The walk of RollUnlike. -/
import Derived.Test.YtadcibenikpfgaaL34
import Derived.Test.YtadcibenikpfgaaE6
import Derived.Test.YtadcibenikpfgaaP23
namespace Go.Proofs.Ytadcibenikpfgaa
open Go.RowKit
set_option linter.unusedSimpArgs false
set_option linter.unusedVariables false
/-- Noughts as a text. -/
def zrS (n : Nat) : ByteArray := ⟨(List.replicate n (0 : UInt8)).toArray⟩
theorem zrS_tby (n : Nat) : tby (zrS n) = List.replicate n 0 := rfl
theorem zrS_size (n : Nat) : (zrS n).size = n := by rw [← tby_len, zrS_tby, List.length_replicate]
theorem conv_zr (n : Nat) (u : World) : (convert 35 9 (.slice (some ⟨u.heap.size, 0, none⟩) n n)).run Try.prog (u.alloc (.cells (Array.replicate n (.int .u8 0)) 5)) = .ok (.string (zrS n)) (u.alloc (.cells (Array.replicate n (.int .u8 0)) 5)) := by
  have h := run_convert_bytes_back (P := Try.prog) (u.alloc (.cells (Array.replicate n (.int .u8 0)) 5)) 35 9 5 ⟨u.heap.size, 0, none⟩ n (List.replicate n (0 : UInt8)) Try.underlying35 Try.underlying5 Try.underlying9 (fun j hj => by
    rw [List.length_replicate] at hj
    rw [WideShapes.add_plain, Nat.zero_add, (bk_new u _ _).cell, Array.getElem?_replicate, if_pos hj]
    simp)
  rw [List.length_replicate] at h
  exact h
theorem xor_ne (a y : UInt8) (h : y ≠ 0) : a ^^^ y ≠ a := fun e => h (by
  have h2 : a ^^^ (a ^^^ y) = a ^^^ a := by rw [e]
  rwa [← UInt8.xor_assoc, UInt8.xor_self, UInt8.zero_xor] at h2)
theorem unl_eq (t : ByteArray) (q : Nat) (y : UInt8) (hq : q < t.size) (ht : t.size ≤ 64) (hy : y ≠ 0) : dgR (tby (trnS t q (bits .xor .u8 ((t[q]'hq).toNat : Int) (y.toNat : Int)))) ≠ dgR (tby t) := by
  have e : tby (trnS t q (bits .xor .u8 ((t[q]'hq).toNat : Int) (y.toNat : Int))) = (tby t).set q ((t[q]'hq) ^^^ y) := by
    have := bl_trn t q (bits .xor .u8 ((t[q]'hq).toNat : Int) (y.toNat : Int))
    rw [u8_xor_nat _ _ (t[q]'hq).toNat_lt y.toNat_lt, ← UInt8.toNat_xor] at this ⊢
    rw [Int.toNat_natCast, UInt8.ofNat_toNat] at this
    exact this
  rw [e]
  exact dgR_set (tby t) q _ (by rw [tby_len]; exact ht) (by rw [tby_len]; exact hq) (xor_ne _ _ hy)
set_option maxHeartbeats 4000000 in
set_option maxRecDepth 100000 in
theorem unlike_walk (s : ByteArray) (a0 : Int) (y : UInt8) (n0 : Int) (w : World) (hs : s.size ≤ maxLen) (a1 : -9223372036854775808 ≤ a0) (a2 : a0 ≤ 9223372036854775807) (n1 : -9223372036854775808 ≤ n0) (n2 : n0 ≤ 9223372036854775807) :
    Calls Try.prog 7 #[.string s, .int .i64 a0, .int .u8 (y.toNat : Int), .int .i64 n0] w fun e w' => e = .returned (.bool true) ∧ Below w.heap.size w w' := by
  unfold maxLen at hs
  have hy8 := y.toNat_lt
  obtain ⟨t1, ht1⟩ : ∃ t, n0.tmod 200 = t := ⟨_, rfl⟩
  have hb1 := tmod_bd n0 200 (by omega)
  rw [show ((200 : Nat) : Int) = 200 from rfl, ht1] at hb1
  obtain ⟨r, hr, hrb⟩ := tmod_nat (t1 + 200) 200 (by omega) (by omega)
  rw [show ((200 : Nat) : Int) = 200 from rfl] at hr
  have hmk := make_rb r (by omega)
  have hcv := conv_zr r
  obtain ⟨z, hz⟩ : ∃ z, zrS r = z := ⟨_, rfl⟩
  have hzs : z.size ≤ 200 := by rw [← hz, zrS_size]; omega
  have HZ : Hid (dgR (tby z) = 130087904) := by show _ = _; rw [← hz, zrS_tby, dgR_zero, dgR_nil]
  rw [hz] at hcv
  clear hz
  by_cases hbig : 64 < s.size
  · obtain ⟨t, ht⟩ : ∃ t, s.extract 0 64 = t := ⟨_, rfl⟩
    have hts : t.size ≤ 64 := by rw [← ht]; simp; omega
    go_enter Try.func7, Try.ntmps7
    go_wp2_with fail
    refine (awakeR_any _).mono ?_
    rintro e w1 ⟨rfl, b1⟩
    have B1 : Hid (Below w.heap.size w w1) := b1
    clear b1
    go_wp2_with fail
    clear hbig ht
    have B2 : Hid (Below w.heap.size w (w1.alloc (.cells (Array.replicate r (.int .u8 0)) 5))) := B1.out.alloc B1.out.size _
    clear hmk hcv
    refine (of_any z _ (by unfold maxLen; omega)).mono ?_
    rintro e w3 ⟨rfl, b3⟩
    rw [HZ.out]
    have B3 : Hid (Below w.heap.size w w3) := B2.out.trans (b3.mono B2.out.size)
    clear b3 B2 B1
    go_wp2_with fail
    refine (of_any ⟨#[]⟩ _ (by decide)).mono ?_
    rintro e w4 ⟨rfl, b4⟩
    rw [show tby ⟨#[]⟩ = [] from rfl, dgR_nil]
    have B4 : Hid (Below w.heap.size w w4) := B3.out.trans (b4.mono B3.out.size)
    clear b4 B3
    by_cases h0 : t.size = 0
    · have h0z : ((t.size : Int) == 0) = true := by rw [h0]; rfl
      clear h0
      go_wp2
      go_ret
      exact ⟨rfl, B4.out⟩
    · have h0z : ((t.size : Int) == 0) = false := by rw [beq_eq_false_iff_ne]; omega
      have ht0 : 0 < t.size := by omega
      by_cases hy : y = 0
      · have hyz : ((y.toNat : Int) == 0) = true := by rw [hy]; rfl
        clear hy h0
        go_wp2
        go_ret
        exact ⟨rfl, B4.out⟩
      · have hyz : ((y.toNat : Int) == 0) = false := by
          rw [beq_eq_false_iff_ne]
          intro e
          exact hy (UInt8.toNat_inj.1 (by simpa using e))
        obtain ⟨t3, ht3⟩ : ∃ u, a0.tmod (t.size : Int) = u := ⟨_, rfl⟩
        have hb3 := tmod_bd a0 t.size ht0
        rw [ht3] at hb3
        obtain ⟨q, hqz, hq⟩ := tmod_nat (t3 + t.size) t.size (by omega) (by omega)
        obtain ⟨cap, W, C, hcv, hbW, hWs, hC, hsC, hcap, hcell⟩ := conv_bytes t w4
        have hcq := hC.cell q
        rw [hcell q hq] at hcq
        have hfq := hC.frozen q (by omega)
        have hback := conv_set t W w4.heap.size cap q C hC hq hsC hcell (bits .xor .u8 ((t[q]'hq).toNat : Int) (y.toNat : Int))
        have HU := unl_eq t q y hq hts hy
        obtain ⟨t', ht'⟩ : ∃ t', trnS t q (bits .xor .u8 ((t[q]'hq).toNat : Int) (y.toNat : Int)) = t' := ⟨_, rfl⟩
        have ht's : t'.size = t.size := by
          rw [← ht', ← tby_len, show tby (trnS t q _) = _ from bl_trn t q _, List.length_set]; exact tby_len t
        rw [ht'] at hback HU
        have H1 := fun W => of_any t' W (by unfold maxLen; omega)
        have H2 := fun W => of_any t W (by unfold maxLen; omega)
        generalize dgR (tby t') = d1 at *
        generalize dgR (tby t) = d2 at *
        have hne : ((d1 : Int) == (d2 : Int)) = false := by rw [beq_eq_false_iff_ne]; omega
        have C1 : Hid _ := H1
        have C2 : Hid _ := H2
        have B5 : Hid (Below w.heap.size w (W.setCell ⟨w4.heap.size, q, none⟩ (.int .u8 (bits .xor .u8 ((t[q]'hq).toNat : Int) (y.toNat : Int))))) := (B4.out.trans (hbW.mono B4.out.size)).setCell B4.out.size _
        have hqs : (q : Int) < (t.size : Nat) := by omega
        clear H1 H2 HU ht' ht's hC hsC hcell hWs hbW h0 hy
        go_wp2_with fail
        refine Calls.mono (C1.out _) ?_
        rintro e w6 ⟨rfl, b6⟩
        have B6 : Hid (Below w.heap.size w w6) := B5.out.trans (b6.mono B5.out.size)
        clear b6 B5
        go_wp2_with fail
        refine Calls.mono (C2.out _) ?_
        rintro e w7 ⟨rfl, b7⟩
        have B7 : Hid (Below w.heap.size w w7) := B6.out.trans (b7.mono B6.out.size)
        clear b7 B6
        go_wp2
        go_ret
        exact ⟨by rw [bne, hne]; rfl, B7.out⟩
  · obtain ⟨t, rfl⟩ : ∃ t, t = s := ⟨_, rfl⟩
    have hts : t.size ≤ 64 := by omega
    go_enter Try.func7, Try.ntmps7
    go_wp2_with fail
    refine (awakeR_any _).mono ?_
    rintro e w1 ⟨rfl, b1⟩
    have B1 : Hid (Below w.heap.size w w1) := b1
    clear b1
    go_wp2_with fail
    clear hbig
    have B2 : Hid (Below w.heap.size w (w1.alloc (.cells (Array.replicate r (.int .u8 0)) 5))) := B1.out.alloc B1.out.size _
    clear hmk hcv
    refine (of_any z _ (by unfold maxLen; omega)).mono ?_
    rintro e w3 ⟨rfl, b3⟩
    rw [HZ.out]
    have B3 : Hid (Below w.heap.size w w3) := B2.out.trans (b3.mono B2.out.size)
    clear b3 B2 B1
    go_wp2_with fail
    refine (of_any ⟨#[]⟩ _ (by decide)).mono ?_
    rintro e w4 ⟨rfl, b4⟩
    rw [show tby ⟨#[]⟩ = [] from rfl, dgR_nil]
    have B4 : Hid (Below w.heap.size w w4) := B3.out.trans (b4.mono B3.out.size)
    clear b4 B3
    by_cases h0 : t.size = 0
    · have h0z : ((t.size : Int) == 0) = true := by rw [h0]; rfl
      clear h0
      go_wp2
      go_ret
      exact ⟨rfl, B4.out⟩
    · have h0z : ((t.size : Int) == 0) = false := by rw [beq_eq_false_iff_ne]; omega
      have ht0 : 0 < t.size := by omega
      by_cases hy : y = 0
      · have hyz : ((y.toNat : Int) == 0) = true := by rw [hy]; rfl
        clear hy h0
        go_wp2
        go_ret
        exact ⟨rfl, B4.out⟩
      · have hyz : ((y.toNat : Int) == 0) = false := by
          rw [beq_eq_false_iff_ne]
          intro e
          exact hy (UInt8.toNat_inj.1 (by simpa using e))
        obtain ⟨t3, ht3⟩ : ∃ u, a0.tmod (t.size : Int) = u := ⟨_, rfl⟩
        have hb3 := tmod_bd a0 t.size ht0
        rw [ht3] at hb3
        obtain ⟨q, hqz, hq⟩ := tmod_nat (t3 + t.size) t.size (by omega) (by omega)
        obtain ⟨cap, W, C, hcv, hbW, hWs, hC, hsC, hcap, hcell⟩ := conv_bytes t w4
        have hcq := hC.cell q
        rw [hcell q hq] at hcq
        have hfq := hC.frozen q (by omega)
        have hback := conv_set t W w4.heap.size cap q C hC hq hsC hcell (bits .xor .u8 ((t[q]'hq).toNat : Int) (y.toNat : Int))
        have HU := unl_eq t q y hq hts hy
        obtain ⟨t', ht'⟩ : ∃ t', trnS t q (bits .xor .u8 ((t[q]'hq).toNat : Int) (y.toNat : Int)) = t' := ⟨_, rfl⟩
        have ht's : t'.size = t.size := by
          rw [← ht', ← tby_len, show tby (trnS t q _) = _ from bl_trn t q _, List.length_set]; exact tby_len t
        rw [ht'] at hback HU
        have H1 := fun W => of_any t' W (by unfold maxLen; omega)
        have H2 := fun W => of_any t W (by unfold maxLen; omega)
        generalize dgR (tby t') = d1 at *
        generalize dgR (tby t) = d2 at *
        have hne : ((d1 : Int) == (d2 : Int)) = false := by rw [beq_eq_false_iff_ne]; omega
        have C1 : Hid _ := H1
        have C2 : Hid _ := H2
        have B5 : Hid (Below w.heap.size w (W.setCell ⟨w4.heap.size, q, none⟩ (.int .u8 (bits .xor .u8 ((t[q]'hq).toNat : Int) (y.toNat : Int))))) := (B4.out.trans (hbW.mono B4.out.size)).setCell B4.out.size _
        have hqs : (q : Int) < (t.size : Nat) := by omega
        clear H1 H2 HU ht' ht's hC hsC hcell hWs hbW h0 hy
        go_wp2_with fail
        refine Calls.mono (C1.out _) ?_
        rintro e w6 ⟨rfl, b6⟩
        have B6 : Hid (Below w.heap.size w w6) := B5.out.trans (b6.mono B5.out.size)
        clear b6 B5
        go_wp2_with fail
        refine Calls.mono (C2.out _) ?_
        rintro e w7 ⟨rfl, b7⟩
        have B7 : Hid (Below w.heap.size w w7) := B6.out.trans (b7.mono B6.out.size)
        clear b7 B6
        go_wp2
        go_ret
        exact ⟨by rw [bne, hne]; rfl, B7.out⟩
end Go.Proofs.Ytadcibenikpfgaa
