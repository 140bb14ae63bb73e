/- The walk of RollRolls. -/
import Derived.Test.YtadcibenikpfgaaV3
namespace Go.Proofs.Ytadcibenikpfgaa
open Go.RowKit
set_option linter.unusedSimpArgs false
set_option linter.unusedVariables false
/-- The law's own window: the bytes taken, by their places modulo 64. -/
def rwC (l : List UInt8) : Array Value := ((List.range 64).map fun j => Value.int .u8 (rgW l j : Int)).toArray
theorem rwC_get (l : List UInt8) (j : Nat) (h : j < 64) : (rwC l)[j]? = some (.int .u8 (rgW l j : Int)) := by
  unfold rwC
  rw [List.getElem?_toArray, List.getElem?_map, List.getElem?_range h]; rfl
theorem rwC_size (l : List UInt8) : (rwC l).size = 64 := by simp [rwC]
theorem rwC_nil : rwC [] = Array.replicate 64 (.int .u8 0) := by
  unfold rwC
  simp only [rgW_nil]
  rfl
theorem rwC_snoc (l : List UInt8) (b : UInt8) : (rwC l).setIfInBounds (l.length % 64) (.int .u8 (b.toNat : Int)) = rwC (l ++ [b]) := by
  apply Array.ext_getElem?
  intro i
  rw [Array.getElem?_setIfInBounds, rwC_size]
  by_cases hi : i < 64
  · rw [rwC_get _ i hi, rwC_get _ i hi, rgW_snoc l b i hi]
    by_cases e : l.length % 64 = i
    · rw [if_pos e, if_pos (by omega), if_pos e]
    · rw [if_neg e, if_neg e]
  · rw [if_neg (by omega), Array.getElem?_eq_none (by rw [rwC_size]; omega), Array.getElem?_eq_none (by rw [rwC_size]; omega)]
/-- What the law reckons of a digest. -/
theorem rolls_eq (l : List UInt8) (x : UInt8) (d : Nat) (hd : d = dgR l) : (dgR (l ++ [x]) : Int) = (((d : Int) / 65536 + x.toNat) % 4294967296 - wn l 0) % 4294967296 % 65536 * 65536 + (((d : Int) % 65536 - (d : Int) / 65536) % 4294967296 + 64 * ((x.toNat : Int) + 31)) % 4294967296 % 65536 := by
  have h1 := lo6_snoc l x
  have h2 := hi6_snoc l x
  have h3 := lo6_lt l
  have h4 := hi6_lt l
  have hx := x.toNat_lt
  have e : dgR (l ++ [x]) = lo6 (l ++ [x]) * 65536 + hi6 (l ++ [x]) := rfl
  have e2 : dgR l = lo6 l * 65536 + hi6 l := rfl
  have e3 : (d : Int) / 65536 = lo6 l := by omega
  have e4 : (d : Int) % 65536 = hi6 l := by omega
  rw [e3, e4, e]
  omega
theorem info_rb : (Try.prog.info? 5).map (fun i => (i.zero, i.size, i.bytes)) = some (some (.int .u8 0), 1, 1) := by kernel_rfl
theorem made_rb (n : Nat) : madeCells #[Value.int .u8 0] n = Array.replicate n (.int .u8 0) := by
  apply Array.ext_getElem?
  intro i
  simp only [madeCells]
  by_cases hi : i < n
  · simp [hi, Nat.mod_one]
  · rw [Array.getElem?_eq_none (by simp; omega), Array.getElem?_eq_none (by simp; omega)]
theorem make_rb (n : Nat) (hn : n ≤ 281474976710656) (u : World) : (Instr.makeSlice 35 (.int .i64 n) (.int .i64 n)).run Try.prog u =
    .ok (.slice (some ⟨u.heap.size, 0, none⟩) n n) (u.alloc (.cells (Array.replicate n (.int .u8 0)) 5)) := by
  obtain ⟨i0, hi, hz0, hz1, hz2⟩ := info_parts info_rb
  have h := run_make (P := Try.prog) u 35 5 i0 (.int .u8 0) Try.underlying35 hi hz0 .i64 .i64 (n : Int) (n : Int) (by omega) (Int.le_refl _) (by rw [hz2]; omega) (by omega)
  rw [Int.toNat_natCast] at h
  rw [← made_rb]
  simpa [hz1, Value.cells] using h
set_option maxHeartbeats 2000000 in
set_option maxRecDepth 100000 in
theorem rolls_walk (s : ByteArray) (w : World) (hs : s.size ≤ maxLen) :
    Calls Try.prog 8 #[.string s] w fun e w' => e = .returned (.bool true) ∧ Below w.heap.size w w' := by
  unfold maxLen at hs
  go_enter Try.func8, Try.ntmps8
  go_wp2_with fail
  refine (awakeR_any _).mono ?_
  rintro e w1 ⟨rfl, b1⟩
  have B1 : Hid (Below w.heap.size w w1) := b1
  have z1 := b1.size
  clear b1
  go_wp2_with fail
  refine (new_any _).mono ?_
  rintro e w2 ⟨rfl, h2, b2⟩
  have R2 : Hid (Rll w2 w1.heap.size []) := h2
  have B2 : Hid (Below w.heap.size w w2) := B1.out.trans (b2.mono B1.out.size)
  have z2 := h2.lt
  clear h2 b2 B1
  have hmk : ∀ u : World, (Instr.makeSlice 35 (.int .i64 64) (.int .i64 64)).run Try.prog u = .ok (.slice (some ⟨u.heap.size, 0, none⟩) 64 64) (u.alloc (.cells (Array.replicate 64 (.int .u8 0)) 5)) := make_rb 64 (by omega)
  go_wp2
  clear hmk
  have W3 : Hid (Bk (w2.alloc (.cells (Array.replicate 64 (.int .u8 0)) 5)) w2.heap.size (rwC []) 5) := by show Bk _ _ _ _; rw [rwC_nil]; exact bk_new _ _ _
  have R3 : Hid (Rll (w2.alloc (.cells (Array.replicate 64 (.int .u8 0)) 5)) w1.heap.size []) := R2.out.alloc _
  have B3 : Hid (Below w.heap.size w (w2.alloc (.cells (Array.replicate 64 (.int .u8 0)) 5))) := B2.out.alloc B2.out.size _
  clear R2 B2
  obtain ⟨gw, hgw⟩ : ∃ g, w2.heap.size = g := ⟨_, rfl⟩
  obtain ⟨gr, hgr⟩ : ∃ g, w1.heap.size = g := ⟨_, rfl⟩
  rw [hgw] at W3 z2 ⊢
  rw [hgr] at R3 z1 z2 ⊢
  clear hgw hgr
  go_loopw [5] (fun v wr => ∃ k : Nat, k ≤ s.size ∧ v = .int .i64 k ∧ Hid (Rll wr gr ((tby s).take k)) ∧ Hid (Bk wr gw (rwC ((tby s).take k)) 5) ∧ Hid (Below w.heap.size w wr)) (fun v _ => s.size - (intOf v).toNat)
  case atStart => exact ⟨0, by omega, rfl, R3.out, W3.out, B3.out⟩
  case round =>
    clear W3 R3 B3
    obtain ⟨k, hk, rfl, HR, HW, HB⟩ := hrel
    by_cases hlt : k < s.size
    · by_cases h5 : k < 5000
      · have hln : ((tby s).take k).length = k := by rw [List.length_take, tby_len]; omega
        obtain ⟨l, hl⟩ : ∃ l, (tby s).take k = l := ⟨_, rfl⟩
        have htk := tby_take s k hlt
        rw [hl] at HR HW hln htk
        have hc := HW.out.cell (k % 64)
        rw [rwC_get _ _ (Nat.mod_lt _ (by omega)), ← hln, rgW_at, hln] at hc
        have hf := HW.out.frozen (k % 64)
        obtain ⟨q, hq⟩ : ∃ q, wn l 0 = q := ⟨_, rfl⟩
        have hqb := wn_lt l 0
        rw [hq] at hc hqb
        obtain ⟨d, hd⟩ : ∃ d, dgR l = d := ⟨_, rfl⟩
        have hdb := dgR_lt l
        rw [hd] at hdb
        have HX := rolls_eq l s[k] d hd.symm
        rw [hq] at HX
        obtain ⟨x, hx⟩ : ∃ x, s[k]'hlt = x := ⟨_, rfl⟩
        have hxb := x.toNat_lt
        have HE : Hid ((dgR (l ++ [x]) : Int) = (((d : Int) / 65536 + x.toNat) % 4294967296 - q) % 4294967296 % 65536 * 65536 + (((d : Int) % 65536 - (d : Int) / 65536) % 4294967296 + 64 * ((x.toNat : Int) + 31)) % 4294967296 % 65536) := by rw [← hx]; exact HX
        have HT : Hid ((tby s).take (k + 1) = l ++ [x]) := by rw [← hx]; exact htk
        have HL : Hid (l.length = k) := hln
        have HD : Hid (dgR l = d) := hd
        have hgg : gr < gw := by omega
        clear HX htk hln hd hq hl
        go_wp2_with fail
        refine (digestR_any l gr _ HR.out).mono ?_
        rintro e w4 ⟨rfl, n, rfl⟩
        rw [HD.out]
        have HR4 : Hid (Rll (wr.drewN n) gr l) := HR.out.drewN n
        have HW4 : Hid (Bk (wr.drewN n) gw (rwC l) 5) := HW.out.drewN n
        have HB4 : Hid (Below w.heap.size w (wr.drewN n)) := below_drewN HB.out n
        have hc4 : (wr.drewN n).cell? ⟨gw, k % 64, none⟩ = some (.int .u8 (q : Int)) := by rw [HW4.out.cell, ← HW.out.cell]; exact hc
        have hf4 : (wr.drewN n).frozen? ⟨gw, k % 64, none⟩ = false := HW4.out.frozen _
        obtain ⟨w5, hw5⟩ : ∃ w5, wr.drewN n = w5 := ⟨_, rfl⟩
        rw [hw5] at HR4 HW4 HB4 hc4 hf4 ⊢
        clear HR HW HB hc hf hw5
        have HR6 : Hid (Rll (w5.setCell ⟨gw, k % 64, none⟩ (.int .u8 (x.toNat : Int))) gr l) := HR4.out.grown (Lib.grownBy_setB (World.grownBy.refl _ _) (k % 64) _) (by simp; omega)
        have HW6 : Hid (Bk (w5.setCell ⟨gw, k % 64, none⟩ (.int .u8 (x.toNat : Int))) gw (rwC (l ++ [x])) 5) := by
          show Bk _ _ _ _
          rw [← rwC_snoc, HL.out]; exact HW4.out.set _ _
        have HB6 : Hid (Below w.heap.size w (w5.setCell ⟨gw, k % 64, none⟩ (.int .u8 (x.toNat : Int)))) := HB4.out.setCell (by show w.heap.size ≤ gw; omega) _
        clear HR4 HW4 HB4
        go_wp2_with fail
        refine (add_any l x gr _ HR6.out).mono ?_
        rintro e w7 ⟨rfl, h7, g7⟩
        have HR7 : Hid (Rll w7 gr (l ++ [x])) := h7
        have HW7 : Hid (Bk w7 gw (rwC (l ++ [x])) 5) := HW6.out.grown g7 (by simp; omega)
        have HB7 : Hid (Below w.heap.size w w7) := below_own HB6.out HB6.out.size g7 z1
        clear h7 g7 HR6 HW6 HB6
        go_wp2_with fail
        refine (digestR_any (l ++ [x]) gr _ HR7.out).mono ?_
        rintro e w8 ⟨rfl, n8, rfl⟩
        rw [HE.out]
        go_wp2
        refine ⟨⟨k + 1, by omega, by go_num, ?_, ?_, below_drewN HB7.out _⟩, by simp [intOf]; omega⟩
        · show Rll _ _ _
          rw [HT.out]; exact HR7.out.drewN _
        · show Bk _ _ _ _
          rw [HT.out]; exact HW7.out.drewN _
      · have h5' : ¬ (k : Int) < 5000 := by omega
        go_wp2
        go_ret
        exact ⟨rfl, HB.out⟩
    · go_wp2
      go_ret
      exact ⟨rfl, HB.out⟩
end Go.Proofs.Ytadcibenikpfgaa
