import Derived.Test.YtbfoiocbmhhdbaaGreatY5
import Derived.Test.YtbfoiocbmhhdbaaGreatY7
import Derived.Test.YtbfoiocbmhhdbaaGreatY14
import Derived.Test.YtbfoiocbmhhdbaaGreatY6
import Derived.RegionTactic
import Derived.BigRegion
import Derived.Laws.MakeOwn
/- The walk of wire.PutFixed. -/
namespace Go.Proofs.YtbfoiocbmhhdbaaGreat
open Go.RowKit
set_option linter.unusedSimpArgs false
set_option linter.unusedVariables false
theorem ret_se {a b : ByteArray} {k : IntKind} {c : Int} (h : a = b) : Ending.returned (.tuple #[.string a, .int k c]) = .returned (.tuple #[.string b, .int k c]) := by rw [h]
theorem slice8 (a : Addr) (h : Int) (h0 : 0 ≤ h) (h2 : h ≤ 8) (w : World) :
    (Instr.sliceAt 179 (.pointer (some a)) none (some (.int .i64 h)) none).run Tryz.prog w = .ok (.slice (some a) h.toNat 8) w := by
  have e1 : Tryz.prog.elem 179 = 5 := by kernel_rfl
  have e2 : Tryz.prog.arrayLen 179 = 8 := by kernel_rfl
  have e0 : Tryz.prog.underlying 179 = some (.array (Tryz.prog.arrayLen 179) (Tryz.prog.elem 179)) := by kernel_rfl
  rw [run_sliceAt_array_h (P := Tryz.prog) w 179 a e0 .i64 h h0 (by rw [e2]; exact h2)]
  rw [e1, e2, sizeOf_u8]
  simp [slicedAt, Result.andThen, Addr.add]
theorem fix_next (n k d : Nat) (arr : Array Value) (b : Int) (hk : k < d) (hd : d ≤ 8) (hsz : arr.size = 8) (hall : ∀ j, j < 8 → ∃ z, arr[j]? = some (.int .u8 z))
    (harr : ∀ j, j < k → arr[d - 1 - j]? = some (.int .u8 (n / 256 ^ j % 256 : Nat))) (hb : b = (n / 256 ^ k % 256 : Nat)) :
    (arr.setIfInBounds (d - 1 - k) (.int .u8 b)).size = 8 ∧ (∀ j, j < 8 → ∃ z, (arr.setIfInBounds (d - 1 - k) (.int .u8 b))[j]? = some (.int .u8 z)) ∧
      ∀ j, j < k + 1 → (arr.setIfInBounds (d - 1 - k) (.int .u8 b))[d - 1 - j]? = some (.int .u8 (n / 256 ^ j % 256 : Nat)) := by
  refine ⟨by simp [hsz], fun j hj => ?_, fun j hj => ?_⟩
  · rw [Array.getElem?_setIfInBounds]
    split
    · exact ⟨b, by simp [hsz]; omega⟩
    · exact hall j hj
  · rw [Array.getElem?_setIfInBounds]
    split
    · rename_i e; have e : k = j := by omega
      subst e; rw [if_pos (by omega), hb]
    · exact harr j (by omega)
theorem fix_conv (n d : Nat) (arr : Array Value) (w : World) (T : TypeId) (hd : d ≤ 8) (hsz : arr.size = 8)
    (harr : ∀ j, j < d → arr[d - 1 - j]? = some (.int .u8 (n / 256 ^ j % 256 : Nat))) :
    (convert 131 9 (.slice (some ⟨w.heap.size, 0, none⟩) d 8)).run Tryz.prog (w.alloc (.cells arr T)) = .ok (.string (sb (fixN d n))) (w.alloc (.cells arr T)) := by
  rw [← sb_nums]
  refine run_convert_bytes_arg _ 131 5 Tryz.underlying131 Tryz.underlying5 _ 0 d 8 _ (by simp [fixN_length]) (fun i hi => ?_) 9 Tryz.underlying9
  rw [Nat.zero_add, World.cell?_alloc_new, List.getD, List.getElem?_map]
  have e1 := harr (d - 1 - i) (by omega)
  have e2 := fixN_get d n (d - 1 - i) (by omega)
  rw [show d - 1 - (d - 1 - i) = i from by omega] at e1 e2
  rw [e1, e2]
  rfl
set_option maxHeartbeats 400000 in
theorem putFixed_ok (s : ByteArray) (x : Int) (d : Nat) (w : World) (h0 : 0 ≤ x) (h1 : x ≤ 18446744073709551615) (hd1 : 1 ≤ d) (hd2 : d ≤ 8) (hfit : x.toNat < 256 ^ d) (hs : s.size ≤ 4611686018427387904) :
    Calls Tryz.prog 67 #[.string s, .int .u64 x, .int .i64 d] w fun e w' => e = .returned (.tuple #[.string (s ++ sb (fixN d x.toNat)), .int .i64 0]) ∧ Below w.heap.size w w' := by
  have hbl : (Lib.bitLen x.toNat : Int) ≤ 8 * (d : Int) := by have := (bitLen_fits x.toNat d (by omega)).2 hfit; omega
  have hiw : isW (d : Int) = true := isW_yes (by omega) (by omega)
  obtain ⟨n, hn⟩ : ∃ n, n = x.toNat := ⟨_, rfl⟩
  have HN : Hid (n = x.toNat) := hn
  clear hn hfit
  go_enter Tryz.func67, Tryz.ntmps67
  go_wp2_with (first | (go_at_call 104; refine (isWidth_any _ _).mono ?_; rintro e w' ⟨rfl, rfl⟩; rw [hiw]) | (go_at_call 105; refine (len64_any x _ h0 h1).mono ?_; rintro e w' ⟨rfl, rfl⟩))
  go_loopw [1, 21] (fun v i wr => ∃ (k y : Nat) (arr : Array Value), k ≤ d ∧ i = .int .i64 k ∧ v = .int .u64 y ∧ y < 2 ^ 64 ∧ wr = w'.alloc (.cells arr 179) ∧ Hid (y = n / 256 ^ k ∧ arr.size = 8 ∧ (∀ j, j < 8 → ∃ z, arr[j]? = some (.int .u8 z)) ∧ ∀ j, j < k → arr[d - 1 - j]? = some (.int .u8 (n / 256 ^ j % 256 : Nat)))) (fun _ i _ => 10 - (intOf i).toNat)
  case atStart =>
    refine ⟨0, x.toNat, _, Nat.zero_le _, rfl, by go_num, by omega, rfl, ⟨by simp [HN.out], by simp, fun j hj => ?_, fun j hj => by omega⟩⟩
    refine ⟨0, ?_⟩
    rw [show (#[Value.int .u8 0, Value.int .u8 0, Value.int .u8 0, Value.int .u8 0, Value.int .u8 0, Value.int .u8 0, Value.int .u8 0, Value.int .u8 0] : Array Value) = Array.replicate 8 (Value.int .u8 0) from rfl]
    simp [hj]
  case round =>
    obtain ⟨k, y, arr, hk, rfl, rfl, hy, rfl, HR⟩ := hrel
    by_cases hlt : k < d
    · obtain ⟨z, hz⟩ := HR.out.2.2.1 (d - 1 - k) (by omega)
      have hz' : arr[((d : Int) - 1 - k).toNat]? = some (.int .u8 z) := by rw [show ((d : Int) - 1 - k).toNat = d - 1 - k from by omega]; exact hz
      go_wp2
      go_roundw
      case rel => 
        obtain ⟨hy, a1, a2, a3⟩ := HR.out
        refine ⟨k + 1, y / 256, _, by omega, by go_num, by go_num, by omega, rfl, ⟨?_, ?_⟩⟩
        · rw [hy, Nat.div_div_eq_div_mul, Nat.pow_succ]
        · exact fix_next n k d arr _ (by omega) (by omega) a1 a2 a3 (by rw [← hy]; omega)
      case measure => simp [intOf]; omega
    · obtain ⟨z, hz⟩ := HR.out.2.2.1 (d - 1) (by omega)
      have hke : k = d := by omega
      subst hke
      have hc := fix_conv n k arr w' 179 (by omega) HR.out.2.1 HR.out.2.2.2
      have hsl := slice8 ⟨w'.heap.size, 0, none⟩ (k : Int) (by omega) (by omega)
      have hsb : (sb (fixN k n)).size ≤ 10 := by rw [sb_size, fixN_length]; omega
      go_wp2
      go_ret2
      exact ⟨ret_se (by rw [HN.out]), by go_grown⟩
set_option maxHeartbeats 400000 in
theorem putFixed_no (s : ByteArray) (x d : Int) (w : World) (h0 : 0 ≤ x) (h1 : x ≤ 18446744073709551615) (hno : isW d = true → 256 ^ d.toNat ≤ x.toNat) :
    Calls Tryz.prog 67 #[.string s, .int .u64 x, .int .i64 d] w fun e w' => e = .returned (.tuple #[.string ⟨#[]⟩, .int .i64 1]) ∧ w' = w := by
  have H : Hid (isW d = true → 256 ^ d.toNat ≤ x.toNat) := hno
  clear hno
  cases hiw : isW d
  · clear H
    go_enter Tryz.func67, Tryz.ntmps67
    go_wp2_with (go_at_call 104; refine (isWidth_any _ _).mono ?_; rintro e w' ⟨rfl, rfl⟩; rw [hiw])
    go_ret2
    exact ⟨rfl, rfl⟩
  · have hd := isW_iff.1 hiw
    have hb : 8 * d < (Lib.bitLen x.toNat : Int) := by
      have := bitLen_fits x.toNat d.toNat (by omega)
      have := H.out hiw
      omega
    clear H
    go_enter Tryz.func67, Tryz.ntmps67
    go_wp2_with (first | (go_at_call 104; refine (isWidth_any _ _).mono ?_; rintro e w' ⟨rfl, rfl⟩; rw [hiw]) | (go_at_call 105; refine (len64_any x _ h0 h1).mono ?_; rintro e w' ⟨rfl, rfl⟩))
    go_ret2
    exact ⟨rfl, rfl⟩
end Go.Proofs.YtbfoiocbmhhdbaaGreat
/- idx.Index.bytes: an index's bytes. -/
namespace Go.Proofs.YtbfoiocbmhhdbaaGreat
open Go.RowKit
set_option linter.unusedSimpArgs false
set_option linter.unusedVariables false
theorem ix_fan (i : Nat) (hi : i < 256) (cs : Array Value) (v : Value) (hc : cs[i]? = some v) (w : World) : (Instr.index 113 (.agg cs) (.int .i64 (i : Int))).run Tryz.prog w = .ok v w := by
  have h0 : (0 : Int) ≤ (i : Int) := by omega
  have h1 : (i : Int) < 256 := by omega
  have ha : (isAgg 3).run Tryz.prog w = .ok false w := by kernel_rfl
  have hs : (sizeOf 3).run Tryz.prog w = .ok 1 w := by kernel_rfl
  simp [Instr.index, run_underlying Tryz.underlying113, asIntOf, h0, h1, go_sem, part, ha, hs, hc]
  intro q
  omega
theorem oth_below {b : Nat} {w w' : World} (h : Below w.heap.size w w') : Oth b w w' := fun k o hk _ _ => (h.block k (Array.getElem?_eq_some_iff.1 hk).1).trans hk
set_option maxHeartbeats 1000000 in
set_option maxRecDepth 100000 in
/-- The closure putNumber. -/
theorem putN (B b n : Nat) (l : List UInt8) (w : World) (hn : n < 4294967296) (h : Bld B b l w) (hlen : l.length ≤ 100000000) (hBw : B ≤ w.heap.size) :
    Calls Tryz.prog 91 #[.int .i64 (n : Int), .pointer (some ⟨b, 0, none⟩)] w fun e w' => e = .returned (.tuple #[]) ∧ Bld B b (l ++ f4 n) w' ∧ Below B w w' ∧ Oth b w w' := by
  have HP : Hid (Calls Tryz.prog 67 #[.string ⟨#[]⟩, .int .u64 (n : Int), .int .i64 4] w fun e w' => e = .returned (.tuple #[.string (⟨#[]⟩ ++ sb (fixN 4 n)), .int .i64 0]) ∧ Below w.heap.size w w') := by
    have := putFixed_ok ⟨#[]⟩ (n : Int) 4 w (by omega) (by omega) (by decide) (by decide) (by rw [Int.toNat_natCast]; exact hn) (by decide)
    rw [Int.toNat_natCast] at this
    exact this
  obtain ⟨Q, hQ⟩ : ∃ Q : ByteArray, (⟨#[]⟩ ++ sb (fixN 4 n) : ByteArray) = Q := ⟨_, rfl⟩
  have hQb : Q.data.toList = f4 n := by
    show bl Q = f4 n
    rw [← hQ, bl_append, bl_sb]; rfl
  have hQs : Q.size = 4 := by rw [← bl_length]; show Q.data.toList.length = 4; rw [hQb, f4_len]
  rw [hQ] at HP
  have HH : Hid (Bld B b l w) := h
  have HQ : Hid (Q.data.toList = f4 n ∧ Q.size = 4) := ⟨hQb, hQs⟩
  have hw1 : IntKind.u64.wrap (n : Int) = (n : Int) := by
    simp [IntKind.wrap, IntKind.bits, IntKind.signed]; omega
  clear hQ hQb hQs h
  go_enter Tryz.func91, Tryz.ntmps91
  go_wp2_with fail
  refine HP.out.mono ?_
  rintro e w1 ⟨rfl, hb1⟩
  have H1 : Hid (Bld B b l w1) := bld_keep11 HH.out hb1
  have HB1 : Hid (Below w.heap.size w w1) := hb1
  clear hb1
  go_wp2_with fail
  refine (writeS B b l Q w1 H1.out (by rw [HQ.out.2]; omega) (Nat.le_trans hBw HB1.out.size)).mono ?_
  rintro e w2 ⟨rfl, h2, hb2, ho2⟩
  have HE : Hid (Bld B b (l ++ f4 n) w2 ∧ Below B w w2 ∧ Oth b w w2) := ⟨by rw [← HQ.out.1]; exact h2, (HB1.out.mono hBw).trans hb2, (oth_below HB1.out).trans ho2⟩
  clear h2 hb2 ho2
  go_wp2
  go_end0
  exact ⟨rfl, HE.out⟩
end Go.Proofs.YtbfoiocbmhhdbaaGreat
/- idx.Index.bytes. -/
namespace Go.Proofs.YtbfoiocbmhhdbaaGreat
open Go.RowKit
set_option linter.unusedSimpArgs false
set_option linter.unusedVariables false
theorem bc_idc (s : ByteArray) : Lib.byteCells (bl s) = (idc s).toList := by
  simp only [Lib.byteCells, idc, bvc, byl, bl, List.map_map]
  rfl
/-- A builder under way. -/
structure BS (w : World) (m : List UInt8) (wr : World) : Prop where
  bld : Bld w.heap.size w.heap.size m wr
  bel : Below w.heap.size w wr
theorem BS.mk' {w wr : World} {m m' : List UInt8} (h : Bld w.heap.size w.heap.size m wr ∧ Below w.heap.size w wr) (e : m = m') : BS w m' wr := by subst e; exact ⟨h.1, h.2⟩
set_option maxHeartbeats 8000000 in
set_option maxRecDepth 100000 in
theorem bytes_any (g : Nat) (s : ByteArray) (l : List Xe) (w : World) (h : IxS w g s l) (hok : ∀ e ∈ l, okX e = true) (hn : l.length ≤ 65536) :
    Calls Tryz.prog 49 #[.pointer (some ⟨g, 0, none⟩)] w fun e w' => e = .returned (.string ⟨(ixB s l).toArray⟩) ∧ Below w.heap.size w w' := by
  obtain ⟨a, n, c, hBk, hX, hl, hcc, _⟩ := h.row
  have hs := h.id
  have HS : Hid (s.size = 32) := hs
  have HL : Hid (l.length = n) := hl
  have HOK : Hid (∀ e ∈ l, okX e = true) := hok
  have HX : Hid (XeL w a l) := hX
  obtain ⟨C, hC⟩ : ∃ C, ixC s (fanL l) (.slice a n c) = C := ⟨_, rfl⟩
  have HC1 : Hid (∀ j u, (Lib.byteCells (bl s))[j]? = some u → C[0 + j]? = some u) := fun j u hu => by
    rw [← hC]
    exact ixC_id s _ _ hs j u (by rwa [bc_idc, Array.getElem?_toList] at hu)
  have HC2 : Hid (∀ j u, (fnC (fanL l)).toArray[j]? = some u → C[32 + j]? = some u) := fun j u hu => by
    rw [List.getElem?_toArray] at hu
    have hj : j < 256 := by
      have := (List.getElem?_eq_some_iff.1 hu).1
      rwa [fnC_len] at this
    rw [← hC, ixC_fan s _ _ hs j hj, ← hu, fnC_get _ j hj]
  rw [hC] at hBk
  have HBk : Hid (Bk w g C 115) := hBk
  have hg : g < w.heap.size := hBk.lt
  have HGB : Hid (∀ W, Below w.heap.size w W → Bk W g C 115) := fun W hW => hBk.below hW hg
  have hc288 : C[288]? = some (.slice a n c) := by rw [← hC]; exact ixC_row s _ _ hs
  have HQ : Hid (∀ W, Below w.heap.size w W → W.cell? ⟨g, 288, none⟩ = some (.slice a n c)) := fun W hW => by rw [(HGB.out W hW).cell]; exact hc288
  have hq0 : w.cell? ⟨g, 288, none⟩ = some (.slice a n c) := HQ.out w (Below.refl _ _)
  have hsl := slice32 g
  obtain ⟨R, hR⟩ : ∃ R : ByteArray, (⟨(ixB s l).toArray⟩ : ByteArray) = R := ⟨_, rfl⟩
  have HR : Hid ((⟨(ixB s l).toArray⟩ : ByteArray) = R) := hR
  rw [hR]
  have hn' : n ≤ 65536 := by omega
  obtain ⟨N, hN⟩ : ∃ N : Nat, 1064 + n * 41 = N := ⟨_, rfl⟩
  have hNz : (1064 : Int) + (n : Int) * 41 = (N : Int) := by omega
  have hw1 : IntKind.i64.wrap ((n : Int) * 41) = (n : Int) * 41 := by rw [IntKind.wrap_i64]; omega
  have hw2 : IntKind.i64.wrap (N : Int) = (N : Int) := by rw [IntKind.wrap_i64]; omega
  have hNl : N ≤ 281474976710656 := by omega
  clear h hBk hs hl hok hX hC hR hN hn hc288
  go_enter Tryz.func49, Tryz.ntmps49
  go_wp2_with fail
  refine (growB N w hNl).mono ?_
  rintro e w1 ⟨rfl, h1, hb1⟩
  have K1 : Hid (BS w [] w1) := ⟨h1, hb1⟩
  clear h1 hb1 hw1 hw2 hNz
  go_wp2_with fail
  refine (writeS w.heap.size w.heap.size [] ⟨#[109, 105, 120, 49]⟩ w1 K1.out.bld (by show 0 + 4 ≤ _; omega) K1.out.bel.size).mono ?_
  rintro e w2 ⟨rfl, h2, hb2, _⟩
  have K2 : Hid (BS w [109, 105, 120, 49] w2) := ⟨h2, K1.out.bel.trans hb2⟩
  clear h2 hb2 K1
  go_wp2_with fail
  refine (writeV w.heap.size w.heap.size [109, 105, 120, 49] (bl s) g 0 32 32 C 115 w2 K2.out.bld (HGB.out _ K2.out.bel) (by decide) (by omega) (by rw [bl_length]; exact HS.out) HC1.out (by show 4 + 32 ≤ _; omega) K2.out.bel.size).mono ?_
  rintro e w3 ⟨rfl, h3, hb3, _⟩
  have K3 : Hid (BS w ([109, 105, 120, 49] ++ bl s) w3) := ⟨h3, K2.out.bel.trans hb3⟩
  have hq3 := HQ.out _ K3.out.bel
  clear h3 hb3 K2 hsl hq0
  go_wp2_with fail
  refine (putN w.heap.size w.heap.size n ([109, 105, 120, 49] ++ bl s) w3 (by omega) K3.out.bld (by rw [List.length_append, bl_length, HS.out]; show 4 + 32 ≤ _; omega) K3.out.bel.size).mono ?_
  rintro e w4 ⟨rfl, h4, hb4, _⟩
  have K4 : Hid (BS w ([109, 105, 120, 49] ++ (bl s ++ (f4 l.length ++ fanT l 0))) w4) := BS.mk' ⟨h4, K3.out.bel.trans hb4⟩ (by rw [HL.out]; simp [fanT])
  have HFI : Hid ((Tryz.prog.info? 113).map (·.size) = some (fnC (fanL l)).toArray.size) := by
    show _ = some _
    rw [List.size_toArray, fnC_len]
    kernel_rfl
  obtain ⟨FC, hFC⟩ : ∃ FC, (fnC (fanL l)).toArray = FC := ⟨_, rfl⟩
  rw [hFC] at HFI HC2
  have HFX : Hid (∀ i : Nat, i < 256 → ∀ W, (Instr.index 113 (.agg FC) (.int .i64 (i : Int))).run Tryz.prog W = .ok (.int .i64 (fanL l i : Int)) W) := fun i hi W => ix_fan i hi FC _ (by rw [← hFC, List.getElem?_toArray]; exact fnC_get _ i hi) W
  clear h4 hb4 K3 hq3 hFC
  go_wp2_with (refine wpList_get rfl 113 (.tmp 33) rfl g 32 C FC 115 _ rfl (HGB.out _ K4.out.bel) HC2.out Tryz.underlying113 rfl HFI.out ?_)
  go_loopw [35] (fun v wr => ∃ b : Nat, v = .int .i64 b ∧ b ≤ 256 ∧ Hid (BS w ([109, 105, 120, 49] ++ (bl s ++ (f4 l.length ++ fanT l b))) wr)) (fun v _ => 256 - (intOf v).toNat)
  case atStart => exact ⟨0, rfl, by omega, K4.out⟩
  case round =>
    obtain ⟨b, rfl, hb, K5⟩ := hrel
    clear K4
    by_cases hlt : b < 256
    · have hbz : (b : Int) < 256 := by omega
      have hix := HFX.out b hlt
      obtain ⟨q, hq⟩ : ∃ q, fanL l b = q := ⟨_, rfl⟩
      have hql : q ≤ 65536 := by rw [← hq]; exact Nat.le_trans (fanL_le l b) (by rw [HL.out]; exact hn')
      have HNX : Hid (fanT l (b + 1) = fanT l b ++ f4 q) := by rw [← hq]; exact fanT_succ l b
      rw [hq] at hix
      have hlen : ([109, 105, 120, 49] ++ (bl s ++ (f4 l.length ++ fanT l b)) : List UInt8).length ≤ 100000000 := by
        rw [List.length_append, List.length_append, List.length_append, bl_length, HS.out, f4_len, fanT_len]
        show 4 + _ ≤ _
        omega
      have HP : Hid (Calls Tryz.prog 91 #[.int .i64 (q : Int), .pointer (some ⟨w.heap.size, 0, none⟩)] wr fun e w' => e = .returned (.tuple #[]) ∧ Bld w.heap.size w.heap.size ([109, 105, 120, 49] ++ (bl s ++ (f4 l.length ++ fanT l b)) ++ f4 q) w' ∧ Below w.heap.size wr w' ∧ Oth w.heap.size wr w') := putN w.heap.size w.heap.size q _ wr (by omega) K5.out.bld hlen K5.out.bel.size
      clear hq hlen
      go_wp2_with fail
      refine HP.out.mono ?_
      rintro e w6 ⟨rfl, h6, hb6, _⟩
      have K6 : Hid (BS w ([109, 105, 120, 49] ++ (bl s ++ (f4 l.length ++ fanT l (b + 1)))) w6) := BS.mk' ⟨h6, K5.out.bel.trans hb6⟩ (by rw [HNX.out]; simp)
      clear h6 hb6 HP HNX K5 hix
      go_wp2
      go_roundw
      case rel => exact ⟨b + 1, by go_num, by omega, K6.out⟩
      case measure => simp [intOf]; omega
    · have hbz : ¬ (b : Int) < 256 := by omega
      obtain rfl : b = 256 := by omega
      have K6 : Hid (BS w (hdB s l ++ ensB (l.take 0)) wr) := BS.mk' ⟨K5.out.bld, K5.out.bel⟩ (by simp [hdB, ensB])
      have hq6 := HQ.out _ K6.out.bel
      clear K5
      go_wp2
      go_loopw [47] (fun v wr => ∃ k : Nat, v = .int .i64 k ∧ k ≤ n ∧ Hid (BS w (hdB s l ++ ensB (l.take k)) wr)) (fun v _ => n - (intOf v).toNat)
      case atStart => exact ⟨0, rfl, Nat.zero_le _, K6.out⟩
      case round =>
        obtain ⟨k, rfl, hk, K7⟩ := hrel
        clear K6 hq6
        by_cases hlt2 : k < n
        · have hkz : (k : Int) < (n : Nat) := by omega
          obtain ⟨e, he⟩ : ∃ e, l[k]? = some e := ⟨l[k]'(by rw [HL.out]; exact hlt2), List.getElem?_eq_getElem _⟩
          obtain ⟨ga, oa, rfl, hga, h32, hcells⟩ := (HX.out.below K7.out.bel).get he
          have hoke := (okX_iff e).1 (HOK.out e (List.mem_of_getElem? he))
          have HT : Hid (ensB (l.take (k + 1)) = ensB (l.take k) ++ enB e) := by rw [take_snocX he]; exact ensB_snoc _ _
          have hlen0 : (hdB s l ++ ensB (l.take k)).length ≤ 90000000 := by
            rw [List.length_append, hdB_len l HS.out, ensB_len (fun x hx => HX.out.ids x (List.mem_of_mem_take hx)), List.length_take]
            omega
          obtain ⟨X, hXe⟩ : ∃ X, xeC e = X := ⟨_, rfl⟩
          obtain ⟨hk1, hk2, hk3⟩ := xeC_at e h32
          have HXI : Hid (∀ j u, (Lib.byteCells (bl e.id))[j]? = some u → X[0 + j]? = some u) := fun j u hu => by
            rw [← hXe]
            exact xeC_id e h32 j u (by rwa [bc_idc, Array.getElem?_toList] at hu)
          have HIX : Hid ((Tryz.prog.info? 50).map (·.size) = some X.toList.length ∧ X.all (·.oneCell') = true ∧ X.size = 35) := by rw [← hXe]; exact ⟨by rw [inf_xe35, Array.length_toList, xeC_size e h32], xeC_all e, xeC_size e h32⟩
          rw [hXe] at hk1 hk2 hk3 hcells
          have HCE : Hid (∀ j v, X[j]? = some v → wr.cell? ⟨ga, oa + k * 35 + j, none⟩ = some v) := hcells
          obtain ⟨m0, hm0⟩ : ∃ m0, hdB s l ++ ensB (l.take k) = m0 := ⟨_, rfl⟩
          rw [hm0] at hlen0 K7
          have HM : Hid (hdB s l ++ ensB (l.take (k + 1)) = m0 ++ enB e) := by show _ = _; rw [HT.out, ← hm0, List.append_assoc]
          obtain ⟨id, ek, eo, ez⟩ := e
          simp only at h32 hoke hk1 hk2 hk3 HXI HM
          obtain ⟨no, rfl⟩ : ∃ no : Nat, eo = (no : Int) := ⟨eo.toNat, by omega⟩
          obtain ⟨nz, rfl⟩ : ∃ nz : Nat, ez = (nz : Int) := ⟨ez.toNat, by omega⟩
          have hno : no ≤ 67108864 := by omega
          have hnz : nz ≤ 2097152 := by omega
          have HEB : Hid (enB ⟨id, ek, (no : Int), (nz : Int)⟩ = bl id ++ ([ek] ++ (f4 no ++ f4 nz))) := rfl
          have H32 : Hid (id.size = 32) := h32
          have B1 : Hid (Bk (wr.alloc (.cells X 50)) wr.heap.size X 50) := bk_new _ _ _
          have K8 : Hid (BS w m0 (wr.alloc (.cells X 50))) := ⟨bld_keep11 K7.out.bld ((Below.refl _ _).alloc (Nat.le_refl _) _), K7.out.bel.alloc K7.out.bel.size _⟩
          have hbz2 : wr.heap.size ≠ w.heap.size := by have := (bld_lt K7.out.bld).2; omega
          have hsl := slice32 wr.heap.size
          clear hcells hXe he hoke h32 hm0 HT
          go_wp2_with (first
            | (refine wpList_load_mid rfl 50 (.tmp 49) rfl ga (oa + k * 35) rfl X.toList _ (fun j v hv => HCE.out j v (by rwa [Array.getElem?_toList] at hv)) Tryz.underlying50 rfl HIX.out.1 ?_)
            | (refine wpList_store_new rfl 50 (.tmp 8) (.tmp 50) rfl X _ 50 wr.heap.size rfl rfl rfl (info_xe HIX.out.2.2) (by rw [HIX.out.2.2]; rfl) HIX.out.2.1 ?_)
            | fail)
          have hsz8 : w.heap.size ≤ (wr.alloc (.cells X 50)).heap.size := K8.out.bel.size
          refine (writeV w.heap.size w.heap.size m0 (bl id) wr.heap.size 0 32 32 X 50 _ K8.out.bld B1.out (by decide) hbz2 (by rw [bl_length]; exact H32.out) HXI.out (by omega) hsz8).mono ?_
          rintro e w9 ⟨rfl, h9, hb9, ho9⟩
          have K9 : Hid (BS w (m0 ++ bl id) w9) := ⟨h9, K8.out.bel.trans hb9⟩
          have B9 : Hid (Bk w9 wr.heap.size X 50) := oth_bk11 ho9 B1.out hbz2 (by decide)
          have hl9 : (m0 ++ bl id).length ≤ 90000032 := by rw [List.length_append, bl_length, H32.out]; omega
          have y9 : w9.cell? ⟨wr.heap.size, 32, none⟩ = some (.int .u8 (ek.toNat : Int)) := by rw [B9.out.cell]; exact hk1
          clear h9 hb9 ho9 K8 B1 hsl
          go_wp2_with fail
          refine (writeB w.heap.size w.heap.size (m0 ++ bl id) ek w9 K9.out.bld (by omega) K9.out.bel.size).mono ?_
          rintro e w10 ⟨rfl, h10, hb10, ho10⟩
          have K10 : Hid (BS w (m0 ++ bl id ++ [ek]) w10) := ⟨h10, K9.out.bel.trans hb10⟩
          have B10 : Hid (Bk w10 wr.heap.size X 50) := oth_bk11 ho10 B9.out hbz2 (by decide)
          have hl10 : (m0 ++ bl id ++ [ek]).length ≤ 90000033 := by rw [List.length_append, List.length_singleton]; omega
          have y10 : w10.cell? ⟨wr.heap.size, 33, none⟩ = some (.int .i64 (no : Int)) := by rw [B10.out.cell]; exact hk2
          clear h10 hb10 ho10 K9 B9 y9
          go_wp2_with fail
          refine (putN w.heap.size w.heap.size no (m0 ++ bl id ++ [ek]) w10 (by omega) K10.out.bld (by omega) K10.out.bel.size).mono ?_
          rintro e w11 ⟨rfl, h11, hb11, ho11⟩
          have K11 : Hid (BS w (m0 ++ bl id ++ [ek] ++ f4 no) w11) := ⟨h11, K10.out.bel.trans hb11⟩
          have B11 : Hid (Bk w11 wr.heap.size X 50) := oth_bk11 ho11 B10.out hbz2 (by decide)
          have hl11 : (m0 ++ bl id ++ [ek] ++ f4 no).length ≤ 90000037 := by rw [List.length_append, f4_len]; omega
          have y11 : w11.cell? ⟨wr.heap.size, 34, none⟩ = some (.int .i64 (nz : Int)) := by rw [B11.out.cell]; exact hk3
          clear h11 hb11 ho11 K10 B10 y10
          go_wp2_with fail
          refine (putN w.heap.size w.heap.size nz (m0 ++ bl id ++ [ek] ++ f4 no) w11 (by omega) K11.out.bld (by omega) K11.out.bel.size).mono ?_
          rintro e w12 ⟨rfl, h12, hb12, ho12⟩
          have K12 : Hid (BS w (hdB s l ++ ensB (l.take (k + 1))) w12) := BS.mk' ⟨h12, K11.out.bel.trans hb12⟩ (by rw [HM.out, HEB.out]; simp)
          clear h12 hb12 ho12 K11 B11 y11
          go_wp2
          go_roundw
          case rel => exact ⟨k + 1, by go_num, by omega, K12.out⟩
          case measure => simp [intOf]; omega
        · have hkz : ¬ (k : Int) < (n : Nat) := by omega
          obtain rfl : k = n := by omega
          have K8 : Hid (BS w (ixB s l) wr) := BS.mk' ⟨K7.out.bld, K7.out.bel⟩ (by rw [List.take_of_length_le (by rw [HL.out]; omega)]; rfl)
          have HBS : Hid (Calls Tryz.prog 72 #[.pointer (some ⟨w.heap.size, 0, none⟩)] wr fun e w' => e = .returned (.string R) ∧ Below w.heap.size w w') := (buildS w.heap.size w.heap.size (ixB s l) wr K8.out.bld K8.out.bel.size).mono fun e w' q => ⟨by rw [← HR.out]; exact q.1, K8.out.bel.trans q.2.2.1⟩
          clear K7
          go_wp2_with fail
          refine HBS.out.mono ?_
          rintro e w9 ⟨rfl, hb9⟩
          go_wp2
          go_ret
          exact ⟨rfl, hb9⟩
end Go.Proofs.YtbfoiocbmhhdbaaGreat
/- idx.take. -/
namespace Go.Proofs.YtbfoiocbmhhdbaaGreat
open Go.RowKit
set_option linter.unusedSimpArgs false
set_option linter.unusedVariables false
/-- A row that is being filled. -/
structure TkR (w : World) (s : ByteArray) (b g m : Nat) (t : ByteArray) (l : List Xe) (wr : World) : Prop where
  rc : wr.cell? ⟨b, 0, none⟩ = some (.string t)
  rf : wr.frozen? ⟨b, 0, none⟩ = false
  rl : b < wr.heap.size
  row : ∃ C, Bk wr g C 50 ∧ C.size = m * 35 ∧ ∀ i e, l[i]? = some e → ∀ j, j < 35 → C[i * 35 + j]? = (xeC e)[j]?
  bel : Below w.heap.size w wr
  hb : w.heap.size < b
  hg : b < g
  zb : Bk wr w.heap.size (idc s) 48
theorem TkR.step {w wr w' : World} {s t t' : ByteArray} {b g m : Nat} {l : List Xe} (h : TkR w s b g m t l wr) (hs : Step b wr w' t') : TkR w s b g m t' l w' := by
  have h1 := h.hb
  have h2 := h.hg
  obtain ⟨C, c1, c2⟩ := h.row
  refine ⟨hs.cell, hs.frozen, Nat.lt_of_lt_of_le h.rl hs.size, ⟨C, ?_, c2⟩, h.bel.trans (hs.below (by omega) h.bel.size), h.hb, h.hg, ?_⟩
  · unfold Bk; rw [hs.block _ c1.lt (by omega)]; exact c1
  · unfold Bk; rw [hs.block _ h.zb.lt (by omega)]; exact h.zb
theorem TkR.put {w wr w' : World} {s t : ByteArray} {b g m : Nat} {l : List Xe} {C' : Array Value} {e : Xe} (h : TkR w s b g m t l wr) (hg : wr.grownBy w' (some g)) (hC : Bk w' g C' 50) (hz : C'.size = m * 35) (hn : ∀ i e', (l ++ [e])[i]? = some e' → ∀ j, j < 35 → C'[i * 35 + j]? = (xeC e')[j]?) : TkR w s b g m t (l ++ [e]) w' := by
  have h1 := h.hb
  have h2 := h.hg
  have q := cell_blkX (j := 0) (hg.block b h.rl (fun e => by injection e with e; omega))
  refine ⟨by rw [q.1]; exact h.rc, by rw [q.2]; exact h.rf, Nat.lt_of_lt_of_le h.rl hg.size, ⟨C', hC, hz, hn⟩, below_own h.bel h.bel.size hg (by omega), h.hb, h.hg, ?_⟩
  unfold Bk; rw [hg.block _ h.zb.lt (fun e => by injection e with e; omega)]; exact h.zb
theorem take_snocXt {l : List Xe} {k : Nat} {e : Xe} (h : l[k]? = some e) : l.take (k + 1) = l.take k ++ [e] := by
  rw [List.take_add_one, h]; rfl
theorem inf_xe3 : (Tryz.prog.info? 50).map (fun i => (i.zero, i.size, i.bytes)) = some (some (.agg z35X), 35, 56) := inf_xe
theorem make_xe (n : Nat) (hn : n ≤ 65536) (u : World) : (Instr.makeSlice 66 (.int .i64 (n : Int)) (.int .i64 (n : Int))).run Tryz.prog u = .ok (.slice (some ⟨u.heap.size, 0, none⟩) n n) (u.alloc (.cells (madeCells (Value.agg z35X).cells (n * 35)) 50)) := by
  obtain ⟨i0, hi, hz0, hz1, hz2⟩ := info_parts inf_xe
  have h := run_makeSlice u 66 50 i0 (.agg z35X) Tryz.underlying66 hi hz0 .i64 .i64 (n : Int) (n : Int) (by omega) (Int.le_refl _) (by rw [hz1]; omega) (by rw [hz2]; omega) (by omega)
  rw [hz1, Int.toNat_natCast] at h
  exact h
set_option maxHeartbeats 4000000 in
set_option maxRecDepth 100000 in
theorem itake_any (S : ByteArray) (w : World) (h1 : 1064 ≤ S.size) (h2 : S.size ≤ 2688040) :
    Calls Tryz.prog 46 #[.string S] w fun e w' => ∃ g n, e = .returned (.tuple #[.agg (idc (rdS (bl S))), .slice (some ⟨g, 0, none⟩) n n]) ∧ n = (S.size - 1064) / 41 ∧ XeL w' (some ⟨g, 0, none⟩) (rdA (bl S)) ∧ Below w.heap.size w w' := by
  obtain ⟨s, hs⟩ : ∃ s, rdS (bl S) = s := ⟨_, rfl⟩
  have hss : s.size = 32 := by
    rw [← hs, ← bl_length]
    show (((bl S).drop 4).take 32).length = 32
    rw [List.length_take, List.length_drop, bl_length]; omega
  obtain ⟨x, hx⟩ : ∃ x, S.extract 4 S.size = x := ⟨_, rfl⟩
  have hxs : x.size = S.size - 4 := by rw [← hx]; exact ex_size S 4
  have hxb : (byl x).take 32 = byl s := by
    rw [← hs, ← hx]
    show List.take 32 ((bl (S.extract 4 S.size)).map UInt8.toNat) = ((((bl S).drop 4).take 32).map UInt8.toNat)
    rw [bl_ex, List.map_take]
  have hsl := slice32 w.heap.size
  have hcp : ∀ W, Bk W w.heap.size z32c 48 → ∀ ty, (Builtin.copy_ #[131, 9] ty #[.slice (some ⟨w.heap.size, 0, none⟩) 32 32, .string x]).run Tryz.prog W = .ok (goInt 32) (W.setCells w.heap.size 0 (bvc (byl s))) := fun W hW ty => by
    have hi : (Tryz.prog.info? 5).map (·.size) = some 1 := by kernel_rfl
    have hm : Nat.min x.size 32 = 32 := by rw [hxs]; exact Nat.min_eq_right (by omega)
    have q := copy_str W 131 9 ty 5 w.heap.size 0 32 32 x Tryz.underlying131 hi (fun j hj => by
      rw [hm] at hj
      rw [hW.cell, Nat.zero_add, Array.getElem?_eq_getElem (by rw [z32c_size]; omega)]; rfl) (fun j _ => hW.frozen _)
    rw [hm, hxb] at q
    exact q
  have hz := zero_id
  have c1 := hcp (w.alloc (.cells z32c 48)) (bk_new _ _ _)
  have c2 := hcp (w.alloc (.cells z32c 48)).drew (bk_new _ _ _)
  have h4 : (4 : Int) ≤ S.size := by omega
  clear hcp hxb
  obtain ⟨T, hT⟩ : ∃ T, S.extract 1064 S.size = T := ⟨_, rfl⟩
  have hTs : T.size = S.size - 1064 := by rw [← hT]; exact ex_size S 1064
  have hTb : bl T = (bl S).drop 1064 := by rw [← hT]; exact bl_ex S 1064
  obtain ⟨n, hn⟩ : ∃ n, (S.size - 1064) / 41 = n := ⟨_, rfl⟩
  have hn6 : n ≤ 65536 := by omega
  have HN : Hid (41 * n ≤ T.size) := by show 41 * n ≤ T.size; omega
  have hmk := make_xe n hn6
  have hdv : (T.size : Int) / 41 = (n : Int) := by omega
  have h5 : (1064 : Int) ≤ S.size := by omega
  have hTm : T.size ≤ maxLen := by unfold maxLen; omega
  have hTq : T.size ≤ 2688040 := by omega
  obtain ⟨L, hL⟩ : ∃ L, rdA (bl S) = L := ⟨_, rfl⟩
  have hLl : L.length = n := by rw [← hL, rdA, rdL_len, bl_length, hn]
  have HLg : Hid (∀ k, k < n → L[k]? = some (rdXe ((bl T).drop (41 * k)))) := fun k hk => by
    rw [← hL, rdA, bl_length, hn, rdL_get _ _ _ hk, hTb]
  have HI : Hid ((Tryz.prog.info? 48).map (·.size) = some (idc s).size ∧ (idc s).all (·.oneCell') = true ∧ (idc s).size = 32 ∧ L.length = n) := ⟨info_32 (by rw [idc_size, hss]), idc_allX s, by rw [idc_size, hss], hLl⟩
  rw [hs, hL, hn]
  clear hTb hn hL hLl hs hTs
  go_enter Tryz.func46, Tryz.ntmps46
  go_wp2_with fail
  go_region
  have hput : putA z32c 0 (bvc (byl s)) = idc s := by
    have hle : 0 + (bvc (byl s)).length ≤ z32c.size := by rw [z32c_size]; simp [bvc, byl_length, hss]
    apply Array.ext_getElem?
    intro j
    rw [putA_get _ _ _ _ hle]
    by_cases hj : j < 32
    · rw [if_pos (by simp [bvc, byl_length, hss]; omega), idc, List.getElem?_toArray, Nat.sub_zero]
    · rw [if_neg (by simp [bvc, byl_length, hss]; omega), Array.getElem?_eq_none (by rw [z32c_size]; omega), Array.getElem?_eq_none (by rw [idc_size, hss]; omega)]
  have hB0 : Bk ((w.alloc (.cells z32c 48)).drew.setCells w.heap.size 0 (bvc (byl s))) w.heap.size (idc s) 48 := by
    rw [← hput]
    exact Blk.puts _ _ _ _ (bk_new _ _ _)
  have hbel : Below w.heap.size w ((w.alloc (.cells z32c 48)).drew.setCells w.heap.size 0 (bvc (byl s))) := below_own (((Below.refl _ _).alloc (Nat.le_refl _) _).drew) (by show w.heap.size ≤ (w.alloc _).heap.size; rw [al_size]; omega) (grown_puts _ _ _ (World.grownBy.refl _ _)) (Nat.le_refl _)
  obtain ⟨W1, hW1⟩ : ∃ W1, (w.alloc (.cells z32c 48)).drew.setCells w.heap.size 0 (bvc (byl s)) = W1 := ⟨_, rfl⟩
  rw [hW1] at hB0 hbel ⊢
  have H1 : Hid (Bk W1 w.heap.size (idc s) 48 ∧ Below w.heap.size w W1) := ⟨hB0, hbel⟩
  clear c1 c2 hz hsl hW1 hB0 hbel hput hx hxs hss h4
  go_wp2_with fail
  refine (new_any T W1).mono ?_
  rintro e w2 ⟨rfl, rfl⟩
  have H2 : Hid (Bk (W1.alloc (.cells #[.string T] 182)) W1.heap.size #[.string T] 182) := bk_new _ _ _
  have hcell : (W1.alloc (.cells #[.string T] 182)).cell? ⟨W1.heap.size, 0, none⟩ = some (.string T) := by rw [H2.out.cell]; rfl
  go_wp2_with fail
  refine (left_any T W1.heap.size _ hTm hcell).mono ?_
  rintro e w3 ⟨rfl, hw3⟩
  obtain rfl := hw3.symm
  have hsz : w.heap.size < W1.heap.size := H1.out.1.lt
  have T0 : Hid (TkR w s W1.heap.size (W1.heap.size + 1) n T (L.take 0) ((W1.alloc (.cells #[.string T] 182)).alloc (.cells (madeCells (Value.agg z35X).cells (n * 35)) 50))) := by
    have q := bk_new (W1.alloc (.cells #[.string T] 182)) (madeCells (Value.agg z35X).cells (n * 35)) 50
    rw [al_size] at q
    refine ⟨?_, (H2.out.alloc _).frozen _, (H2.out.alloc _).lt, ⟨_, q, by simp [madeCells], fun i e he => by simp at he⟩, (H1.out.2.alloc H1.out.2.size _).alloc (by rw [al_size]; have := H1.out.2.size; omega) _, hsz, by omega, (H1.out.1.alloc _).alloc _⟩
    rw [(H2.out.alloc _).cell]; rfl
  clear hcell H2 H1 hT h5
  obtain ⟨b, hb⟩ : ∃ b, W1.heap.size = b := ⟨_, rfl⟩
  go_wp2_with fail
  clear hdv hmk
  go_loopw [19] (fun v wr => ∃ (k : Nat) (t : ByteArray), v = .int .i64 k ∧ k ≤ n ∧ Hid (TkR w s b (b + 1) n t (L.take k) wr) ∧ Hid (bl t = (bl T).drop (41 * k))) (fun v _ => n - (intOf v).toNat)
  case atStart =>
    rw [hb] at T0
    exact ⟨0, T, rfl, Nat.zero_le _, T0.out, rfl⟩
  case round =>
    obtain ⟨k, t, rfl, hk, HR, HT⟩ := hrel
    clear T0
    by_cases hlt : k < n
    · have hkz : (k : Int) < (n : Nat) := by omega
      have ht : t.size = T.size - 41 * k := by
        have := congrArg List.length HT.out
        rw [List.length_drop, bl_length, bl_length] at this
        exact this
      have h41 := HN.out
      have HE : Hid (L[k]? = some (rdXe (bl t))) := by rw [HT.out]; exact HLg.out k hlt
      have hid : (rdXe (bl t)).id.size = 32 := by
        show (⟨((bl t).take 32).toArray⟩ : ByteArray).size = 32
        rw [← bl_length]
        show ((bl t).take 32).length = 32
        rw [List.length_take, bl_length]; omega
      have HCA : Hid (Calls Tryz.prog 90 #[.pointer (some ⟨b, 0, none⟩)] wr fun e w' => e = .returned (.agg (xeC (rdXe (bl t)))) ∧ Step b wr w' (t.extract 41 t.size)) := takeEntry_any t b wr HR.out.rc HR.out.rf HR.out.rl (by omega) (by omega)
      obtain ⟨E, hE⟩ : ∃ E, rdXe (bl t) = E := ⟨_, rfl⟩
      rw [hE] at HE hid HCA
      obtain ⟨X, hX⟩ : ∃ X, xeC E = X := ⟨_, rfl⟩
      rw [hX] at HCA
      have HIX : Hid ((Tryz.prog.info? 50).map (·.size) = some X.size ∧ X.all (·.oneCell') = true ∧ X.size = 35) := by rw [← hX]; exact ⟨info_xe (xeC_size _ hid), xeC_all _, xeC_size _ hid⟩
      have HXE : Hid (xeC E = X) := hX
      have HT2 : Hid (bl (t.extract 41 t.size) = (bl T).drop (41 * (k + 1))) := by
        show _ = _
        rw [bl_ex, HT.out, List.drop_drop]; congr 1
      clear hE hX hid ht h41
      go_wp2_with fail
      refine HCA.out.mono ?_
      rintro e w4 ⟨rfl, hst⟩
      have HR2 : Hid (TkR w s b (b + 1) n (t.extract 41 t.size) (L.take k) w4) := HR.out.step hst
      obtain ⟨C, hC1, hC2, hC3⟩ := HR2.out.row
      have HC : Hid (Bk w4 (b + 1) C 50 ∧ C.size = n * 35 ∧ ∀ i e, (L.take k)[i]? = some e → ∀ j, j < 35 → C[i * 35 + j]? = (xeC e)[j]?) := ⟨hC1, hC2, hC3⟩
      have hle : k * 35 + X.size ≤ C.size := by rw [HIX.out.2.2, hC2]; omega
      clear HR hst HCA hC1 hC2 hC3
      go_wp2_with (first
        | (refine wpList_put rfl 50 (.tmp 26) (.tmp 25) rfl (b + 1) (k * 35) C X 50 rfl rfl HC.out.1 HIX.out.1 hle HIX.out.2.1 ?_; intro w5 HB5 HG5 hz5)
        | fail)
      have hk35 : k * 35 + X.toList.length ≤ C.size := by rw [Array.length_toList]; exact hle
      have HR5 : Hid (TkR w s b (b + 1) n (t.extract 41 t.size) (L.take (k + 1)) w5) := by
        have e1 : L.take (k + 1) = L.take k ++ [E] := take_snocXt HE.out
        rw [e1]
        refine HR2.out.put HG5.out HB5.out (by rw [putC_size]; exact HC.out.2.1) (fun i e' he' j hj => ?_)
        rw [putC_get _ _ _ _ hk35, Array.length_toList, HIX.out.2.2]
        have hlk : (L.take k).length = k := by rw [List.length_take, HI.out.2.2.2]; omega
        by_cases hi : i < k
        · rw [List.getElem?_append_left (by rw [hlk]; exact hi)] at he'
          rw [if_neg (by omega)]
          exact HC.out.2.2 i e' he' j hj
        · have hi2 : i = k := by
            have := (List.getElem?_eq_some_iff.1 he').1
            rw [List.length_append, hlk, List.length_singleton] at this
            omega
          subst hi2
          rw [List.getElem?_append_right (by omega), hlk, Nat.sub_self, List.getElem?_cons_zero] at he'
          injection he' with he'
          subst he'
          rw [if_pos ⟨by omega, by omega⟩, Array.getElem?_toList, HXE.out, show i * 35 + j - i * 35 = j by omega]
      clear HR2 HB5 HG5 hz5 HC hk35 hle
      go_wp2
      go_roundw
      case rel => exact ⟨k + 1, _, by go_num, by omega, HR5.out, HT2.out⟩
      case measure => simp [intOf]; omega
    · have hkz : ¬ (k : Int) < (n : Nat) := by omega
      obtain rfl : k = n := by omega
      have HR9 : Hid (TkR w s b (b + 1) k t L wr) := by
        have := HR.out
        rw [List.take_of_length_le (by rw [HI.out.2.2.2]; omega)] at this
        exact this
      clear HR
      have HZ : Hid (Bk wr w.heap.size (idc s) 48) := HR9.out.zb
      have HI2 : Hid (L.length = k ∧ ∀ e ∈ L, e.id.size = 32) := ⟨HI.out.2.2.2, fun e he => by
        obtain ⟨i, hi⟩ := List.mem_iff_getElem?.1 he
        have hik : i < k := by rw [← HI.out.2.2.2]; exact (List.getElem?_eq_some_iff.1 hi).1
        rw [HLg.out i hik] at hi
        injection hi with hi
        rw [← hi]
        show (⟨(((bl T).drop (41 * i)).take 32).toArray⟩ : ByteArray).size = 32
        rw [← bl_length]
        show (((bl T).drop (41 * i)).take 32).length = 32
        have := HN.out
        rw [List.length_take, List.length_drop, bl_length]; omega⟩
      go_wp2_with (first
        | (refine wpList_get rfl 48 (.tmp 2) rfl w.heap.size 0 (idc s) (idc s) 48 _ rfl HZ.out (fun j v hv => by rw [Nat.zero_add]; exact hv) Tryz.underlying48 rfl HI.out.1 ?_)
        | (refine wpList_stoX rfl 48 (.tmp 2) (.tmp 28) rfl w.heap.size (idc s) (idc s) 48 rfl rfl HZ.out HI.out.1 rfl HI.out.2.1 ?_; intro w7 HB7 HG7)
        | fail)
      refine bodyPost_ret (results_cell_tmp_row rfl _ _ w.heap.size 48 (idc s) (0, 0) _ rfl HB7.out Tryz.underlying48 rfl HI.out.1) rfl ⟨b + 1, k, rfl, rfl, ?_, ?_⟩
      · intro i e he
        have h6 := HR9.out
        obtain ⟨C, c1, c2, c3⟩ := h6.row
        have hgg := h6.hg
        have hbb := h6.hb
        have hc7 : Bk w7 (b + 1) C 50 := by
          unfold Bk
          rw [HG7.out.block (b + 1) c1.lt (fun e => by injection e with e; omega)]
          exact c1
        have hid : e.id.size = 32 := HI2.out.2 e (List.mem_of_getElem? he)
        refine ⟨hid, b + 1, 0, rfl, hc7.lt, fun j v hv => ?_⟩
        have hj : j < 35 := by
          have := (Array.getElem?_eq_some_iff.1 hv).1
          rw [xeC_size e hid] at this; exact this
        rw [hc7.cell, Nat.zero_add, c3 i e he j hj, hv]
      · exact below_own HR9.out.bel HR9.out.bel.size HG7.out (Nat.le_refl _)
end Go.Proofs.YtbfoiocbmhhdbaaGreat
