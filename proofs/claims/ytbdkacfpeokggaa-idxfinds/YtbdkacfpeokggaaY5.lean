import Derived.Test.YtbdkacfpeokggaaY4
import Derived.Test.YtbdkacfpeokggaaChecked
import Derived.Shelf.SlSortCmp.WholeK
import Derived.Shelf.SlSorted.Search
import Derived.Shelf.SlicesE.Clone
import Derived.Test.YtbdkacfpeokggaaY3
import Derived.Sort.OwnSorted
import Derived.Test.YtbdkacfpeokggaaRows
import Derived.WalkKit
import Derived.Handy
import Derived.Maps.OwnSet
import Derived.Maps.OwnOps
import Derived.Maps.RangeWalk
import Derived.Maps.Ext
import Derived.StringKeys
import Derived.Test.YtbdkacfpeokggaaY2
/- idx.Index.bytes: an index's bytes. -/
namespace Go.Proofs.Ytbdkacfpeokggaa
open Go.RowKit
set_option linter.unusedSimpArgs false
set_option linter.unusedVariables false
theorem ix_fan (i : Nat) (hi : i < 256) (cs : Array Value) (v : Value) (hc : cs[i]? = some v) (w : World) : (Instr.index 61 (.agg cs) (.int .i64 (i : Int))).run Try.prog w = .ok v w := by
  have h0 : (0 : Int) ≤ (i : Int) := by omega
  have h1 : (i : Int) < 256 := by omega
  have ha : (isAgg 3).run Try.prog w = .ok false w := by kernel_rfl
  have hs : (sizeOf 3).run Try.prog w = .ok 1 w := by kernel_rfl
  simp [Instr.index, run_underlying Try.underlying61, asIntOf, h0, h1, go_sem, part, ha, hs, hc]
  intro q
  omega
theorem oth_below {b : Nat} {w w' : World} (h : Below w.heap.size w w') : Oth b w w' := fun k o hk _ _ => (h.block k (Array.getElem?_eq_some_iff.1 hk).1).trans hk
set_option maxHeartbeats 1000000 in
set_option maxRecDepth 100000 in
/-- The closure putNumber. -/
theorem putN (B b n : Nat) (l : List UInt8) (w : World) (hn : n < 4294967296) (h : Bld B b l w) (hlen : l.length ≤ 100000000) (hBw : B ≤ w.heap.size) :
    Calls Try.prog 30 #[.int .i64 (n : Int), .pointer (some ⟨b, 0, none⟩)] w fun e w' => e = .returned (.tuple #[]) ∧ Bld B b (l ++ f4 n) w' ∧ Below B w w' ∧ Oth b w w' := by
  have HP : Hid (Calls Try.prog 31 #[.string ⟨#[]⟩, .int .u64 (n : Int), .int .i64 4] w fun e w' => e = .returned (.tuple #[.string (⟨#[]⟩ ++ sb (fixN 4 n)), .int .i64 0]) ∧ Below w.heap.size w w') := by
    have := putFixed_ok ⟨#[]⟩ (n : Int) 4 w (by omega) (by omega) (by decide) (by decide) (by rw [Int.toNat_natCast]; exact hn) (by decide)
    rw [Int.toNat_natCast] at this
    exact this
  obtain ⟨Q, hQ⟩ : ∃ Q : ByteArray, (⟨#[]⟩ ++ sb (fixN 4 n) : ByteArray) = Q := ⟨_, rfl⟩
  have hQb : Q.data.toList = f4 n := by
    show bl Q = f4 n
    rw [← hQ, bl_append, bl_sb]; rfl
  have hQs : Q.size = 4 := by rw [← bl_length]; show Q.data.toList.length = 4; rw [hQb, f4_len]
  rw [hQ] at HP
  have HH : Hid (Bld B b l w) := h
  have HQ : Hid (Q.data.toList = f4 n ∧ Q.size = 4) := ⟨hQb, hQs⟩
  have hw1 : IntKind.u64.wrap (n : Int) = (n : Int) := by
    simp [IntKind.wrap, IntKind.bits, IntKind.signed]; omega
  clear hQ hQb hQs h
  go_enter Try.func30, Try.ntmps30
  go_wp2_with fail
  refine HP.out.mono ?_
  rintro e w1 ⟨rfl, hb1⟩
  have H1 : Hid (Bld B b l w1) := bld_keep11 HH.out hb1
  have HB1 : Hid (Below w.heap.size w w1) := hb1
  clear hb1
  go_wp2_with fail
  refine (writeS B b l Q w1 H1.out (by rw [HQ.out.2]; omega) (Nat.le_trans hBw HB1.out.size)).mono ?_
  rintro e w2 ⟨rfl, h2, hb2, ho2⟩
  have HE : Hid (Bld B b (l ++ f4 n) w2 ∧ Below B w w2 ∧ Oth b w w2) := ⟨by rw [← HQ.out.1]; exact h2, (HB1.out.mono hBw).trans hb2, (oth_below HB1.out).trans ho2⟩
  clear h2 hb2 ho2
  go_wp2
  go_end0
  exact ⟨rfl, HE.out⟩
end Go.Proofs.Ytbdkacfpeokggaa
/- idx.Index.bytes. -/
namespace Go.Proofs.Ytbdkacfpeokggaa
open Go.RowKit
set_option linter.unusedSimpArgs false
set_option linter.unusedVariables false
theorem bc_idc (s : ByteArray) : Lib.byteCells (bl s) = (idc s).toList := by
  simp only [Lib.byteCells, idc, bvc, byl, bl, List.map_map]
  rfl
/-- A builder under way. -/
structure BS (w : World) (m : List UInt8) (wr : World) : Prop where
  bld : Bld w.heap.size w.heap.size m wr
  bel : Below w.heap.size w wr
theorem BS.mk' {w wr : World} {m m' : List UInt8} (h : Bld w.heap.size w.heap.size m wr ∧ Below w.heap.size w wr) (e : m = m') : BS w m' wr := by subst e; exact ⟨h.1, h.2⟩
set_option maxHeartbeats 8000000 in
set_option maxRecDepth 100000 in
theorem bytes_any (g : Nat) (s : ByteArray) (l : List Xe) (w : World) (h : IxS w g s l) (hok : ∀ e ∈ l, okX e = true) (hn : l.length ≤ 65536) :
    Calls Try.prog 21 #[.pointer (some ⟨g, 0, none⟩)] w fun e w' => e = .returned (.string ⟨(ixB s l).toArray⟩) ∧ Below w.heap.size w w' := by
  obtain ⟨a, n, c, hBk, hX, hl, hcc, _⟩ := h.row
  have hs := h.id
  have HS : Hid (s.size = 32) := hs
  have HL : Hid (l.length = n) := hl
  have HOK : Hid (∀ e ∈ l, okX e = true) := hok
  have HX : Hid (XeL w a l) := hX
  obtain ⟨C, hC⟩ : ∃ C, ixC s (fanL l) (.slice a n c) = C := ⟨_, rfl⟩
  have HC1 : Hid (∀ j u, (Lib.byteCells (bl s))[j]? = some u → C[0 + j]? = some u) := fun j u hu => by
    rw [← hC]
    exact ixC_id s _ _ hs j u (by rwa [bc_idc, Array.getElem?_toList] at hu)
  have HC2 : Hid (∀ j u, (fnC (fanL l)).toArray[j]? = some u → C[32 + j]? = some u) := fun j u hu => by
    rw [List.getElem?_toArray] at hu
    have hj : j < 256 := by
      have := (List.getElem?_eq_some_iff.1 hu).1
      rwa [fnC_len] at this
    rw [← hC, ixC_fan s _ _ hs j hj, ← hu, fnC_get _ j hj]
  rw [hC] at hBk
  have HBk : Hid (Bk w g C 63) := hBk
  have hg : g < w.heap.size := hBk.lt
  have HGB : Hid (∀ W, Below w.heap.size w W → Bk W g C 63) := fun W hW => hBk.below hW hg
  have hc288 : C[288]? = some (.slice a n c) := by rw [← hC]; exact ixC_row s _ _ hs
  have HQ : Hid (∀ W, Below w.heap.size w W → W.cell? ⟨g, 288, none⟩ = some (.slice a n c)) := fun W hW => by rw [(HGB.out W hW).cell]; exact hc288
  have hq0 : w.cell? ⟨g, 288, none⟩ = some (.slice a n c) := HQ.out w (Below.refl _ _)
  have hsl := slice32 g
  obtain ⟨R, hR⟩ : ∃ R : ByteArray, (⟨(ixB s l).toArray⟩ : ByteArray) = R := ⟨_, rfl⟩
  have HR : Hid ((⟨(ixB s l).toArray⟩ : ByteArray) = R) := hR
  rw [hR]
  have hn' : n ≤ 65536 := by omega
  obtain ⟨N, hN⟩ : ∃ N : Nat, 1064 + n * 41 = N := ⟨_, rfl⟩
  have hNz : (1064 : Int) + (n : Int) * 41 = (N : Int) := by omega
  have hw1 : IntKind.i64.wrap ((n : Int) * 41) = (n : Int) * 41 := by rw [IntKind.wrap_i64]; omega
  have hw2 : IntKind.i64.wrap (N : Int) = (N : Int) := by rw [IntKind.wrap_i64]; omega
  have hNl : N ≤ 281474976710656 := by omega
  clear h hBk hs hl hok hX hC hR hN hn hc288
  go_enter Try.func21, Try.ntmps21
  go_wp2_with fail
  refine (growB N w hNl).mono ?_
  rintro e w1 ⟨rfl, h1, hb1⟩
  have K1 : Hid (BS w [] w1) := ⟨h1, hb1⟩
  clear h1 hb1 hw1 hw2 hNz
  go_wp2_with fail
  refine (writeS w.heap.size w.heap.size [] ⟨#[109, 105, 120, 49]⟩ w1 K1.out.bld (by show 0 + 4 ≤ _; omega) K1.out.bel.size).mono ?_
  rintro e w2 ⟨rfl, h2, hb2, _⟩
  have K2 : Hid (BS w [109, 105, 120, 49] w2) := ⟨h2, K1.out.bel.trans hb2⟩
  clear h2 hb2 K1
  go_wp2_with fail
  refine (writeV w.heap.size w.heap.size [109, 105, 120, 49] (bl s) g 0 32 32 C 63 w2 K2.out.bld (HGB.out _ K2.out.bel) (by decide) (by omega) (by rw [bl_length]; exact HS.out) HC1.out (by show 4 + 32 ≤ _; omega) K2.out.bel.size).mono ?_
  rintro e w3 ⟨rfl, h3, hb3, _⟩
  have K3 : Hid (BS w ([109, 105, 120, 49] ++ bl s) w3) := ⟨h3, K2.out.bel.trans hb3⟩
  have hq3 := HQ.out _ K3.out.bel
  clear h3 hb3 K2 hsl hq0
  go_wp2_with fail
  refine (putN w.heap.size w.heap.size n ([109, 105, 120, 49] ++ bl s) w3 (by omega) K3.out.bld (by rw [List.length_append, bl_length, HS.out]; show 4 + 32 ≤ _; omega) K3.out.bel.size).mono ?_
  rintro e w4 ⟨rfl, h4, hb4, _⟩
  have K4 : Hid (BS w ([109, 105, 120, 49] ++ (bl s ++ (f4 l.length ++ fanT l 0))) w4) := BS.mk' ⟨h4, K3.out.bel.trans hb4⟩ (by rw [HL.out]; simp [fanT])
  have HFI : Hid ((Try.prog.info? 61).map (·.size) = some (fnC (fanL l)).toArray.size) := by
    show _ = some _
    rw [List.size_toArray, fnC_len]
    kernel_rfl
  obtain ⟨FC, hFC⟩ : ∃ FC, (fnC (fanL l)).toArray = FC := ⟨_, rfl⟩
  rw [hFC] at HFI HC2
  have HFX : Hid (∀ i : Nat, i < 256 → ∀ W, (Instr.index 61 (.agg FC) (.int .i64 (i : Int))).run Try.prog W = .ok (.int .i64 (fanL l i : Int)) W) := fun i hi W => ix_fan i hi FC _ (by rw [← hFC, List.getElem?_toArray]; exact fnC_get _ i hi) W
  clear h4 hb4 K3 hq3 hFC
  go_wp2_with (refine wpList_get rfl 61 (.tmp 33) rfl g 32 C FC 63 _ rfl (HGB.out _ K4.out.bel) HC2.out Try.underlying61 rfl HFI.out ?_)
  go_loopw [35] (fun v wr => ∃ b : Nat, v = .int .i64 b ∧ b ≤ 256 ∧ Hid (BS w ([109, 105, 120, 49] ++ (bl s ++ (f4 l.length ++ fanT l b))) wr)) (fun v _ => 256 - (intOf v).toNat)
  case atStart => exact ⟨0, rfl, by omega, K4.out⟩
  case round =>
    obtain ⟨b, rfl, hb, K5⟩ := hrel
    clear K4
    by_cases hlt : b < 256
    · have hbz : (b : Int) < 256 := by omega
      have hix := HFX.out b hlt
      obtain ⟨q, hq⟩ : ∃ q, fanL l b = q := ⟨_, rfl⟩
      have hql : q ≤ 65536 := by rw [← hq]; exact Nat.le_trans (fanL_le l b) (by rw [HL.out]; exact hn')
      have HNX : Hid (fanT l (b + 1) = fanT l b ++ f4 q) := by rw [← hq]; exact fanT_succ l b
      rw [hq] at hix
      have hlen : ([109, 105, 120, 49] ++ (bl s ++ (f4 l.length ++ fanT l b)) : List UInt8).length ≤ 100000000 := by
        rw [List.length_append, List.length_append, List.length_append, bl_length, HS.out, f4_len, fanT_len]
        show 4 + _ ≤ _
        omega
      have HP : Hid (Calls Try.prog 30 #[.int .i64 (q : Int), .pointer (some ⟨w.heap.size, 0, none⟩)] wr fun e w' => e = .returned (.tuple #[]) ∧ Bld w.heap.size w.heap.size ([109, 105, 120, 49] ++ (bl s ++ (f4 l.length ++ fanT l b)) ++ f4 q) w' ∧ Below w.heap.size wr w' ∧ Oth w.heap.size wr w') := putN w.heap.size w.heap.size q _ wr (by omega) K5.out.bld hlen K5.out.bel.size
      clear hq hlen
      go_wp2_with fail
      refine HP.out.mono ?_
      rintro e w6 ⟨rfl, h6, hb6, _⟩
      have K6 : Hid (BS w ([109, 105, 120, 49] ++ (bl s ++ (f4 l.length ++ fanT l (b + 1)))) w6) := BS.mk' ⟨h6, K5.out.bel.trans hb6⟩ (by rw [HNX.out]; simp)
      clear h6 hb6 HP HNX K5 hix
      go_wp2
      go_roundw
      case rel => exact ⟨b + 1, by go_num, by omega, K6.out⟩
      case measure => simp [intOf]; omega
    · have hbz : ¬ (b : Int) < 256 := by omega
      obtain rfl : b = 256 := by omega
      have K6 : Hid (BS w (hdB s l ++ ensB (l.take 0)) wr) := BS.mk' ⟨K5.out.bld, K5.out.bel⟩ (by simp [hdB, ensB])
      have hq6 := HQ.out _ K6.out.bel
      clear K5
      go_wp2
      go_loopw [47] (fun v wr => ∃ k : Nat, v = .int .i64 k ∧ k ≤ n ∧ Hid (BS w (hdB s l ++ ensB (l.take k)) wr)) (fun v _ => n - (intOf v).toNat)
      case atStart => exact ⟨0, rfl, Nat.zero_le _, K6.out⟩
      case round =>
        obtain ⟨k, rfl, hk, K7⟩ := hrel
        clear K6 hq6
        by_cases hlt2 : k < n
        · have hkz : (k : Int) < (n : Nat) := by omega
          obtain ⟨e, he⟩ : ∃ e, l[k]? = some e := ⟨l[k]'(by rw [HL.out]; exact hlt2), List.getElem?_eq_getElem _⟩
          obtain ⟨ga, oa, rfl, hga, h32, hcells⟩ := (HX.out.below K7.out.bel).get he
          have hoke := (okX_iff e).1 (HOK.out e (List.mem_of_getElem? he))
          have HT : Hid (ensB (l.take (k + 1)) = ensB (l.take k) ++ enB e) := by rw [take_snocX he]; exact ensB_snoc _ _
          have hlen0 : (hdB s l ++ ensB (l.take k)).length ≤ 90000000 := by
            rw [List.length_append, hdB_len l HS.out, ensB_len (fun x hx => HX.out.ids x (List.mem_of_mem_take hx)), List.length_take]
            omega
          obtain ⟨X, hXe⟩ : ∃ X, xeC e = X := ⟨_, rfl⟩
          obtain ⟨hk1, hk2, hk3⟩ := xeC_at e h32
          have HXI : Hid (∀ j u, (Lib.byteCells (bl e.id))[j]? = some u → X[0 + j]? = some u) := fun j u hu => by
            rw [← hXe]
            exact xeC_id e h32 j u (by rwa [bc_idc, Array.getElem?_toList] at hu)
          have HIX : Hid ((Try.prog.info? 38).map (·.size) = some X.toList.length ∧ X.all (·.oneCell') = true ∧ X.size = 35) := by rw [← hXe]; exact ⟨by rw [inf_xe35, Array.length_toList, xeC_size e h32], xeC_all e, xeC_size e h32⟩
          rw [hXe] at hk1 hk2 hk3 hcells
          have HCE : Hid (∀ j v, X[j]? = some v → wr.cell? ⟨ga, oa + k * 35 + j, none⟩ = some v) := hcells
          obtain ⟨m0, hm0⟩ : ∃ m0, hdB s l ++ ensB (l.take k) = m0 := ⟨_, rfl⟩
          rw [hm0] at hlen0 K7
          have HM : Hid (hdB s l ++ ensB (l.take (k + 1)) = m0 ++ enB e) := by show _ = _; rw [HT.out, ← hm0, List.append_assoc]
          obtain ⟨id, ek, eo, ez⟩ := e
          simp only at h32 hoke hk1 hk2 hk3 HXI HM
          obtain ⟨no, rfl⟩ : ∃ no : Nat, eo = (no : Int) := ⟨eo.toNat, by omega⟩
          obtain ⟨nz, rfl⟩ : ∃ nz : Nat, ez = (nz : Int) := ⟨ez.toNat, by omega⟩
          have hno : no ≤ 67108864 := by omega
          have hnz : nz ≤ 2097152 := by omega
          have HEB : Hid (enB ⟨id, ek, (no : Int), (nz : Int)⟩ = bl id ++ ([ek] ++ (f4 no ++ f4 nz))) := rfl
          have H32 : Hid (id.size = 32) := h32
          have B1 : Hid (Bk (wr.alloc (.cells X 38)) wr.heap.size X 38) := bk_new _ _ _
          have K8 : Hid (BS w m0 (wr.alloc (.cells X 38))) := ⟨bld_keep11 K7.out.bld ((Below.refl _ _).alloc (Nat.le_refl _) _), K7.out.bel.alloc K7.out.bel.size _⟩
          have hbz2 : wr.heap.size ≠ w.heap.size := by have := (bld_lt K7.out.bld).2; omega
          have hsl := slice32 wr.heap.size
          clear hcells hXe he hoke h32 hm0 HT
          go_wp2_with (first
            | (refine wpList_load_mid rfl 38 (.tmp 49) rfl ga (oa + k * 35) rfl X.toList _ (fun j v hv => HCE.out j v (by rwa [Array.getElem?_toList] at hv)) Try.underlying38 rfl HIX.out.1 ?_)
            | (refine wpList_store_new rfl 38 (.tmp 8) (.tmp 50) rfl X _ 38 wr.heap.size rfl rfl rfl (info_xe HIX.out.2.2) (by rw [HIX.out.2.2]; rfl) HIX.out.2.1 ?_)
            | fail)
          have hsz8 : w.heap.size ≤ (wr.alloc (.cells X 38)).heap.size := K8.out.bel.size
          refine (writeV w.heap.size w.heap.size m0 (bl id) wr.heap.size 0 32 32 X 38 _ K8.out.bld B1.out (by decide) hbz2 (by rw [bl_length]; exact H32.out) HXI.out (by omega) hsz8).mono ?_
          rintro e w9 ⟨rfl, h9, hb9, ho9⟩
          have K9 : Hid (BS w (m0 ++ bl id) w9) := ⟨h9, K8.out.bel.trans hb9⟩
          have B9 : Hid (Bk w9 wr.heap.size X 38) := oth_bk11 ho9 B1.out hbz2 (by decide)
          have hl9 : (m0 ++ bl id).length ≤ 90000032 := by rw [List.length_append, bl_length, H32.out]; omega
          have y9 : w9.cell? ⟨wr.heap.size, 32, none⟩ = some (.int .u8 (ek.toNat : Int)) := by rw [B9.out.cell]; exact hk1
          clear h9 hb9 ho9 K8 B1 hsl
          go_wp2_with fail
          refine (writeB w.heap.size w.heap.size (m0 ++ bl id) ek w9 K9.out.bld (by omega) K9.out.bel.size).mono ?_
          rintro e w10 ⟨rfl, h10, hb10, ho10⟩
          have K10 : Hid (BS w (m0 ++ bl id ++ [ek]) w10) := ⟨h10, K9.out.bel.trans hb10⟩
          have B10 : Hid (Bk w10 wr.heap.size X 38) := oth_bk11 ho10 B9.out hbz2 (by decide)
          have hl10 : (m0 ++ bl id ++ [ek]).length ≤ 90000033 := by rw [List.length_append, List.length_singleton]; omega
          have y10 : w10.cell? ⟨wr.heap.size, 33, none⟩ = some (.int .i64 (no : Int)) := by rw [B10.out.cell]; exact hk2
          clear h10 hb10 ho10 K9 B9 y9
          go_wp2_with fail
          refine (putN w.heap.size w.heap.size no (m0 ++ bl id ++ [ek]) w10 (by omega) K10.out.bld (by omega) K10.out.bel.size).mono ?_
          rintro e w11 ⟨rfl, h11, hb11, ho11⟩
          have K11 : Hid (BS w (m0 ++ bl id ++ [ek] ++ f4 no) w11) := ⟨h11, K10.out.bel.trans hb11⟩
          have B11 : Hid (Bk w11 wr.heap.size X 38) := oth_bk11 ho11 B10.out hbz2 (by decide)
          have hl11 : (m0 ++ bl id ++ [ek] ++ f4 no).length ≤ 90000037 := by rw [List.length_append, f4_len]; omega
          have y11 : w11.cell? ⟨wr.heap.size, 34, none⟩ = some (.int .i64 (nz : Int)) := by rw [B11.out.cell]; exact hk3
          clear h11 hb11 ho11 K10 B10 y10
          go_wp2_with fail
          refine (putN w.heap.size w.heap.size nz (m0 ++ bl id ++ [ek] ++ f4 no) w11 (by omega) K11.out.bld (by omega) K11.out.bel.size).mono ?_
          rintro e w12 ⟨rfl, h12, hb12, ho12⟩
          have K12 : Hid (BS w (hdB s l ++ ensB (l.take (k + 1))) w12) := BS.mk' ⟨h12, K11.out.bel.trans hb12⟩ (by rw [HM.out, HEB.out]; simp)
          clear h12 hb12 ho12 K11 B11 y11
          go_wp2
          go_roundw
          case rel => exact ⟨k + 1, by go_num, by omega, K12.out⟩
          case measure => simp [intOf]; omega
        · have hkz : ¬ (k : Int) < (n : Nat) := by omega
          obtain rfl : k = n := by omega
          have K8 : Hid (BS w (ixB s l) wr) := BS.mk' ⟨K7.out.bld, K7.out.bel⟩ (by rw [List.take_of_length_le (by rw [HL.out]; omega)]; rfl)
          have HBS : Hid (Calls Try.prog 35 #[.pointer (some ⟨w.heap.size, 0, none⟩)] wr fun e w' => e = .returned (.string R) ∧ Below w.heap.size w w') := (buildS w.heap.size w.heap.size (ixB s l) wr K8.out.bld K8.out.bel.size).mono fun e w' q => ⟨by rw [← HR.out]; exact q.1, K8.out.bel.trans q.2.2.1⟩
          clear K7
          go_wp2_with fail
          refine HBS.out.mono ?_
          rintro e w9 ⟨rfl, hb9⟩
          go_wp2
          go_ret
          exact ⟨rfl, hb9⟩
end Go.Proofs.Ytbdkacfpeokggaa
/- The layings of slices.SortFunc, slices.Clone at entries, of sort.Search. -/
namespace Go.Proofs.Ytbdkacfpeokggaa
open Go.Shelf
def laysF6_ren : Go.Shelf.Ren := ⟨fun | 6 => 18 | 15 => 28 | 14 => 27 | 28 => 48 | 29 => 49 | 20 => 40 | 21 => 41 | 22 => 42 | 23 => 43 | 24 => 44 | 25 => 45 | 26 => 46 | 27 => 47 | 46 => 55 | 47 => 56 | 48 => 57 | 49 => 58 | 50 => 59 | 57 => 63 | n => n, fun | 22 => 24 | 24 => 38 | 25 => 55 | 3 => 3 | 39 => 70 | 0 => 0 | 53 => 95 | 55 => 76 | 4 => 4 | 46 => 88 | 45 => 87 | 50 => 92 | 5 => 5 | 9 => 9 | 66 => 104 | 70 => 108 | 76 => 115 | 77 => 41 | n => n, fun | n => n⟩
theorem laysF6 : Go.Proofs.SlLaysF0.n6 Try.prog laysF6_ren := {
  mixed := by kernel_rfl
  f6 := ⟨Try.f18.name, by decide, Try.func18.trans (congrArg some (by kernel_rfl))⟩
  f14 := ⟨Try.f27.name, by decide, Try.func27.trans (congrArg some (by kernel_rfl))⟩
  f15 := Try.func28.trans (congrArg some (by kernel_rfl))
  f20 := ⟨Try.f40.name, by decide, Try.func40.trans (congrArg some (by kernel_rfl))⟩
  f21 := ⟨Try.f41.name, by decide, Try.func41.trans (congrArg some (by kernel_rfl))⟩
  f22 := ⟨Try.f42.name, by decide, Try.func42.trans (congrArg some (by kernel_rfl))⟩
  f23 := ⟨Try.f43.name, by decide, Try.func43.trans (congrArg some (by kernel_rfl))⟩
  f24 := ⟨Try.f44.name, by decide, Try.func44.trans (congrArg some (by kernel_rfl))⟩
  f25 := ⟨Try.f45.name, by decide, Try.func45.trans (congrArg some (by kernel_rfl))⟩
  f26 := ⟨Try.f46.name, by decide, Try.func46.trans (congrArg some (by kernel_rfl))⟩
  f27 := ⟨Try.f47.name, by decide, Try.func47.trans (congrArg some (by kernel_rfl))⟩
  f28 := Try.func48.trans (congrArg some (by kernel_rfl))
  f29 := Try.func49.trans (congrArg some (by kernel_rfl))
  f46 := ⟨Try.f55.name, by decide, Try.func55.trans (congrArg some (by kernel_rfl))⟩
  f47 := Try.func56.trans (congrArg some (by kernel_rfl))
  f48 := Try.func57.trans (congrArg some (by kernel_rfl))
  f49 := ⟨Try.f58.name, by decide, Try.func58.trans (congrArg some (by kernel_rfl))⟩
  f50 := ⟨Try.f59.name, by decide, Try.func59.trans (congrArg some (by kernel_rfl))⟩
  f57 := ⟨Try.f63.name, by decide, Try.func63.trans (congrArg some (by kernel_rfl))⟩
  t0 := Try.underlying0
  a0 := Try.isAgg0
  z0 := Try.sizeOf0
  v0 := Try.zeroValue0
  t3 := Try.underlying3
  a3 := Try.isAgg3
  z3 := Try.sizeOf3
  v3 := Try.zeroValue3
  t4 := Try.underlying4
  a4 := Try.isAgg4
  z4 := Try.sizeOf4
  v4 := Try.zeroValue4
  t5 := Try.underlying5
  a5 := Try.isAgg5
  z5 := Try.sizeOf5
  v5 := Try.zeroValue5
  t9 := Try.underlying9
  a9 := Try.isAgg9
  z9 := Try.sizeOf9
  v9 := Try.zeroValue9
  t22 := Try.underlying24
  a22 := Try.isAgg24
  z22 := Try.sizeOf24
  v22 := Try.zeroValue24
  t25 := Try.underlying55
  a25 := Try.isAgg55
  z25 := Try.sizeOf55
  v25 := Try.zeroValue55
  t39 := Try.underlying70
  a39 := Try.isAgg70
  z39 := Try.sizeOf70
  v39 := Try.zeroValue70
  t45 := Try.underlying87
  a45 := Try.isAgg87
  z45 := Try.sizeOf87
  v45 := Try.zeroValue87
  t46 := Try.underlying88
  a46 := Try.isAgg88
  z46 := Try.sizeOf88
  v46 := Try.zeroValue88
  t50 := Try.underlying92
  a50 := Try.isAgg92
  z50 := Try.sizeOf92
  v50 := Try.zeroValue92
  t53 := Try.underlying95
  a53 := Try.isAgg95
  z53 := Try.sizeOf95
  v53 := Try.zeroValue95
  t55 := Try.underlying76
  a55 := Try.isAgg76
  z55 := Try.sizeOf76
  v55 := Try.zeroValue76
  t66 := Try.underlying104
  a66 := Try.isAgg104
  z66 := Try.sizeOf104
  v66 := Try.zeroValue104
  t70 := Try.underlying108
  a70 := Try.isAgg108
  z70 := Try.sizeOf108
  v70 := Try.zeroValue108
  t76 := Try.underlying115
  a76 := Try.isAgg115
  z76 := Try.sizeOf115
  v76 := Try.zeroValue115
  t77 := Try.underlying41
  a77 := Try.isAgg41
  z77 := Try.sizeOf41
  v77 := Try.zeroValue41 }
def laysO16_ren : Go.Shelf.Ren := ⟨fun | 16 => 25 | n => n, fun | 3 => 3 | 35 => 64 | 4 => 4 | 38 => 70 | n => n, fun | n => n⟩
theorem laysO16 : Go.Proofs.SlLaysO.n16 Try.prog laysO16_ren := {
  mixed := by kernel_rfl
  f16 := Try.func25.trans (congrArg some (by kernel_rfl))
  t3 := Try.underlying3
  a3 := Try.isAgg3
  z3 := Try.sizeOf3
  v3 := Try.zeroValue3
  t4 := Try.underlying4
  a4 := Try.isAgg4
  z4 := Try.sizeOf4
  v4 := Try.zeroValue4
  t35 := Try.underlying64
  a35 := Try.isAgg64
  z35 := Try.sizeOf64
  v35 := Try.zeroValue64
  t38 := Try.underlying70
  a38 := Try.isAgg70
  z38 := Try.sizeOf70
  v38 := Try.zeroValue70 }
def laysE41_ren : Go.Shelf.Ren := ⟨fun | 41 => 17 | n => n, fun | 22 => 24 | 23 => 38 | 4 => 4 | n => n, fun | n => n⟩
theorem laysE41 : Go.Proofs.SlLaysE0.n41 Try.prog laysE41_ren := {
  mixed := by kernel_rfl
  f41 := ⟨Try.f17.name, by decide, Try.func17.trans (congrArg some (by kernel_rfl))⟩
  t4 := Try.underlying4
  a4 := Try.isAgg4
  z4 := Try.sizeOf4
  v4 := Try.zeroValue4
  t22 := Try.underlying24
  a22 := Try.isAgg24
  z22 := Try.sizeOf24
  v22 := Try.zeroValue24 }
end Go.Proofs.Ytbdkacfpeokggaa
/- Entries copied (slices.Clone) and sorted (slices.SortFunc). -/
namespace Go.Proofs.Ytbdkacfpeokggaa
open Go.RowKit Go.Sort
set_option linter.unusedSimpArgs false
set_option linter.unusedVariables false
/-- An entry whose name has 32 bytes. -/
abbrev Xf := { e : Xe // e.id.size = 32 }
instance : Inhabited Xf := ⟨⟨⟨⟨(List.replicate 32 (0 : UInt8)).toArray⟩, 0, 0, 0⟩, rfl⟩⟩
def encX (e : Xf) : List Value := (xeC e.1).toList
def cfX (a b : Xf) : Int := ordI a.1 b.1
theorem ltX (a b : Xf) : ltOf cfX a b = ltN a.1.id b.1.id := by
  unfold ltOf cfX ordI
  by_cases h : a.1.id = b.1.id
  · rw [if_pos h, h, ltN_irr]; rfl
  · rw [if_neg h]
    cases hl : ltN a.1.id b.1.id <;> rfl
theorem swoX : SWO (ltOf cfX) where
  irrefl x := by rw [ltX]; exact ltN_irr _
  trans x y z h1 h2 := by rw [ltX] at *; exact ltN_trans h1 h2
  ntrans x y z h1 h2 := by
    rw [ltX] at *
    rw [Bool.eq_false_iff]
    intro h3
    cases q : ltN z.1.id y.1.id with
    | true => rw [ltN_trans h3 q] at h1; cases h1
    | false =>
      have := ltN_tri h2 q
      rw [this] at h1
      rw [h1] at h3; cases h3
def toX (l : List Xe) (hs : ∀ e ∈ l, e.id.size = 32) : List Xf := l.pmap (fun e h => ⟨e, h⟩) hs
theorem toX_val : ∀ (l : List Xe) (hs : ∀ e ∈ l, e.id.size = 32), (toX l hs).map (fun x : Xf => x.1) = l
  | [], _ => rfl
  | e :: l, hs => by
    have ih := toX_val l (fun x hx => hs x (List.mem_cons_of_mem _ hx))
    show e :: (toX l _).map (fun x : Xf => x.1) = e :: l
    rw [ih]
theorem toX_len (l : List Xe) (hs : ∀ e ∈ l, e.id.size = 32) : (toX l hs).length = l.length := by simp [toX]
/-- The cells of a row of entries, flat. -/
theorem flat_xvs (d : List Xf) : (flatK encX 35 d.toArray).toList = xvs (d.map (fun x : Xf => x.1)) := by
  have hs : ∀ e ∈ d.map (fun x : Xf => x.1), e.id.size = 32 := fun e he => by
    obtain ⟨x, _, rfl⟩ := List.mem_map.1 he
    exact x.2
  apply List.ext_getElem
  · rw [Array.length_toList, size_flatK, xvs_len hs, List.length_map, List.size_toArray]
  · intro t h1 h2
    have ht : t < d.length * 35 := by rw [Array.length_toList, size_flatK, List.size_toArray] at h1; exact h1
    have hq : t / 35 < d.length := by omega
    have e1 : (flatK encX 35 d.toArray).toList[t] = (flatK encX 35 d.toArray)[t]! := by
      rw [Array.getElem_toList, getElem!_pos _ t (by rw [size_flatK, List.size_toArray]; exact ht)]
    rw [e1, get_flatK _ _ _ _ (by rw [List.size_toArray]; exact ht)]
    have e2 : (d.map (fun x : Xf => x.1))[t / 35]? = some (d[t / 35]).1 := by rw [List.getElem?_map, List.getElem?_eq_getElem hq]; rfl
    have e3 := xvs_get hs e2 (t % 35) (Nat.mod_lt _ (by decide))
    rw [show t / 35 * 35 + t % 35 = t from by omega, List.getElem?_eq_getElem h2] at e3
    have e4 : d.toArray[t / 35]! = d[t / 35] := by rw [getElem!_pos _ _ (by rw [List.size_toArray]; exact hq), List.getElem_toArray]
    rw [e4]
    have hz : t % 35 < (encX d[t / 35]).length := by
      unfold encX
      rw [Array.length_toList, xeC_size _ (d[t / 35]).2]
      exact Nat.mod_lt _ (by decide)
    rw [getElem!_pos (encX d[t / 35]) (t % 35) hz]
    have e5 : (xeC (d[t / 35]).1)[t % 35]? = some ((encX d[t / 35])[t % 35]) := by
      rw [← Array.getElem?_toList]
      exact List.getElem?_eq_getElem hz
    rw [e5] at e3
    exact (Option.some.inj e3).symm
theorem heap_sortX {w : World} {g n : Nat} {os : Array Obj} {cur : Array Value} {e : TypeId} (F : Array Value) (hb : w.heap[g]? = some (.cells cur e (0, 0))) :
    (grow (putRow id (Sort.ahead w n) g 0 F) os).heap[g]? = some (.cells (putCells id 0 F cur) e (0, 0)) := by
  have hg : g < w.heap.size := (Array.getElem?_eq_some_iff.1 hb).1
  rw [heap_grow_old _ _ (by simpa using hg)]
  simp [putRow, mapBlock, Sort.ahead, Array.getElem?_modify, hb, onCells]
theorem grown_sortX {w : World} {g n : Nat} {os : Array Obj} (F : Array Value) : w.grownBy (grow (putRow id (Sort.ahead w n) g 0 F) os) (some g) := by
  refine ⟨rfl, rfl, rfl, by simp, fun k hk hne => ?_⟩
  rw [heap_grow_old _ _ (by simpa using hk)]
  have : g ≠ k := fun e => hne (by rw [e])
  simp [putRow, mapBlock, Sort.ahead, Array.getElem?_modify, this]
theorem take_putX (cur F : Array Value) (h : F.size ≤ cur.size) : (putCells id 0 F cur).toList.take F.size = F.toList := by
  apply List.ext_getElem?
  intro j
  by_cases hj : j < F.size
  · rw [List.getElem?_take_of_lt hj, Array.getElem?_toList, Array.getElem?_toList]
    simp [putCells, hj, show j < cur.size by omega]
  · rw [List.getElem?_take_eq_none (by omega), List.getElem?_eq_none (by simp; omega)]
theorem cmpX (blk off size : Nat) (w : World) : CmpLays Try.prog 19 #[] encX 35 cfX blk off size w := fun _ _ _ _ x y => order_any x.1 y.1 _ x.2 y.2
set_option maxHeartbeats 1000000 in
/-- A row of entries of the call's own, sorted. -/
theorem sort_any (B g n c : Nat) (l : List Xe) (w : World) (h : w.ownsRow B 38 35 (.slice (some ⟨g, 0, none⟩) n c) n (xvs l)) (hl : l.length = n) (hs : ∀ e ∈ l, e.id.size = 32) (hn : n < 4611686018427387904) (hB : B ≤ w.heap.size) :
    Calls Try.prog 18 #[.slice (some ⟨g, 0, none⟩) n c, .func (.func 19) #[] #[]] w fun e w' => e = .returned (.tuple #[]) ∧ ∃ L : List Xe, L.Perm l ∧ (L.Pairwise fun a b => ltN b.id a.id = false) ∧ w'.ownsRow B 38 35 (.slice (some ⟨g, 0, none⟩) n c) n (xvs L) ∧ Below B w w' := by
  rcases h.2 with ⟨h1, _⟩ | ⟨g', cap, cur, h1, hle, hg, hnc, hcm, hsz, ht⟩
  · cases h1
  injection h1 with h1 _ h3
  injection h1 with h1
  injection h1 with h1
  subst h1
  subst h3
  have hg2 : w.heap[g]? = some (.cells cur 38 (0, 0)) := hg
  obtain ⟨d, hd⟩ : ∃ d, toX l hs = d := ⟨_, rfl⟩
  have hdl : d.length = n := by rw [← hd, toX_len, hl]
  have hdv : d.map (fun x : Xf => x.1) = l := by rw [← hd]; exact toX_val l hs
  have hH : HoldsK encX 35 w g 0 d.toArray := by
    intro j hj
    rw [size_flatK, List.size_toArray, hdl] at hj
    have hb : Bk w g cur 38 := hg
    refine ⟨?_, hb.frozen _⟩
    rw [hb.cell, Nat.zero_add]
    have q : (cur.toList.take (n * 35))[j]? = (xvs l)[j]? := by rw [ht]
    rw [List.getElem?_take_of_lt hj, Array.getElem?_toList] at q
    rw [q, ← hdv, ← flat_xvs, Array.getElem?_toList]
    rw [Array.getElem?_eq_getElem (by rw [size_flatK, List.size_toArray, hdl]; exact hj), getElem!_pos _ _ (by rw [size_flatK, List.size_toArray, hdl]; exact hj)]
    rfl
  have hcon := AnyQ.slices_SortFunc laysF6 35 Try.isAgg38 Try.sizeOf38 encX (fun x => by unfold encX; rw [Array.length_toList, xeC_size _ x.2]) (fun x v hv => xeC_one x.1 v hv) cfX swoX 19 #[] g 0 c d.toArray w (enters_of Try.func19 (by kernel_rfl) rfl) (cmpX _ _ _ _) hH (Array.getElem?_eq_some_iff.1 hg2).1 (by rw [List.size_toArray, hdl]; exact hn)
  rw [List.size_toArray, hdl] at hcon
  refine hcon.mono ?_
  rintro e w' ⟨rfl, d', m, os, hp, hso, rfl⟩
  have hps : d'.size = n := by rw [hp.1, List.size_toArray, hdl]
  have hperm : (d'.toList).Perm d := by
    have := hp.2.2
    rw [show d'.extract 0 n = d' from by rw [← hps]; simp, show d.toArray.extract 0 n = d.toArray from by rw [← hdl]; simp] at this
    exact this
  refine ⟨rfl, d'.toList.map (fun x : Xf => x.1), ?_, ?_, ?_, ?_⟩
  · rw [← hdv]; exact hperm.map _
  · rw [List.pairwise_map, List.pairwise_iff_getElem]
    intro i j hi hj hij
    rw [Array.length_toList, hps] at hi hj
    have := hso i j (Nat.zero_le _) hij hj
    rw [ltX, getElem!_pos _ _ (by omega), getElem!_pos _ _ (by omega)] at this
    rw [Array.getElem_toList, Array.getElem_toList]
    exact this
  · have hF : (flatK encX 35 d').toList = xvs (d'.toList.map (fun x : Xf => x.1)) := by
      have := flat_xvs d'.toList
      rwa [Array.toArray_toList] at this
    have hFs : (flatK encX 35 d').size = n * 35 := by rw [size_flatK, hps]
    refine ⟨by rw [← hF, Array.length_toList, hFs], .inr ⟨g, c, _, rfl, hle, heap_sortX _ hg2, hnc, hcm, by simp [putCells, hsz], ?_⟩⟩
    rw [← hF, ← hFs]
    exact take_putX cur _ (by rw [hFs, hsz]; exact Nat.mul_le_mul_right _ hnc)
  · exact below_own (Below.refl _ _) hB (grown_sortX _) hle
/-- Sorting nothing does nothing. -/
def SNone : Prop := ∀ (p : Option Addr) (cap : Nat) (fv : Value) (w : World), Calls Try.prog 18 #[.slice p 0 cap, fv] w fun e w' => e = .returned (.tuple #[]) ∧ w' = w
set_option maxRecDepth 100000 in
/-- Entries copied. -/
theorem clone_any (a : Option Addr) (n c : Nat) (l : List Xe) (w : World) (hX : XeL w a l) (hl : l.length = n) (hA : a = none ∨ ∃ g o, a = some ⟨g, o, none⟩) (hn : n ≤ 2000000000) :
    Calls Try.prog 17 #[.slice a n c] w fun e w' => ∃ v, e = .returned v ∧ w'.ownsRow w.heap.size 38 35 v n (xvs l) ∧ Below w.heap.size w w' := by
  rcases hA with rfl | ⟨g, o, rfl⟩
  · have h0 : l = [] := by
      cases l with
      | nil => rfl
      | cons e l =>
        obtain ⟨_, g, o, h, _⟩ := hX 0 e rfl
        cases h
    subst h0
    subst hl
    refine (AnyE.slices_Clone_nil laysE41 _ c w).mono ?_
    rintro e w' ⟨rfl, rfl⟩
    exact ⟨_, rfl, ⟨rfl, .inl ⟨rfl, rfl⟩⟩, Below.refl _ _⟩
  · obtain ⟨i0, hi, hz0, hz1, hz2⟩ := info_parts inf_xe
    have hs := hX.ids
    refine (AnyE.slices_Clone laysE41 i0 (.agg z35X) 35 56 hi hz0 hz1 hz2 rfl (by decide) Try.sizeOf38 g o n c (xvs l) w (by rw [xvs_len hs, hl]) (by unfold maxLen; omega) (by omega) (fun j u hu => ?_) (xvs_one l)).mono ?_
    · have hj : j < l.length * 35 := by
        have := (List.getElem?_eq_some_iff.1 hu).1
        rwa [xvs_len hs] at this
      have hq : j / 35 < l.length := by omega
      obtain ⟨_, g', o', h, _, hc⟩ := hX (j / 35) (l[j / 35]) (List.getElem?_eq_getElem hq)
      injection h with h
      injection h with h1 h2
      subst h1
      subst h2
      have := xvs_get hs (List.getElem?_eq_getElem hq) (j % 35) (Nat.mod_lt _ (by decide))
      rw [show j / 35 * 35 + j % 35 = j from by omega, hu] at this
      have q := hc (j % 35) u this.symm
      rwa [show o + j / 35 * 35 + j % 35 = o + j from by omega] at q
    · rintro e w' ⟨v, rfl, ho, _, hb⟩
      exact ⟨v, rfl, ho, hb⟩
end Go.Proofs.Ytbdkacfpeokggaa
/- Maps whose elements are held as they lie: what a look-up, a store, a delete, a count do to them. -/
namespace Go.Proofs.Ytbdkacfpeokggaa
open Go.RowKit Go.Maps
set_option linter.unusedSimpArgs false
set_option linter.unusedVariables false
/-- An element, read as it lies. -/
def hE : Value → Option (DataW Value × List MemPlace) := fun v => some (.held v, [])
theorem hE_mk (v : Value) : hE v = some (.held v, []) := rfl
theorem hE_inv {v : Value} {d : DataW Value} {ps : List MemPlace} (h : hE v = some (d, ps)) : d = .held v := by
  simp only [hE, Option.some.injEq, Prod.mk.injEq] at h; exact h.1.symm
/-- A map in memory, of keys of the type k. -/
def Mp (w : World) (k : TypeId) (b : Nat) (D : DataW Value) : Prop := w.ownsMap Try.prog k hE b (Maps.size D) D
theorem owns_size {w : World} {P : Program} {k : TypeId} {R : Value → Option (DataW Value × List MemPlace)} {b n : Nat} {D : DataW Value} (h : w.ownsMap P k R b n D) : w.ownsMap P k R b (Maps.size D) D := by
  obtain ⟨es, clock, hb, F, hs, rfl⟩ := h
  exact ⟨es, clock, hb, F, by simp [Maps.size, length_sorted], rfl⟩
theorem Mp.lt {w : World} {k : TypeId} {b : Nat} {D : DataW Value} (h : Mp w k b D) : b < w.heap.size := World.ownsMap.lt h
theorem Mp.grown {w w' : World} {k : TypeId} {b : Nat} {D : DataW Value} {r : Option Nat} (h : Mp w k b D) (hg : w.grownBy w' r) (hr : r ≠ some b) : Mp w' k b D := World.ownsMap.kept h hg (fun e => hr e.symm)
theorem Mp.made (w : World) (k : TypeId) : Mp (w.alloc (.map #[] 0)) k w.heap.size (.map []) := World.ownsMap_made w _ k hE
/-- A key that is a text; one that is a number. -/
theorem sKey : Keyed Try.prog 9 := string_keyed Try.underlying9
theorem iKey : Keyed Try.prog 3 := int_keyed Try.underlying3
def sL (s : ByteArray) : Lit := .string s.data.toList
def iL (n : Int) : Lit := .int .i64 n
theorem sL_inj {s t : ByteArray} (h : sL s = sL t) : s = t := by
  simp only [sL, Lit.string.injEq] at h
  exact ByteArray.ext (Array.ext' h)
theorem sL_key (s : ByteArray) (h : s.size ≤ maxLen) : keyOf Try.prog 9 (.string s) = some (sL s) := WideMaps.keyOf_string_mk Try.underlying9 h
theorem wf_int (n : Int) (h1 : -9223372036854775808 ≤ n) (h2 : n ≤ 9223372036854775807) : (Lit.int .i64 n).wf = true := by
  show (decide (IntKind.i64.min ≤ n) && decide (n ≤ IntKind.i64.max)) = true
  have e1 : IntKind.i64.min = -9223372036854775808 := by decide
  have e2 : IntKind.i64.max = 9223372036854775807 := by decide
  rw [e1, e2]; simp [h1, h2]
theorem iL_key (n : Int) (h1 : -9223372036854775808 ≤ n) (h2 : n ≤ 9223372036854775807) : keyOf Try.prog 3 (.int .i64 n) = some (iL n) := keyOf_int_mk Try.underlying3 (wf_int n h1 h2)
theorem zero_int (w : World) : (zeroValue 3).run Try.prog w = .ok (.int .i64 0) w := by kernel_rfl
/-- What lies at a key. -/
def hAt (D : DataW Value) (k : Lit) : Option Value := if Maps.has D k then (match D.atKey k .nil with | .held v => some v | _ => none) else none
section
variable {w : World} {b : Nat} {D : DataW Value} {k e t : TypeId}
theorem Mp.at_held (h : Mp w k b D) (K : Keyed Try.prog k) (ht : Try.prog.underlying t = some (.map k e)) {z : Value} (hz : (zeroValue e).run Try.prog w = .ok z w) {key : Value} {kl : Lit} (hkey : keyOf Try.prog k key = some kl) :
    (Instr.lookup t (.map (some b)) key true).run Try.prog w = .ok (.tuple #[(hAt D kl).getD z, .bool (hAt D kl).isSome]) w ∧ (Instr.lookup t (.map (some b)) key false).run Try.prog w = .ok ((hAt D kl).getD z) w := by
  obtain ⟨v, ps, h1, h2⟩ := World.ownsMap.look_ok h K ht hz (hE_mk z) hkey
  obtain ⟨v', ps', h3, h4⟩ := World.ownsMap.lookup h K ht hz (hE_mk z) hkey
  have e2 := hE_inv h2
  have e4 := hE_inv h4
  have hv : v' = v := by rw [e2] at e4; simpa using e4.symm
  have key : Maps.has D kl = (hAt D kl).isSome ∧ (hAt D kl).getD z = v := by
    unfold hAt
    cases hh : Maps.has D kl with
    | false =>
      rw [Maps.atKey_of_not_has hh] at e2
      simp at e2
      simp [e2]
    | true =>
      have ind : D.atKey kl .nil = .held v := by
        rw [← e2]
        obtain ⟨es, rfl⟩ := World.ownsMap.isMap h
        have h5 : es.any (fun p => p.1.sameKey kl) = true := hh
        obtain ⟨p, hp, hs⟩ := List.any_eq_true.1 h5
        unfold DataW.atKey
        simp only
        cases hf : es.find? (fun p => p.1.sameKey kl) with
        | none => exact absurd hs (by simpa using List.find?_eq_none.1 hf p hp)
        | some q => rfl
      rw [ind]; simp
  rw [key.2, ← key.1]
  exact ⟨h1, by rw [← hv]; exact h3⟩
theorem Mp.canon (h : Mp w k b D) (K : Keyed Try.prog k) : Canon D := World.ownsMap.canon h K
theorem Mp.put (h : Mp w k b D) (K : Keyed Try.prog k) (ht : Try.prog.underlying t = some (.map k e)) (hn : Maps.size D < maxLen) {key : Value} {kl : Lit} (hkey : keyOf Try.prog k key = some kl) (v : Value) :
    ∃ w', (Instr.mapUpdate t (.map (some b)) key v).run Try.prog w = .ok () w' ∧ Mp w' k b (D.put kl (.held v)) ∧ w.grownBy w' (some b) := by
  obtain ⟨w', h1, h2, h3⟩ := World.ownsMap.store h K ht hn hkey (hE_mk v)
  exact ⟨w', h1, owns_size h2, h3.grown⟩
theorem Mp.del (h : Mp w k b D) (K : Keyed Try.prog k) (ht : Try.prog.underlying t = some (.map k e)) {key : Value} {kl : Lit} (hkey : keyOf Try.prog k key = some kl) (ty : TypeId) :
    ∃ w', (Builtin.delete_ #[t, k] ty #[.map (some b), key]).run Try.prog w = .ok (.tuple #[]) w' ∧ Mp w' k b (D.del kl) ∧ w.grownBy w' (some b) := by
  obtain ⟨w', h1, h2, h3⟩ := World.ownsMap.drop h K ht hkey ty
  exact ⟨w', h1, owns_size h2, h3.grown⟩
theorem Mp.len (h : Mp w k b D) (ht : Try.prog.underlying t = some (.map k e)) (ty : TypeId) : (Builtin.len_ #[t] ty #[.map (some b)]).run Try.prog w = .ok (.int .i64 (Maps.size D)) w := World.ownsMap.len h ht ty
end
/-- A view of a map: what lies at each key. -/
theorem hAt_has {D : DataW Value} {k : Lit} {v : Value} (h : hAt D k = some v) : Maps.has D k = true := by
  unfold hAt at h
  split at h
  · assumption
  · cases h
theorem hAt_put_same {D : DataW Value} (hD : IsMap D) {k : Lit} (hk : WideAt.IsKeyLit k) (v : Value) : hAt (D.put k (.held v)) k = some v := by
  unfold hAt
  rw [has_put_same hD hk, atKey_put_same hD hk]; rfl
theorem hAt_put_other {D : DataW Value} {k k' : Lit} (hne : k' ≠ k) (v : Value) : hAt (D.put k (.held v)) k' = hAt D k' := by
  unfold hAt
  rw [has_put_other hne, atKey_put_other hne]
theorem hAt_del_same (D : DataW Value) (k : Lit) : hAt (D.del k) k = none := by
  unfold hAt
  rw [has_del_same]; rfl
theorem hAt_del_other {D : DataW Value} {k k' : Lit} (hne : k' ≠ k) : hAt (D.del k) k' = hAt D k' := by
  unfold hAt
  rw [has_del_other hne, atKey_del_other hne]
theorem hAt_empty (k : Lit) : hAt (.map []) k = none := rfl
theorem sL_lit (s : ByteArray) : WideAt.IsKeyLit (sL s) := trivial
theorem iL_lit (n : Int) : WideAt.IsKeyLit (iL n) := trivial
/-- A nil map. -/
theorem nil_at {w : World} {k e t : TypeId} (K : Keyed Try.prog k) (ht : Try.prog.underlying t = some (.map k e)) {z : Value} (hz : (zeroValue e).run Try.prog w = .ok z w) {key : Value} {kl : Lit} (hkey : keyOf Try.prog k key = some kl) :
    (Instr.lookup t (.map none) key true).run Try.prog w = .ok (.tuple #[z, .bool false]) w ∧ (Instr.lookup t (.map none) key false).run Try.prog w = .ok z w :=
  ⟨Maps.look_nil true K ht hz hkey, Maps.look_nil false K ht hz hkey⟩
end Go.Proofs.Ytbdkacfpeokggaa
