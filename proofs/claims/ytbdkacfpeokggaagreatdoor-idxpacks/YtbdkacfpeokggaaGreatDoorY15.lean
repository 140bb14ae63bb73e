import Derived.Test.YtbdkacfpeokggaaGreatDoorY14
import Derived.Test.YtbdkacfpeokggaaGreatDoorChecked
import Derived.Shelf.SlSortCmp.WholeK
import Derived.Shelf.SlSorted.Search
import Derived.Shelf.SlicesE.Clone
import Derived.Test.YtbdkacfpeokggaaGreatDoorY12
import Derived.Sort.OwnSorted
import Derived.Test.YtbdkacfpeokggaaGreatDoorY5
/- idx.Index.bytes. -/
namespace Go.Proofs.YtbdkacfpeokggaaGreatDoor
open Go.RowKit
set_option linter.unusedSimpArgs false
set_option linter.unusedVariables false
theorem bc_idc (s : ByteArray) : Lib.byteCells (bl s) = (idc s).toList := by
  simp only [Lib.byteCells, idc, bvc, byl, bl, List.map_map]
  rfl
/-- A builder under way. -/
structure BS (w : World) (m : List UInt8) (wr : World) : Prop where
  bld : Bld w.heap.size w.heap.size m wr
  bel : Below w.heap.size w wr
theorem BS.mk' {w wr : World} {m m' : List UInt8} (h : Bld w.heap.size w.heap.size m wr ∧ Below w.heap.size w wr) (e : m = m') : BS w m' wr := by subst e; exact ⟨h.1, h.2⟩
set_option maxHeartbeats 8000000 in
set_option maxRecDepth 100000 in
theorem bytes_any (g : Nat) (s : ByteArray) (l : List Xe) (w : World) (h : IxS w g s l) (hok : ∀ e ∈ l, okX e = true) (hn : l.length ≤ 65536) :
    Calls Tryz.prog 36 #[.pointer (some ⟨g, 0, none⟩)] w fun e w' => e = .returned (.string ⟨(ixB s l).toArray⟩) ∧ Below w.heap.size w w' := by
  obtain ⟨a, n, c, hBk, hX, hl, hcc, _⟩ := h.row
  have hs := h.id
  have HS : Hid (s.size = 32) := hs
  have HL : Hid (l.length = n) := hl
  have HOK : Hid (∀ e ∈ l, okX e = true) := hok
  have HX : Hid (XeL w a l) := hX
  obtain ⟨C, hC⟩ : ∃ C, ixC s (fanL l) (.slice a n c) = C := ⟨_, rfl⟩
  have HC1 : Hid (∀ j u, (Lib.byteCells (bl s))[j]? = some u → C[0 + j]? = some u) := fun j u hu => by
    rw [← hC]
    exact ixC_id s _ _ hs j u (by rwa [bc_idc, Array.getElem?_toList] at hu)
  have HC2 : Hid (∀ j u, (fnC (fanL l)).toArray[j]? = some u → C[32 + j]? = some u) := fun j u hu => by
    rw [List.getElem?_toArray] at hu
    have hj : j < 256 := by
      have := (List.getElem?_eq_some_iff.1 hu).1
      rwa [fnC_len] at this
    rw [← hC, ixC_fan s _ _ hs j hj, ← hu, fnC_get _ j hj]
  rw [hC] at hBk
  have HBk : Hid (Bk w g C 115) := hBk
  have hg : g < w.heap.size := hBk.lt
  have HGB : Hid (∀ W, Below w.heap.size w W → Bk W g C 115) := fun W hW => hBk.below hW hg
  have hc288 : C[288]? = some (.slice a n c) := by rw [← hC]; exact ixC_row s _ _ hs
  have HQ : Hid (∀ W, Below w.heap.size w W → W.cell? ⟨g, 288, none⟩ = some (.slice a n c)) := fun W hW => by rw [(HGB.out W hW).cell]; exact hc288
  have hq0 : w.cell? ⟨g, 288, none⟩ = some (.slice a n c) := HQ.out w (Below.refl _ _)
  have hsl := slice32 g
  obtain ⟨R, hR⟩ : ∃ R : ByteArray, (⟨(ixB s l).toArray⟩ : ByteArray) = R := ⟨_, rfl⟩
  have HR : Hid ((⟨(ixB s l).toArray⟩ : ByteArray) = R) := hR
  rw [hR]
  have hn' : n ≤ 65536 := by omega
  obtain ⟨N, hN⟩ : ∃ N : Nat, 1064 + n * 41 = N := ⟨_, rfl⟩
  have hNz : (1064 : Int) + (n : Int) * 41 = (N : Int) := by omega
  have hw1 : IntKind.i64.wrap ((n : Int) * 41) = (n : Int) * 41 := by rw [IntKind.wrap_i64]; omega
  have hw2 : IntKind.i64.wrap (N : Int) = (N : Int) := by rw [IntKind.wrap_i64]; omega
  have hNl : N ≤ 281474976710656 := by omega
  clear h hBk hs hl hok hX hC hR hN hn hc288
  go_enter Tryz.func36, Tryz.ntmps36
  go_wp2_with fail
  refine (growB N w hNl).mono ?_
  rintro e w1 ⟨rfl, h1, hb1⟩
  have K1 : Hid (BS w [] w1) := ⟨h1, hb1⟩
  clear h1 hb1 hw1 hw2 hNz
  go_wp2_with fail
  refine (writeS w.heap.size w.heap.size [] ⟨#[109, 105, 120, 49]⟩ w1 K1.out.bld (by show 0 + 4 ≤ _; omega) K1.out.bel.size).mono ?_
  rintro e w2 ⟨rfl, h2, hb2, _⟩
  have K2 : Hid (BS w [109, 105, 120, 49] w2) := ⟨h2, K1.out.bel.trans hb2⟩
  clear h2 hb2 K1
  go_wp2_with fail
  refine (writeV w.heap.size w.heap.size [109, 105, 120, 49] (bl s) g 0 32 32 C 115 w2 K2.out.bld (HGB.out _ K2.out.bel) (by decide) (by omega) (by rw [bl_length]; exact HS.out) HC1.out (by show 4 + 32 ≤ _; omega) K2.out.bel.size).mono ?_
  rintro e w3 ⟨rfl, h3, hb3, _⟩
  have K3 : Hid (BS w ([109, 105, 120, 49] ++ bl s) w3) := ⟨h3, K2.out.bel.trans hb3⟩
  have hq3 := HQ.out _ K3.out.bel
  clear h3 hb3 K2 hsl hq0
  go_wp2_with fail
  refine (putN w.heap.size w.heap.size n ([109, 105, 120, 49] ++ bl s) w3 (by omega) K3.out.bld (by rw [List.length_append, bl_length, HS.out]; show 4 + 32 ≤ _; omega) K3.out.bel.size).mono ?_
  rintro e w4 ⟨rfl, h4, hb4, _⟩
  have K4 : Hid (BS w ([109, 105, 120, 49] ++ (bl s ++ (f4 l.length ++ fanT l 0))) w4) := BS.mk' ⟨h4, K3.out.bel.trans hb4⟩ (by rw [HL.out]; simp [fanT])
  have HFI : Hid ((Tryz.prog.info? 113).map (·.size) = some (fnC (fanL l)).toArray.size) := by
    show _ = some _
    rw [List.size_toArray, fnC_len]
    kernel_rfl
  obtain ⟨FC, hFC⟩ : ∃ FC, (fnC (fanL l)).toArray = FC := ⟨_, rfl⟩
  rw [hFC] at HFI HC2
  have HFX : Hid (∀ i : Nat, i < 256 → ∀ W, (Instr.index 113 (.agg FC) (.int .i64 (i : Int))).run Tryz.prog W = .ok (.int .i64 (fanL l i : Int)) W) := fun i hi W => ix_fan i hi FC _ (by rw [← hFC, List.getElem?_toArray]; exact fnC_get _ i hi) W
  clear h4 hb4 K3 hq3 hFC
  go_wp2_with (refine wpList_get rfl 113 (.tmp 33) rfl g 32 C FC 115 _ rfl (HGB.out _ K4.out.bel) HC2.out Tryz.underlying113 rfl HFI.out ?_)
  go_loopw [35] (fun v wr => ∃ b : Nat, v = .int .i64 b ∧ b ≤ 256 ∧ Hid (BS w ([109, 105, 120, 49] ++ (bl s ++ (f4 l.length ++ fanT l b))) wr)) (fun v _ => 256 - (intOf v).toNat)
  case atStart => exact ⟨0, rfl, by omega, K4.out⟩
  case round =>
    obtain ⟨b, rfl, hb, K5⟩ := hrel
    clear K4
    by_cases hlt : b < 256
    · have hbz : (b : Int) < 256 := by omega
      have hix := HFX.out b hlt
      obtain ⟨q, hq⟩ : ∃ q, fanL l b = q := ⟨_, rfl⟩
      have hql : q ≤ 65536 := by rw [← hq]; exact Nat.le_trans (fanL_le l b) (by rw [HL.out]; exact hn')
      have HNX : Hid (fanT l (b + 1) = fanT l b ++ f4 q) := by rw [← hq]; exact fanT_succ l b
      rw [hq] at hix
      have hlen : ([109, 105, 120, 49] ++ (bl s ++ (f4 l.length ++ fanT l b)) : List UInt8).length ≤ 100000000 := by
        rw [List.length_append, List.length_append, List.length_append, bl_length, HS.out, f4_len, fanT_len]
        show 4 + _ ≤ _
        omega
      have HP : Hid (Calls Tryz.prog 78 #[.int .i64 (q : Int), .pointer (some ⟨w.heap.size, 0, none⟩)] wr fun e w' => e = .returned (.tuple #[]) ∧ Bld w.heap.size w.heap.size ([109, 105, 120, 49] ++ (bl s ++ (f4 l.length ++ fanT l b)) ++ f4 q) w' ∧ Below w.heap.size wr w' ∧ Oth w.heap.size wr w') := putN w.heap.size w.heap.size q _ wr (by omega) K5.out.bld hlen K5.out.bel.size
      clear hq hlen
      go_wp2_with fail
      refine HP.out.mono ?_
      rintro e w6 ⟨rfl, h6, hb6, _⟩
      have K6 : Hid (BS w ([109, 105, 120, 49] ++ (bl s ++ (f4 l.length ++ fanT l (b + 1)))) w6) := BS.mk' ⟨h6, K5.out.bel.trans hb6⟩ (by rw [HNX.out]; simp)
      clear h6 hb6 HP HNX K5 hix
      go_wp2
      go_roundw
      case rel => exact ⟨b + 1, by go_num, by omega, K6.out⟩
      case measure => simp [intOf]; omega
    · have hbz : ¬ (b : Int) < 256 := by omega
      obtain rfl : b = 256 := by omega
      have K6 : Hid (BS w (hdB s l ++ ensB (l.take 0)) wr) := BS.mk' ⟨K5.out.bld, K5.out.bel⟩ (by simp [hdB, ensB])
      have hq6 := HQ.out _ K6.out.bel
      clear K5
      go_wp2
      go_loopw [47] (fun v wr => ∃ k : Nat, v = .int .i64 k ∧ k ≤ n ∧ Hid (BS w (hdB s l ++ ensB (l.take k)) wr)) (fun v _ => n - (intOf v).toNat)
      case atStart => exact ⟨0, rfl, Nat.zero_le _, K6.out⟩
      case round =>
        obtain ⟨k, rfl, hk, K7⟩ := hrel
        clear K6 hq6
        by_cases hlt2 : k < n
        · have hkz : (k : Int) < (n : Nat) := by omega
          obtain ⟨e, he⟩ : ∃ e, l[k]? = some e := ⟨l[k]'(by rw [HL.out]; exact hlt2), List.getElem?_eq_getElem _⟩
          obtain ⟨ga, oa, rfl, hga, h32, hcells⟩ := (HX.out.below K7.out.bel).get he
          have hoke := (okX_iff e).1 (HOK.out e (List.mem_of_getElem? he))
          have HT : Hid (ensB (l.take (k + 1)) = ensB (l.take k) ++ enB e) := by rw [take_snocX he]; exact ensB_snoc _ _
          have hlen0 : (hdB s l ++ ensB (l.take k)).length ≤ 90000000 := by
            rw [List.length_append, hdB_len l HS.out, ensB_len (fun x hx => HX.out.ids x (List.mem_of_mem_take hx)), List.length_take]
            omega
          obtain ⟨X, hXe⟩ : ∃ X, xeC e = X := ⟨_, rfl⟩
          obtain ⟨hk1, hk2, hk3⟩ := xeC_at e h32
          have HXI : Hid (∀ j u, (Lib.byteCells (bl e.id))[j]? = some u → X[0 + j]? = some u) := fun j u hu => by
            rw [← hXe]
            exact xeC_id e h32 j u (by rwa [bc_idc, Array.getElem?_toList] at hu)
          have HIX : Hid ((Tryz.prog.info? 34).map (·.size) = some X.toList.length ∧ X.all (·.oneCell') = true ∧ X.size = 35) := by rw [← hXe]; exact ⟨by rw [inf_xe35, Array.length_toList, xeC_size e h32], xeC_all e, xeC_size e h32⟩
          rw [hXe] at hk1 hk2 hk3 hcells
          have HCE : Hid (∀ j v, X[j]? = some v → wr.cell? ⟨ga, oa + k * 35 + j, none⟩ = some v) := hcells
          obtain ⟨m0, hm0⟩ : ∃ m0, hdB s l ++ ensB (l.take k) = m0 := ⟨_, rfl⟩
          rw [hm0] at hlen0 K7
          have HM : Hid (hdB s l ++ ensB (l.take (k + 1)) = m0 ++ enB e) := by show _ = _; rw [HT.out, ← hm0, List.append_assoc]
          obtain ⟨id, ek, eo, ez⟩ := e
          simp only at h32 hoke hk1 hk2 hk3 HXI HM
          obtain ⟨no, rfl⟩ : ∃ no : Nat, eo = (no : Int) := ⟨eo.toNat, by omega⟩
          obtain ⟨nz, rfl⟩ : ∃ nz : Nat, ez = (nz : Int) := ⟨ez.toNat, by omega⟩
          have hno : no ≤ 67108864 := by omega
          have hnz : nz ≤ 2097152 := by omega
          have HEB : Hid (enB ⟨id, ek, (no : Int), (nz : Int)⟩ = bl id ++ ([ek] ++ (f4 no ++ f4 nz))) := rfl
          have H32 : Hid (id.size = 32) := h32
          have B1 : Hid (Bk (wr.alloc (.cells X 34)) wr.heap.size X 34) := bk_new _ _ _
          have K8 : Hid (BS w m0 (wr.alloc (.cells X 34))) := ⟨bld_keep11 K7.out.bld ((Below.refl _ _).alloc (Nat.le_refl _) _), K7.out.bel.alloc K7.out.bel.size _⟩
          have hbz2 : wr.heap.size ≠ w.heap.size := by have := (bld_lt K7.out.bld).2; omega
          have hsl := slice32 wr.heap.size
          clear hcells hXe he hoke h32 hm0 HT
          go_wp2_with (first
            | (refine wpList_load_mid rfl 34 (.tmp 49) rfl ga (oa + k * 35) rfl X.toList _ (fun j v hv => HCE.out j v (by rwa [Array.getElem?_toList] at hv)) Tryz.underlying34 rfl HIX.out.1 ?_)
            | (refine wpList_store_new rfl 34 (.tmp 8) (.tmp 50) rfl X _ 34 wr.heap.size rfl rfl rfl (info_xe HIX.out.2.2) (by rw [HIX.out.2.2]; rfl) HIX.out.2.1 ?_)
            | fail)
          have hsz8 : w.heap.size ≤ (wr.alloc (.cells X 34)).heap.size := K8.out.bel.size
          refine (writeV w.heap.size w.heap.size m0 (bl id) wr.heap.size 0 32 32 X 34 _ K8.out.bld B1.out (by decide) hbz2 (by rw [bl_length]; exact H32.out) HXI.out (by omega) hsz8).mono ?_
          rintro e w9 ⟨rfl, h9, hb9, ho9⟩
          have K9 : Hid (BS w (m0 ++ bl id) w9) := ⟨h9, K8.out.bel.trans hb9⟩
          have B9 : Hid (Bk w9 wr.heap.size X 34) := oth_bk11 ho9 B1.out hbz2 (by decide)
          have hl9 : (m0 ++ bl id).length ≤ 90000032 := by rw [List.length_append, bl_length, H32.out]; omega
          have y9 : w9.cell? ⟨wr.heap.size, 32, none⟩ = some (.int .u8 (ek.toNat : Int)) := by rw [B9.out.cell]; exact hk1
          clear h9 hb9 ho9 K8 B1 hsl
          go_wp2_with fail
          refine (writeB w.heap.size w.heap.size (m0 ++ bl id) ek w9 K9.out.bld (by omega) K9.out.bel.size).mono ?_
          rintro e w10 ⟨rfl, h10, hb10, ho10⟩
          have K10 : Hid (BS w (m0 ++ bl id ++ [ek]) w10) := ⟨h10, K9.out.bel.trans hb10⟩
          have B10 : Hid (Bk w10 wr.heap.size X 34) := oth_bk11 ho10 B9.out hbz2 (by decide)
          have hl10 : (m0 ++ bl id ++ [ek]).length ≤ 90000033 := by rw [List.length_append, List.length_singleton]; omega
          have y10 : w10.cell? ⟨wr.heap.size, 33, none⟩ = some (.int .i64 (no : Int)) := by rw [B10.out.cell]; exact hk2
          clear h10 hb10 ho10 K9 B9 y9
          go_wp2_with fail
          refine (putN w.heap.size w.heap.size no (m0 ++ bl id ++ [ek]) w10 (by omega) K10.out.bld (by omega) K10.out.bel.size).mono ?_
          rintro e w11 ⟨rfl, h11, hb11, ho11⟩
          have K11 : Hid (BS w (m0 ++ bl id ++ [ek] ++ f4 no) w11) := ⟨h11, K10.out.bel.trans hb11⟩
          have B11 : Hid (Bk w11 wr.heap.size X 34) := oth_bk11 ho11 B10.out hbz2 (by decide)
          have hl11 : (m0 ++ bl id ++ [ek] ++ f4 no).length ≤ 90000037 := by rw [List.length_append, f4_len]; omega
          have y11 : w11.cell? ⟨wr.heap.size, 34, none⟩ = some (.int .i64 (nz : Int)) := by rw [B11.out.cell]; exact hk3
          clear h11 hb11 ho11 K10 B10 y10
          go_wp2_with fail
          refine (putN w.heap.size w.heap.size nz (m0 ++ bl id ++ [ek] ++ f4 no) w11 (by omega) K11.out.bld (by omega) K11.out.bel.size).mono ?_
          rintro e w12 ⟨rfl, h12, hb12, ho12⟩
          have K12 : Hid (BS w (hdB s l ++ ensB (l.take (k + 1))) w12) := BS.mk' ⟨h12, K11.out.bel.trans hb12⟩ (by rw [HM.out, HEB.out]; simp)
          clear h12 hb12 ho12 K11 B11 y11
          go_wp2
          go_roundw
          case rel => exact ⟨k + 1, by go_num, by omega, K12.out⟩
          case measure => simp [intOf]; omega
        · have hkz : ¬ (k : Int) < (n : Nat) := by omega
          obtain rfl : k = n := by omega
          have K8 : Hid (BS w (ixB s l) wr) := BS.mk' ⟨K7.out.bld, K7.out.bel⟩ (by rw [List.take_of_length_le (by rw [HL.out]; omega)]; rfl)
          have HBS : Hid (Calls Tryz.prog 66 #[.pointer (some ⟨w.heap.size, 0, none⟩)] wr fun e w' => e = .returned (.string R) ∧ Below w.heap.size w w') := (buildS w.heap.size w.heap.size (ixB s l) wr K8.out.bld K8.out.bel.size).mono fun e w' q => ⟨by rw [← HR.out]; exact q.1, K8.out.bel.trans q.2.2.1⟩
          clear K7
          go_wp2_with fail
          refine HBS.out.mono ?_
          rintro e w9 ⟨rfl, hb9⟩
          go_wp2
          go_ret
          exact ⟨rfl, hb9⟩
end Go.Proofs.YtbdkacfpeokggaaGreatDoor
/- The layings of slices.SortFunc, slices.Clone at entries, of sort.Search. -/
namespace Go.Proofs.YtbdkacfpeokggaaGreatDoor
open Go.Shelf
def laysF6_ren : Go.Shelf.Ren := ⟨fun | 6 => 33 | 15 => 76 | 14 => 75 | 28 => 115 | 29 => 105 | 20 => 107 | 21 => 108 | 22 => 109 | 23 => 110 | 24 => 111 | 25 => 112 | 26 => 113 | 27 => 114 | 46 => 136 | 47 => 137 | 48 => 138 | 49 => 139 | 50 => 140 | 57 => 155 | n => n, fun | 22 => 25 | 24 => 34 | 25 => 76 | 3 => 3 | 39 => 145 | 0 => 0 | 53 => 108 | 55 => 97 | 4 => 4 | 46 => 167 | 45 => 166 | 50 => 81 | 5 => 5 | 9 => 9 | 66 => 188 | 70 => 192 | 76 => 204 | 77 => 121 | n => n, fun | n => n⟩
theorem laysF6 : Go.Proofs.SlLaysF0.n6 Tryz.prog laysF6_ren := {
  mixed := by kernel_rfl
  f6 := ⟨Tryz.f33.name, by decide, Tryz.func33.trans (congrArg some (by kernel_rfl))⟩
  f14 := ⟨Tryz.f75.name, by decide, Tryz.func75.trans (congrArg some (by kernel_rfl))⟩
  f15 := Tryz.func76.trans (congrArg some (by kernel_rfl))
  f20 := ⟨Tryz.f107.name, by decide, Tryz.func107.trans (congrArg some (by kernel_rfl))⟩
  f21 := ⟨Tryz.f108.name, by decide, Tryz.func108.trans (congrArg some (by kernel_rfl))⟩
  f22 := ⟨Tryz.f109.name, by decide, Tryz.func109.trans (congrArg some (by kernel_rfl))⟩
  f23 := ⟨Tryz.f110.name, by decide, Tryz.func110.trans (congrArg some (by kernel_rfl))⟩
  f24 := ⟨Tryz.f111.name, by decide, Tryz.func111.trans (congrArg some (by kernel_rfl))⟩
  f25 := ⟨Tryz.f112.name, by decide, Tryz.func112.trans (congrArg some (by kernel_rfl))⟩
  f26 := ⟨Tryz.f113.name, by decide, Tryz.func113.trans (congrArg some (by kernel_rfl))⟩
  f27 := ⟨Tryz.f114.name, by decide, Tryz.func114.trans (congrArg some (by kernel_rfl))⟩
  f28 := Tryz.func115.trans (congrArg some (by kernel_rfl))
  f29 := Tryz.func105.trans (congrArg some (by kernel_rfl))
  f46 := ⟨Tryz.f136.name, by decide, Tryz.func136.trans (congrArg some (by kernel_rfl))⟩
  f47 := Tryz.func137.trans (congrArg some (by kernel_rfl))
  f48 := Tryz.func138.trans (congrArg some (by kernel_rfl))
  f49 := ⟨Tryz.f139.name, by decide, Tryz.func139.trans (congrArg some (by kernel_rfl))⟩
  f50 := ⟨Tryz.f140.name, by decide, Tryz.func140.trans (congrArg some (by kernel_rfl))⟩
  f57 := ⟨Tryz.f155.name, by decide, Tryz.func155.trans (congrArg some (by kernel_rfl))⟩
  t0 := Tryz.underlying0
  a0 := Tryz.isAgg0
  z0 := Tryz.sizeOf0
  v0 := Tryz.zeroValue0
  t3 := Tryz.underlying3
  a3 := Tryz.isAgg3
  z3 := Tryz.sizeOf3
  v3 := Tryz.zeroValue3
  t4 := Tryz.underlying4
  a4 := Tryz.isAgg4
  z4 := Tryz.sizeOf4
  v4 := Tryz.zeroValue4
  t5 := Tryz.underlying5
  a5 := Tryz.isAgg5
  z5 := Tryz.sizeOf5
  v5 := Tryz.zeroValue5
  t9 := Tryz.underlying9
  a9 := Tryz.isAgg9
  z9 := Tryz.sizeOf9
  v9 := Tryz.zeroValue9
  t22 := Tryz.underlying25
  a22 := Tryz.isAgg25
  z22 := Tryz.sizeOf25
  v22 := Tryz.zeroValue25
  t25 := Tryz.underlying76
  a25 := Tryz.isAgg76
  z25 := Tryz.sizeOf76
  v25 := Tryz.zeroValue76
  t39 := Tryz.underlying145
  a39 := Tryz.isAgg145
  z39 := Tryz.sizeOf145
  v39 := Tryz.zeroValue145
  t45 := Tryz.underlying166
  a45 := Tryz.isAgg166
  z45 := Tryz.sizeOf166
  v45 := Tryz.zeroValue166
  t46 := Tryz.underlying167
  a46 := Tryz.isAgg167
  z46 := Tryz.sizeOf167
  v46 := Tryz.zeroValue167
  t50 := Tryz.underlying81
  a50 := Tryz.isAgg81
  z50 := Tryz.sizeOf81
  v50 := Tryz.zeroValue81
  t53 := Tryz.underlying108
  a53 := Tryz.isAgg108
  z53 := Tryz.sizeOf108
  v53 := Tryz.zeroValue108
  t55 := Tryz.underlying97
  a55 := Tryz.isAgg97
  z55 := Tryz.sizeOf97
  v55 := Tryz.zeroValue97
  t66 := Tryz.underlying188
  a66 := Tryz.isAgg188
  z66 := Tryz.sizeOf188
  v66 := Tryz.zeroValue188
  t70 := Tryz.underlying192
  a70 := Tryz.isAgg192
  z70 := Tryz.sizeOf192
  v70 := Tryz.zeroValue192
  t76 := Tryz.underlying204
  a76 := Tryz.isAgg204
  z76 := Tryz.sizeOf204
  v76 := Tryz.zeroValue204
  t77 := Tryz.underlying121
  a77 := Tryz.isAgg121
  z77 := Tryz.sizeOf121
  v77 := Tryz.zeroValue121 }
def laysO16_ren : Go.Shelf.Ren := ⟨fun | 16 => 72 | n => n, fun | 3 => 3 | 35 => 138 | 4 => 4 | 38 => 145 | n => n, fun | n => n⟩
theorem laysO16 : Go.Proofs.SlLaysO.n16 Tryz.prog laysO16_ren := {
  mixed := by kernel_rfl
  f16 := Tryz.func72.trans (congrArg some (by kernel_rfl))
  t3 := Tryz.underlying3
  a3 := Tryz.isAgg3
  z3 := Tryz.sizeOf3
  v3 := Tryz.zeroValue3
  t4 := Tryz.underlying4
  a4 := Tryz.isAgg4
  z4 := Tryz.sizeOf4
  v4 := Tryz.zeroValue4
  t35 := Tryz.underlying138
  a35 := Tryz.isAgg138
  z35 := Tryz.sizeOf138
  v35 := Tryz.zeroValue138
  t38 := Tryz.underlying145
  a38 := Tryz.isAgg145
  z38 := Tryz.sizeOf145
  v38 := Tryz.zeroValue145 }
def laysE41_ren : Go.Shelf.Ren := ⟨fun | 41 => 32 | n => n, fun | 22 => 25 | 23 => 34 | 4 => 4 | n => n, fun | n => n⟩
theorem laysE41 : Go.Proofs.SlLaysE0.n41 Tryz.prog laysE41_ren := {
  mixed := by kernel_rfl
  f41 := ⟨Tryz.f32.name, by decide, Tryz.func32.trans (congrArg some (by kernel_rfl))⟩
  t4 := Tryz.underlying4
  a4 := Tryz.isAgg4
  z4 := Tryz.sizeOf4
  v4 := Tryz.zeroValue4
  t22 := Tryz.underlying25
  a22 := Tryz.isAgg25
  z22 := Tryz.sizeOf25
  v22 := Tryz.zeroValue25 }
end Go.Proofs.YtbdkacfpeokggaaGreatDoor
/- Entries copied (slices.Clone) and sorted (slices.SortFunc). -/
namespace Go.Proofs.YtbdkacfpeokggaaGreatDoor
open Go.RowKit Go.Sort
set_option linter.unusedSimpArgs false
set_option linter.unusedVariables false
/-- An entry whose name has 32 bytes. -/
abbrev Xf := { e : Xe // e.id.size = 32 }
instance : Inhabited Xf := ⟨⟨⟨⟨(List.replicate 32 (0 : UInt8)).toArray⟩, 0, 0, 0⟩, rfl⟩⟩
def encX (e : Xf) : List Value := (xeC e.1).toList
def cfX (a b : Xf) : Int := ordI a.1 b.1
theorem ltX (a b : Xf) : ltOf cfX a b = ltN a.1.id b.1.id := by
  unfold ltOf cfX ordI
  by_cases h : a.1.id = b.1.id
  · rw [if_pos h, h, ltN_irr]; rfl
  · rw [if_neg h]
    cases hl : ltN a.1.id b.1.id <;> rfl
theorem swoX : SWO (ltOf cfX) where
  irrefl x := by rw [ltX]; exact ltN_irr _
  trans x y z h1 h2 := by rw [ltX] at *; exact ltN_trans h1 h2
  ntrans x y z h1 h2 := by
    rw [ltX] at *
    rw [Bool.eq_false_iff]
    intro h3
    cases q : ltN z.1.id y.1.id with
    | true => rw [ltN_trans h3 q] at h1; cases h1
    | false =>
      have := ltN_tri h2 q
      rw [this] at h1
      rw [h1] at h3; cases h3
def toX (l : List Xe) (hs : ∀ e ∈ l, e.id.size = 32) : List Xf := l.pmap (fun e h => ⟨e, h⟩) hs
theorem toX_val : ∀ (l : List Xe) (hs : ∀ e ∈ l, e.id.size = 32), (toX l hs).map (fun x : Xf => x.1) = l
  | [], _ => rfl
  | e :: l, hs => by
    have ih := toX_val l (fun x hx => hs x (List.mem_cons_of_mem _ hx))
    show e :: (toX l _).map (fun x : Xf => x.1) = e :: l
    rw [ih]
theorem toX_len (l : List Xe) (hs : ∀ e ∈ l, e.id.size = 32) : (toX l hs).length = l.length := by simp [toX]
/-- The cells of a row of entries, flat. -/
theorem flat_xvs (d : List Xf) : (flatK encX 35 d.toArray).toList = xvs (d.map (fun x : Xf => x.1)) := by
  have hs : ∀ e ∈ d.map (fun x : Xf => x.1), e.id.size = 32 := fun e he => by
    obtain ⟨x, _, rfl⟩ := List.mem_map.1 he
    exact x.2
  apply List.ext_getElem
  · rw [Array.length_toList, size_flatK, xvs_len hs, List.length_map, List.size_toArray]
  · intro t h1 h2
    have ht : t < d.length * 35 := by rw [Array.length_toList, size_flatK, List.size_toArray] at h1; exact h1
    have hq : t / 35 < d.length := by omega
    have e1 : (flatK encX 35 d.toArray).toList[t] = (flatK encX 35 d.toArray)[t]! := by
      rw [Array.getElem_toList, getElem!_pos _ t (by rw [size_flatK, List.size_toArray]; exact ht)]
    rw [e1, get_flatK _ _ _ _ (by rw [List.size_toArray]; exact ht)]
    have e2 : (d.map (fun x : Xf => x.1))[t / 35]? = some (d[t / 35]).1 := by rw [List.getElem?_map, List.getElem?_eq_getElem hq]; rfl
    have e3 := xvs_get hs e2 (t % 35) (Nat.mod_lt _ (by decide))
    rw [show t / 35 * 35 + t % 35 = t from by omega, List.getElem?_eq_getElem h2] at e3
    have e4 : d.toArray[t / 35]! = d[t / 35] := by rw [getElem!_pos _ _ (by rw [List.size_toArray]; exact hq), List.getElem_toArray]
    rw [e4]
    have hz : t % 35 < (encX d[t / 35]).length := by
      unfold encX
      rw [Array.length_toList, xeC_size _ (d[t / 35]).2]
      exact Nat.mod_lt _ (by decide)
    rw [getElem!_pos (encX d[t / 35]) (t % 35) hz]
    have e5 : (xeC (d[t / 35]).1)[t % 35]? = some ((encX d[t / 35])[t % 35]) := by
      rw [← Array.getElem?_toList]
      exact List.getElem?_eq_getElem hz
    rw [e5] at e3
    exact (Option.some.inj e3).symm
theorem heap_sortX {w : World} {g n : Nat} {os : Array Obj} {cur : Array Value} {e : TypeId} (F : Array Value) (hb : w.heap[g]? = some (.cells cur e (0, 0))) :
    (grow (putRow id (Sort.ahead w n) g 0 F) os).heap[g]? = some (.cells (putCells id 0 F cur) e (0, 0)) := by
  have hg : g < w.heap.size := (Array.getElem?_eq_some_iff.1 hb).1
  rw [heap_grow_old _ _ (by simpa using hg)]
  simp [putRow, mapBlock, Sort.ahead, Array.getElem?_modify, hb, onCells]
theorem grown_sortX {w : World} {g n : Nat} {os : Array Obj} (F : Array Value) : w.grownBy (grow (putRow id (Sort.ahead w n) g 0 F) os) (some g) := by
  refine ⟨rfl, rfl, rfl, by simp, fun k hk hne => ?_⟩
  rw [heap_grow_old _ _ (by simpa using hk)]
  have : g ≠ k := fun e => hne (by rw [e])
  simp [putRow, mapBlock, Sort.ahead, Array.getElem?_modify, this]
theorem take_putX (cur F : Array Value) (h : F.size ≤ cur.size) : (putCells id 0 F cur).toList.take F.size = F.toList := by
  apply List.ext_getElem?
  intro j
  by_cases hj : j < F.size
  · rw [List.getElem?_take_of_lt hj, Array.getElem?_toList, Array.getElem?_toList]
    simp [putCells, hj, show j < cur.size by omega]
  · rw [List.getElem?_take_eq_none (by omega), List.getElem?_eq_none (by simp; omega)]
theorem cmpX (blk off size : Nat) (w : World) : CmpLays Tryz.prog 34 #[] encX 35 cfX blk off size w := fun _ _ _ _ x y => order_any x.1 y.1 _ x.2 y.2
set_option maxHeartbeats 1000000 in
/-- A row of entries of the call's own, sorted. -/
theorem sort_any (B g n c : Nat) (l : List Xe) (w : World) (h : w.ownsRow B 34 35 (.slice (some ⟨g, 0, none⟩) n c) n (xvs l)) (hl : l.length = n) (hs : ∀ e ∈ l, e.id.size = 32) (hn : n < 4611686018427387904) (hB : B ≤ w.heap.size) :
    Calls Tryz.prog 33 #[.slice (some ⟨g, 0, none⟩) n c, .func (.func 34) #[] #[]] w fun e w' => e = .returned (.tuple #[]) ∧ ∃ L : List Xe, L.Perm l ∧ (L.Pairwise fun a b => ltN b.id a.id = false) ∧ w'.ownsRow B 34 35 (.slice (some ⟨g, 0, none⟩) n c) n (xvs L) ∧ Below B w w' := by
  rcases h.2 with ⟨h1, _⟩ | ⟨g', cap, cur, h1, hle, hg, hnc, hcm, hsz, ht⟩
  · cases h1
  injection h1 with h1 _ h3
  injection h1 with h1
  injection h1 with h1
  subst h1
  subst h3
  have hg2 : w.heap[g]? = some (.cells cur 34 (0, 0)) := hg
  obtain ⟨d, hd⟩ : ∃ d, toX l hs = d := ⟨_, rfl⟩
  have hdl : d.length = n := by rw [← hd, toX_len, hl]
  have hdv : d.map (fun x : Xf => x.1) = l := by rw [← hd]; exact toX_val l hs
  have hH : HoldsK encX 35 w g 0 d.toArray := by
    intro j hj
    rw [size_flatK, List.size_toArray, hdl] at hj
    have hb : Bk w g cur 34 := hg
    refine ⟨?_, hb.frozen _⟩
    rw [hb.cell, Nat.zero_add]
    have q : (cur.toList.take (n * 35))[j]? = (xvs l)[j]? := by rw [ht]
    rw [List.getElem?_take_of_lt hj, Array.getElem?_toList] at q
    rw [q, ← hdv, ← flat_xvs, Array.getElem?_toList]
    rw [Array.getElem?_eq_getElem (by rw [size_flatK, List.size_toArray, hdl]; exact hj), getElem!_pos _ _ (by rw [size_flatK, List.size_toArray, hdl]; exact hj)]
    rfl
  have hcon := AnyQ.slices_SortFunc laysF6 35 Tryz.isAgg34 Tryz.sizeOf34 encX (fun x => by unfold encX; rw [Array.length_toList, xeC_size _ x.2]) (fun x v hv => xeC_one x.1 v hv) cfX swoX 34 #[] g 0 c d.toArray w (enters_of Tryz.func34 (by kernel_rfl) rfl) (cmpX _ _ _ _) hH (Array.getElem?_eq_some_iff.1 hg2).1 (by rw [List.size_toArray, hdl]; exact hn)
  rw [List.size_toArray, hdl] at hcon
  refine hcon.mono ?_
  rintro e w' ⟨rfl, d', m, os, hp, hso, rfl⟩
  have hps : d'.size = n := by rw [hp.1, List.size_toArray, hdl]
  have hperm : (d'.toList).Perm d := by
    have := hp.2.2
    rw [show d'.extract 0 n = d' from by rw [← hps]; simp, show d.toArray.extract 0 n = d.toArray from by rw [← hdl]; simp] at this
    exact this
  refine ⟨rfl, d'.toList.map (fun x : Xf => x.1), ?_, ?_, ?_, ?_⟩
  · rw [← hdv]; exact hperm.map _
  · rw [List.pairwise_map, List.pairwise_iff_getElem]
    intro i j hi hj hij
    rw [Array.length_toList, hps] at hi hj
    have := hso i j (Nat.zero_le _) hij hj
    rw [ltX, getElem!_pos _ _ (by omega), getElem!_pos _ _ (by omega)] at this
    rw [Array.getElem_toList, Array.getElem_toList]
    exact this
  · have hF : (flatK encX 35 d').toList = xvs (d'.toList.map (fun x : Xf => x.1)) := by
      have := flat_xvs d'.toList
      rwa [Array.toArray_toList] at this
    have hFs : (flatK encX 35 d').size = n * 35 := by rw [size_flatK, hps]
    refine ⟨by rw [← hF, Array.length_toList, hFs], .inr ⟨g, c, _, rfl, hle, heap_sortX _ hg2, hnc, hcm, by simp [putCells, hsz], ?_⟩⟩
    rw [← hF, ← hFs]
    exact take_putX cur _ (by rw [hFs, hsz]; exact Nat.mul_le_mul_right _ hnc)
  · exact below_own (Below.refl _ _) hB (grown_sortX _) hle
/-- Sorting nothing does nothing. -/
def SNone : Prop := ∀ (p : Option Addr) (cap : Nat) (fv : Value) (w : World), Calls Tryz.prog 33 #[.slice p 0 cap, fv] w fun e w' => e = .returned (.tuple #[]) ∧ w' = w
set_option maxRecDepth 100000 in
/-- Entries copied. -/
theorem clone_any (a : Option Addr) (n c : Nat) (l : List Xe) (w : World) (hX : XeL w a l) (hl : l.length = n) (hA : a = none ∨ ∃ g o, a = some ⟨g, o, none⟩) (hn : n ≤ 2000000000) :
    Calls Tryz.prog 32 #[.slice a n c] w fun e w' => ∃ v, e = .returned v ∧ w'.ownsRow w.heap.size 34 35 v n (xvs l) ∧ Below w.heap.size w w' := by
  rcases hA with rfl | ⟨g, o, rfl⟩
  · have h0 : l = [] := by
      cases l with
      | nil => rfl
      | cons e l =>
        obtain ⟨_, g, o, h, _⟩ := hX 0 e rfl
        cases h
    subst h0
    subst hl
    refine (AnyE.slices_Clone_nil laysE41 _ c w).mono ?_
    rintro e w' ⟨rfl, rfl⟩
    exact ⟨_, rfl, ⟨rfl, .inl ⟨rfl, rfl⟩⟩, Below.refl _ _⟩
  · obtain ⟨i0, hi, hz0, hz1, hz2⟩ := info_parts inf_xe
    have hs := hX.ids
    refine (AnyE.slices_Clone laysE41 i0 (.agg z35X) 35 56 hi hz0 hz1 hz2 rfl (by decide) Tryz.sizeOf34 g o n c (xvs l) w (by rw [xvs_len hs, hl]) (by unfold maxLen; omega) (by omega) (fun j u hu => ?_) (xvs_one l)).mono ?_
    · have hj : j < l.length * 35 := by
        have := (List.getElem?_eq_some_iff.1 hu).1
        rwa [xvs_len hs] at this
      have hq : j / 35 < l.length := by omega
      obtain ⟨_, g', o', h, _, hc⟩ := hX (j / 35) (l[j / 35]) (List.getElem?_eq_getElem hq)
      injection h with h
      injection h with h1 h2
      subst h1
      subst h2
      have := xvs_get hs (List.getElem?_eq_getElem hq) (j % 35) (Nat.mod_lt _ (by decide))
      rw [show j / 35 * 35 + j % 35 = j from by omega, hu] at this
      have q := hc (j % 35) u this.symm
      rwa [show o + j / 35 * 35 + j % 35 = o + j from by omega] at q
    · rintro e w' ⟨v, rfl, ho, _, hb⟩
      exact ⟨v, rfl, ho, hb⟩
end Go.Proofs.YtbdkacfpeokggaaGreatDoor
/- idx.Build. -/
namespace Go.Proofs.YtbdkacfpeokggaaGreatDoor
open Go.RowKit
set_option linter.unusedSimpArgs false
set_option linter.unusedVariables false
/-- Has one of these this name? -/
def hasX (d : List Xe) (x : ByteArray) : Bool := onL (d.map (fun e : Xe => e.id)) x
theorem hasX_iff (d : List Xe) (x : ByteArray) : hasX d x = true ↔ ∃ e ∈ d, e.id = x := by
  unfold hasX onL
  rw [List.any_eq_true]
  constructor
  · rintro ⟨y, hy, he⟩
    obtain ⟨e, he2, rfl⟩ := List.mem_map.1 hy
    exact ⟨e, he2, bl_inj (eq_of_beq he)⟩
  · rintro ⟨e, he, rfl⟩
    exact ⟨e.id, List.mem_map.2 ⟨e, he, rfl⟩, beq_self_eq_true _⟩
/-- What Build tells as error, entry by entry. -/
def xbE (d : List Xe) : List Xe → Int
  | [] => 0
  | e :: r => if okX e = false ∨ d.length = 65536 then 1 else if hasX d e.id = true then 7 else xbE (d ++ [e]) r
def bE (l : List Xe) : Int := xbE [] l
/-- Entries that make an index. -/
structure GdX (l : List Xe) : Prop where
  ok : ∀ e ∈ l, okX e = true
  ap : Aprt l
  len : l.length ≤ 65536
theorem GdX.nil : GdX [] := ⟨fun e h => (by cases h), List.Pairwise.nil, by simp⟩
theorem GdX.snoc {d : List Xe} {e : Xe} (h : GdX d) (h1 : ¬ (okX e = false ∨ d.length = 65536)) (h2 : hasX d e.id = false) : GdX (d ++ [e]) := by
  have hl := h.len
  refine ⟨fun x hx => ?_, ?_, by rw [List.length_append, List.length_singleton]; omega⟩
  · rcases List.mem_append.1 hx with q | q
    · exact h.ok x q
    · rw [List.mem_singleton] at q
      subst q
      cases ho : okX x with
      | true => rfl
      | false => exact absurd (.inl ho) h1
  · unfold Aprt
    rw [List.pairwise_append]
    refine ⟨h.ap, List.pairwise_singleton _ _, fun a ha b hb hab => ?_⟩
    rw [List.mem_singleton] at hb
    subst hb
    rw [(hasX_iff d b.id).2 ⟨a, ha, hab⟩] at h2
    cases h2
theorem xbE_step (l : List Xe) (k : Nat) (e : Xe) (hk : l[k]? = some e) : xbE (l.take k) (l.drop k) = if okX e = false ∨ k = 65536 then 1 else if hasX (l.take k) e.id = true then 7 else xbE (l.take (k + 1)) (l.drop (k + 1)) := by
  have hlt : k < l.length := (List.getElem?_eq_some_iff.1 hk).1
  rw [List.drop_eq_getElem_cons hlt, xbE]
  have e1 : l[k] = e := by rw [List.getElem?_eq_getElem hlt] at hk; exact Option.some.inj hk
  have hl : (l.take k).length = k := by rw [List.length_take]; omega
  rw [e1, hl, List.take_add_one, hk, Option.toList_some]
theorem xbE_ok : ∀ (r d : List Xe), GdX d → xbE d r = 0 → GdX (d ++ r)
  | [], d, h, _ => by rw [List.append_nil]; exact h
  | e :: r, d, h, hz => by
    rw [xbE] at hz
    by_cases h1 : okX e = false ∨ d.length = 65536
    · rw [if_pos h1] at hz; cases hz
    · rw [if_neg h1] at hz
      cases h2 : hasX d e.id with
      | true => rw [h2, if_pos rfl] at hz; cases hz
      | false =>
        rw [h2, if_neg (by simp)] at hz
        have := xbE_ok r (d ++ [e]) (h.snoc h1 h2) hz
        rwa [List.append_assoc] at this
theorem bE_ok {l : List Xe} (h : bE l = 0) : GdX l := by
  have := xbE_ok l [] GdX.nil h
  rwa [List.nil_append] at this
theorem gd_bE : ∀ (r d : List Xe), GdX (d ++ r) → xbE d r = 0
  | [], d, _ => rfl
  | e :: r, d, h => by
    have h1 : ¬ (okX e = false ∨ d.length = 65536) := by
      rintro (q | q)
      · rw [h.ok e (by simp)] at q; cases q
      · have := h.len; rw [List.length_append, List.length_cons] at this; omega
    have h2 : hasX d e.id = false := by
      rw [Bool.eq_false_iff]
      intro q
      obtain ⟨a, ha, hab⟩ := (hasX_iff d e.id).1 q
      have := h.ap
      unfold Aprt at this
      rw [List.pairwise_append] at this
      exact this.2.2 a ha e (List.mem_cons_self ..) hab
    rw [xbE, if_neg h1, if_neg (by rw [h2]; simp)]
    exact gd_bE r (d ++ [e]) (by rw [List.append_assoc]; exact h)
theorem GdX.bE {l : List Xe} (h : GdX l) : bE l = 0 := gd_bE l [] (by rw [List.nil_append]; exact h)
theorem GdX.perm {l l' : List Xe} (h : GdX l) (p : l.Perm l') : GdX l' := ⟨fun e he => h.ok e (p.mem_iff.2 he), h.ap.perm p, by rw [← p.length_eq]; exact h.len⟩
/-- Sorted, and apart: rising. -/
theorem rise_of {l : List Xe} (h : l.Pairwise fun a b => ltN b.id a.id = false) (ha : Aprt l) : Rise l := by
  refine (h.and ha).imp ?_
  rintro a b ⟨h1, h2⟩
  exact ltN_ne h2 h1
theorem GdX.okl {l L : List Xe} (h : GdX l) (p : L.Perm l) (hi : ∀ e ∈ l, e.id.size = 32) (hr : Rise L) : OkL L := ⟨fun e he => h.ok e (p.mem_iff.1 he), fun e he => hi e (p.mem_iff.1 he), hr, by rw [p.length_eq]; exact h.len⟩
theorem zero_unitX : ∀ w, (zeroValue 72).run Tryz.prog w = .ok (.agg #[]) w := Tryz.zeroValue72
/-- How Build's looking stands. -/
structure BX (w : World) (m : Nat) (s : ByteArray) (d : List Xe) (wr : World) : Prop where
  st : St (fun v => v = .agg #[]) wr m (d.map (fun e : Xe => e.id))
  bel : Below w.heap.size w wr
  bx : Bk wr w.heap.size (idc s) 23
  mlb : w.heap.size < m
theorem BX.keep {w wr w' : World} {m : Nat} {s : ByteArray} {d : List Xe} (h : BX w m s d wr) (hb : Below wr.heap.size wr w') : BX w m s d w' :=
  ⟨h.st.below hb, h.bel.trans (hb.mono h.bel.size), h.bx.below hb h.bx.lt, h.mlb⟩
theorem BX.look {w wr : World} {m : Nat} {s : ByteArray} {d : List Xe} (h : BX w m s d wr) (x : ByteArray) (hx : x.size = 32) : (Instr.lookup 70 (.map (some m)) (.agg (idc x)) true).run Tryz.prog wr = .ok (.tuple #[.agg #[], .bool (hasX d x)]) wr := by
  obtain ⟨v, h1, rfl⟩ := h.st.look Tryz.underlying70 (zero_unitX _) rfl x hx
  exact h1
theorem BX.put {w wr : World} {m : Nat} {s : ByteArray} {d : List Xe} (h : BX w m s d wr) (hn : d.length < 1048576) (e : Xe) (hx : e.id.size = 32) :
    ∃ w', (Instr.mapUpdate 70 (.map (some m)) (.agg (idc e.id)) (.agg #[])).run Tryz.prog wr = .ok () w' ∧ BX w m s (d ++ [e]) w' := by
  obtain ⟨w', h1, h2, h3⟩ := h.st.put Tryz.underlying70 (by rw [List.length_map]; exact hn) e.id hx (.agg #[]) rfl
  obtain ⟨es, c, hm⟩ := h.st.isMap
  refine ⟨w', h1, by rw [List.map_append]; exact h2, below_own h.bel h.bel.size h3 (Nat.le_of_lt h.mlb), h.bx.grown h3 (fun q => ?_), h.mlb⟩
  injection q with q
  have hb' : wr.heap[w.heap.size]? = some (.cells (idc s) 23 (0, 0)) := h.bx
  rw [← q, hm] at hb'
  cases hb'
end Go.Proofs.YtbdkacfpeokggaaGreatDoor
