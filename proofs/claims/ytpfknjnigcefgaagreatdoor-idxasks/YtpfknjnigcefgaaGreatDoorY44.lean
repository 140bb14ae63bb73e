import Derived.Test.YtpfknjnigcefgaaGreatDoorY43
import Derived.Test.YtpfknjnigcefgaaGreatDoorY12
import Derived.Shelf.SlSortCmp.NoneTotal
/- idx.Index.bytes. -/
namespace Go.Proofs.YtpfknjnigcefgaaGreatDoor
open Go.RowKit
set_option linter.unusedSimpArgs false
set_option linter.unusedVariables false
theorem bc_idc (s : ByteArray) : Lib.byteCells (bl s) = (idc s).toList := by
  simp only [Lib.byteCells, idc, bvc, byl, bl, List.map_map]
  rfl
/-- A builder under way. -/
structure BS (w : World) (m : List UInt8) (wr : World) : Prop where
  bld : Bld w.heap.size w.heap.size m wr
  bel : Below w.heap.size w wr
theorem BS.mk' {w wr : World} {m m' : List UInt8} (h : Bld w.heap.size w.heap.size m wr ∧ Below w.heap.size w wr) (e : m = m') : BS w m' wr := by subst e; exact ⟨h.1, h.2⟩
set_option maxHeartbeats 8000000 in
set_option maxRecDepth 100000 in
theorem bytes_any (g : Nat) (s : ByteArray) (l : List Xe) (w : World) (h : IxS w g s l) (hok : ∀ e ∈ l, okX e = true) (hn : l.length ≤ 65536) :
    Calls Tryz.prog 29 #[.pointer (some ⟨g, 0, none⟩)] w fun e w' => e = .returned (.string ⟨(ixB s l).toArray⟩) ∧ Below w.heap.size w w' := by
  obtain ⟨a, n, c, hBk, hX, hl, hcc, _⟩ := h.row
  have hs := h.id
  have HS : Hid (s.size = 32) := hs
  have HL : Hid (l.length = n) := hl
  have HOK : Hid (∀ e ∈ l, okX e = true) := hok
  have HX : Hid (XeL w a l) := hX
  obtain ⟨C, hC⟩ : ∃ C, ixC s (fanL l) (.slice a n c) = C := ⟨_, rfl⟩
  have HC1 : Hid (∀ j u, (Lib.byteCells (bl s))[j]? = some u → C[0 + j]? = some u) := fun j u hu => by
    rw [← hC]
    exact ixC_id s _ _ hs j u (by rwa [bc_idc, Array.getElem?_toList] at hu)
  have HC2 : Hid (∀ j u, (fnC (fanL l)).toArray[j]? = some u → C[32 + j]? = some u) := fun j u hu => by
    rw [List.getElem?_toArray] at hu
    have hj : j < 256 := by
      have := (List.getElem?_eq_some_iff.1 hu).1
      rwa [fnC_len] at this
    rw [← hC, ixC_fan s _ _ hs j hj, ← hu, fnC_get _ j hj]
  rw [hC] at hBk
  have HBk : Hid (Bk w g C 104) := hBk
  have hg : g < w.heap.size := hBk.lt
  have HGB : Hid (∀ W, Below w.heap.size w W → Bk W g C 104) := fun W hW => hBk.below hW hg
  have hc288 : C[288]? = some (.slice a n c) := by rw [← hC]; exact ixC_row s _ _ hs
  have HQ : Hid (∀ W, Below w.heap.size w W → W.cell? ⟨g, 288, none⟩ = some (.slice a n c)) := fun W hW => by rw [(HGB.out W hW).cell]; exact hc288
  have hq0 : w.cell? ⟨g, 288, none⟩ = some (.slice a n c) := HQ.out w (Below.refl _ _)
  have hsl := slice32 g
  obtain ⟨R, hR⟩ : ∃ R : ByteArray, (⟨(ixB s l).toArray⟩ : ByteArray) = R := ⟨_, rfl⟩
  have HR : Hid ((⟨(ixB s l).toArray⟩ : ByteArray) = R) := hR
  rw [hR]
  have hn' : n ≤ 65536 := by omega
  obtain ⟨N, hN⟩ : ∃ N : Nat, 1064 + n * 41 = N := ⟨_, rfl⟩
  have hNz : (1064 : Int) + (n : Int) * 41 = (N : Int) := by omega
  have hw1 : IntKind.i64.wrap ((n : Int) * 41) = (n : Int) * 41 := by rw [IntKind.wrap_i64]; omega
  have hw2 : IntKind.i64.wrap (N : Int) = (N : Int) := by rw [IntKind.wrap_i64]; omega
  have hNl : N ≤ 281474976710656 := by omega
  clear h hBk hs hl hok hX hC hR hN hn hc288
  go_enter Tryz.func29, Tryz.ntmps29
  go_wp2_with fail
  refine (growB N w hNl).mono ?_
  rintro e w1 ⟨rfl, h1, hb1⟩
  have K1 : Hid (BS w [] w1) := ⟨h1, hb1⟩
  clear h1 hb1 hw1 hw2 hNz
  go_wp2_with fail
  refine (writeS w.heap.size w.heap.size [] ⟨#[109, 105, 120, 49]⟩ w1 K1.out.bld (by show 0 + 4 ≤ _; omega) K1.out.bel.size).mono ?_
  rintro e w2 ⟨rfl, h2, hb2, _⟩
  have K2 : Hid (BS w [109, 105, 120, 49] w2) := ⟨h2, K1.out.bel.trans hb2⟩
  clear h2 hb2 K1
  go_wp2_with fail
  refine (writeV w.heap.size w.heap.size [109, 105, 120, 49] (bl s) g 0 32 32 C 104 w2 K2.out.bld (HGB.out _ K2.out.bel) (by decide) (by omega) (by rw [bl_length]; exact HS.out) HC1.out (by show 4 + 32 ≤ _; omega) K2.out.bel.size).mono ?_
  rintro e w3 ⟨rfl, h3, hb3, _⟩
  have K3 : Hid (BS w ([109, 105, 120, 49] ++ bl s) w3) := ⟨h3, K2.out.bel.trans hb3⟩
  have hq3 := HQ.out _ K3.out.bel
  clear h3 hb3 K2 hsl hq0
  go_wp2_with fail
  refine (putN w.heap.size w.heap.size n ([109, 105, 120, 49] ++ bl s) w3 (by omega) K3.out.bld (by rw [List.length_append, bl_length, HS.out]; show 4 + 32 ≤ _; omega) K3.out.bel.size).mono ?_
  rintro e w4 ⟨rfl, h4, hb4, _⟩
  have K4 : Hid (BS w ([109, 105, 120, 49] ++ (bl s ++ (f4 l.length ++ fanT l 0))) w4) := BS.mk' ⟨h4, K3.out.bel.trans hb4⟩ (by rw [HL.out]; simp [fanT])
  have HFI : Hid ((Tryz.prog.info? 102).map (·.size) = some (fnC (fanL l)).toArray.size) := by
    show _ = some _
    rw [List.size_toArray, fnC_len]
    kernel_rfl
  obtain ⟨FC, hFC⟩ : ∃ FC, (fnC (fanL l)).toArray = FC := ⟨_, rfl⟩
  rw [hFC] at HFI HC2
  have HFX : Hid (∀ i : Nat, i < 256 → ∀ W, (Instr.index 102 (.agg FC) (.int .i64 (i : Int))).run Tryz.prog W = .ok (.int .i64 (fanL l i : Int)) W) := fun i hi W => ix_fan i hi FC _ (by rw [← hFC, List.getElem?_toArray]; exact fnC_get _ i hi) W
  clear h4 hb4 K3 hq3 hFC
  go_wp2_with (refine wpList_get rfl 102 (.tmp 33) rfl g 32 C FC 104 _ rfl (HGB.out _ K4.out.bel) HC2.out Tryz.underlying102 rfl HFI.out ?_)
  go_loopw [35] (fun v wr => ∃ b : Nat, v = .int .i64 b ∧ b ≤ 256 ∧ Hid (BS w ([109, 105, 120, 49] ++ (bl s ++ (f4 l.length ++ fanT l b))) wr)) (fun v _ => 256 - (intOf v).toNat)
  case atStart => exact ⟨0, rfl, by omega, K4.out⟩
  case round =>
    obtain ⟨b, rfl, hb, K5⟩ := hrel
    clear K4
    by_cases hlt : b < 256
    · have hbz : (b : Int) < 256 := by omega
      have hix := HFX.out b hlt
      obtain ⟨q, hq⟩ : ∃ q, fanL l b = q := ⟨_, rfl⟩
      have hql : q ≤ 65536 := by rw [← hq]; exact Nat.le_trans (fanL_le l b) (by rw [HL.out]; exact hn')
      have HNX : Hid (fanT l (b + 1) = fanT l b ++ f4 q) := by rw [← hq]; exact fanT_succ l b
      rw [hq] at hix
      have hlen : ([109, 105, 120, 49] ++ (bl s ++ (f4 l.length ++ fanT l b)) : List UInt8).length ≤ 100000000 := by
        rw [List.length_append, List.length_append, List.length_append, bl_length, HS.out, f4_len, fanT_len]
        show 4 + _ ≤ _
        omega
      have HP : Hid (Calls Tryz.prog 61 #[.int .i64 (q : Int), .pointer (some ⟨w.heap.size, 0, none⟩)] wr fun e w' => e = .returned (.tuple #[]) ∧ Bld w.heap.size w.heap.size ([109, 105, 120, 49] ++ (bl s ++ (f4 l.length ++ fanT l b)) ++ f4 q) w' ∧ Below w.heap.size wr w' ∧ Oth w.heap.size wr w') := putN w.heap.size w.heap.size q _ wr (by omega) K5.out.bld hlen K5.out.bel.size
      clear hq hlen
      go_wp2_with fail
      refine HP.out.mono ?_
      rintro e w6 ⟨rfl, h6, hb6, _⟩
      have K6 : Hid (BS w ([109, 105, 120, 49] ++ (bl s ++ (f4 l.length ++ fanT l (b + 1)))) w6) := BS.mk' ⟨h6, K5.out.bel.trans hb6⟩ (by rw [HNX.out]; simp)
      clear h6 hb6 HP HNX K5 hix
      go_wp2
      go_roundw
      case rel => exact ⟨b + 1, by go_num, by omega, K6.out⟩
      case measure => simp [intOf]; omega
    · have hbz : ¬ (b : Int) < 256 := by omega
      obtain rfl : b = 256 := by omega
      have K6 : Hid (BS w (hdB s l ++ ensB (l.take 0)) wr) := BS.mk' ⟨K5.out.bld, K5.out.bel⟩ (by simp [hdB, ensB])
      have hq6 := HQ.out _ K6.out.bel
      clear K5
      go_wp2
      go_loopw [47] (fun v wr => ∃ k : Nat, v = .int .i64 k ∧ k ≤ n ∧ Hid (BS w (hdB s l ++ ensB (l.take k)) wr)) (fun v _ => n - (intOf v).toNat)
      case atStart => exact ⟨0, rfl, Nat.zero_le _, K6.out⟩
      case round =>
        obtain ⟨k, rfl, hk, K7⟩ := hrel
        clear K6 hq6
        by_cases hlt2 : k < n
        · have hkz : (k : Int) < (n : Nat) := by omega
          obtain ⟨e, he⟩ : ∃ e, l[k]? = some e := ⟨l[k]'(by rw [HL.out]; exact hlt2), List.getElem?_eq_getElem _⟩
          obtain ⟨ga, oa, rfl, hga, h32, hcells⟩ := (HX.out.below K7.out.bel).get he
          have hoke := (okX_iff e).1 (HOK.out e (List.mem_of_getElem? he))
          have HT : Hid (ensB (l.take (k + 1)) = ensB (l.take k) ++ enB e) := by rw [take_snocX he]; exact ensB_snoc _ _
          have hlen0 : (hdB s l ++ ensB (l.take k)).length ≤ 90000000 := by
            rw [List.length_append, hdB_len l HS.out, ensB_len (fun x hx => HX.out.ids x (List.mem_of_mem_take hx)), List.length_take]
            omega
          obtain ⟨X, hXe⟩ : ∃ X, xeC e = X := ⟨_, rfl⟩
          obtain ⟨hk1, hk2, hk3⟩ := xeC_at e h32
          have HXI : Hid (∀ j u, (Lib.byteCells (bl e.id))[j]? = some u → X[0 + j]? = some u) := fun j u hu => by
            rw [← hXe]
            exact xeC_id e h32 j u (by rwa [bc_idc, Array.getElem?_toList] at hu)
          have HIX : Hid ((Tryz.prog.info? 34).map (·.size) = some X.toList.length ∧ X.all (·.oneCell') = true ∧ X.size = 35) := by rw [← hXe]; exact ⟨by rw [inf_xe35, Array.length_toList, xeC_size e h32], xeC_all e, xeC_size e h32⟩
          rw [hXe] at hk1 hk2 hk3 hcells
          have HCE : Hid (∀ j v, X[j]? = some v → wr.cell? ⟨ga, oa + k * 35 + j, none⟩ = some v) := hcells
          obtain ⟨m0, hm0⟩ : ∃ m0, hdB s l ++ ensB (l.take k) = m0 := ⟨_, rfl⟩
          rw [hm0] at hlen0 K7
          have HM : Hid (hdB s l ++ ensB (l.take (k + 1)) = m0 ++ enB e) := by show _ = _; rw [HT.out, ← hm0, List.append_assoc]
          obtain ⟨id, ek, eo, ez⟩ := e
          simp only at h32 hoke hk1 hk2 hk3 HXI HM
          obtain ⟨no, rfl⟩ : ∃ no : Nat, eo = (no : Int) := ⟨eo.toNat, by omega⟩
          obtain ⟨nz, rfl⟩ : ∃ nz : Nat, ez = (nz : Int) := ⟨ez.toNat, by omega⟩
          have hno : no ≤ 67108864 := by omega
          have hnz : nz ≤ 2097152 := by omega
          have HEB : Hid (enB ⟨id, ek, (no : Int), (nz : Int)⟩ = bl id ++ ([ek] ++ (f4 no ++ f4 nz))) := rfl
          have H32 : Hid (id.size = 32) := h32
          have B1 : Hid (Bk (wr.alloc (.cells X 34)) wr.heap.size X 34) := bk_new _ _ _
          have K8 : Hid (BS w m0 (wr.alloc (.cells X 34))) := ⟨bld_keep11 K7.out.bld ((Below.refl _ _).alloc (Nat.le_refl _) _), K7.out.bel.alloc K7.out.bel.size _⟩
          have hbz2 : wr.heap.size ≠ w.heap.size := by have := (bld_lt K7.out.bld).2; omega
          have hsl := slice32 wr.heap.size
          clear hcells hXe he hoke h32 hm0 HT
          go_wp2_with (first
            | (refine wpList_load_mid rfl 34 (.tmp 49) rfl ga (oa + k * 35) rfl X.toList _ (fun j v hv => HCE.out j v (by rwa [Array.getElem?_toList] at hv)) Tryz.underlying34 rfl HIX.out.1 ?_)
            | (refine wpList_store_new rfl 34 (.tmp 8) (.tmp 50) rfl X _ 34 wr.heap.size rfl rfl rfl (info_xe HIX.out.2.2) (by rw [HIX.out.2.2]; rfl) HIX.out.2.1 ?_)
            | fail)
          have hsz8 : w.heap.size ≤ (wr.alloc (.cells X 34)).heap.size := K8.out.bel.size
          refine (writeV w.heap.size w.heap.size m0 (bl id) wr.heap.size 0 32 32 X 34 _ K8.out.bld B1.out (by decide) hbz2 (by rw [bl_length]; exact H32.out) HXI.out (by omega) hsz8).mono ?_
          rintro e w9 ⟨rfl, h9, hb9, ho9⟩
          have K9 : Hid (BS w (m0 ++ bl id) w9) := ⟨h9, K8.out.bel.trans hb9⟩
          have B9 : Hid (Bk w9 wr.heap.size X 34) := oth_bk11 ho9 B1.out hbz2 (by decide)
          have hl9 : (m0 ++ bl id).length ≤ 90000032 := by rw [List.length_append, bl_length, H32.out]; omega
          have y9 : w9.cell? ⟨wr.heap.size, 32, none⟩ = some (.int .u8 (ek.toNat : Int)) := by rw [B9.out.cell]; exact hk1
          clear h9 hb9 ho9 K8 B1 hsl
          go_wp2_with fail
          refine (writeB w.heap.size w.heap.size (m0 ++ bl id) ek w9 K9.out.bld (by omega) K9.out.bel.size).mono ?_
          rintro e w10 ⟨rfl, h10, hb10, ho10⟩
          have K10 : Hid (BS w (m0 ++ bl id ++ [ek]) w10) := ⟨h10, K9.out.bel.trans hb10⟩
          have B10 : Hid (Bk w10 wr.heap.size X 34) := oth_bk11 ho10 B9.out hbz2 (by decide)
          have hl10 : (m0 ++ bl id ++ [ek]).length ≤ 90000033 := by rw [List.length_append, List.length_singleton]; omega
          have y10 : w10.cell? ⟨wr.heap.size, 33, none⟩ = some (.int .i64 (no : Int)) := by rw [B10.out.cell]; exact hk2
          clear h10 hb10 ho10 K9 B9 y9
          go_wp2_with fail
          refine (putN w.heap.size w.heap.size no (m0 ++ bl id ++ [ek]) w10 (by omega) K10.out.bld (by omega) K10.out.bel.size).mono ?_
          rintro e w11 ⟨rfl, h11, hb11, ho11⟩
          have K11 : Hid (BS w (m0 ++ bl id ++ [ek] ++ f4 no) w11) := ⟨h11, K10.out.bel.trans hb11⟩
          have B11 : Hid (Bk w11 wr.heap.size X 34) := oth_bk11 ho11 B10.out hbz2 (by decide)
          have hl11 : (m0 ++ bl id ++ [ek] ++ f4 no).length ≤ 90000037 := by rw [List.length_append, f4_len]; omega
          have y11 : w11.cell? ⟨wr.heap.size, 34, none⟩ = some (.int .i64 (nz : Int)) := by rw [B11.out.cell]; exact hk3
          clear h11 hb11 ho11 K10 B10 y10
          go_wp2_with fail
          refine (putN w.heap.size w.heap.size nz (m0 ++ bl id ++ [ek] ++ f4 no) w11 (by omega) K11.out.bld (by omega) K11.out.bel.size).mono ?_
          rintro e w12 ⟨rfl, h12, hb12, ho12⟩
          have K12 : Hid (BS w (hdB s l ++ ensB (l.take (k + 1))) w12) := BS.mk' ⟨h12, K11.out.bel.trans hb12⟩ (by rw [HM.out, HEB.out]; simp)
          clear h12 hb12 ho12 K11 B11 y11
          go_wp2
          go_roundw
          case rel => exact ⟨k + 1, by go_num, by omega, K12.out⟩
          case measure => simp [intOf]; omega
        · have hkz : ¬ (k : Int) < (n : Nat) := by omega
          obtain rfl : k = n := by omega
          have K8 : Hid (BS w (ixB s l) wr) := BS.mk' ⟨K7.out.bld, K7.out.bel⟩ (by rw [List.take_of_length_le (by rw [HL.out]; omega)]; rfl)
          have HBS : Hid (Calls Tryz.prog 66 #[.pointer (some ⟨w.heap.size, 0, none⟩)] wr fun e w' => e = .returned (.string R) ∧ Below w.heap.size w w') := (buildS w.heap.size w.heap.size (ixB s l) wr K8.out.bld K8.out.bel.size).mono fun e w' q => ⟨by rw [← HR.out]; exact q.1, K8.out.bel.trans q.2.2.1⟩
          clear K7
          go_wp2_with fail
          refine HBS.out.mono ?_
          rintro e w9 ⟨rfl, hb9⟩
          go_wp2
          go_ret
          exact ⟨rfl, hb9⟩
end Go.Proofs.YtpfknjnigcefgaaGreatDoor
/- idx.Build: the walk. -/
namespace Go.Proofs.YtpfknjnigcefgaaGreatDoor
open Go.RowKit
set_option linter.unusedSimpArgs false
set_option linter.unusedVariables false
/-- What Build tells. -/
def BdX (s : ByteArray) (l : List Xe) (R : ByteArray) : Prop := (bE l ≠ 0 → R = ⟨#[]⟩) ∧ (bE l = 0 → ∃ L, L.Perm l ∧ OkL L ∧ R = ⟨(ixB s L).toArray⟩)
theorem ret_seX {a : ByteArray} {e e' : Int} (h : e' = e) : Ending.returned (.tuple #[.string a, .int .i64 e]) = .returned (.tuple #[.string a, .int .i64 e']) := by rw [h]
theorem BdX.no {s : ByteArray} {l : List Xe} (h : bE l ≠ 0) : BdX s l ⟨#[]⟩ := ⟨fun _ => rfl, fun q => absurd q h⟩
set_option maxHeartbeats 16000000 in
set_option maxRecDepth 100000 in
theorem ibuild_any (SN : SNone) (s : ByteArray) (l : List Xe) (a : Option Addr) (n c : Nat) (w : World) (hs : s.size = 32) (hX : XeL w a l) (hl : l.length = n) (hA : a = none ∨ ∃ g o, a = some ⟨g, o, none⟩) (hn : n ≤ 4611686018427387904) :
    Calls Tryz.prog 6 #[.agg (idc s), .slice a n c] w fun e w' => ∃ R, e = .returned (.tuple #[.string R, .int .i64 (bE l)]) ∧ BdX s l R ∧ Below w.heap.size w w' := by
  have HX : Hid (XeL w a l) := hX
  have HL : Hid (l.length = n) := hl
  have HS : Hid (s.size = 32) := hs
  have HAA : Hid (a = none ∨ ∃ g o, a = some ⟨g, o, none⟩) := hA
  have HSN : Hid SNone := SN
  have X0 : Hid (BX w (w.heap.size + 1) s (l.take 0) ((w.alloc (.cells (idc s) 23)).alloc (.map #[] 0))) := by
    refine ⟨?_, ((Below.refl _ _).alloc (Nat.le_refl _) _).alloc (by rw [al_size]; omega) _, (bk_new _ _ _).alloc _, by omega⟩
    have := St.made (fun v => v = .agg #[]) (w.alloc (.cells (idc s) 23))
    rw [al_size] at this
    exact this
  obtain ⟨m, hm⟩ : ∃ m, w.heap.size + 1 = m := ⟨_, rfl⟩
  rw [hm] at X0
  have HI : Hid ((Tryz.prog.info? 23).map (·.size) = some (idc s).size) := info_32 (by rw [idc_size, hs])
  have hmm := @run_makeMap Tryz.prog
  clear hX hl hs hA SN
  go_enter Tryz.func6, Tryz.ntmps6
  go_wp2_with fail
  try rw [hm]
  clear hm hmm
  go_loopw [15] (fun v wr => ∃ k : Nat, v = .int .i64 k ∧ k ≤ n ∧ k ≤ 65536 ∧ Hid (BX w m s (l.take k) wr) ∧ Hid (bE l = xbE (l.take k) (l.drop k) ∧ GdX (l.take k))) (fun v _ => n - (intOf v).toNat)
  case atStart => exact ⟨0, rfl, Nat.zero_le _, Nat.zero_le _, X0.out, rfl, GdX.nil⟩
  case round =>
    obtain ⟨k, rfl, hk, hk6, HR, HE⟩ := hrel
    clear X0
    by_cases hlt : k < n
    · have hkz : (k : Int) < (n : Nat) := by omega
      obtain ⟨e, he⟩ : ∃ e, l[k]? = some e := ⟨l[k]'(by rw [HL.out]; exact hlt), List.getElem?_eq_getElem _⟩
      obtain ⟨ga, oa, rfl, hga, h32, hcells⟩ := (HX.out.below HR.out.bel).get he
      have HT : Hid (l.take (k + 1) = l.take k ++ [e]) := take_snocX he
      have HST : Hid (xbE (l.take k) (l.drop k) = if okX e = false ∨ k = 65536 then 1 else if hasX (l.take k) e.id = true then 7 else xbE (l.take (k + 1)) (l.drop (k + 1))) := xbE_step l k e he
      obtain ⟨X, hXe⟩ : ∃ X, xeC e = X := ⟨_, rfl⟩
      obtain ⟨D, hD⟩ : ∃ D, idc e.id = D := ⟨_, rfl⟩
      have HIX : Hid ((Tryz.prog.info? 34).map (·.size) = some X.toList.length ∧ X.all (·.oneCell') = true ∧ X.size = 35) := by rw [← hXe]; exact ⟨by rw [inf_xe35, Array.length_toList, xeC_size e h32], xeC_all e, xeC_size e h32⟩
      have HXI : Hid (∀ j v, D[j]? = some v → X[0 + j]? = some v) := fun j v hv => by rw [← hXe]; exact xeC_id e h32 j v (by rw [hD]; exact hv)
      have HID : Hid ((Tryz.prog.info? 23).map (·.size) = some D.size) := info_32 (by rw [← hD, idc_size, h32])
      rw [hXe] at hcells
      have HCE : Hid (∀ j v, X[j]? = some v → wr.cell? ⟨ga, oa + k * 35 + j, none⟩ = some v) := hcells
      have B1 : Hid (Bk (wr.alloc (.cells X 34)) wr.heap.size X 34) := bk_new _ _ _
      have R1 : Hid (BX w m s (l.take k) (wr.alloc (.cells X 34))) := HR.out.keep ((Below.refl _ _).alloc (Nat.le_refl _) _)
      have HMB : Hid (∀ W, Calls Tryz.prog 24 #[.agg X] W fun r w' => r = .returned (.bool (okX e)) ∧ Below W.heap.size W w') := fun W => by
        rw [← hXe]
        exact (maybe_any e W h32).mono fun r w' q => ⟨q.1, by rw [q.2]; exact (Below.refl _ _).alloc (Nat.le_refl _) _⟩
      have HLK : Hid (∀ W, BX w m s (l.take k) W → (Instr.lookup 57 (.map (some m)) (.agg D) true).run Tryz.prog W = .ok (.tuple #[.agg #[], .bool (hasX (l.take k) e.id)]) W) := fun W hW => by rw [← hD]; exact hW.look e.id h32
      have HPT : Hid (∀ W, BX w m s (l.take k) W → ∃ w', (Instr.mapUpdate 57 (.map (some m)) (.agg D) (.agg #[])).run Tryz.prog W = .ok () w' ∧ BX w m s (l.take (k + 1)) w') := fun W hW => by
        rw [← hD, HT.out]; exact hW.put (by rw [List.length_take]; omega) e h32
      clear hcells hXe hD he h32
      cases hok : okX e with
      | false =>
        have HE1 : Hid (bE l = 1) := by
          show _ = _
          rw [HE.out.1, HST.out, if_pos (.inl hok)]
        rw [hok] at HMB
        clear HE HST hok
        go_wp2_with (first
          | (go_at_call 24; refine (HMB.out _).mono ?_; rintro r w2 ⟨rfl, hb2⟩)
          | (refine wpList_load_mid rfl 34 (.tmp 18) rfl ga (oa + k * 35) rfl X.toList _ (fun j v hv => HCE.out j v (by rwa [Array.getElem?_toList] at hv)) Tryz.underlying34 rfl HIX.out.1 ?_)
          | (refine wpList_store_new rfl 34 (.tmp 8) (.tmp 19) rfl X _ 34 wr.heap.size rfl rfl rfl (info_xe HIX.out.2.2) (by rw [HIX.out.2.2]; rfl) HIX.out.2.1 ?_)
          | (refine wpList_get rfl 34 (.tmp 8) rfl wr.heap.size 0 X X 34 _ rfl B1.out (fun j v hv => by rw [Nat.zero_add]; exact hv) Tryz.underlying34 rfl (info_xe HIX.out.2.2) ?_)
          | fail)
        go_ret2
        exact ⟨_, ret_seX HE1.out, BdX.no (by rw [HE1.out]; decide), R1.out.bel.trans (hb2.mono R1.out.bel.size)⟩
      | true =>
        rw [hok] at HMB
        by_cases h65 : k = 65536
        · have HE1 : Hid (bE l = 1) := by
            show _ = _
            rw [HE.out.1, HST.out, if_pos (.inr h65)]
          have hz65 : ((k : Int) == 65536) = true := by rw [beq_iff_eq]; omega
          clear HE HST hok h65
          go_wp2_with (first
            | (go_at_call 24; refine (HMB.out _).mono ?_; rintro r w2 ⟨rfl, hb2⟩)
            | (refine wpList_load_mid rfl 34 (.tmp 18) rfl ga (oa + k * 35) rfl X.toList _ (fun j v hv => HCE.out j v (by rwa [Array.getElem?_toList] at hv)) Tryz.underlying34 rfl HIX.out.1 ?_)
            | (refine wpList_store_new rfl 34 (.tmp 8) (.tmp 19) rfl X _ 34 wr.heap.size rfl rfl rfl (info_xe HIX.out.2.2) (by rw [HIX.out.2.2]; rfl) HIX.out.2.1 ?_)
            | (refine wpList_get rfl 34 (.tmp 8) rfl wr.heap.size 0 X X 34 _ rfl B1.out (fun j v hv => by rw [Nat.zero_add]; exact hv) Tryz.underlying34 rfl (info_xe HIX.out.2.2) ?_)
            | fail)
          go_ret2
          exact ⟨_, ret_seX HE1.out, BdX.no (by rw [HE1.out]; decide), R1.out.bel.trans (hb2.mono R1.out.bel.size)⟩
        · have hz65 : ((k : Int) == 65536) = false := by rw [beq_eq_false_iff_ne]; omega
          have HNC : Hid (¬ (okX e = false ∨ k = 65536)) := by
            rintro (q | q)
            · rw [hok] at q; cases q
            · exact h65 q
          clear hok
          cases hh : hasX (l.take k) e.id with
          | true =>
            have HE1 : Hid (bE l = 7) := by
              show _ = _
              rw [HE.out.1, HST.out, if_neg HNC.out, if_pos hh]
            rw [hh] at HLK
            clear HE HST hh HNC
            go_wp2_with (first
              | (go_at_call 24; refine (HMB.out _).mono ?_; rintro r w2 ⟨rfl, hb2⟩; have R2 : Hid (BX w m s (l.take k) w2) := R1.out.keep hb2; have B2 : Hid (Bk w2 wr.heap.size X 34) := B1.out.below hb2 B1.out.lt; have hlook := HLK.out w2 R2.out)
              | (refine wpList_load_mid rfl 34 (.tmp 18) rfl ga (oa + k * 35) rfl X.toList _ (fun j v hv => HCE.out j v (by rwa [Array.getElem?_toList] at hv)) Tryz.underlying34 rfl HIX.out.1 ?_)
              | (refine wpList_store_new rfl 34 (.tmp 8) (.tmp 19) rfl X _ 34 wr.heap.size rfl rfl rfl (info_xe HIX.out.2.2) (by rw [HIX.out.2.2]; rfl) HIX.out.2.1 ?_)
              | (refine wpList_get rfl 34 (.tmp 8) rfl wr.heap.size 0 X X 34 _ rfl B1.out (fun j v hv => by rw [Nat.zero_add]; exact hv) Tryz.underlying34 rfl (info_xe HIX.out.2.2) ?_)
              | (refine wpList_get rfl 23 (.tmp 29) rfl wr.heap.size 0 X D 34 _ rfl B2.out HXI.out Tryz.underlying23 rfl HID.out ?_)
              | fail)
            go_ret2
            exact ⟨_, ret_seX HE1.out, BdX.no (by rw [HE1.out]; decide), R2.out.bel.alloc R2.out.bel.size _⟩
          | false =>
            have HE1 : Hid (bE l = xbE (l.take (k + 1)) (l.drop (k + 1)) ∧ GdX (l.take (k + 1))) := by
              refine ⟨?_, ?_⟩
              · rw [HE.out.1, HST.out, if_neg HNC.out, if_neg (by rw [hh]; simp)]
              · rw [HT.out]
                refine HE.out.2.snoc ?_ hh
                rw [List.length_take, Nat.min_eq_left (by rw [HL.out]; omega)]
                exact HNC.out
            rw [hh] at HLK
            clear HE HST hh HNC
            go_wp2_with (first
              | (go_at_call 24; refine (HMB.out _).mono ?_; rintro r w2 ⟨rfl, hb2⟩; have R2 : Hid (BX w m s (l.take k) w2) := R1.out.keep hb2; have B2 : Hid (Bk w2 wr.heap.size X 34) := B1.out.below hb2 B1.out.lt; have hlook := HLK.out w2 R2.out; have B3 : Hid (Bk (w2.alloc (.cells #[] 59)) wr.heap.size X 34) := B2.out.alloc _; obtain ⟨w8, hput, hR8⟩ := HPT.out (w2.alloc (.cells #[] 59)) (R2.out.keep ((Below.refl _ _).alloc (Nat.le_refl _) _)); have R8 : Hid (BX w m s (l.take (k + 1)) w8) := hR8; clear hR8)
              | (refine wpList_load_mid rfl 34 (.tmp 18) rfl ga (oa + k * 35) rfl X.toList _ (fun j v hv => HCE.out j v (by rwa [Array.getElem?_toList] at hv)) Tryz.underlying34 rfl HIX.out.1 ?_)
              | (refine wpList_store_new rfl 34 (.tmp 8) (.tmp 19) rfl X _ 34 wr.heap.size rfl rfl rfl (info_xe HIX.out.2.2) (by rw [HIX.out.2.2]; rfl) HIX.out.2.1 ?_)
              | (refine wpList_get rfl 34 (.tmp 8) rfl wr.heap.size 0 X X 34 _ rfl B1.out (fun j v hv => by rw [Nat.zero_add]; exact hv) Tryz.underlying34 rfl (info_xe HIX.out.2.2) ?_)
              | (refine wpList_get rfl 23 (.tmp 29) rfl wr.heap.size 0 X D 34 _ rfl B2.out HXI.out Tryz.underlying23 rfl HID.out ?_)
              | (refine wpList_get rfl 23 (.tmp 36) rfl wr.heap.size 0 X D 34 _ rfl B3.out HXI.out Tryz.underlying23 rfl HID.out ?_)
              | fail)
            clear hput hlook
            go_wp2
            go_roundw
            case rel => exact ⟨k + 1, by go_num, by omega, by omega, R8.out, HE1.out.1, HE1.out.2⟩
            case measure => simp [intOf]; omega
    · have hkz : ¬ (k : Int) < (n : Nat) := by omega
      obtain rfl : k = n := by omega
      have hxs : l.take k = l := List.take_of_length_le (by rw [HL.out]; omega)
      have hxd : l.drop k = [] := List.drop_eq_nil_of_le (by rw [HL.out]; omega)
      rw [hxs] at HR
      rw [hxs, hxd] at HE
      have HZ : Hid (bE l = 0 ∧ GdX l) := ⟨HE.out.1, HE.out.2⟩
      clear hxs hxd HE
      go_wp2_with fail
      refine (clone_any a k c l wr (HX.out.below HR.out.bel) HL.out HAA.out (by omega)).mono ?_
      rintro e w1 ⟨v, rfl, ho, hb1⟩
      have R1 : Hid (BX w m s l w1) := HR.out.keep hb1
      have hids : ∀ e ∈ l, e.id.size = 32 := HX.out.ids
      have hzz : w.heap.size < wr.heap.size := HR.out.bx.lt
      have HSO : Hid (Calls Tryz.prog 26 #[v, .func (.func 27) #[] #[]] w1 fun e w' => e = .returned (.tuple #[]) ∧ ∃ L a' c', L.Perm l ∧ OkL L ∧ v = .slice a' k c' ∧ XeL w' a' L ∧ k ≤ c' ∧ AdS a' ∧ Bk w' w.heap.size (idc s) 23 ∧ Below w.heap.size w w') := by
        rcases ho.2 with ⟨h1, h0⟩ | ⟨g, cap, cur, h1, hle, hg, hnc, _⟩
        · subst h1
          have hl0 : l = [] := List.length_eq_zero_iff.1 (by rw [HL.out]; exact h0)
          refine (HSN.out none 0 _ w1).mono ?_
          rintro e w' ⟨rfl, rfl⟩
          refine ⟨rfl, [], none, 0, by rw [hl0], ⟨fun e h => (by cases h), fun e h => (by cases h), List.Pairwise.nil, by simp⟩, by rw [h0], (fun i e h => by cases h), by omega, .inl rfl, R1.out.bx, R1.out.bel⟩
        · subst h1
          refine (sort_any wr.heap.size g k cap l w1 ho HL.out hids (by omega) hb1.size).mono ?_
          rintro e w' ⟨rfl, L, hp, hpw, ho', hb'⟩
          obtain ⟨a', c', hv, hXL, hkc, hAd⟩ := own_xel ho' (by rw [hp.length_eq]; exact HL.out) (fun e he => hids e (hp.mem_iff.1 he))
          refine ⟨rfl, L, a', c', hp, HZ.out.2.okl hp hids (rise_of hpw (HZ.out.2.ap.perm hp.symm)), hv, hXL, hkc, (by rcases hAd with ⟨q, _⟩ | ⟨q, q2, _⟩; exact .inl q; exact .inr ⟨q, 0, q2⟩), ?_, R1.out.bel.trans (hb'.mono (Nat.le_of_lt hzz))⟩
          unfold Bk
          rw [hb'.block w.heap.size hzz]
          exact R1.out.bx
      obtain ⟨va, vc, hvv⟩ : ∃ va vc, v = .slice va k vc := by
        rcases ho.2 with ⟨h1, h0⟩ | ⟨g, cap, cur, h1, _⟩
        · exact ⟨none, 0, by rw [h1, h0]⟩
        · exact ⟨_, _, h1⟩
      subst hvv
      clear ho hb1 R1 HR hids
      go_wp2_with fail
      refine HSO.out.mono ?_
      rintro e w2 ⟨rfl, L, a', c', hp, hOL, hv, hXL, hkc, hAd, hbx, hbel⟩
      injection hv with hva _ hvc
      subst hva
      subst hvc
      have HPL : Hid (L.Perm l ∧ OkL L) := ⟨hp, hOL⟩
      have HBX : Hid (Bk w2 w.heap.size (idc s) 23) := hbx
      have HBL : Hid (Below w.heap.size w w2) := hbel
      have HIO : Hid (Calls Tryz.prog 28 #[.agg (idc s), .slice va k vc] w2 fun e w' => ∃ g, e = .returned (.pointer (some ⟨g, 0, none⟩)) ∧ IxS w' g s L ∧ Below w.heap.size w w') := (indexOf_any s L va k vc w2 HS.out hXL (by rw [hp.length_eq]; exact HL.out) hkc hAd (by omega)).mono fun e w' ⟨g, h1, h2, h3, h4⟩ => ⟨g, h1, h3, hbel.trans (h4.mono hbel.size)⟩
      clear hp hOL hXL hkc hAd hbx hbel HSO
      go_wp2_with (first
        | (go_at_call 28; refine HIO.out.mono ?_; rintro e w3 ⟨gI, rfl, hI, hb3⟩; have HIX : Hid (IxS w3 gI s L ∧ Below w.heap.size w w3) := ⟨hI, hb3⟩; clear hI hb3)
        | (go_at_call 29; refine (bytes_any gI s L _ HIX.out.1 HPL.out.2.ok HPL.out.2.len).mono ?_; rintro e w4 ⟨rfl, hb4⟩)
        | (refine wpList_get rfl 23 (.tmp 2) rfl w.heap.size 0 (idc s) (idc s) 23 _ rfl HBX.out (fun j v hv => by rw [Nat.zero_add]; exact hv) Tryz.underlying23 rfl HI.out ?_)
        | fail)
      go_ret2
      exact ⟨_, ret_seX HZ.out.1, ⟨fun q => absurd HZ.out.1 q, fun _ => ⟨L, HPL.out.1, HPL.out.2, rfl⟩⟩, HIX.out.2.trans (hb4.mono HIX.out.2.size)⟩
end Go.Proofs.YtpfknjnigcefgaaGreatDoor
/- Sorting nothing does nothing. -/
namespace Go.Proofs.YtpfknjnigcefgaaGreatDoor
open Go.RowKit Go.Sort
set_option linter.unusedSimpArgs false
set_option linter.unusedVariables false
theorem sort_none : SNone := fun p cap fv w => AnyF.slices_SortFunc_none laysF6 p cap fv w
end Go.Proofs.YtpfknjnigcefgaaGreatDoor
