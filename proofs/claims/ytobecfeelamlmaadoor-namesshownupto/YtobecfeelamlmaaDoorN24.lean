/- names.takeShown, at a byte and at a rune. -/
import Derived.Test.YtobecfeelamlmaaDoorN23
namespace Go.Proofs.YtobecfeelamlmaaDoor
open Go.RowKit
set_option linter.unusedSimpArgs false
set_option linter.unusedVariables false
theorem conv_one (w : World) (x : Nat) (h : x ≤ 255) :
    (convert 37 9 (.slice (some ⟨w.heap.size, 0, none⟩) 1 1)).run Tryd.prog ((w.alloc (.cells #[.int .u8 (x : Int)] 5)).drew) = .ok (.string ⟨#[x.toUInt8]⟩) ((w.alloc (.cells #[.int .u8 (x : Int)] 5)).drew) := by
  refine run_convert_bytes_back ((w.alloc (.cells #[.int .u8 (x : Int)] 5)).drew) 37 9 5 ⟨w.heap.size, 0, none⟩ 1 [x.toUInt8] Tryd.underlying37 Tryd.underlying5 Tryd.underlying9 (fun j hj => ?_)
  have hj0 : j = 0 := by simp at hj; exact hj
  subst hj0
  have e : ((w.alloc (.cells #[.int .u8 (x : Int)] 5)).drew).cell? ((⟨w.heap.size, 0, none⟩ : Addr).add 0) = some (.int .u8 (x : Int)) := by
    show ((w.alloc (.cells #[.int .u8 (x : Int)] 5))).cell? ⟨w.heap.size, 0, none⟩ = _
    rw [World.cell?_alloc_new]; rfl
  rw [e]
  simp only [List.getElem_cons_zero, u8n x (by omega)]
set_option maxHeartbeats 1000000 in
set_option maxRecDepth 100000 in
theorem tk_x (s : ByteArray) (w : World) (h4 : 4 ≤ s.size) (hs : s.size ≤ 4398046511104) (h92 : (s[0]'(by omega)) = 92) (hq1 : Lib.hasPrefix s.data.toList [92, 92] = false) (hq2 : Lib.hasPrefix s.data.toList [92, 120] = true) (hE : Er w) :
    Calls Tryd.prog 15 #[.string s] w fun e w' => (∃ (n : Nat) (ok : Bool), e = .returned (.tuple #[.string ⟨#[n.toUInt8]⟩, .string (s.extract 4 s.size), .bool ok]) ∧
      ((ok = true ∧ hexP 255 0 (s.extract 2 4).data.toList = some n) ∨ (ok = false ∧ hexP 255 0 (s.extract 2 4).data.toList = none))) ∧ Below w.heap.size w w' := by
  have hz : (0 : Int) < (s.size : Nat) := by omega
  have hz4 : (4 : Int) ≤ (s.size : Nat) := by omega
  have hn : (((s[0]'(by omega)).toNat : Int) != 92) = false := by rw [h92]; rfl
  have h1 := hasPrefix_any s ⟨#[92, 92]⟩
  rw [show (⟨#[92, 92]⟩ : ByteArray).data.toList = [92, 92] from rfl, hq1] at h1
  have h2 := hasPrefix_any s ⟨#[92, 120]⟩
  rw [show (⟨#[92, 120]⟩ : ByteArray).data.toList = [92, 120] from rfl, hq2] at h2
  have hp := parse8 (s.extract 2 4) w (by rw [ByteArray.size_extract]; omega) hE
  have hsz : (s.extract 2 4).size = 2 := by rw [ByteArray.size_extract]; omega
  clear h92 hq1 hq2
  go_enter Tryd.func15, Tryd.ntmps15
  go_wp2_with fail
  refine (h1 _).mono ?_
  rintro e w1 ⟨rfl, hw⟩
  subst hw
  go_wp2_with fail
  refine (h2 _).mono ?_
  rintro e w1 ⟨rfl, hw⟩
  subst hw
  go_wp2_with fail
  refine hp.mono ?_
  clear hp
  rintro e w2 ⟨⟨x, ev, rfl, hx, hcase⟩, hb⟩
  have HB : Hid (Below w1.heap.size w1 w2) := hb
  have hw8 : IntKind.u8.wrap (x : Int) = (x : Int) := by rw [IntKind.wrap_u8']; omega
  rcases hcase with ⟨c1, c2, rfl⟩ | ⟨c1, N, rfl⟩
  · have H2 : Hid (hexP 255 0 (s.extract 2 4).data.toList = some x) := c2
    clear c1 c2 hb hsz
    have hcv := conv_one w2 x hx
    go_wp2_with fail
    go_region
    all_goals go_wp2
    all_goals go_ret3
    all_goals first
      | exact ⟨⟨x, true, rfl, .inl ⟨rfl, H2.out⟩⟩, (HB.out.alloc HB.out.size _).drew⟩
      | exact ⟨⟨x, false, rfl, .inr ⟨rfl, H2.out⟩⟩, (HB.out.alloc HB.out.size _).drew⟩
  · have H2 : Hid (hexP 255 0 (s.extract 2 4).data.toList = none) := by
      rcases c1 with c1 | c1
      · omega
      · exact c1
    clear c1 hb hsz
    have hcv := conv_one w2 x hx
    go_wp2_with fail
    go_region
    all_goals go_wp2
    all_goals go_ret3
    all_goals first
      | exact ⟨⟨x, true, rfl, .inl ⟨rfl, H2.out⟩⟩, (HB.out.alloc HB.out.size _).drew⟩
      | exact ⟨⟨x, false, rfl, .inr ⟨rfl, H2.out⟩⟩, (HB.out.alloc HB.out.size _).drew⟩
theorem enc_model (n : Nat) (h : scal n) : (Utf8.encode (n : Int)).data.toList = encR n := by
  have hv : Utf8.valid (n : Int) = true := by
    unfold scal at h
    unfold Utf8.valid
    simp
    omega
  unfold Utf8.encode
  simp only [hv, if_true, Int.toNat_natCast]
  by_cases h1 : n < 128
  · rw [if_pos h1, encR_1 h1]
  · rw [if_neg h1]
    by_cases h2 : n < 2048
    · rw [if_pos h2, encR_2 (by omega) h2]
    · rw [if_neg h2]
      by_cases h3 : n < 65536
      · rw [if_pos h3, encR_3 (by omega) h3 h]
      · rw [if_neg h3, encR_4 (by omega) (by unfold scal at h; omega)]
set_option maxHeartbeats 1000000 in
set_option maxRecDepth 100000 in
theorem tk_u (s : ByteArray) (w : World) (h2s : 2 ≤ s.size) (hs : s.size ≤ 4398046511104) (h92 : (s[0]'(by omega)) = 92) (hq1 : Lib.hasPrefix s.data.toList [92, 92] = false) (hq2 : Lib.hasPrefix s.data.toList [92, 120] = false) (hq3 : Lib.hasPrefix s.data.toList [92, 117] = true) (hE : Er w) :
    Calls Tryd.prog 15 #[.string s] w fun e w' => (∃ (R : Int) (b : ByteArray) (ok : Bool), e = .returned (.tuple #[.string (Utf8.encode R), .string b, .bool ok]) ∧ b.size < s.size ∧
      (((59 : UInt8) ∉ (s.extract 2 s.size).data.toList ∧ ok = false) ∨ ∃ (i : Nat), (59 : UInt8) ∉ (s.extract 2 s.size).data.toList.take i ∧ (s.extract 2 s.size).data.toList[i]? = some 59 ∧ b.data.toList = (s.extract 2 s.size).data.toList.drop (i + 1) ∧
        ((ok = true ∧ ∃ n : Nat, hexP 4294967295 0 ((s.extract 2 s.size).data.toList.take i) = some n ∧ (scal n → R = n)) ∨ (ok = false ∧ ((s.extract 2 s.size).data.toList.take i = [] ∨ hexP 4294967295 0 ((s.extract 2 s.size).data.toList.take i) = none))))) ∧ Below w.heap.size w w' := by
  have hz : (0 : Int) < (s.size : Nat) := by omega
  have hz4 : (2 : Int) ≤ (s.size : Nat) := by omega
  have hn : (((s[0]'(by omega)).toNat : Int) != 92) = false := by rw [h92]; rfl
  have h1 := hasPrefix_any s ⟨#[92, 92]⟩
  rw [show (⟨#[92, 92]⟩ : ByteArray).data.toList = [92, 92] from rfl, hq1] at h1
  have h2 := hasPrefix_any s ⟨#[92, 120]⟩
  rw [show (⟨#[92, 120]⟩ : ByteArray).data.toList = [92, 120] from rfl, hq2] at h2
  have h3 := hasPrefix_any s ⟨#[92, 117]⟩
  rw [show (⟨#[92, 117]⟩ : ByteArray).data.toList = [92, 117] from rfl, hq3] at h3
  obtain ⟨u, hu⟩ : ∃ u, s.extract 2 s.size = u := ⟨_, rfl⟩
  rw [hu]
  have hus : u.size = s.size - 2 := by rw [← hu, ByteArray.size_extract]; omega
  have hc := cut_any u w (by omega)
  have hp := fun (d : ByteArray) (W : World) (hd : d.size ≤ 4398046511104) (hE : Er W) => parse32 d W hd hE
  have HE : Hid (Er w) := hE
  clear h92 hq1 hq2 hq3 hE
  go_enter Tryd.func15, Tryd.ntmps15
  go_wp2_with fail
  refine (h1 _).mono ?_
  rintro e w1 ⟨rfl, hw⟩
  subst hw
  go_wp2_with fail
  refine (h2 _).mono ?_
  rintro e w1 ⟨rfl, hw⟩
  subst hw
  go_wp2_with fail
  refine (h3 _).mono ?_
  rintro e w1 ⟨rfl, hw⟩
  subst hw
  go_wp2_with fail
  refine hc.mono ?_
  clear hc h1 h2 h3
  rintro e w2 ⟨hA, hb⟩
  have HU : Hid (s.extract 2 s.size = u) := hu
  have HB : Hid (Below w1.heap.size w1 w2) := hb
  have hE2 : Er w2 := HE.out.keep hb
  clear hu hb
  rcases hA with ⟨rfl, hno⟩ | ⟨i, hi, rfl, hno⟩
  · have HN : Hid ((59 : UInt8) ∉ u.data.toList) := hno
    have hp2 := hp u w2 (by omega) hE2
    clear hno hp
    go_wp2_with fail
    refine hp2.mono ?_
    clear hp2
    rintro e w3 ⟨⟨x, ev, rfl, hx, hcase⟩, hb3⟩
    have HB3 : Hid (Below w1.heap.size w1 w3) := HB.out.trans (hb3.mono HB.out.size)
    clear hcase hb3
    have hb0 : (⟨#[]⟩ : ByteArray).size < s.size := by show 0 < s.size; omega
    go_wp2_with fail
    go_quiet (fail)
    all_goals go_wp2
    all_goals go_ret3
    all_goals exact ⟨⟨_, _, _, rfl, hb0, .inl ⟨HN.out, rfl⟩⟩, HB3.out.trans ((below_dn _ _).mono HB3.out.size)⟩
  · have HN : Hid ((59 : UInt8) ∉ u.data.toList.take i ∧ u.data.toList[i]? = some 59) := hno
    have hdl : (u.extract 0 i).data.toList = u.data.toList.take i := by simp
    obtain ⟨d, hd⟩ : ∃ d, u.extract 0 i = d := ⟨_, rfl⟩
    obtain ⟨b, hbb⟩ : ∃ b, u.extract (i + 1) u.size = b := ⟨_, rfl⟩
    have hds : d.size = i := by rw [← hd, ByteArray.size_extract]; omega
    have hbs : b.size < s.size := by rw [← hbb, ByteArray.size_extract]; omega
    have HBL : Hid (b.data.toList = u.data.toList.drop (i + 1)) := by
      rw [← hbb]; exact Lib.extract_to_end _ _
    rw [hd] at hdl
    have HDL : Hid (d.data.toList = u.data.toList.take i) := hdl
    have hp2 := hp d w2 (by omega) hE2
    rw [hd, hbb]
    clear hno hp hd hbb hdl
    go_wp2_with fail
    refine hp2.mono ?_
    clear hp2
    rintro e w3 ⟨⟨x, ev, rfl, hx, hcase⟩, hb3⟩
    have HB3 : Hid (Below w1.heap.size w1 w3) := HB.out.trans (hb3.mono HB.out.size)
    clear hb3
    rcases hcase with ⟨c1, c2, rfl⟩ | ⟨c1, N, rfl⟩
    · have H2 : Hid (hexP 4294967295 0 (u.data.toList.take i) = some x) := by rw [← HDL.out]; exact c2
      clear c1 c2
      go_wp2_with fail
      go_quiet (fail)
      all_goals go_wp2
      all_goals go_ret3
      all_goals exact ⟨⟨_, b, _, rfl, hbs, .inr ⟨i, HN.out.1, HN.out.2, HBL.out, .inl ⟨rfl, x, H2.out, fun h => by (unfold scal at h; unfold wrap32; omega)⟩⟩⟩, HB3.out.trans ((below_dn _ _).mono HB3.out.size)⟩
    · have H2 : Hid (u.data.toList.take i = [] ∨ hexP 4294967295 0 (u.data.toList.take i) = none) := by
        rw [← HDL.out]
        rcases c1 with c1 | c1
        · refine .inl (List.eq_nil_of_length_eq_zero ?_)
          rw [data_len]; exact c1
        · exact .inr c1
      clear c1
      go_wp2_with fail
      go_quiet (fail)
      all_goals go_wp2
      all_goals go_ret3
      all_goals exact ⟨⟨_, b, _, rfl, hbs, .inr ⟨i, HN.out.1, HN.out.2, HBL.out, .inr ⟨rfl, H2.out⟩⟩⟩, HB3.out.trans ((below_dn _ _).mono HB3.out.size)⟩
end Go.Proofs.YtobecfeelamlmaaDoor
