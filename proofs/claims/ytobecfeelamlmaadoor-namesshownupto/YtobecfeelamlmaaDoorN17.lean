/- The document's Show. -/
import Derived.Test.YtobecfeelamlmaaDoorN9
import Derived.Test.YtobecfeelamlmaaDoorN16
import Derived.Laws.AppendOwn
import Derived.Deep.AppendLies
import Derived.Deep.RegionHeld3
namespace Go.Proofs.YtobecfeelamlmaaDoor
open Go.RowKit
set_option linter.unusedSimpArgs false
set_option linter.unusedVariables false
/-- Bytes as cells. -/
abbrev bcl (l : List UInt8) : List Value := Lib.byteCells l
theorem bcl_app (a b : List UInt8) : bcl (a ++ b) = bcl a ++ bcl b := Lib.byteCells_append a b
theorem one_u8 (a : Int) : ∀ u ∈ [Value.int .u8 a], u.oneCell' = true := by
  intro u hu
  simp at hu
  subst hu; rfl
/-- append of a text onto a row of the call's own. -/
theorem aps_below {B n : Nat} {w wr w1 : World} {v : Value} {xs : List Value} {e : TypeId} (hb : Below B w wr) (hz : B ≤ wr.heap.size) (ho : wr.ownsRow B e 1 v n xs) (hg : wr.grownBy w1 v.ownBlock) : Below B w w1 := by
  refine hb.grown hg hz (fun k hk => ?_)
  rcases ho.2 with ⟨rfl, _⟩ | ⟨g, cap, cur, rfl, hle, _⟩
  · cases hk
  · simp [Value.ownBlock] at hk; omega
theorem inf_u8 : (Tryd.prog.info? 5).map (fun i => (i.zero, i.size, i.bytes)) = some (some (.int .u8 0), 1, 1) := by kernel_rfl
/-- How the front is shown, by what the document's Rune answers. -/
theorem shF_rr (t : ByteArray) (h : 0 < t.size) : ((rr t).2 = 0 ∧ shF t.data.toList = [92, 120] ++ hx (t[(0 : Nat)]'h).toNat ∧ 128 ≤ (t[(0 : Nat)]'h).toNat ∧ sh t.data.toList = shF t.data.toList ++ sh (t.extract 1 t.size).data.toList) ∨
    (1 ≤ (rr t).2 ∧ (rr t).2 ≤ t.size ∧ (rr t).1 ≤ 1114111 ∧ shF t.data.toList = shR (rr t).1 ∧ sh t.data.toList = shF t.data.toList ++ sh (t.extract (rr t).2 t.size).data.toList) := by
  have hne : t.data.toList ≠ [] := by
    intro e
    have := congrArg List.length e
    rw [data_len, List.length_nil] at this
    omega
  have hd : Lib.decodeL t.data.toList = Utf8.decode t 0 := by
    have := Lib.decodeL_drop t 0
    rwa [List.drop_zero] at this
  have hs := sh_step _ hne
  have hr := Lib.decodeL_rune t.data.toList
  have hh : t.data.toList.headD 0 = t[(0 : Nat)]'h := by
    rw [List.headD_eq_head?_getD, List.head?_eq_getElem?, List.getElem?_eq_getElem (by rw [data_len]; exact h)]
    rfl
  have hf := fw_le t h
  unfold fw at hf
  by_cases h1 : (Utf8.decode t 0).1 = 65533 ∧ (Utf8.decode t 0).2 = 1
  · left
    have hb : badF t.data.toList = true := by unfold badF; rw [hd]; simp [h1]
    have h8 : 128 ≤ (t[(0 : Nat)]'h).toNat := by
      obtain ⟨b, l, e⟩ := List.exists_cons_of_ne_nil hne
      rw [e] at hb hh
      have := (bad_big b l hb).1
      rw [← hh]; exact this
    refine ⟨by unfold rr; rw [if_pos (.inr h1)], by unfold shF; rw [hb, hh]; rfl, h8, ?_⟩
    rw [hd, h1.2] at hs
    rw [hs, Lib.extract_to_end]
  · right
    have e : rr t = Utf8.decode t 0 := by unfold rr; rw [if_neg (fun h => h.elim (fun e => by omega) h1)]
    rw [e]
    have hb : badF t.data.toList = false := by unfold badF; rw [hd]; simp only [decide_eq_false_iff_not]; exact h1
    rw [hd] at hs hr
    refine ⟨hf.1, hf.2, hr, by unfold shF; rw [hb, hd]; rfl, ?_⟩
    rw [hs, Lib.extract_to_end]
theorem conv_own {w : World} {base n : Nat} {v : Value} {l : List UInt8} (h : w.ownsRow base 5 1 v n (bcl l)) :
    (convert 37 9 v).run Tryd.prog w = .ok (.string ⟨l.toArray⟩) w := by
  obtain ⟨hl, h⟩ := h
  have hll : l.length = n := by rw [Lib.byteCells_length] at hl; simpa using hl
  rcases h with ⟨rfl, rfl⟩ | ⟨g, cap, cur, rfl, _, hg, hn, _, hc, ht⟩
  · have : l = [] := List.eq_nil_of_length_eq_zero hll
    subst this
    exact run_convert_bytes_nil w 37 5 Tryd.underlying37 Tryd.underlying5 0 0 9 Tryd.underlying9
  · rw [← nums_u8]
    refine run_convert_bytes_arg _ 37 5 Tryd.underlying37 Tryd.underlying5 _ _ _ _ _ (by simp [hll]) (fun i hi => ?_) 9 Tryd.underlying9
    have e := congrArg (·[i]?) ht
    rw [Nat.mul_one] at e
    have hil : i < l.length := by omega
    simp only [List.getElem?_take, if_pos hi, bcl, Lib.byteCells, List.getElem?_map, List.getElem?_eq_getElem hil, Option.map_some] at e
    rw [List.getD, List.getElem?_map, List.getElem?_eq_getElem hil]
    simp only [World.cell?, hg, Nat.zero_add]
    rw [← Array.getElem?_toList]; exact e
theorem hx_two (b : Nat) (h1 : 16 ≤ b) (h2 : b < 256) : hx b = [hxd (b / 16), hxd (b % 16)] := by
  rw [hx_big (by omega), hx_small (n := b / 16) (by omega)]; rfl
theorem tab16 (v : Nat) (h : v < (⟨#[48, 49, 50, 51, 52, 53, 54, 55, 56, 57, 97, 98, 99, 100, 101, 102]⟩ : ByteArray).size) : ((⟨#[48, 49, 50, 51, 52, 53, 54, 55, 56, 57, 97, 98, 99, 100, 101, 102]⟩ : ByteArray)[v]'h).toNat = (hxd v).toNat := by
  have : ∀ v : Fin 16, ((⟨#[48, 49, 50, 51, 52, 53, 54, 55, 56, 57, 97, 98, 99, 100, 101, 102]⟩ : ByteArray)[v.val]'v.isLt).toNat = (hxd v.val).toNat := by decide
  exact this ⟨v, h⟩
theorem own_drw {w : World} {base : Nat} {e : TypeId} {size n : Nat} {v : Value} {xs : List Value} (h : w.ownsRow base e size v n xs) (o : Obj) : ((w.alloc o).drew).ownsRow base e size v n xs := h.alloc o
theorem news_four (w : World) (a b c d : Value) (T : TypeId) : ∀ (j : Nat) (u : Value), [a, b, c, d][j]? = some u → ((w.alloc (.cells #[a, b, c, d] T)).drew).cell? ((⟨w.heap.size, 0, none⟩ : Addr).add j) = some u := by
  intro j u h
  have e : ((w.alloc (.cells #[a, b, c, d] T)).drew).cell? ((⟨w.heap.size, 0, none⟩ : Addr).add j) = (w.alloc (.cells #[a, b, c, d] T)).cell? ((⟨w.heap.size, 0, none⟩ : Addr).add j) := rfl
  rw [e, WideShapes.add_plain, Nat.zero_add, World.cell?_alloc_new]
  simpa using h
theorem one_four (a b c d : Int) : ∀ u ∈ [Value.int .u8 a, Value.int .u8 b, Value.int .u8 c, Value.int .u8 d], u.oneCell' = true := by
  intro u hu
  simp at hu
  rcases hu with rfl | rfl | rfl | rfl <;> rfl
theorem apd_below {B n : Nat} {w wr w1 : World} {o : Obj} {v : Value} {xs : List Value} {e : TypeId} (hb : Below B w wr) (hz : B ≤ wr.heap.size) (ho : wr.ownsRow B e 1 v n xs) (hg : ((wr.alloc o).drew).grownBy w1 v.ownBlock) : Below B w w1 := by
  refine ((hb.alloc hz o).drew).grown hg (by show B ≤ (wr.alloc o).heap.size; simp; omega) (fun k hk => ?_)
  rcases ho.2 with ⟨rfl, _⟩ | ⟨g, cap, cur, rfl, hle, _⟩
  · cases hk
  · simp [Value.ownBlock] at hk; omega
set_option maxHeartbeats 1000000 in
set_option maxRecDepth 100000 in
theorem rShow_any (s : ByteArray) (w : World) (hs : s.size ≤ 4398046511104) (hT : U8 w) (hz : Tz w) :
    Calls Tryd.prog 10 #[.string s] w fun e w' => e = .returned (.string ⟨(sh s.data.toList).toArray⟩) ∧ Below w.heap.size w w' := by
  have HT : Hid (U8 w ∧ Tz w) := ⟨hT, hz⟩
  have hTz : 7 < w.heap.size := hz.2
  clear hT hz
  obtain ⟨i0, hi, hz0, hz1, hzb⟩ := info_parts inf_u8
  go_enter Tryd.func10, Tryd.ntmps10
  go_wp2
  go_loopw [0, 3] (fun v0 v3 wr => ∃ (t : ByteArray) (pre : List UInt8), v0 = .string t ∧ wr.ownsRow w.heap.size 5 1 v3 pre.length (bcl pre) ∧ Hid (Below w.heap.size w wr) ∧ pre.length + 9 * t.size ≤ 9 * s.size ∧ Hid (sh s.data.toList = pre ++ sh t.data.toList)) (fun v0 _ _ => sLn v0)
  case atStart => exact ⟨s, [], rfl, World.ownsRow_nil _ _ _ _, Below.refl _ _, by simp, rfl⟩
  case round =>
    obtain ⟨t, pre, rfl, hown, HB, hts, HR⟩ := hrel
    have HO : Hid (wr.ownsRow w.heap.size 5 1 u3 pre.length (bcl pre)) := hown
    have hz : w.heap.size ≤ wr.heap.size := HB.out.size
    clear hown
    by_cases h0 : 0 < t.size
    · have h0z : (0 : Int) < (t.size : Nat) := by omega
      have hru := rune_any t wr (HT.out.1.below HB.out)
      have hst := shF_rr t h0
      have hln := shF_len t.data.toList
      obtain ⟨r, hr⟩ : ∃ r, (rr t).1 = r := ⟨_, rfl⟩
      obtain ⟨k, hk⟩ : ∃ k, (rr t).2 = k := ⟨_, rfl⟩
      rw [hr, hk] at hru
      rw [hr, hk] at hst
      clear hr hk
      rcases hst with ⟨k0, hF, hb8, hsn⟩ | ⟨hk1, hk2, hr1, hF, hsn⟩
      · subst k0
        have hlt256 : (t[(0 : Nat)]'h0).toNat < 256 := (t[(0 : Nat)]'h0).toNat_lt
        have hp : shF t.data.toList = [92, 120, hxd ((t[(0 : Nat)]'h0).toNat / 16), hxd ((t[(0 : Nat)]'h0).toNat % 16)] := by rw [hF, hx_two _ (by omega) hlt256]; rfl
        rw [hp] at hln hsn
        obtain ⟨t2, ht2⟩ : ∃ t2, t2 = t.extract 1 t.size := ⟨_, rfl⟩
        have hz2 : t2.size + 1 = t.size := by rw [ht2, ByteArray.size_extract]; omega
        rw [← ht2] at hsn
        have HT2 : Hid (t2 = t.extract 1 t.size) := ht2
        have HV : Hid (sh s.data.toList = (pre ++ [92, 120, hxd ((t[(0 : Nat)]'h0).toNat / 16), hxd ((t[(0 : Nat)]'h0).toNat % 16)]) ++ sh t2.data.toList) := by (show _ = _; rw [HR.out, hsn]; exact (List.append_assoc _ _ _).symm)
        have h1z : (1 : Int) ≤ (t.size : Nat) := by omega
        clear ht2 hp hF hsn HR
        have hsz16 : (⟨#[48, 49, 50, 51, 52, 53, 54, 55, 56, 57, 97, 98, 99, 100, 101, 102]⟩ : ByteArray).size = 16 := rfl
        have hq1 : IntKind.u8.wrap (((t[(0 : Nat)]'h0).toNat : Int) / 16) = ((t[(0 : Nat)]'h0).toNat : Int) / 16 := by rw [IntKind.wrap_u8']; omega
        have hq2 : (((t[(0 : Nat)]'h0).toNat : Int)).tmod 16 = ((t[(0 : Nat)]'h0).toNat : Int) % 16 := Int.tmod_eq_emod_of_nonneg (by omega)
        have hv1 : ((⟨#[48, 49, 50, 51, 52, 53, 54, 55, 56, 57, 97, 98, 99, 100, 101, 102]⟩ : ByteArray)[(((t[(0 : Nat)]'h0).toNat : Int) / 16).toNat]'(by show _ < 16; omega)).toNat = (hxd ((t[(0 : Nat)]'h0).toNat / 16)).toNat := by
          rw [tab16]; congr 1
        have hv2 : ((⟨#[48, 49, 50, 51, 52, 53, 54, 55, 56, 57, 97, 98, 99, 100, 101, 102]⟩ : ByteArray)[(((t[(0 : Nat)]'h0).toNat : Int) % 16).toNat]'(by show _ < 16; omega)).toNat = (hxd ((t[(0 : Nat)]'h0).toNat % 16)).toNat := by
          rw [tab16]; congr 1
        have b1 : (0 : Int) ≤ ((t[(0 : Nat)]'h0).toNat : Int) / 16 := by omega
        have b2 : ((t[(0 : Nat)]'h0).toNat : Int) / 16 < 16 := by omega
        have b3 : ((t[(0 : Nat)]'h0).toNat : Int) % 16 < 16 := by omega
        have b4 : (0 : Int) ≤ ((t[(0 : Nat)]'h0).toNat : Int) % 16 := by omega
        go_wp2_with fail
        refine hru.mono ?_
        rintro e w1 ⟨rfl, hb⟩
        have HBW : Hid (Below w.heap.size w w1) := HB.out.trans (hb.mono hz)
        have HO1 : Hid (w1.ownsRow w.heap.size 5 1 u3 pre.length (bcl pre)) := HO.out.kept (grn_keep hb) (by cases u3.ownBlock <;> simp)
        have hzw1 : w.heap.size ≤ w1.heap.size := HBW.out.size
        clear hb hru
        go_wp2_with fail
        go_region_held3 (fun w' => True) (trivial)
          ((refine step_append_lies _ (by rfl) _ _ _ (by rfl) w.heap.size 5 i0 (.int .u8 0) 1 1 Tryd.underlying37 hi hz0 hz1 hzb rfl (by decide) u3 pre.length _ (by rfl) (own_drw HO1.out _) ⟨w1.heap.size, 0, none⟩ 4 4 [.int .u8 92, .int .u8 120, .int .u8 (hxd ((t[(0 : Nat)]'h0).toNat / 16)).toNat, .int .u8 (hxd ((t[(0 : Nat)]'h0).toNat % 16)).toNat] (by rfl) rfl (news_four w1 _ _ _ _ _) (one_four _ _ _ _) (by omega) (by unfold maxLen; omega) (by omega) (by show w.heap.size ≤ (w1.alloc _).heap.size; simp; omega) (w1.heap.size + 1) (by show (w1.alloc _).heap.size = _; simp) ?_; intro g cap w7 hown7 hgrow hat hlt1))
        all_goals clear hq1 hq2 hv1 hv2 b1 b2 b3 b4
        all_goals go_wp2
        all_goals go_roundw
        all_goals first
          | exact ⟨t2, pre ++ [92, 120, hxd ((t[(0 : Nat)]'h0).toNat / 16), hxd ((t[(0 : Nat)]'h0).toNat % 16)], by rw [HT2.out], (by rw [bcl_app, List.length_append]; exact hown7), apd_below HBW.out hzw1 HO1.out hgrow, by rw [List.length_append]; omega, HV.out⟩
          | (rw [← HT2.out]; simp [sLn]; omega)
      · have k0 : ((k : Int) == 0) = false := by simp; omega
        have kz : (k : Int) ≤ (t.size : Nat) := by omega
        obtain ⟨t2, ht2⟩ : ∃ t2, t2 = t.extract k t.size := ⟨_, rfl⟩
        have hz2 : t2.size + k = t.size := by rw [ht2, ByteArray.size_extract]; omega
        rw [← ht2] at hsn
        have HT2 : Hid (t2 = t.extract k t.size) := ht2
        rw [hF] at hln hsn
        clear ht2
        by_cases c1 : r = 92
        · have c1' : ((r : Int) == 92) = true := by simp [c1]
          have hp : shR r = [92, 92] := by rw [c1]; rfl
          rw [hp] at hln hsn
          have HV : Hid (sh s.data.toList = (pre ++ [92, 92]) ++ sh t2.data.toList) := by (show _ = _; rw [HR.out, hsn]; exact (List.append_assoc _ _ _).symm)
          clear hp hF hsn HR
          go_wp2_with fail
          refine hru.mono ?_
          rintro e w1 ⟨rfl, hb⟩
          have HBW : Hid (Below w.heap.size w w1) := HB.out.trans (hb.mono hz)
          have HO1 : Hid (w1.ownsRow w.heap.size 5 1 u3 pre.length (bcl pre)) := HO.out.kept (grn_keep hb) (by cases u3.ownBlock <;> simp)
          have hzw1 : w.heap.size ≤ w1.heap.size := HBW.out.size
          clear hb hru
          go_wp2_with (at_builtin; refine Lib.wpList_append_own_string _ rfl _ _ 37 9 rfl w.heap.size 5 i0 Tryd.underlying37 Tryd.underlying9 hi hz0 hz1 hzb _ _ _ rfl HO1.out ⟨#[92, 92]⟩ rfl (by show pre.length + 2 ≤ maxLen; unfold maxLen; omega) (by show pre.length + 2 ≤ _; omega) hzw1 ?_)
          intro v' w7 hown7 hgrow _
          have HO7 : Hid (w7.ownsRow w.heap.size 5 1 v' (pre ++ ([92, 92])).length (bcl (pre ++ ([92, 92])))) := by
            show w7.ownsRow w.heap.size 5 1 v' (pre ++ ([92, 92])).length (bcl (pre ++ ([92, 92])))
            rw [bcl_app, List.length_append]; exact hown7
          have HB7 : Hid (Below w.heap.size w w7) := aps_below HBW.out hzw1 HO1.out hgrow
          clear hown7 hgrow HO1 HO
          go_wp2
          go_roundw
          case rel => exact ⟨t2, pre ++ ([92, 92]), by rw [HT2.out], HO7.out, HB7.out, by rw [List.length_append]; omega, HV.out⟩
          case measure => rw [← HT2.out]; simp [sLn]; omega
        · have c1' : ((r : Int) == 92) = false := by simp; omega
          by_cases c2 : 32 ≤ r ∧ r ≤ 126
          · have c2a : (32 : Int) ≤ r := by omega
            have c2b : (r : Int) ≤ 126 := by omega
            have hp : shR r = [r.toUInt8] := by unfold shR; rw [if_neg c1, if_pos c2]
            have hcn : (r : Int) = ((r.toUInt8).toNat : Int) := by rw [u8n r (by omega)]
            rw [hp] at hln hsn
            have HV : Hid (sh s.data.toList = (pre ++ [r.toUInt8]) ++ sh t2.data.toList) := by (show _ = _; rw [HR.out, hsn]; exact (List.append_assoc _ _ _).symm)
            have HCN : Hid (Value.int .u8 (r : Int) = .int .u8 ((r.toUInt8).toNat : Int)) := by (show _ = _; rw [hcn])
            clear hp hF hsn HR hcn
            go_wp2_with fail
            refine hru.mono ?_
            rintro e w1 ⟨rfl, hb⟩
            have HBW : Hid (Below w.heap.size w w1) := HB.out.trans (hb.mono hz)
            have HO1 : Hid (w1.ownsRow w.heap.size 5 1 u3 pre.length (bcl pre)) := HO.out.kept (grn_keep hb) (by cases u3.ownBlock <;> simp)
            have hzw1 : w.heap.size ≤ w1.heap.size := HBW.out.size
            clear hb hru
            go_wp2_with (at_builtin; refine wpList_append_own _ rfl _ _ 37 rfl w.heap.size 5 i0 (.int .u8 0) 1 1 Tryd.underlying37 hi hz0 hz1 hzb rfl (by decide) _ _ _ rfl (HO1.out.alloc _) ⟨w1.heap.size, 0, none⟩ 1 1 [.int .u8 r] rfl rfl (new_one _ _ _) (one_u8 _) (by unfold maxLen; omega) (by omega) (by simp; omega) ?_)
            intro v' w7 hown7 hgrow _
            have HO7 : Hid (w7.ownsRow w.heap.size 5 1 v' (pre ++ ([r.toUInt8])).length (bcl (pre ++ ([r.toUInt8])))) := by
              show w7.ownsRow w.heap.size 5 1 v' (pre ++ ([r.toUInt8])).length (bcl (pre ++ ([r.toUInt8])))
              rw [bcl_app, List.length_append]; rw [HCN.out] at hown7; exact hown7
            have HB7 : Hid (Below w.heap.size w w7) := apn_below HBW.out hzw1 HO1.out hgrow
            clear hown7 hgrow HO1 HO
            go_wp2
            go_roundw
            case rel => exact ⟨t2, pre ++ ([r.toUInt8]), by rw [HT2.out], HO7.out, HB7.out, by rw [List.length_append]; omega, HV.out⟩
            case measure => rw [← HT2.out]; simp [sLn]; omega
          · have hp : shR r = [92, 117] ++ hx r ++ [59] := by unfold shR; rw [if_neg c1, if_neg c2]
            rw [hp] at hln hsn
            have hxl := (hx_len 5 r (by omega)).2
            have HV : Hid (sh s.data.toList = (pre ++ ([92, 117] ++ hx r ++ [59])) ++ sh t2.data.toList) := by (show _ = _; rw [HR.out, hsn]; exact (List.append_assoc _ _ _).symm)
            obtain ⟨U, hU⟩ : ∃ U : ByteArray, (⟨#[92, 117]⟩ : ByteArray) ++ ⟨(hx r).toArray⟩ ++ ⟨#[59]⟩ = U := ⟨_, rfl⟩
            have HU : Hid (U.data.toList = [92, 117] ++ hx r ++ [59]) := by (show _ = _; rw [← hU]; exact pcB_data _)
            have hUs : U.size ≤ 9 := by rw [← data_len, HU.out]; exact hln
            have HUZ : Hid (U.size = ([92, 117] ++ hx r ++ [59]).length) := by (show _ = _; rw [← data_len, HU.out])
            have HUU : Hid ((⟨#[92, 117]⟩ : ByteArray) ++ ⟨(hx r).toArray⟩ ++ ⟨#[59]⟩ = U) := hU
            clear hp hF hsn HR hU
            by_cases c3 : (32 : Int) ≤ r
            · have c4 : ¬ (r : Int) ≤ 126 := by omega
              go_wp2_with fail
              refine hru.mono ?_
              rintro e w1 ⟨rfl, hb⟩
              have HBW : Hid (Below w.heap.size w w1) := HB.out.trans (hb.mono hz)
              have HO1 : Hid (w1.ownsRow w.heap.size 5 1 u3 pre.length (bcl pre)) := HO.out.kept (grn_keep hb) (by cases u3.ownBlock <;> simp)
              have hzw1 : w.heap.size ≤ w1.heap.size := HBW.out.size
              clear hb hru
              go_wp2_with fail
              refine (fmtI r w1 (by omega) (HT.out.2.below HBW.out hTz)).mono ?_
              rintro e w2 ⟨rfl, hb⟩
              have HBV : Hid (Below w.heap.size w w2) := HBW.out.trans (hb.mono hzw1)
              have HO2 : Hid (w2.ownsRow w.heap.size 5 1 u3 pre.length (bcl pre)) := HO1.out.kept (grn_keep hb) (by cases u3.ownBlock <;> simp)
              have hzw2 : w.heap.size ≤ w2.heap.size := HBV.out.size
              clear hb
              go_wp2_with (at_builtin; refine Lib.wpList_append_own_string _ rfl _ _ 37 9 rfl w.heap.size 5 i0 Tryd.underlying37 Tryd.underlying9 hi hz0 hz1 hzb _ _ _ rfl HO2.out U (by first | exact congrArg Value.string HUU.out | rfl) (by unfold maxLen; omega) (by omega) hzw2 ?_)
              intro v' w7 hown7 hgrow _
              have HO7 : Hid (w7.ownsRow w.heap.size 5 1 v' (pre ++ ([92, 117] ++ hx r ++ [59])).length (bcl (pre ++ ([92, 117] ++ hx r ++ [59])))) := by
                show w7.ownsRow w.heap.size 5 1 v' (pre ++ ([92, 117] ++ hx r ++ [59])).length (bcl (pre ++ ([92, 117] ++ hx r ++ [59])))
                rw [bcl_app, List.length_append]; rw [HUZ.out, str_cells, HU.out] at hown7; exact hown7
              have HB7 : Hid (Below w.heap.size w w7) := aps_below HBV.out hzw2 HO2.out hgrow
              clear hown7 hgrow HO1 HO2 HO
              go_wp2
              go_roundw
              case rel => exact ⟨t2, pre ++ ([92, 117] ++ hx r ++ [59]), by rw [HT2.out], HO7.out, HB7.out, by rw [List.length_append]; omega, HV.out⟩
              case measure => rw [← HT2.out]; simp [sLn]; omega
            · have c4 : (r : Int) < 32 := by omega
              go_wp2_with fail
              refine hru.mono ?_
              rintro e w1 ⟨rfl, hb⟩
              have HBW : Hid (Below w.heap.size w w1) := HB.out.trans (hb.mono hz)
              have HO1 : Hid (w1.ownsRow w.heap.size 5 1 u3 pre.length (bcl pre)) := HO.out.kept (grn_keep hb) (by cases u3.ownBlock <;> simp)
              have hzw1 : w.heap.size ≤ w1.heap.size := HBW.out.size
              clear hb hru
              go_wp2_with fail
              refine (fmtI r w1 (by omega) (HT.out.2.below HBW.out hTz)).mono ?_
              rintro e w2 ⟨rfl, hb⟩
              have HBV : Hid (Below w.heap.size w w2) := HBW.out.trans (hb.mono hzw1)
              have HO2 : Hid (w2.ownsRow w.heap.size 5 1 u3 pre.length (bcl pre)) := HO1.out.kept (grn_keep hb) (by cases u3.ownBlock <;> simp)
              have hzw2 : w.heap.size ≤ w2.heap.size := HBV.out.size
              clear hb
              go_wp2_with (at_builtin; refine Lib.wpList_append_own_string _ rfl _ _ 37 9 rfl w.heap.size 5 i0 Tryd.underlying37 Tryd.underlying9 hi hz0 hz1 hzb _ _ _ rfl HO2.out U (by first | exact congrArg Value.string HUU.out | rfl) (by unfold maxLen; omega) (by omega) hzw2 ?_)
              intro v' w7 hown7 hgrow _
              have HO7 : Hid (w7.ownsRow w.heap.size 5 1 v' (pre ++ ([92, 117] ++ hx r ++ [59])).length (bcl (pre ++ ([92, 117] ++ hx r ++ [59])))) := by
                show w7.ownsRow w.heap.size 5 1 v' (pre ++ ([92, 117] ++ hx r ++ [59])).length (bcl (pre ++ ([92, 117] ++ hx r ++ [59])))
                rw [bcl_app, List.length_append]; rw [HUZ.out, str_cells, HU.out] at hown7; exact hown7
              have HB7 : Hid (Below w.heap.size w w7) := aps_below HBV.out hzw2 HO2.out hgrow
              clear hown7 hgrow HO1 HO2 HO
              go_wp2
              go_roundw
              case rel => exact ⟨t2, pre ++ ([92, 117] ++ hx r ++ [59]), by rw [HT2.out], HO7.out, HB7.out, by rw [List.length_append]; omega, HV.out⟩
              case measure => rw [← HT2.out]; simp [sLn]; omega
    · have h0z : ¬ (0 : Int) < (t.size : Nat) := by omega
      have ht : t.data.toList = [] := List.eq_nil_of_length_eq_zero (by rw [data_len]; omega)
      have HE : Hid (sh s.data.toList = pre) := by
        have := HR.out
        rw [ht, sh_nil, List.append_nil] at this
        exact this
      have hc := conv_own HO.out
      have hform : (∃ g c, u3 = .slice (some ⟨g, 0, none⟩) pre.length c) ∨ u3 = .slice none 0 0 := by
        rcases HO.out.2 with ⟨h, _⟩ | ⟨g, c, _, h, _⟩
        · exact Or.inr h
        · exact Or.inl ⟨g, c, h⟩
      clear ht HR HO
      rcases hform with ⟨g, c, hv⟩ | hv
      · subst hv
        go_wp2
        go_ret
        exact ⟨by rw [HE.out]; rfl, HB.out⟩
      · subst hv
        go_wp2
        go_ret
        exact ⟨by rw [HE.out]; rfl, HB.out⟩
end Go.Proofs.YtobecfeelamlmaaDoor
