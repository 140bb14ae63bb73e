import Derived.Test.YtpfknjnigcefgaaGreatDoorY10
import Derived.Test.YtpfknjnigcefgaaGreatDoorY20
import Derived.Test.YtpfknjnigcefgaaGreatDoorY13
import Derived.Shelf.SlSortCmp.NoneTotal
import Derived.Test.YtpfknjnigcefgaaGreatDoorY12
import Derived.RegionTactic
import Derived.BigRegion
import Derived.Laws.MakeOwn
/- idx.Build: the walk. -/
namespace Go.Proofs.YtpfknjnigcefgaaGreatDoor
open Go.RowKit
set_option linter.unusedSimpArgs false
set_option linter.unusedVariables false
/-- What Build tells. -/
def BdX (s : ByteArray) (l : List Xe) (R : ByteArray) : Prop := (bE l ≠ 0 → R = ⟨#[]⟩) ∧ (bE l = 0 → ∃ L, L.Perm l ∧ OkL L ∧ R = ⟨(ixB s L).toArray⟩)
theorem ret_seX {a : ByteArray} {e e' : Int} (h : e' = e) : Ending.returned (.tuple #[.string a, .int .i64 e]) = .returned (.tuple #[.string a, .int .i64 e']) := by rw [h]
theorem BdX.no {s : ByteArray} {l : List Xe} (h : bE l ≠ 0) : BdX s l ⟨#[]⟩ := ⟨fun _ => rfl, fun q => absurd q h⟩
set_option maxHeartbeats 16000000 in
set_option maxRecDepth 100000 in
theorem ibuild_any (SN : SNone) (s : ByteArray) (l : List Xe) (a : Option Addr) (n c : Nat) (w : World) (hs : s.size = 32) (hX : XeL w a l) (hl : l.length = n) (hA : a = none ∨ ∃ g o, a = some ⟨g, o, none⟩) (hn : n ≤ 4611686018427387904) :
    Calls Tryz.prog 6 #[.agg (idc s), .slice a n c] w fun e w' => ∃ R, e = .returned (.tuple #[.string R, .int .i64 (bE l)]) ∧ BdX s l R ∧ Below w.heap.size w w' := by
  have HX : Hid (XeL w a l) := hX
  have HL : Hid (l.length = n) := hl
  have HS : Hid (s.size = 32) := hs
  have HAA : Hid (a = none ∨ ∃ g o, a = some ⟨g, o, none⟩) := hA
  have HSN : Hid SNone := SN
  have X0 : Hid (BX w (w.heap.size + 1) s (l.take 0) ((w.alloc (.cells (idc s) 23)).alloc (.map #[] 0))) := by
    refine ⟨?_, ((Below.refl _ _).alloc (Nat.le_refl _) _).alloc (by rw [al_size]; omega) _, (bk_new _ _ _).alloc _, by omega⟩
    have := St.made (fun v => v = .agg #[]) (w.alloc (.cells (idc s) 23))
    rw [al_size] at this
    exact this
  obtain ⟨m, hm⟩ : ∃ m, w.heap.size + 1 = m := ⟨_, rfl⟩
  rw [hm] at X0
  have HI : Hid ((Tryz.prog.info? 23).map (·.size) = some (idc s).size) := info_32 (by rw [idc_size, hs])
  have hmm := @run_makeMap Tryz.prog
  clear hX hl hs hA SN
  go_enter Tryz.func6, Tryz.ntmps6
  go_wp2_with fail
  try rw [hm]
  clear hm hmm
  go_loopw [15] (fun v wr => ∃ k : Nat, v = .int .i64 k ∧ k ≤ n ∧ k ≤ 65536 ∧ Hid (BX w m s (l.take k) wr) ∧ Hid (bE l = xbE (l.take k) (l.drop k) ∧ GdX (l.take k))) (fun v _ => n - (intOf v).toNat)
  case atStart => exact ⟨0, rfl, Nat.zero_le _, Nat.zero_le _, X0.out, rfl, GdX.nil⟩
  case round =>
    obtain ⟨k, rfl, hk, hk6, HR, HE⟩ := hrel
    clear X0
    by_cases hlt : k < n
    · have hkz : (k : Int) < (n : Nat) := by omega
      obtain ⟨e, he⟩ : ∃ e, l[k]? = some e := ⟨l[k]'(by rw [HL.out]; exact hlt), List.getElem?_eq_getElem _⟩
      obtain ⟨ga, oa, rfl, hga, h32, hcells⟩ := (HX.out.below HR.out.bel).get he
      have HT : Hid (l.take (k + 1) = l.take k ++ [e]) := take_snocX he
      have HST : Hid (xbE (l.take k) (l.drop k) = if okX e = false ∨ k = 65536 then 1 else if hasX (l.take k) e.id = true then 7 else xbE (l.take (k + 1)) (l.drop (k + 1))) := xbE_step l k e he
      obtain ⟨X, hXe⟩ : ∃ X, xeC e = X := ⟨_, rfl⟩
      obtain ⟨D, hD⟩ : ∃ D, idc e.id = D := ⟨_, rfl⟩
      have HIX : Hid ((Tryz.prog.info? 34).map (·.size) = some X.toList.length ∧ X.all (·.oneCell') = true ∧ X.size = 35) := by rw [← hXe]; exact ⟨by rw [inf_xe35, Array.length_toList, xeC_size e h32], xeC_all e, xeC_size e h32⟩
      have HXI : Hid (∀ j v, D[j]? = some v → X[0 + j]? = some v) := fun j v hv => by rw [← hXe]; exact xeC_id e h32 j v (by rw [hD]; exact hv)
      have HID : Hid ((Tryz.prog.info? 23).map (·.size) = some D.size) := info_32 (by rw [← hD, idc_size, h32])
      rw [hXe] at hcells
      have HCE : Hid (∀ j v, X[j]? = some v → wr.cell? ⟨ga, oa + k * 35 + j, none⟩ = some v) := hcells
      have B1 : Hid (Bk (wr.alloc (.cells X 34)) wr.heap.size X 34) := bk_new _ _ _
      have R1 : Hid (BX w m s (l.take k) (wr.alloc (.cells X 34))) := HR.out.keep ((Below.refl _ _).alloc (Nat.le_refl _) _)
      have HMB : Hid (∀ W, Calls Tryz.prog 24 #[.agg X] W fun r w' => r = .returned (.bool (okX e)) ∧ Below W.heap.size W w') := fun W => by
        rw [← hXe]
        exact (maybe_any e W h32).mono fun r w' q => ⟨q.1, by rw [q.2]; exact (Below.refl _ _).alloc (Nat.le_refl _) _⟩
      have HLK : Hid (∀ W, BX w m s (l.take k) W → (Instr.lookup 57 (.map (some m)) (.agg D) true).run Tryz.prog W = .ok (.tuple #[.agg #[], .bool (hasX (l.take k) e.id)]) W) := fun W hW => by rw [← hD]; exact hW.look e.id h32
      have HPT : Hid (∀ W, BX w m s (l.take k) W → ∃ w', (Instr.mapUpdate 57 (.map (some m)) (.agg D) (.agg #[])).run Tryz.prog W = .ok () w' ∧ BX w m s (l.take (k + 1)) w') := fun W hW => by
        rw [← hD, HT.out]; exact hW.put (by rw [List.length_take]; omega) e h32
      clear hcells hXe hD he h32
      cases hok : okX e with
      | false =>
        have HE1 : Hid (bE l = 1) := by
          show _ = _
          rw [HE.out.1, HST.out, if_pos (.inl hok)]
        rw [hok] at HMB
        clear HE HST hok
        go_wp2_with (first
          | (go_at_call 24; refine (HMB.out _).mono ?_; rintro r w2 ⟨rfl, hb2⟩)
          | (refine wpList_load_mid rfl 34 (.tmp 18) rfl ga (oa + k * 35) rfl X.toList _ (fun j v hv => HCE.out j v (by rwa [Array.getElem?_toList] at hv)) Tryz.underlying34 rfl HIX.out.1 ?_)
          | (refine wpList_store_new rfl 34 (.tmp 8) (.tmp 19) rfl X _ 34 wr.heap.size rfl rfl rfl (info_xe HIX.out.2.2) (by rw [HIX.out.2.2]; rfl) HIX.out.2.1 ?_)
          | (refine wpList_get rfl 34 (.tmp 8) rfl wr.heap.size 0 X X 34 _ rfl B1.out (fun j v hv => by rw [Nat.zero_add]; exact hv) Tryz.underlying34 rfl (info_xe HIX.out.2.2) ?_)
          | fail)
        go_ret2
        exact ⟨_, ret_seX HE1.out, BdX.no (by rw [HE1.out]; decide), R1.out.bel.trans (hb2.mono R1.out.bel.size)⟩
      | true =>
        rw [hok] at HMB
        by_cases h65 : k = 65536
        · have HE1 : Hid (bE l = 1) := by
            show _ = _
            rw [HE.out.1, HST.out, if_pos (.inr h65)]
          have hz65 : ((k : Int) == 65536) = true := by rw [beq_iff_eq]; omega
          clear HE HST hok h65
          go_wp2_with (first
            | (go_at_call 24; refine (HMB.out _).mono ?_; rintro r w2 ⟨rfl, hb2⟩)
            | (refine wpList_load_mid rfl 34 (.tmp 18) rfl ga (oa + k * 35) rfl X.toList _ (fun j v hv => HCE.out j v (by rwa [Array.getElem?_toList] at hv)) Tryz.underlying34 rfl HIX.out.1 ?_)
            | (refine wpList_store_new rfl 34 (.tmp 8) (.tmp 19) rfl X _ 34 wr.heap.size rfl rfl rfl (info_xe HIX.out.2.2) (by rw [HIX.out.2.2]; rfl) HIX.out.2.1 ?_)
            | (refine wpList_get rfl 34 (.tmp 8) rfl wr.heap.size 0 X X 34 _ rfl B1.out (fun j v hv => by rw [Nat.zero_add]; exact hv) Tryz.underlying34 rfl (info_xe HIX.out.2.2) ?_)
            | fail)
          go_ret2
          exact ⟨_, ret_seX HE1.out, BdX.no (by rw [HE1.out]; decide), R1.out.bel.trans (hb2.mono R1.out.bel.size)⟩
        · have hz65 : ((k : Int) == 65536) = false := by rw [beq_eq_false_iff_ne]; omega
          have HNC : Hid (¬ (okX e = false ∨ k = 65536)) := by
            rintro (q | q)
            · rw [hok] at q; cases q
            · exact h65 q
          clear hok
          cases hh : hasX (l.take k) e.id with
          | true =>
            have HE1 : Hid (bE l = 7) := by
              show _ = _
              rw [HE.out.1, HST.out, if_neg HNC.out, if_pos hh]
            rw [hh] at HLK
            clear HE HST hh HNC
            go_wp2_with (first
              | (go_at_call 24; refine (HMB.out _).mono ?_; rintro r w2 ⟨rfl, hb2⟩; have R2 : Hid (BX w m s (l.take k) w2) := R1.out.keep hb2; have B2 : Hid (Bk w2 wr.heap.size X 34) := B1.out.below hb2 B1.out.lt; have hlook := HLK.out w2 R2.out)
              | (refine wpList_load_mid rfl 34 (.tmp 18) rfl ga (oa + k * 35) rfl X.toList _ (fun j v hv => HCE.out j v (by rwa [Array.getElem?_toList] at hv)) Tryz.underlying34 rfl HIX.out.1 ?_)
              | (refine wpList_store_new rfl 34 (.tmp 8) (.tmp 19) rfl X _ 34 wr.heap.size rfl rfl rfl (info_xe HIX.out.2.2) (by rw [HIX.out.2.2]; rfl) HIX.out.2.1 ?_)
              | (refine wpList_get rfl 34 (.tmp 8) rfl wr.heap.size 0 X X 34 _ rfl B1.out (fun j v hv => by rw [Nat.zero_add]; exact hv) Tryz.underlying34 rfl (info_xe HIX.out.2.2) ?_)
              | (refine wpList_get rfl 23 (.tmp 29) rfl wr.heap.size 0 X D 34 _ rfl B2.out HXI.out Tryz.underlying23 rfl HID.out ?_)
              | fail)
            go_ret2
            exact ⟨_, ret_seX HE1.out, BdX.no (by rw [HE1.out]; decide), R2.out.bel.alloc R2.out.bel.size _⟩
          | false =>
            have HE1 : Hid (bE l = xbE (l.take (k + 1)) (l.drop (k + 1)) ∧ GdX (l.take (k + 1))) := by
              refine ⟨?_, ?_⟩
              · rw [HE.out.1, HST.out, if_neg HNC.out, if_neg (by rw [hh]; simp)]
              · rw [HT.out]
                refine HE.out.2.snoc ?_ hh
                rw [List.length_take, Nat.min_eq_left (by rw [HL.out]; omega)]
                exact HNC.out
            rw [hh] at HLK
            clear HE HST hh HNC
            go_wp2_with (first
              | (go_at_call 24; refine (HMB.out _).mono ?_; rintro r w2 ⟨rfl, hb2⟩; have R2 : Hid (BX w m s (l.take k) w2) := R1.out.keep hb2; have B2 : Hid (Bk w2 wr.heap.size X 34) := B1.out.below hb2 B1.out.lt; have hlook := HLK.out w2 R2.out; have B3 : Hid (Bk (w2.alloc (.cells #[] 59)) wr.heap.size X 34) := B2.out.alloc _; obtain ⟨w8, hput, hR8⟩ := HPT.out (w2.alloc (.cells #[] 59)) (R2.out.keep ((Below.refl _ _).alloc (Nat.le_refl _) _)); have R8 : Hid (BX w m s (l.take (k + 1)) w8) := hR8; clear hR8)
              | (refine wpList_load_mid rfl 34 (.tmp 18) rfl ga (oa + k * 35) rfl X.toList _ (fun j v hv => HCE.out j v (by rwa [Array.getElem?_toList] at hv)) Tryz.underlying34 rfl HIX.out.1 ?_)
              | (refine wpList_store_new rfl 34 (.tmp 8) (.tmp 19) rfl X _ 34 wr.heap.size rfl rfl rfl (info_xe HIX.out.2.2) (by rw [HIX.out.2.2]; rfl) HIX.out.2.1 ?_)
              | (refine wpList_get rfl 34 (.tmp 8) rfl wr.heap.size 0 X X 34 _ rfl B1.out (fun j v hv => by rw [Nat.zero_add]; exact hv) Tryz.underlying34 rfl (info_xe HIX.out.2.2) ?_)
              | (refine wpList_get rfl 23 (.tmp 29) rfl wr.heap.size 0 X D 34 _ rfl B2.out HXI.out Tryz.underlying23 rfl HID.out ?_)
              | (refine wpList_get rfl 23 (.tmp 36) rfl wr.heap.size 0 X D 34 _ rfl B3.out HXI.out Tryz.underlying23 rfl HID.out ?_)
              | fail)
            clear hput hlook
            go_wp2
            go_roundw
            case rel => exact ⟨k + 1, by go_num, by omega, by omega, R8.out, HE1.out.1, HE1.out.2⟩
            case measure => simp [intOf]; omega
    · have hkz : ¬ (k : Int) < (n : Nat) := by omega
      obtain rfl : k = n := by omega
      have hxs : l.take k = l := List.take_of_length_le (by rw [HL.out]; omega)
      have hxd : l.drop k = [] := List.drop_eq_nil_of_le (by rw [HL.out]; omega)
      rw [hxs] at HR
      rw [hxs, hxd] at HE
      have HZ : Hid (bE l = 0 ∧ GdX l) := ⟨HE.out.1, HE.out.2⟩
      clear hxs hxd HE
      go_wp2_with fail
      refine (clone_any a k c l wr (HX.out.below HR.out.bel) HL.out HAA.out (by omega)).mono ?_
      rintro e w1 ⟨v, rfl, ho, hb1⟩
      have R1 : Hid (BX w m s l w1) := HR.out.keep hb1
      have hids : ∀ e ∈ l, e.id.size = 32 := HX.out.ids
      have hzz : w.heap.size < wr.heap.size := HR.out.bx.lt
      have HSO : Hid (Calls Tryz.prog 26 #[v, .func (.func 27) #[] #[]] w1 fun e w' => e = .returned (.tuple #[]) ∧ ∃ L a' c', L.Perm l ∧ OkL L ∧ v = .slice a' k c' ∧ XeL w' a' L ∧ k ≤ c' ∧ AdS a' ∧ Bk w' w.heap.size (idc s) 23 ∧ Below w.heap.size w w') := by
        rcases ho.2 with ⟨h1, h0⟩ | ⟨g, cap, cur, h1, hle, hg, hnc, _⟩
        · subst h1
          have hl0 : l = [] := List.length_eq_zero_iff.1 (by rw [HL.out]; exact h0)
          refine (HSN.out none 0 _ w1).mono ?_
          rintro e w' ⟨rfl, rfl⟩
          refine ⟨rfl, [], none, 0, by rw [hl0], ⟨fun e h => (by cases h), fun e h => (by cases h), List.Pairwise.nil, by simp⟩, by rw [h0], (fun i e h => by cases h), by omega, .inl rfl, R1.out.bx, R1.out.bel⟩
        · subst h1
          refine (sort_any wr.heap.size g k cap l w1 ho HL.out hids (by omega) hb1.size).mono ?_
          rintro e w' ⟨rfl, L, hp, hpw, ho', hb'⟩
          obtain ⟨a', c', hv, hXL, hkc, hAd⟩ := own_xel ho' (by rw [hp.length_eq]; exact HL.out) (fun e he => hids e (hp.mem_iff.1 he))
          refine ⟨rfl, L, a', c', hp, HZ.out.2.okl hp hids (rise_of hpw (HZ.out.2.ap.perm hp.symm)), hv, hXL, hkc, (by rcases hAd with ⟨q, _⟩ | ⟨q, q2, _⟩; exact .inl q; exact .inr ⟨q, 0, q2⟩), ?_, R1.out.bel.trans (hb'.mono (Nat.le_of_lt hzz))⟩
          unfold Bk
          rw [hb'.block w.heap.size hzz]
          exact R1.out.bx
      obtain ⟨va, vc, hvv⟩ : ∃ va vc, v = .slice va k vc := by
        rcases ho.2 with ⟨h1, h0⟩ | ⟨g, cap, cur, h1, _⟩
        · exact ⟨none, 0, by rw [h1, h0]⟩
        · exact ⟨_, _, h1⟩
      subst hvv
      clear ho hb1 R1 HR hids
      go_wp2_with fail
      refine HSO.out.mono ?_
      rintro e w2 ⟨rfl, L, a', c', hp, hOL, hv, hXL, hkc, hAd, hbx, hbel⟩
      injection hv with hva _ hvc
      subst hva
      subst hvc
      have HPL : Hid (L.Perm l ∧ OkL L) := ⟨hp, hOL⟩
      have HBX : Hid (Bk w2 w.heap.size (idc s) 23) := hbx
      have HBL : Hid (Below w.heap.size w w2) := hbel
      have HIO : Hid (Calls Tryz.prog 28 #[.agg (idc s), .slice va k vc] w2 fun e w' => ∃ g, e = .returned (.pointer (some ⟨g, 0, none⟩)) ∧ IxS w' g s L ∧ Below w.heap.size w w') := (indexOf_any s L va k vc w2 HS.out hXL (by rw [hp.length_eq]; exact HL.out) hkc hAd (by omega)).mono fun e w' ⟨g, h1, h2, h3, h4⟩ => ⟨g, h1, h3, hbel.trans (h4.mono hbel.size)⟩
      clear hp hOL hXL hkc hAd hbx hbel HSO
      go_wp2_with (first
        | (go_at_call 28; refine HIO.out.mono ?_; rintro e w3 ⟨gI, rfl, hI, hb3⟩; have HIX : Hid (IxS w3 gI s L ∧ Below w.heap.size w w3) := ⟨hI, hb3⟩; clear hI hb3)
        | (go_at_call 29; refine (bytes_any gI s L _ HIX.out.1 HPL.out.2.ok HPL.out.2.len).mono ?_; rintro e w4 ⟨rfl, hb4⟩)
        | (refine wpList_get rfl 23 (.tmp 2) rfl w.heap.size 0 (idc s) (idc s) 23 _ rfl HBX.out (fun j v hv => by rw [Nat.zero_add]; exact hv) Tryz.underlying23 rfl HI.out ?_)
        | fail)
      go_ret2
      exact ⟨_, ret_seX HZ.out.1, ⟨fun q => absurd HZ.out.1 q, fun _ => ⟨L, HPL.out.1, HPL.out.2, rfl⟩⟩, HIX.out.2.trans (hb4.mono HIX.out.2.size)⟩
end Go.Proofs.YtpfknjnigcefgaaGreatDoor
/- Sorting nothing does nothing. -/
namespace Go.Proofs.YtpfknjnigcefgaaGreatDoor
open Go.RowKit Go.Sort
set_option linter.unusedSimpArgs false
set_option linter.unusedVariables false
theorem sort_none : SNone := fun p cap fv w => AnyF.slices_SortFunc_none laysF6 p cap fv w
end Go.Proofs.YtpfknjnigcefgaaGreatDoor
/- idx.take. -/
namespace Go.Proofs.YtpfknjnigcefgaaGreatDoor
open Go.RowKit
set_option linter.unusedSimpArgs false
set_option linter.unusedVariables false
/-- A row that is being filled. -/
structure TkR (w : World) (s : ByteArray) (b g m : Nat) (t : ByteArray) (l : List Xe) (wr : World) : Prop where
  rc : wr.cell? ⟨b, 0, none⟩ = some (.string t)
  rf : wr.frozen? ⟨b, 0, none⟩ = false
  rl : b < wr.heap.size
  row : ∃ C, Bk wr g C 34 ∧ C.size = m * 35 ∧ ∀ i e, l[i]? = some e → ∀ j, j < 35 → C[i * 35 + j]? = (xeC e)[j]?
  bel : Below w.heap.size w wr
  hb : w.heap.size < b
  hg : b < g
  zb : Bk wr w.heap.size (idc s) 23
theorem TkR.step {w wr w' : World} {s t t' : ByteArray} {b g m : Nat} {l : List Xe} (h : TkR w s b g m t l wr) (hs : Step b wr w' t') : TkR w s b g m t' l w' := by
  have h1 := h.hb
  have h2 := h.hg
  obtain ⟨C, c1, c2⟩ := h.row
  refine ⟨hs.cell, hs.frozen, Nat.lt_of_lt_of_le h.rl hs.size, ⟨C, ?_, c2⟩, h.bel.trans (hs.below (by omega) h.bel.size), h.hb, h.hg, ?_⟩
  · unfold Bk; rw [hs.block _ c1.lt (by omega)]; exact c1
  · unfold Bk; rw [hs.block _ h.zb.lt (by omega)]; exact h.zb
theorem TkR.put {w wr w' : World} {s t : ByteArray} {b g m : Nat} {l : List Xe} {C' : Array Value} {e : Xe} (h : TkR w s b g m t l wr) (hg : wr.grownBy w' (some g)) (hC : Bk w' g C' 34) (hz : C'.size = m * 35) (hn : ∀ i e', (l ++ [e])[i]? = some e' → ∀ j, j < 35 → C'[i * 35 + j]? = (xeC e')[j]?) : TkR w s b g m t (l ++ [e]) w' := by
  have h1 := h.hb
  have h2 := h.hg
  have q := cell_blkX (j := 0) (hg.block b h.rl (fun e => by injection e with e; omega))
  refine ⟨by rw [q.1]; exact h.rc, by rw [q.2]; exact h.rf, Nat.lt_of_lt_of_le h.rl hg.size, ⟨C', hC, hz, hn⟩, below_own h.bel h.bel.size hg (by omega), h.hb, h.hg, ?_⟩
  unfold Bk; rw [hg.block _ h.zb.lt (fun e => by injection e with e; omega)]; exact h.zb
theorem take_snocXt {l : List Xe} {k : Nat} {e : Xe} (h : l[k]? = some e) : l.take (k + 1) = l.take k ++ [e] := by
  rw [List.take_add_one, h]; rfl
theorem inf_xe3 : (Tryz.prog.info? 34).map (fun i => (i.zero, i.size, i.bytes)) = some (some (.agg z35X), 35, 56) := inf_xe
theorem make_xe (n : Nat) (hn : n ≤ 65536) (u : World) : (Instr.makeSlice 25 (.int .i64 (n : Int)) (.int .i64 (n : Int))).run Tryz.prog u = .ok (.slice (some ⟨u.heap.size, 0, none⟩) n n) (u.alloc (.cells (madeCells (Value.agg z35X).cells (n * 35)) 34)) := by
  obtain ⟨i0, hi, hz0, hz1, hz2⟩ := info_parts inf_xe
  have h := run_makeSlice u 25 34 i0 (.agg z35X) Tryz.underlying25 hi hz0 .i64 .i64 (n : Int) (n : Int) (by omega) (Int.le_refl _) (by rw [hz1]; omega) (by rw [hz2]; omega) (by omega)
  rw [hz1, Int.toNat_natCast] at h
  exact h
set_option maxHeartbeats 4000000 in
set_option maxRecDepth 100000 in
theorem itake_any (S : ByteArray) (w : World) (h1 : 1064 ≤ S.size) (h2 : S.size ≤ 2688040) :
    Calls Tryz.prog 37 #[.string S] w fun e w' => ∃ g n, e = .returned (.tuple #[.agg (idc (rdS (bl S))), .slice (some ⟨g, 0, none⟩) n n]) ∧ n = (S.size - 1064) / 41 ∧ XeL w' (some ⟨g, 0, none⟩) (rdA (bl S)) ∧ Below w.heap.size w w' := by
  obtain ⟨s, hs⟩ : ∃ s, rdS (bl S) = s := ⟨_, rfl⟩
  have hss : s.size = 32 := by
    rw [← hs, ← bl_length]
    show (((bl S).drop 4).take 32).length = 32
    rw [List.length_take, List.length_drop, bl_length]; omega
  obtain ⟨x, hx⟩ : ∃ x, S.extract 4 S.size = x := ⟨_, rfl⟩
  have hxs : x.size = S.size - 4 := by rw [← hx]; exact ex_size S 4
  have hxb : (byl x).take 32 = byl s := by
    rw [← hs, ← hx]
    show List.take 32 ((bl (S.extract 4 S.size)).map UInt8.toNat) = ((((bl S).drop 4).take 32).map UInt8.toNat)
    rw [bl_ex, List.map_take]
  have hsl := slice32 w.heap.size
  have hcp : ∀ W, Bk W w.heap.size z32c 23 → ∀ ty, (Builtin.copy_ #[82, 9] ty #[.slice (some ⟨w.heap.size, 0, none⟩) 32 32, .string x]).run Tryz.prog W = .ok (goInt 32) (W.setCells w.heap.size 0 (bvc (byl s))) := fun W hW ty => by
    have hi : (Tryz.prog.info? 5).map (·.size) = some 1 := by kernel_rfl
    have hm : Nat.min x.size 32 = 32 := by rw [hxs]; exact Nat.min_eq_right (by omega)
    have q := copy_str W 82 9 ty 5 w.heap.size 0 32 32 x Tryz.underlying82 hi (fun j hj => by
      rw [hm] at hj
      rw [hW.cell, Nat.zero_add, Array.getElem?_eq_getElem (by rw [z32c_size]; omega)]; rfl) (fun j _ => hW.frozen _)
    rw [hm, hxb] at q
    exact q
  have hz := zero_id
  have c1 := hcp (w.alloc (.cells z32c 23)) (bk_new _ _ _)
  have c2 := hcp (w.alloc (.cells z32c 23)).drew (bk_new _ _ _)
  have h4 : (4 : Int) ≤ S.size := by omega
  clear hcp hxb
  obtain ⟨T, hT⟩ : ∃ T, S.extract 1064 S.size = T := ⟨_, rfl⟩
  have hTs : T.size = S.size - 1064 := by rw [← hT]; exact ex_size S 1064
  have hTb : bl T = (bl S).drop 1064 := by rw [← hT]; exact bl_ex S 1064
  obtain ⟨n, hn⟩ : ∃ n, (S.size - 1064) / 41 = n := ⟨_, rfl⟩
  have hn6 : n ≤ 65536 := by omega
  have HN : Hid (41 * n ≤ T.size) := by show 41 * n ≤ T.size; omega
  have hmk := make_xe n hn6
  have hdv : (T.size : Int) / 41 = (n : Int) := by omega
  have h5 : (1064 : Int) ≤ S.size := by omega
  have hTm : T.size ≤ maxLen := by unfold maxLen; omega
  have hTq : T.size ≤ 2688040 := by omega
  obtain ⟨L, hL⟩ : ∃ L, rdA (bl S) = L := ⟨_, rfl⟩
  have hLl : L.length = n := by rw [← hL, rdA, rdL_len, bl_length, hn]
  have HLg : Hid (∀ k, k < n → L[k]? = some (rdXe ((bl T).drop (41 * k)))) := fun k hk => by
    rw [← hL, rdA, bl_length, hn, rdL_get _ _ _ hk, hTb]
  have HI : Hid ((Tryz.prog.info? 23).map (·.size) = some (idc s).size ∧ (idc s).all (·.oneCell') = true ∧ (idc s).size = 32 ∧ L.length = n) := ⟨info_32 (by rw [idc_size, hss]), idc_allX s, by rw [idc_size, hss], hLl⟩
  rw [hs, hL, hn]
  clear hTb hn hL hLl hs hTs
  go_enter Tryz.func37, Tryz.ntmps37
  go_wp2_with fail
  go_region
  have hput : putA z32c 0 (bvc (byl s)) = idc s := by
    have hle : 0 + (bvc (byl s)).length ≤ z32c.size := by rw [z32c_size]; simp [bvc, byl_length, hss]
    apply Array.ext_getElem?
    intro j
    rw [putA_get _ _ _ _ hle]
    by_cases hj : j < 32
    · rw [if_pos (by simp [bvc, byl_length, hss]; omega), idc, List.getElem?_toArray, Nat.sub_zero]
    · rw [if_neg (by simp [bvc, byl_length, hss]; omega), Array.getElem?_eq_none (by rw [z32c_size]; omega), Array.getElem?_eq_none (by rw [idc_size, hss]; omega)]
  have hB0 : Bk ((w.alloc (.cells z32c 23)).drew.setCells w.heap.size 0 (bvc (byl s))) w.heap.size (idc s) 23 := by
    rw [← hput]
    exact Blk.puts _ _ _ _ (bk_new _ _ _)
  have hbel : Below w.heap.size w ((w.alloc (.cells z32c 23)).drew.setCells w.heap.size 0 (bvc (byl s))) := below_own (((Below.refl _ _).alloc (Nat.le_refl _) _).drew) (by show w.heap.size ≤ (w.alloc _).heap.size; rw [al_size]; omega) (grown_puts _ _ _ (World.grownBy.refl _ _)) (Nat.le_refl _)
  obtain ⟨W1, hW1⟩ : ∃ W1, (w.alloc (.cells z32c 23)).drew.setCells w.heap.size 0 (bvc (byl s)) = W1 := ⟨_, rfl⟩
  rw [hW1] at hB0 hbel ⊢
  have H1 : Hid (Bk W1 w.heap.size (idc s) 23 ∧ Below w.heap.size w W1) := ⟨hB0, hbel⟩
  clear c1 c2 hz hsl hW1 hB0 hbel hput hx hxs hss h4
  go_wp2_with fail
  refine (new_any T W1).mono ?_
  rintro e w2 ⟨rfl, rfl⟩
  have H2 : Hid (Bk (W1.alloc (.cells #[.string T] 167)) W1.heap.size #[.string T] 167) := bk_new _ _ _
  have hcell : (W1.alloc (.cells #[.string T] 167)).cell? ⟨W1.heap.size, 0, none⟩ = some (.string T) := by rw [H2.out.cell]; rfl
  go_wp2_with fail
  refine (left_any T W1.heap.size _ hTm hcell).mono ?_
  rintro e w3 ⟨rfl, hw3⟩
  obtain rfl := hw3.symm
  have hsz : w.heap.size < W1.heap.size := H1.out.1.lt
  have T0 : Hid (TkR w s W1.heap.size (W1.heap.size + 1) n T (L.take 0) ((W1.alloc (.cells #[.string T] 167)).alloc (.cells (madeCells (Value.agg z35X).cells (n * 35)) 34))) := by
    have q := bk_new (W1.alloc (.cells #[.string T] 167)) (madeCells (Value.agg z35X).cells (n * 35)) 34
    rw [al_size] at q
    refine ⟨?_, (H2.out.alloc _).frozen _, (H2.out.alloc _).lt, ⟨_, q, by simp [madeCells], fun i e he => by simp at he⟩, (H1.out.2.alloc H1.out.2.size _).alloc (by rw [al_size]; have := H1.out.2.size; omega) _, hsz, by omega, (H1.out.1.alloc _).alloc _⟩
    rw [(H2.out.alloc _).cell]; rfl
  clear hcell H2 H1 hT h5
  obtain ⟨b, hb⟩ : ∃ b, W1.heap.size = b := ⟨_, rfl⟩
  go_wp2_with fail
  clear hdv hmk
  go_loopw [19] (fun v wr => ∃ (k : Nat) (t : ByteArray), v = .int .i64 k ∧ k ≤ n ∧ Hid (TkR w s b (b + 1) n t (L.take k) wr) ∧ Hid (bl t = (bl T).drop (41 * k))) (fun v _ => n - (intOf v).toNat)
  case atStart =>
    rw [hb] at T0
    exact ⟨0, T, rfl, Nat.zero_le _, T0.out, rfl⟩
  case round =>
    obtain ⟨k, t, rfl, hk, HR, HT⟩ := hrel
    clear T0
    by_cases hlt : k < n
    · have hkz : (k : Int) < (n : Nat) := by omega
      have ht : t.size = T.size - 41 * k := by
        have := congrArg List.length HT.out
        rw [List.length_drop, bl_length, bl_length] at this
        exact this
      have h41 := HN.out
      have HE : Hid (L[k]? = some (rdXe (bl t))) := by rw [HT.out]; exact HLg.out k hlt
      have hid : (rdXe (bl t)).id.size = 32 := by
        show (⟨((bl t).take 32).toArray⟩ : ByteArray).size = 32
        rw [← bl_length]
        show ((bl t).take 32).length = 32
        rw [List.length_take, bl_length]; omega
      have HCA : Hid (Calls Tryz.prog 82 #[.pointer (some ⟨b, 0, none⟩)] wr fun e w' => e = .returned (.agg (xeC (rdXe (bl t)))) ∧ Step b wr w' (t.extract 41 t.size)) := takeEntry_any t b wr HR.out.rc HR.out.rf HR.out.rl (by omega) (by omega)
      obtain ⟨E, hE⟩ : ∃ E, rdXe (bl t) = E := ⟨_, rfl⟩
      rw [hE] at HE hid HCA
      obtain ⟨X, hX⟩ : ∃ X, xeC E = X := ⟨_, rfl⟩
      rw [hX] at HCA
      have HIX : Hid ((Tryz.prog.info? 34).map (·.size) = some X.size ∧ X.all (·.oneCell') = true ∧ X.size = 35) := by rw [← hX]; exact ⟨info_xe (xeC_size _ hid), xeC_all _, xeC_size _ hid⟩
      have HXE : Hid (xeC E = X) := hX
      have HT2 : Hid (bl (t.extract 41 t.size) = (bl T).drop (41 * (k + 1))) := by
        show _ = _
        rw [bl_ex, HT.out, List.drop_drop]; congr 1
      clear hE hX hid ht h41
      go_wp2_with fail
      refine HCA.out.mono ?_
      rintro e w4 ⟨rfl, hst⟩
      have HR2 : Hid (TkR w s b (b + 1) n (t.extract 41 t.size) (L.take k) w4) := HR.out.step hst
      obtain ⟨C, hC1, hC2, hC3⟩ := HR2.out.row
      have HC : Hid (Bk w4 (b + 1) C 34 ∧ C.size = n * 35 ∧ ∀ i e, (L.take k)[i]? = some e → ∀ j, j < 35 → C[i * 35 + j]? = (xeC e)[j]?) := ⟨hC1, hC2, hC3⟩
      have hle : k * 35 + X.size ≤ C.size := by rw [HIX.out.2.2, hC2]; omega
      clear HR hst HCA hC1 hC2 hC3
      go_wp2_with (first
        | (refine wpList_put rfl 34 (.tmp 26) (.tmp 25) rfl (b + 1) (k * 35) C X 34 rfl rfl HC.out.1 HIX.out.1 hle HIX.out.2.1 ?_; intro w5 HB5 HG5 hz5)
        | fail)
      have hk35 : k * 35 + X.toList.length ≤ C.size := by rw [Array.length_toList]; exact hle
      have HR5 : Hid (TkR w s b (b + 1) n (t.extract 41 t.size) (L.take (k + 1)) w5) := by
        have e1 : L.take (k + 1) = L.take k ++ [E] := take_snocXt HE.out
        rw [e1]
        refine HR2.out.put HG5.out HB5.out (by rw [putC_size]; exact HC.out.2.1) (fun i e' he' j hj => ?_)
        rw [putC_get _ _ _ _ hk35, Array.length_toList, HIX.out.2.2]
        have hlk : (L.take k).length = k := by rw [List.length_take, HI.out.2.2.2]; omega
        by_cases hi : i < k
        · rw [List.getElem?_append_left (by rw [hlk]; exact hi)] at he'
          rw [if_neg (by omega)]
          exact HC.out.2.2 i e' he' j hj
        · have hi2 : i = k := by
            have := (List.getElem?_eq_some_iff.1 he').1
            rw [List.length_append, hlk, List.length_singleton] at this
            omega
          subst hi2
          rw [List.getElem?_append_right (by omega), hlk, Nat.sub_self, List.getElem?_cons_zero] at he'
          injection he' with he'
          subst he'
          rw [if_pos ⟨by omega, by omega⟩, Array.getElem?_toList, HXE.out, show i * 35 + j - i * 35 = j by omega]
      clear HR2 HB5 HG5 hz5 HC hk35 hle
      go_wp2
      go_roundw
      case rel => exact ⟨k + 1, _, by go_num, by omega, HR5.out, HT2.out⟩
      case measure => simp [intOf]; omega
    · have hkz : ¬ (k : Int) < (n : Nat) := by omega
      obtain rfl : k = n := by omega
      have HR9 : Hid (TkR w s b (b + 1) k t L wr) := by
        have := HR.out
        rw [List.take_of_length_le (by rw [HI.out.2.2.2]; omega)] at this
        exact this
      clear HR
      have HZ : Hid (Bk wr w.heap.size (idc s) 23) := HR9.out.zb
      have HI2 : Hid (L.length = k ∧ ∀ e ∈ L, e.id.size = 32) := ⟨HI.out.2.2.2, fun e he => by
        obtain ⟨i, hi⟩ := List.mem_iff_getElem?.1 he
        have hik : i < k := by rw [← HI.out.2.2.2]; exact (List.getElem?_eq_some_iff.1 hi).1
        rw [HLg.out i hik] at hi
        injection hi with hi
        rw [← hi]
        show (⟨(((bl T).drop (41 * i)).take 32).toArray⟩ : ByteArray).size = 32
        rw [← bl_length]
        show (((bl T).drop (41 * i)).take 32).length = 32
        have := HN.out
        rw [List.length_take, List.length_drop, bl_length]; omega⟩
      go_wp2_with (first
        | (refine wpList_get rfl 23 (.tmp 2) rfl w.heap.size 0 (idc s) (idc s) 23 _ rfl HZ.out (fun j v hv => by rw [Nat.zero_add]; exact hv) Tryz.underlying23 rfl HI.out.1 ?_)
        | (refine wpList_stoX rfl 23 (.tmp 2) (.tmp 28) rfl w.heap.size (idc s) (idc s) 23 rfl rfl HZ.out HI.out.1 rfl HI.out.2.1 ?_; intro w7 HB7 HG7)
        | fail)
      refine bodyPost_ret (results_cell_tmp_row rfl _ _ w.heap.size 23 (idc s) (0, 0) _ rfl HB7.out Tryz.underlying23 rfl HI.out.1) rfl ⟨b + 1, k, rfl, rfl, ?_, ?_⟩
      · intro i e he
        have h6 := HR9.out
        obtain ⟨C, c1, c2, c3⟩ := h6.row
        have hgg := h6.hg
        have hbb := h6.hb
        have hc7 : Bk w7 (b + 1) C 34 := by
          unfold Bk
          rw [HG7.out.block (b + 1) c1.lt (fun e => by injection e with e; omega)]
          exact c1
        have hid : e.id.size = 32 := HI2.out.2 e (List.mem_of_getElem? he)
        refine ⟨hid, b + 1, 0, rfl, hc7.lt, fun j v hv => ?_⟩
        have hj : j < 35 := by
          have := (Array.getElem?_eq_some_iff.1 hv).1
          rw [xeC_size e hid] at this; exact this
        rw [hc7.cell, Nat.zero_add, c3 i e he j hj, hv]
      · exact below_own HR9.out.bel HR9.out.bel.size HG7.out (Nat.le_refl _)
end Go.Proofs.YtpfknjnigcefgaaGreatDoor
