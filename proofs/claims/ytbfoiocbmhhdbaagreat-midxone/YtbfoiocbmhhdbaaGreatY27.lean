import Derived.Test.YtbfoiocbmhhdbaaGreatY16
import Derived.Test.YtbfoiocbmhhdbaaGreatY15
import Derived.Test.YtbfoiocbmhhdbaaGreatY11
import Derived.Test.YtbfoiocbmhhdbaaGreatY21
import Derived.Deep.Upon
import Derived.ArgAppend
import Derived.Test.YtbfoiocbmhhdbaaGreatY26
import Derived.Test.YtbfoiocbmhhdbaaGreatY22
/- idx.Build: the walk. -/
namespace Go.Proofs.YtbfoiocbmhhdbaaGreat
open Go.RowKit
set_option linter.unusedSimpArgs false
set_option linter.unusedVariables false
/-- What Build tells. -/
def BdX (s : ByteArray) (l : List Xe) (R : ByteArray) : Prop := (bE l ≠ 0 → R = ⟨#[]⟩) ∧ (bE l = 0 → ∃ L, L.Perm l ∧ OkL L ∧ R = ⟨(ixB s L).toArray⟩)
theorem ret_seX {a : ByteArray} {e e' : Int} (h : e' = e) : Ending.returned (.tuple #[.string a, .int .i64 e]) = .returned (.tuple #[.string a, .int .i64 e']) := by rw [h]
theorem BdX.no {s : ByteArray} {l : List Xe} (h : bE l ≠ 0) : BdX s l ⟨#[]⟩ := ⟨fun _ => rfl, fun q => absurd q h⟩
set_option maxHeartbeats 16000000 in
set_option maxRecDepth 100000 in
theorem ibuild_any (SN : SNone) (s : ByteArray) (l : List Xe) (a : Option Addr) (n c : Nat) (w : World) (hs : s.size = 32) (hX : XeL w a l) (hl : l.length = n) (hA : a = none ∨ ∃ g o, a = some ⟨g, o, none⟩) (hn : n ≤ 4611686018427387904) :
    Calls Tryz.prog 25 #[.agg (idc s), .slice a n c] w fun e w' => ∃ R, e = .returned (.tuple #[.string R, .int .i64 (bE l)]) ∧ BdX s l R ∧ Below w.heap.size w w' := by
  have HX : Hid (XeL w a l) := hX
  have HL : Hid (l.length = n) := hl
  have HS : Hid (s.size = 32) := hs
  have HAA : Hid (a = none ∨ ∃ g o, a = some ⟨g, o, none⟩) := hA
  have HSN : Hid SNone := SN
  have X0 : Hid (BX w (w.heap.size + 1) s (l.take 0) ((w.alloc (.cells (idc s) 48)).alloc (.map #[] 0))) := by
    refine ⟨?_, ((Below.refl _ _).alloc (Nat.le_refl _) _).alloc (by rw [al_size]; omega) _, (bk_new _ _ _).alloc _, by omega⟩
    have := St.made (fun v => v = .agg #[]) (w.alloc (.cells (idc s) 48))
    rw [al_size] at this
    exact this
  obtain ⟨m, hm⟩ : ∃ m, w.heap.size + 1 = m := ⟨_, rfl⟩
  rw [hm] at X0
  have HI : Hid ((Tryz.prog.info? 48).map (·.size) = some (idc s).size) := info_32 (by rw [idc_size, hs])
  have hmm := @run_makeMap Tryz.prog
  clear hX hl hs hA SN
  go_enter Tryz.func25, Tryz.ntmps25
  go_wp2_with fail
  try rw [hm]
  clear hm hmm
  go_loopw [15] (fun v wr => ∃ k : Nat, v = .int .i64 k ∧ k ≤ n ∧ k ≤ 65536 ∧ Hid (BX w m s (l.take k) wr) ∧ Hid (bE l = xbE (l.take k) (l.drop k) ∧ GdX (l.take k))) (fun v _ => n - (intOf v).toNat)
  case atStart => exact ⟨0, rfl, Nat.zero_le _, Nat.zero_le _, X0.out, rfl, GdX.nil⟩
  case round =>
    obtain ⟨k, rfl, hk, hk6, HR, HE⟩ := hrel
    clear X0
    by_cases hlt : k < n
    · have hkz : (k : Int) < (n : Nat) := by omega
      obtain ⟨e, he⟩ : ∃ e, l[k]? = some e := ⟨l[k]'(by rw [HL.out]; exact hlt), List.getElem?_eq_getElem _⟩
      obtain ⟨ga, oa, rfl, hga, h32, hcells⟩ := (HX.out.below HR.out.bel).get he
      have HT : Hid (l.take (k + 1) = l.take k ++ [e]) := take_snocX he
      have HST : Hid (xbE (l.take k) (l.drop k) = if okX e = false ∨ k = 65536 then 1 else if hasX (l.take k) e.id = true then 7 else xbE (l.take (k + 1)) (l.drop (k + 1))) := xbE_step l k e he
      obtain ⟨X, hXe⟩ : ∃ X, xeC e = X := ⟨_, rfl⟩
      obtain ⟨D, hD⟩ : ∃ D, idc e.id = D := ⟨_, rfl⟩
      have HIX : Hid ((Tryz.prog.info? 50).map (·.size) = some X.toList.length ∧ X.all (·.oneCell') = true ∧ X.size = 35) := by rw [← hXe]; exact ⟨by rw [inf_xe35, Array.length_toList, xeC_size e h32], xeC_all e, xeC_size e h32⟩
      have HXI : Hid (∀ j v, D[j]? = some v → X[0 + j]? = some v) := fun j v hv => by rw [← hXe]; exact xeC_id e h32 j v (by rw [hD]; exact hv)
      have HID : Hid ((Tryz.prog.info? 48).map (·.size) = some D.size) := info_32 (by rw [← hD, idc_size, h32])
      rw [hXe] at hcells
      have HCE : Hid (∀ j v, X[j]? = some v → wr.cell? ⟨ga, oa + k * 35 + j, none⟩ = some v) := hcells
      have B1 : Hid (Bk (wr.alloc (.cells X 50)) wr.heap.size X 50) := bk_new _ _ _
      have R1 : Hid (BX w m s (l.take k) (wr.alloc (.cells X 50))) := HR.out.keep ((Below.refl _ _).alloc (Nat.le_refl _) _)
      have HMB : Hid (∀ W, Calls Tryz.prog 51 #[.agg X] W fun r w' => r = .returned (.bool (okX e)) ∧ Below W.heap.size W w') := fun W => by
        rw [← hXe]
        exact (maybe_any e W h32).mono fun r w' q => ⟨q.1, by rw [q.2]; exact (Below.refl _ _).alloc (Nat.le_refl _) _⟩
      have HLK : Hid (∀ W, BX w m s (l.take k) W → (Instr.lookup 74 (.map (some m)) (.agg D) true).run Tryz.prog W = .ok (.tuple #[.agg #[], .bool (hasX (l.take k) e.id)]) W) := fun W hW => by rw [← hD]; exact hW.look e.id h32
      have HPT : Hid (∀ W, BX w m s (l.take k) W → ∃ w', (Instr.mapUpdate 74 (.map (some m)) (.agg D) (.agg #[])).run Tryz.prog W = .ok () w' ∧ BX w m s (l.take (k + 1)) w') := fun W hW => by
        rw [← hD, HT.out]; exact hW.put (by rw [List.length_take]; omega) e h32
      clear hcells hXe hD he h32
      cases hok : okX e with
      | false =>
        have HE1 : Hid (bE l = 1) := by
          show _ = _
          rw [HE.out.1, HST.out, if_pos (.inl hok)]
        rw [hok] at HMB
        clear HE HST hok
        go_wp2_with (first
          | (go_at_call 51; refine (HMB.out _).mono ?_; rintro r w2 ⟨rfl, hb2⟩)
          | (refine wpList_load_mid rfl 50 (.tmp 18) rfl ga (oa + k * 35) rfl X.toList _ (fun j v hv => HCE.out j v (by rwa [Array.getElem?_toList] at hv)) Tryz.underlying50 rfl HIX.out.1 ?_)
          | (refine wpList_store_new rfl 50 (.tmp 8) (.tmp 19) rfl X _ 50 wr.heap.size rfl rfl rfl (info_xe HIX.out.2.2) (by rw [HIX.out.2.2]; rfl) HIX.out.2.1 ?_)
          | (refine wpList_get rfl 50 (.tmp 8) rfl wr.heap.size 0 X X 50 _ rfl B1.out (fun j v hv => by rw [Nat.zero_add]; exact hv) Tryz.underlying50 rfl (info_xe HIX.out.2.2) ?_)
          | fail)
        go_ret2
        exact ⟨_, ret_seX HE1.out, BdX.no (by rw [HE1.out]; decide), R1.out.bel.trans (hb2.mono R1.out.bel.size)⟩
      | true =>
        rw [hok] at HMB
        by_cases h65 : k = 65536
        · have HE1 : Hid (bE l = 1) := by
            show _ = _
            rw [HE.out.1, HST.out, if_pos (.inr h65)]
          have hz65 : ((k : Int) == 65536) = true := by rw [beq_iff_eq]; omega
          clear HE HST hok h65
          go_wp2_with (first
            | (go_at_call 51; refine (HMB.out _).mono ?_; rintro r w2 ⟨rfl, hb2⟩)
            | (refine wpList_load_mid rfl 50 (.tmp 18) rfl ga (oa + k * 35) rfl X.toList _ (fun j v hv => HCE.out j v (by rwa [Array.getElem?_toList] at hv)) Tryz.underlying50 rfl HIX.out.1 ?_)
            | (refine wpList_store_new rfl 50 (.tmp 8) (.tmp 19) rfl X _ 50 wr.heap.size rfl rfl rfl (info_xe HIX.out.2.2) (by rw [HIX.out.2.2]; rfl) HIX.out.2.1 ?_)
            | (refine wpList_get rfl 50 (.tmp 8) rfl wr.heap.size 0 X X 50 _ rfl B1.out (fun j v hv => by rw [Nat.zero_add]; exact hv) Tryz.underlying50 rfl (info_xe HIX.out.2.2) ?_)
            | fail)
          go_ret2
          exact ⟨_, ret_seX HE1.out, BdX.no (by rw [HE1.out]; decide), R1.out.bel.trans (hb2.mono R1.out.bel.size)⟩
        · have hz65 : ((k : Int) == 65536) = false := by rw [beq_eq_false_iff_ne]; omega
          have HNC : Hid (¬ (okX e = false ∨ k = 65536)) := by
            rintro (q | q)
            · rw [hok] at q; cases q
            · exact h65 q
          clear hok
          cases hh : hasX (l.take k) e.id with
          | true =>
            have HE1 : Hid (bE l = 7) := by
              show _ = _
              rw [HE.out.1, HST.out, if_neg HNC.out, if_pos hh]
            rw [hh] at HLK
            clear HE HST hh HNC
            go_wp2_with (first
              | (go_at_call 51; refine (HMB.out _).mono ?_; rintro r w2 ⟨rfl, hb2⟩; have R2 : Hid (BX w m s (l.take k) w2) := R1.out.keep hb2; have B2 : Hid (Bk w2 wr.heap.size X 50) := B1.out.below hb2 B1.out.lt; have hlook := HLK.out w2 R2.out)
              | (refine wpList_load_mid rfl 50 (.tmp 18) rfl ga (oa + k * 35) rfl X.toList _ (fun j v hv => HCE.out j v (by rwa [Array.getElem?_toList] at hv)) Tryz.underlying50 rfl HIX.out.1 ?_)
              | (refine wpList_store_new rfl 50 (.tmp 8) (.tmp 19) rfl X _ 50 wr.heap.size rfl rfl rfl (info_xe HIX.out.2.2) (by rw [HIX.out.2.2]; rfl) HIX.out.2.1 ?_)
              | (refine wpList_get rfl 50 (.tmp 8) rfl wr.heap.size 0 X X 50 _ rfl B1.out (fun j v hv => by rw [Nat.zero_add]; exact hv) Tryz.underlying50 rfl (info_xe HIX.out.2.2) ?_)
              | (refine wpList_get rfl 48 (.tmp 29) rfl wr.heap.size 0 X D 50 _ rfl B2.out HXI.out Tryz.underlying48 rfl HID.out ?_)
              | fail)
            go_ret2
            exact ⟨_, ret_seX HE1.out, BdX.no (by rw [HE1.out]; decide), R2.out.bel.alloc R2.out.bel.size _⟩
          | false =>
            have HE1 : Hid (bE l = xbE (l.take (k + 1)) (l.drop (k + 1)) ∧ GdX (l.take (k + 1))) := by
              refine ⟨?_, ?_⟩
              · rw [HE.out.1, HST.out, if_neg HNC.out, if_neg (by rw [hh]; simp)]
              · rw [HT.out]
                refine HE.out.2.snoc ?_ hh
                rw [List.length_take, Nat.min_eq_left (by rw [HL.out]; omega)]
                exact HNC.out
            rw [hh] at HLK
            clear HE HST hh HNC
            go_wp2_with (first
              | (go_at_call 51; refine (HMB.out _).mono ?_; rintro r w2 ⟨rfl, hb2⟩; have R2 : Hid (BX w m s (l.take k) w2) := R1.out.keep hb2; have B2 : Hid (Bk w2 wr.heap.size X 50) := B1.out.below hb2 B1.out.lt; have hlook := HLK.out w2 R2.out; have B3 : Hid (Bk (w2.alloc (.cells #[] 117)) wr.heap.size X 50) := B2.out.alloc _; obtain ⟨w8, hput, hR8⟩ := HPT.out (w2.alloc (.cells #[] 117)) (R2.out.keep ((Below.refl _ _).alloc (Nat.le_refl _) _)); have R8 : Hid (BX w m s (l.take (k + 1)) w8) := hR8; clear hR8)
              | (refine wpList_load_mid rfl 50 (.tmp 18) rfl ga (oa + k * 35) rfl X.toList _ (fun j v hv => HCE.out j v (by rwa [Array.getElem?_toList] at hv)) Tryz.underlying50 rfl HIX.out.1 ?_)
              | (refine wpList_store_new rfl 50 (.tmp 8) (.tmp 19) rfl X _ 50 wr.heap.size rfl rfl rfl (info_xe HIX.out.2.2) (by rw [HIX.out.2.2]; rfl) HIX.out.2.1 ?_)
              | (refine wpList_get rfl 50 (.tmp 8) rfl wr.heap.size 0 X X 50 _ rfl B1.out (fun j v hv => by rw [Nat.zero_add]; exact hv) Tryz.underlying50 rfl (info_xe HIX.out.2.2) ?_)
              | (refine wpList_get rfl 48 (.tmp 29) rfl wr.heap.size 0 X D 50 _ rfl B2.out HXI.out Tryz.underlying48 rfl HID.out ?_)
              | (refine wpList_get rfl 48 (.tmp 36) rfl wr.heap.size 0 X D 50 _ rfl B3.out HXI.out Tryz.underlying48 rfl HID.out ?_)
              | fail)
            clear hput hlook
            go_wp2
            go_roundw
            case rel => exact ⟨k + 1, by go_num, by omega, by omega, R8.out, HE1.out.1, HE1.out.2⟩
            case measure => simp [intOf]; omega
    · have hkz : ¬ (k : Int) < (n : Nat) := by omega
      obtain rfl : k = n := by omega
      have hxs : l.take k = l := List.take_of_length_le (by rw [HL.out]; omega)
      have hxd : l.drop k = [] := List.drop_eq_nil_of_le (by rw [HL.out]; omega)
      rw [hxs] at HR
      rw [hxs, hxd] at HE
      have HZ : Hid (bE l = 0 ∧ GdX l) := ⟨HE.out.1, HE.out.2⟩
      clear hxs hxd HE
      go_wp2_with fail
      refine (clone_any a k c l wr (HX.out.below HR.out.bel) HL.out HAA.out (by omega)).mono ?_
      rintro e w1 ⟨v, rfl, ho, hb1⟩
      have R1 : Hid (BX w m s l w1) := HR.out.keep hb1
      have hids : ∀ e ∈ l, e.id.size = 32 := HX.out.ids
      have hzz : w.heap.size < wr.heap.size := HR.out.bx.lt
      have HSO : Hid (Calls Tryz.prog 52 #[v, .func (.func 53) #[] #[]] w1 fun e w' => e = .returned (.tuple #[]) ∧ ∃ L a' c', L.Perm l ∧ OkL L ∧ v = .slice a' k c' ∧ XeL w' a' L ∧ k ≤ c' ∧ AdS a' ∧ Bk w' w.heap.size (idc s) 48 ∧ Below w.heap.size w w') := by
        rcases ho.2 with ⟨h1, h0⟩ | ⟨g, cap, cur, h1, hle, hg, hnc, _⟩
        · subst h1
          have hl0 : l = [] := List.length_eq_zero_iff.1 (by rw [HL.out]; exact h0)
          refine (HSN.out none 0 _ w1).mono ?_
          rintro e w' ⟨rfl, rfl⟩
          refine ⟨rfl, [], none, 0, by rw [hl0], ⟨fun e h => (by cases h), fun e h => (by cases h), List.Pairwise.nil, by simp⟩, by rw [h0], (fun i e h => by cases h), by omega, .inl rfl, R1.out.bx, R1.out.bel⟩
        · subst h1
          refine (sort_any wr.heap.size g k cap l w1 ho HL.out hids (by omega) hb1.size).mono ?_
          rintro e w' ⟨rfl, L, hp, hpw, ho', hb'⟩
          obtain ⟨a', c', hv, hXL, hkc, hAd⟩ := own_xel ho' (by rw [hp.length_eq]; exact HL.out) (fun e he => hids e (hp.mem_iff.1 he))
          refine ⟨rfl, L, a', c', hp, HZ.out.2.okl hp hids (rise_of hpw (HZ.out.2.ap.perm hp.symm)), hv, hXL, hkc, (by rcases hAd with ⟨q, _⟩ | ⟨q, q2, _⟩; exact .inl q; exact .inr ⟨q, 0, q2⟩), ?_, R1.out.bel.trans (hb'.mono (Nat.le_of_lt hzz))⟩
          unfold Bk
          rw [hb'.block w.heap.size hzz]
          exact R1.out.bx
      obtain ⟨va, vc, hvv⟩ : ∃ va vc, v = .slice va k vc := by
        rcases ho.2 with ⟨h1, h0⟩ | ⟨g, cap, cur, h1, _⟩
        · exact ⟨none, 0, by rw [h1, h0]⟩
        · exact ⟨_, _, h1⟩
      subst hvv
      clear ho hb1 R1 HR hids
      go_wp2_with fail
      refine HSO.out.mono ?_
      rintro e w2 ⟨rfl, L, a', c', hp, hOL, hv, hXL, hkc, hAd, hbx, hbel⟩
      injection hv with hva _ hvc
      subst hva
      subst hvc
      have HPL : Hid (L.Perm l ∧ OkL L) := ⟨hp, hOL⟩
      have HBX : Hid (Bk w2 w.heap.size (idc s) 48) := hbx
      have HBL : Hid (Below w.heap.size w w2) := hbel
      have HIO : Hid (Calls Tryz.prog 48 #[.agg (idc s), .slice va k vc] w2 fun e w' => ∃ g, e = .returned (.pointer (some ⟨g, 0, none⟩)) ∧ IxS w' g s L ∧ Below w.heap.size w w') := (indexOf_any s L va k vc w2 HS.out hXL (by rw [hp.length_eq]; exact HL.out) hkc hAd (by omega)).mono fun e w' ⟨g, h1, h2, h3, h4⟩ => ⟨g, h1, h3, hbel.trans (h4.mono hbel.size)⟩
      clear hp hOL hXL hkc hAd hbx hbel HSO
      go_wp2_with (first
        | (go_at_call 48; refine HIO.out.mono ?_; rintro e w3 ⟨gI, rfl, hI, hb3⟩; have HIX : Hid (IxS w3 gI s L ∧ Below w.heap.size w w3) := ⟨hI, hb3⟩; clear hI hb3)
        | (go_at_call 49; refine (bytes_any gI s L _ HIX.out.1 HPL.out.2.ok HPL.out.2.len).mono ?_; rintro e w4 ⟨rfl, hb4⟩)
        | (refine wpList_get rfl 48 (.tmp 2) rfl w.heap.size 0 (idc s) (idc s) 48 _ rfl HBX.out (fun j v hv => by rw [Nat.zero_add]; exact hv) Tryz.underlying48 rfl HI.out ?_)
        | fail)
      go_ret2
      exact ⟨_, ret_seX HZ.out.1, ⟨fun q => absurd HZ.out.1 q, fun _ => ⟨L, HPL.out.1, HPL.out.2, rfl⟩⟩, HIX.out.2.trans (hb4.mono HIX.out.2.size)⟩
end Go.Proofs.YtbfoiocbmhhdbaaGreat
/- Lists that a call made: nil, or of a block of its own. -/
namespace Go.Proofs.YtbfoiocbmhhdbaaGreat
open Go.RowKit
set_option linter.unusedSimpArgs false
set_option linter.unusedVariables false
/-- A list that the package made: nil, or a block of its own. -/
def Mad (w : World) (ao : Option Addr) (xs : List ByteArray) (w' : World) : Prop :=
  (ao = none ∧ xs.length = 0) ∨ ∃ g, ao = some ⟨g, 0, none⟩ ∧ w.heap.size ≤ g ∧ Bk w' g (txc xs) 9
theorem Mad.txl {w w' : World} {ao : Option Addr} {xs : List ByteArray} (h : Mad w ao xs w') : TxL w' ao xs := by
  rcases h with ⟨rfl, h0⟩ | ⟨g, rfl, _, hB⟩
  · have : xs = [] := List.eq_nil_of_length_eq_zero h0
    rw [this]; intro i x hx; simp at hx
  · exact hB.txl
theorem Mad.lo {w w' : World} {ao : Option Addr} {xs : List ByteArray} (h : Mad w ao xs w') (b o : Nat) (s : Option Nat) (e : ao = some ⟨b, o, s⟩) : w.heap.size ≤ b ∧ b < w'.heap.size := by
  rcases h with ⟨rfl, h0⟩ | ⟨g, rfl, h1, hB⟩
  · cases e
  · cases e; exact ⟨h1, hB.lt⟩
theorem Mad.grown {w w1 w2 : World} {ao : Option Addr} {xs : List ByteArray} {r : Option Nat} (h : Mad w ao xs w1) (hg : w1.grownBy w2 r) (hr : ∀ b o s, ao = some ⟨b, o, s⟩ → r ≠ some b) : Mad w ao xs w2 := by
  rcases h with h | ⟨g, h0, h1, hB⟩
  · exact .inl h
  · exact .inr ⟨g, h0, h1, hB.grown hg (hr g 0 none h0)⟩
theorem Mad.below {w w1 w2 : World} {ao : Option Addr} {xs : List ByteArray} (h : Mad w ao xs w1) (hb : Below w1.heap.size w1 w2) : Mad w ao xs w2 := h.grown (gr_of_below hb none) (by simp)
/-- A list of the document's answer. -/
def Ans (w : World) (a : Option Addr) (xs : List ByteArray) (w' : World) : Prop := TxL w' a xs ∧ ∀ b o s, a = some ⟨b, o, s⟩ → w.heap.size ≤ b ∧ b < w'.heap.size
theorem ans_of {w w' : World} {v : Value} {xs : List ByteArray} (h : w'.ownsRow w.heap.size 9 1 v xs.length (sv xs)) : ∃ a c, v = .slice a xs.length c ∧ Ans w a xs w' := by
  have h0 := h
  obtain ⟨a, c, rfl, ht, hl⟩ := own_txl h
  refine ⟨a, c, rfl, ht, fun b o s e => ⟨hl b o s e, ?_⟩⟩
  rcases h0.2 with ⟨h1, _⟩ | ⟨g, cap, cur, h1, _, hg, _⟩
  · rw [e] at h1; cases h1
  · rw [e] at h1; cases h1; exact (Array.getElem?_eq_some_iff.1 hg).1
theorem Ans.below {w w1 w2 : World} {a : Option Addr} {xs : List ByteArray} (h : Ans w a xs w1) (hb : Below w1.heap.size w1 w2) : Ans w a xs w2 :=
  ⟨h.1.below hb, fun b o s e => ⟨(h.2 b o s e).1, Nat.lt_of_lt_of_le (h.2 b o s e).2 hb.size⟩⟩
theorem map_block {ao : Option Addr} {g : Nat} (h : ao.map (·.block) = some g) : ∃ o s, ao = some ⟨g, o, s⟩ := by
  cases ao with
  | none => cases h
  | some q =>
    obtain ⟨b, o, s⟩ := q
    simp at h
    exact ⟨o, s, by rw [h]⟩
end Go.Proofs.YtbfoiocbmhhdbaaGreat
/- A list of texts appended to a row of texts of the call's own; such a row as a block. -/
namespace Go.Proofs.YtbfoiocbmhhdbaaGreat
open Go.RowKit Go.Deep
set_option linter.unusedSimpArgs false
set_option linter.unusedVariables false
theorem one_sv (l : List ByteArray) : ∀ u ∈ sv l, u.oneCell' = true := by
  intro u hu
  obtain ⟨x, _, rfl⟩ := List.mem_map.1 hu
  rfl
theorem gr_refl (w : World) (r : Option Nat) : w.grownBy w r := ⟨rfl, rfl, rfl, Nat.le_refl _, fun _ _ _ => rfl⟩
theorem app_txts (w : World) (B : Nat) (v : Value) (ks xs : List ByteArray) (k n c : Nat) (hk : ks.length = k) (hn : xs.length = n) (hown : w.ownsRow B 9 1 v k (sv ks)) (hB : B ≤ w.heap.size)
    (ad : Option Addr) (ht : TxL w ad xs) (hb : (k + n) * 16 ≤ 140737488355328) (ty : TypeId) :
    ∃ v' w', (Builtin.append_ #[23, 23] ty #[v, .slice ad n c]).run Tryz.prog w = .ok v' w' ∧ w'.ownsRow B 9 1 v' (k + n) (sv (ks ++ xs)) ∧ w.grownBy w' v.ownBlock := by
  obtain ⟨i0, hi, hz0, hz1, hz2⟩ := info_parts inf_str
  cases xs with
  | nil =>
    obtain rfl : n = 0 := by simpa using hn.symm
    obtain ⟨a, cp, rfl, hle⟩ : ∃ a cp, v = .slice a k cp ∧ k ≤ cp := by
      rcases hown.2 with ⟨rfl, h0⟩ | ⟨g, cap, cur, rfl, _, _, h, _⟩
      · exact ⟨none, 0, by rw [h0], by omega⟩
      · exact ⟨_, _, rfl, h⟩
    have hsrc : Src Tryz.prog i0.size 23 (.slice ad 0 c) 0 [] w := by
      cases ad with
      | none => exact Src.ofNil w Tryz.underlying23 c
      | some q => exact Src.ofSlice w Tryz.underlying23 q 0 c [] (by simp) (fun j u h => by simp at h) (fun _ h => by cases h)
    have h := run_append_nothing (P := Tryz.prog) w 23 23 ty 9 i0 Tryz.underlying23 hi a k cp hle (.slice ad 0 c) hsrc
    exact ⟨_, _, h, by rw [List.append_nil]; exact hown, gr_refl _ _⟩
  | cons x0 xs0 =>
    obtain ⟨g, o, rfl, hlt, _⟩ := ht 0 x0 rfl
    have hnews : ∀ j u, (sv (x0 :: xs0))[j]? = some u → w.cell? ((⟨g, o, none⟩ : Addr).add j) = some u := by
      intro j u hj
      rw [sv, List.getElem?_map] at hj
      obtain ⟨x, hx, rfl⟩ := Option.map_eq_some_iff.1 hj
      obtain ⟨g', o', e, _, hc⟩ := ht j x hx
      cases e
      rw [WideShapes.add_plain]
      exact hc
    obtain ⟨v', w', h1, h2, h3, _⟩ := run_append_own (P := Tryz.prog) (w := w) B 23 ty 9 i0 (.string ⟨#[]⟩) 1 16 Tryz.underlying23 hi hz0 hz1 hz2 rfl (by decide) v k (sv ks) hown ⟨g, o, none⟩ n c (sv (x0 :: xs0)) (by rw [sv, List.length_map, hn, Nat.mul_one]) hnews (one_sv _) (by unfold maxLen; omega) hb hB
    exact ⟨v', w', h1, by rw [sv_append]; exact h2, h3⟩
theorem wpList_append_txts {ops : Array Oper} {rest : List Oper} {o : Oper} {a : Act} {Q : Exit → Act → World → Prop} (w : World)
    (hg : o.guard = none) (s x : Operand) (hop : o.op = Op.call { callee := Callee.builtin Builtin.append, args := #[s, x], argTypes := #[23, 23] })
    (B : Nat) (v : Value) (ks xs : List ByteArray) (k n c : Nat) (hs : a.eval s = v) (hk : ks.length = k) (hn : xs.length = n) (hown : w.ownsRow B 9 1 v k (sv ks)) (hB : B ≤ w.heap.size)
    (ad : Option Addr) (hx : a.eval x = .slice ad n c) (ht : TxL w ad xs) (hb : (k + n) * 16 ≤ 140737488355328)
    (hK : ∀ v' w', w'.ownsRow B 9 1 v' (k + n) (sv (ks ++ xs)) → w.grownBy w' v.ownBlock → wpList Tryz.prog ops Q rest (a.put o.dst v') w') :
    wpList Tryz.prog ops Q (o :: rest) a w := by
  refine wpList_plain hg fun K hK' => ?_
  obtain ⟨v', w', hrun, r1, r2⟩ := app_txts w B v ks xs k n c hk hn hown hB ad ht hb o.type
  unfold Oper.wp
  simp [execOp, hop, resolve, invoke, builtin, hs, hx, hrun, Result.andThen]
  exact hK' _ _ (hK v' w' r1 r2)
/-- A row of texts of the call's own, once one lies in it. -/
theorem own_block_at {w : World} {B k : Nat} {v : Value} {xs : List ByteArray} (h : w.ownsRow B 9 1 v (k + 1) (sv xs)) :
    ∃ g cap cur, v = .slice (some ⟨g, 0, none⟩) (k + 1) cap ∧ B ≤ g ∧ Bk w g cur 9 ∧ k + 1 ≤ cap ∧ cap ≤ maxLen ∧ ∀ (j : Nat) (x : ByteArray), xs[j]? = some x → cur[j]? = some (.string x) := by
  rcases h.2 with ⟨_, h0⟩ | ⟨g, cap, cur, rfl, hle, hgc, h1, h2, h3, h4⟩
  · omega
  · refine ⟨g, cap, cur, rfl, hle, hgc, h1, h2, fun j x hx => ?_⟩
    have hl := h.1
    rw [sv, List.length_map] at hl
    have hj : j < k + 1 := by have := (List.getElem?_eq_some_iff.1 hx).1; omega
    have e := congrArg (·[j]?) h4
    rw [Nat.mul_one] at e
    simp only [List.getElem?_take, if_pos hj, sv, List.getElem?_map, hx, Option.map_some] at e
    rw [← Array.getElem?_toList]; exact e
end Go.Proofs.YtbfoiocbmhhdbaaGreat
/- The law's back: the walk. -/
namespace Go.Proofs.YtbfoiocbmhhdbaaGreat
open Go.RowKit
set_option linter.unusedSimpArgs false
set_option linter.unusedVariables false
/-- While the packs' indexes are made. -/
structure BkU (w w2 : World) (ps : List ByteArray) (l : List Mr) (i : Nat) (v : Value) (W : World) : Prop where
  bel : Below w.heap.size w W
  bel2 : Below w2.heap.size w2 W
  tx : ∃ ts xs, W.ownsRow w2.heap.size 9 1 v i (sv ts) ∧ ts.length = i ∧ Bks (ps.take i) l ts xs
theorem BkU.next {w w2 W W' : World} {ps : List ByteArray} {l : List Mr} {i : Nat} {v : Value} (h : BkU w w2 ps l i v W) (hb : Below W.heap.size W W') : BkU w w2 ps l i v W' := by
  obtain ⟨ts, xs, h1, h2, h3⟩ := h.tx
  exact ⟨h.bel.trans (hb.mono h.bel.size), h.bel2.trans (hb.mono h.bel2.size), ts, xs, own_kept h1 hb, h2, h3⟩
theorem es_snoc (l : List Mr) (k : Nat) (r : Mr) (p : ByteArray) (h : l[k]? = some r) : esOf (l.take (k + 1)) p = if r.p = p then esOf (l.take k) p ++ [r.e] else esOf (l.take k) p := by
  rw [List.take_add_one, h]
  unfold esOf
  rw [List.filter_append, List.map_append]
  by_cases e : r.p = p
  · rw [if_pos e]; simp [e]
  · rw [if_neg e]; simp [e]
theorem own_nms {w : World} {B n : Nat} {v : Value} {l : List ByteArray} (hs : ∀ s ∈ l, s.size = 32) (hn : l.length = n) (h : w.ownsRow B 48 32 v n (nvs l)) : ∃ a c, v = .slice a n c ∧ NmL w a l := by
  rcases h.2 with ⟨h1, h0⟩ | ⟨g, cap, cur, h1, _⟩
  · exact ⟨none, 0, by rw [h1, h0], fun i s hi => by rw [List.length_eq_zero_iff.1 (hn.trans h0)] at hi; simp at hi⟩
  · subst h1
    exact ⟨_, _, rfl, nml_own hs hn h⟩
theorem own_mrs {w : World} {B n : Nat} {v : Value} {l : List Mr} (hs : ∀ r ∈ l, r.p.size = 32 ∧ r.e.id.size = 32) (hn : l.length = n) (h : w.ownsRow B 52 67 v n (mvs l)) : ∃ a c, v = .slice a n c ∧ MrL w a l := by
  rcases h.2 with ⟨h1, h0⟩ | ⟨g, cap, cur, h1, _⟩
  · exact ⟨none, 0, by rw [h1, h0], fun i s hi => by rw [List.length_eq_zero_iff.1 (hn.trans h0)] at hi; simp at hi⟩
  · subst h1
    exact ⟨_, _, rfl, mrl_own hs hn h⟩
theorem own_txl15 {w : World} {B n : Nat} {v : Value} {xs : List ByteArray} (hn : xs.length = n) (h : w.ownsRow B 9 1 v n (sv xs)) : ∃ a c, v = .slice a n c ∧ TxL w a xs := by
  rcases h.2 with ⟨h1, h0⟩ | ⟨g, cap, cur, h1, hle, hg, hnc, hcm, hsz, ht⟩
  · exact ⟨none, 0, by rw [h1, h0], fun i s hi => by rw [List.length_eq_zero_iff.1 (hn.trans h0)] at hi; simp at hi⟩
  · subst h1
    refine ⟨_, _, rfl, fun i x hx => ⟨g, 0, rfl, ?_, ?_⟩⟩
    · rcases Nat.lt_or_ge g w.heap.size with hlt | hge
      · exact hlt
      · rw [Array.getElem?_eq_none hge] at hg; cases hg
    · have hi : i < xs.length := (List.getElem?_eq_some_iff.1 hx).1
      rw [Nat.zero_add, h.cellAt i (by omega), sv, List.getElem?_map, hx]; rfl
set_option maxHeartbeats 16000000 in
set_option maxRecDepth 100000 in
theorem back15 (g : Nat) (s : ByteArray) (ps : List ByteArray) (l : List Mr) (w : World) (h : MxS w g ps l) (hs : IsMx s ps l) :
    Calls Tryz.prog 26 #[.pointer (some ⟨g, 0, none⟩), .string s] w fun e w' => e = .returned (.bool true) ∧ Below w.heap.size w w' := by
  have HM : Hid (MxS w g ps l ∧ IsMx s ps l) := ⟨h, hs⟩
  have HR : Hid ((∀ p ∈ ps, p.size = 32) ∧ ∀ r ∈ l, r.p.size = 32 ∧ r.e.id.size = 32) := ⟨hs.ok.psz, fun r hr => ⟨hs.ok.psz _ (hs.ok.mem r hr), hs.ok.id r hr⟩⟩
  have HOK : Hid (OkM ps l) := hs.ok
  have hpl : ps.length ≤ 4096 := hs.ok.pln
  have hll : l.length ≤ 1048576 := hs.ok.len
  obtain ⟨np, hnp⟩ : ∃ n, ps.length = n := ⟨_, rfl⟩
  obtain ⟨nr, hnr⟩ : ∃ n, l.length = n := ⟨_, rfl⟩
  have HN : Hid (ps.length = np ∧ l.length = nr) := ⟨hnp, hnr⟩
  rw [hnp] at hpl
  rw [hnr] at hll
  clear h hs hnp hnr
  go_enter Tryz.func26, Tryz.ntmps26
  go_wp2_with fail
  refine (mpacks_any g ps l w HM.out.1).mono ?_
  rintro e w1 ⟨v1, rfl, ho1, b1⟩
  obtain ⟨a1, c1, rfl, hn1⟩ := own_nms HR.out.1 HN.out.1 (by rw [← HN.out.1]; exact ho1)
  have H1 : Hid (NmL w1 a1 ps ∧ MxS w1 g ps l ∧ Below w.heap.size w w1) := ⟨hn1, HM.out.1.below b1, b1⟩
  clear ho1 hn1 b1
  go_wp2_with fail
  refine (mall_any g ps l w1 H1.out.2.1).mono ?_
  rintro e w2 ⟨v2, rfl, ho2, b2⟩
  obtain ⟨a2, c2, rfl, hn2⟩ := own_mrs HR.out.2 HN.out.2 (by rw [← HN.out.2]; exact ho2)
  have H2 : Hid (NmL w2 a1 ps ∧ MrL w2 a2 l ∧ Below w.heap.size w w2) := ⟨H1.out.1.below b2, hn2, H1.out.2.2.trans (b2.mono H1.out.2.2.size)⟩
  clear ho2 hn2 b2 H1
  have HU0 : Hid (BkU w w2 ps l 0 (.slice none 0 0) w2) := ⟨H2.out.2.2, Below.refl _ _, [], [], World.ownsRow_nil _ _ _ _, rfl, by rw [List.take_zero]; exact Bks.nil l⟩
  go_wp2
  go_loopw [7, 8] (fun v u W => ∃ i : Nat, u = .int .i64 i ∧ i ≤ np ∧ Hid (BkU w w2 ps l i v W)) (fun _ u _ => np - (intOf u).toNat)
  case atStart => exact ⟨0, rfl, Nat.zero_le _, HU0.out⟩
  case round =>
    clear HU0
    obtain ⟨i, rfl, hi, HU⟩ := hrel
    by_cases hlt : i < np
    · have hiz : (i : Int) < (np : Nat) := by omega
      obtain ⟨p, hp⟩ : ∃ p, ps[i]? = some p := ⟨_, List.getElem?_eq_getElem (by rw [HN.out.1]; exact hlt)⟩
      obtain ⟨hp32, g1, o1, rfl, hg1, hc1⟩ := H2.out.1 i p hp
      have HP : Hid (ps[i]? = some p ∧ p.size = 32 ∧ ps.take (i + 1) = ps.take i ++ [p]) := ⟨hp, hp32, by rw [List.take_add_one, hp]; rfl⟩
      have CP : Hid (∀ W, Below w2.heap.size w2 W → ∀ j v, (idc p)[j]? = some v → W.cell? ⟨g1, o1 + i * 32 + j, none⟩ = some v) := fun W hW j v hv => by
        rw [hW.cell (p := ⟨g1, o1 + i * 32 + j, none⟩) hg1]; exact hc1 j v hv
      clear hp hp32 hg1 hc1
      have HO0 : Hid (OwX wr (esOf (l.take 0) p) (.slice none 0 0) wr) := ⟨rows_none, (fun e he => by simp [esOf] at he), Below.refl _ _⟩
      obtain ⟨wi, hwi⟩ : ∃ W, wr = W := ⟨_, rfl⟩
      rw [hwi] at HU HO0 ⊢
      clear hwi
      go_wp2
      go_loopw [9, 10] (fun v u W => ∃ k : Nat, u = .int .i64 k ∧ k ≤ nr ∧ Hid (OwX wi (esOf (l.take k) p) v W)) (fun _ u _ => nr - (intOf u).toNat)
      case atStart => exact ⟨0, rfl, Nat.zero_le _, HO0.out⟩
      case round =>
        clear HO0
        obtain ⟨k, rfl, hk, HO⟩ := hrel
        by_cases hlk : k < nr
        · have hkz : (k : Int) < (nr : Nat) := by omega
          obtain ⟨r, hr⟩ : ∃ r, l[k]? = some r := ⟨_, List.getElem?_eq_getElem (by rw [HN.out.2]; exact hlk)⟩
          obtain ⟨⟨hrp, hrid⟩, g2, o2, rfl, hg2, hc2⟩ := H2.out.2.1 k r hr
          have HB2 : Hid (Below w2.heap.size w2 wr) := HU.out.bel2.trans (HO.out.bel.mono HU.out.bel2.size)
          have CR : Hid (∀ W, Below wr.heap.size wr W → ∀ (j : Nat) (v : Value), (mrC r)[j]? = some v → W.cell? ⟨g2, o2 + k * 67 + j, none⟩ = some v) := fun W hW j v hv => by
            rw [(HB2.out.trans (hW.mono HB2.out.size)).cell (p := ⟨g2, o2 + k * 67 + j, none⟩) hg2]; exact hc2 j v hv
          have C1 : Hid (∀ W, Below wr.heap.size wr W → ∀ (j : Nat) (v : Value), (idc r.p)[j]? = some v → W.cell? ⟨g2, o2 + k * 67 + j, none⟩ = some v) := fun W hW j v hv => CR.out W hW j v (by have := mrC_p r hrp j v hv; rwa [Nat.zero_add] at this)
          have C2 : Hid (∀ W, Below wr.heap.size wr W → ∀ (j : Nat) (v : Value), (idc p)[j]? = some v → W.cell? ⟨g1, o1 + i * 32 + j, none⟩ = some v) := fun W hW j v hv => CP.out W (HB2.out.trans (hW.mono HB2.out.size)) j v hv
          have CE : Hid (∀ W, Below wr.heap.size wr W → ∀ (j : Nat) (v : Value), (xeC r.e).toList[j]? = some v → W.cell? ⟨g2, o2 + k * 67 + 32 + j, none⟩ = some v) := fun W hW j v hv => by
            have := CR.out W hW (32 + j) v (mrC_e r hrp j v (by rwa [Array.getElem?_toList] at hv))
            rwa [← Nat.add_assoc] at this
          have HI12 : Hid ((Tryz.prog.info? 48).map (·.size) = some (idc r.p).size ∧ (Tryz.prog.info? 48).map (·.size) = some (idc p).size) := ⟨info_32 (by rw [idc_size, hrp]), info_32 (by rw [idc_size, HP.out.2.1])⟩
          have hEQ := eql_ids r.p p hrp HP.out.2.1
          have HES : Hid (esOf (l.take (k + 1)) p = if r.p = p then esOf (l.take k) p ++ [r.e] else esOf (l.take k) p) := es_snoc l k r p hr
          have HEL : Hid ((esOf (l.take k) p).length ≤ 1048576) := by
            show _ ≤ _
            unfold esOf
            rw [List.length_map]
            refine Nat.le_trans (List.length_filter_le _ _) ?_
            rw [List.length_take, HN.out.2]; omega
          have HRI : Hid (r.e.id.size = 32) := hrid
          obtain ⟨D1, hD1⟩ : ∃ D, idc r.p = D := ⟨_, rfl⟩
          obtain ⟨D2, hD2⟩ : ∃ D, idc p = D := ⟨_, rfl⟩
          rw [hD1] at C1
          rw [hD2] at C2
          rw [hD1, hD2] at HI12 hEQ
          clear hr hrp hrid hg2 hc2 hD1 hD2 CR
          by_cases hpe : r.p = p
          · have HEE : Hid (esOf (l.take (k + 1)) p = esOf (l.take k) p ++ [r.e]) := by
              show _ = _
              rw [HES.out, if_pos hpe]
            have hEQ2 : ∀ u, (binOp .eql 48 (.agg D1) (.agg D2)).run Tryz.prog u = .ok (.bool true) u := fun u => by rw [hEQ u]; simp [hpe]
            clear hEQ HES hpe
            go_wp2_with fail
            refine region_class10 (fun W => Below wr.heap.size wr W) (by kernel_rfl) (by kernel_rfl) ((Below.refl _ _).drew) ?_
            try simp only [Act.put, List.setIfInBounds_toArray, List.set_cons_zero, List.set_cons_succ]
            repeat (first
              | go_big_quiet_skip
              | (go_big_quiet_want
                 first
               | (refine quiet_rowc 48 _ rfl g2 (o2 + k * 67) D1 _ rfl C1.out Tryz.underlying48 rfl HI12.out.1 ?_; go_big_quiet_on; simp only [Act.put, List.setIfInBounds_toArray, List.set_cons_zero, List.set_cons_succ])
               | (refine quiet_rowc 48 _ rfl g1 (o1 + i * 32) D2 _ rfl C2.out Tryz.underlying48 rfl HI12.out.2 ?_; go_big_quiet_on; simp only [Act.put, List.setIfInBounds_toArray, List.set_cons_zero, List.set_cons_succ])
               | (refine quiet_val10 (.pointer (some ⟨g2, o2 + k * 67, none⟩)) ?_ ?_; (focus (intro W hW; go_simp; done)); go_big_quiet_on; simp only [Act.put, List.setIfInBounds_toArray, List.set_cons_zero, List.set_cons_succ])
               | (refine quiet_val10 (.pointer (some ⟨g1, o1 + i * 32, none⟩)) ?_ ?_; (focus (intro W hW; go_simp; done)); go_big_quiet_on; simp only [Act.put, List.setIfInBounds_toArray, List.set_cons_zero, List.set_cons_succ])
               | (refine quiet_val10 (.bool true) ?_ ?_; (focus (intro W hW; go_simp; done)); go_big_quiet_on; simp only [Act.put, List.setIfInBounds_toArray, List.set_cons_zero, List.set_cons_succ])
               | (go_big_quiet_op; go_big_quiet_on)))
            refine wpQuiet_nil ?_
            intro w6 hw6
            have H6 : Hid (Below wr.heap.size wr w6) := hw6
            clear hw6
            obtain ⟨m, hm⟩ : ∃ m, (esOf (l.take k) p).length = m := ⟨_, rfl⟩
            have HOX : Hid (OwX wi (esOf (l.take k) p) u9 w6) := HO.out.next H6.out
            have hmb : m ≤ 1048576 := by rw [← hm]; exact HEL.out
            obtain ⟨g7, cp7, w7, hrun, hO7, _⟩ := HOX.out.app r.e HRI.out (by rw [hm]; omega)
            rw [hm] at hrun hO7
            have HN2 : Hid (OwX wi (esOf (l.take (k + 1)) p) (.slice (some ⟨g7, 0, none⟩) (m + 1) cp7) w7) := by
              show OwX _ _ _ _
              rw [HEE.out]
              exact hO7
            have HSL : Hid (∀ w, (Instr.buildSlice 66 1 #[(0, .agg (xeC r.e))]).run Tryz.prog w = .ok (.slice (some ⟨w.heap.size, 0, none⟩) 1 1) (w.alloc (.cells (xeC r.e) 50))) := slice_xe r.e HRI.out
            have HXI : Hid ((Tryz.prog.info? 50).map (·.size) = some (xeC r.e).toList.length) := by show _ = _; rw [Array.length_toList]; exact info_xe (xeC_size _ HRI.out)
            have HCX : Hid (∀ (j : Nat) (v : Value), (xeC r.e).toList[j]? = some v → w6.cell? ⟨g2, o2 + k * 67 + 32 + j, none⟩ = some v) := CE.out w6 H6.out
            obtain ⟨X, hX⟩ : ∃ X, xeC r.e = X := ⟨_, rfl⟩
            rw [hX] at hrun HSL HXI HCX
            clear hX hm hO7 CE HEL
            go_wp2_with (first
              | (refine wpList_load_mid rfl 50 (.tmp 45) rfl g2 (o2 + k * 67 + 32) rfl X.toList _ HCX.out Tryz.underlying50 rfl HXI.out ?_)
              | (refine wpList_bsX rfl 66 (.tmp 46) rfl (.agg X) (.slice (some ⟨w6.heap.size, 0, none⟩) 1 1) (w6.alloc (.cells X 50)) rfl (HSL.out _) ?_)
              | (refine wpList_appX rfl (.tmp 41) (.tmp 47) 66 66 rfl u9 (.slice (some ⟨w6.heap.size, 0, none⟩) 1 1) (.slice (some ⟨g7, 0, none⟩) (m + 1) cp7) w7 rfl rfl hrun ?_)
              | fail)
            clear hrun
            go_wp2
            go_roundw
            case rel => exact ⟨k + 1, by go_num, by omega, HN2.out⟩
            case measure => simp [intOf]; omega
          · have HEE : Hid (esOf (l.take (k + 1)) p = esOf (l.take k) p) := by
              show _ = _
              rw [HES.out, if_neg hpe]
            have hEQ2 : ∀ u, (binOp .eql 48 (.agg D1) (.agg D2)).run Tryz.prog u = .ok (.bool false) u := fun u => by rw [hEQ u]; simp [hpe]
            clear hEQ HES hpe
            go_wp2_with fail
            refine region_class10 (fun W => Below wr.heap.size wr W) (by kernel_rfl) (by kernel_rfl) ((Below.refl _ _).drew) ?_
            try simp only [Act.put, List.setIfInBounds_toArray, List.set_cons_zero, List.set_cons_succ]
            repeat (first
              | go_big_quiet_skip
              | (go_big_quiet_want
                 first
               | (refine quiet_rowc 48 _ rfl g2 (o2 + k * 67) D1 _ rfl C1.out Tryz.underlying48 rfl HI12.out.1 ?_; go_big_quiet_on; simp only [Act.put, List.setIfInBounds_toArray, List.set_cons_zero, List.set_cons_succ])
               | (refine quiet_rowc 48 _ rfl g1 (o1 + i * 32) D2 _ rfl C2.out Tryz.underlying48 rfl HI12.out.2 ?_; go_big_quiet_on; simp only [Act.put, List.setIfInBounds_toArray, List.set_cons_zero, List.set_cons_succ])
               | (refine quiet_val10 (.pointer (some ⟨g2, o2 + k * 67, none⟩)) ?_ ?_; (focus (intro W hW; go_simp; done)); go_big_quiet_on; simp only [Act.put, List.setIfInBounds_toArray, List.set_cons_zero, List.set_cons_succ])
               | (refine quiet_val10 (.pointer (some ⟨g1, o1 + i * 32, none⟩)) ?_ ?_; (focus (intro W hW; go_simp; done)); go_big_quiet_on; simp only [Act.put, List.setIfInBounds_toArray, List.set_cons_zero, List.set_cons_succ])
               | (refine quiet_val10 (.bool false) ?_ ?_; (focus (intro W hW; go_simp; done)); go_big_quiet_on; simp only [Act.put, List.setIfInBounds_toArray, List.set_cons_zero, List.set_cons_succ])
               | (go_big_quiet_op; go_big_quiet_on)))
            refine wpQuiet_nil ?_
            intro w6 hw6
            have H6 : Hid (Below wr.heap.size wr w6) := hw6
            clear hw6
            have HN2 : Hid (OwX wi (esOf (l.take (k + 1)) p) u9 w6) := by
              show OwX _ _ _ _
              rw [HEE.out]
              exact HO.out.next H6.out
            go_wp2
            go_roundw
            case rel => exact ⟨k + 1, by go_num, by omega, HN2.out⟩
            case measure => simp [intOf]; omega
        · have hkz : ¬ (k : Int) < (nr : Nat) := by omega
          have HX : Hid (OwX wi (esOf l p) u9 wr) := by
            have := HO.out
            rwa [List.take_of_length_le (by rw [HN.out.2]; omega)] at this
          have HEL : Hid ((esOf l p).length ≤ 1048576) := by
            show _ ≤ _
            unfold esOf
            rw [List.length_map]
            refine Nat.le_trans (List.length_filter_le _ _) ?_
            rw [HN.out.2]; omega
          obtain ⟨a9, c9, rfl, hx9, hc9, ha9⟩ := own_xel HX.out.ow rfl HX.out.ids
          have HXE : Hid (XeL wr a9 (esOf l p) ∧ (a9 = none ∨ ∃ g o, a9 = some ⟨g, o, none⟩)) := ⟨hx9, by rcases ha9 with ⟨h, _⟩ | ⟨g, h, _⟩; exact .inl h; exact .inr ⟨g, 0, h⟩⟩
          have HBU : Hid (BkU w w2 ps l i u7 wr) := HU.out.next HX.out.bel
          have HD : Hid (∀ (j : Nat) (v : Value), (idc p).toList[j]? = some v → wr.cell? ⟨g1, o1 + i * 32 + j, none⟩ = some v) := fun j v hv => CP.out wr HBU.out.bel2 j v (by rwa [Array.getElem?_toList] at hv)
          have HDI : Hid ((Tryz.prog.info? 48).map (·.size) = some (idc p).toList.length) := inf_id32 p HP.out.2.1
          obtain ⟨m, hm⟩ : ∃ m, (esOf l p).length = m := ⟨_, rfl⟩
          have HML : Hid ((esOf l p).length = m ∧ m ≤ 1048576) := ⟨hm, by rw [← hm]; exact HEL.out⟩
          have HBD : Hid (Calls Tryz.prog 25 #[.agg (idc p), .slice a9 m c9] wr fun e w' => ∃ R, e = .returned (.tuple #[.string R, .int .i64 (bE (esOf l p))]) ∧ BdX p (esOf l p) R ∧ Below wr.heap.size wr w') := ibuild_any sort_none p (esOf l p) a9 m c9 wr HP.out.2.1 HXE.out.1 hm HXE.out.2 (by have := HML.out.2; omega)
          obtain ⟨D2, hD2⟩ : ∃ D, idc p = D := ⟨_, rfl⟩
          rw [hD2] at HD HDI HBD
          rw [hm]
          clear hx9 hc9 ha9 hm hD2 HO
          go_wp2_with (first
            | (refine wpList_load_mid rfl 48 (.tmp 52) rfl g1 (o1 + i * 32) rfl D2.toList _ HD.out Tryz.underlying48 rfl HDI.out ?_)
            | fail)
          refine HBD.out.mono ?_
          rintro e w9 ⟨R, rfl, hR, b9⟩
          have HB9 : Hid (BkU w w2 ps l i u7 w9) := HBU.out.next b9
          have HR9 : Hid (BdX p (esOf l p) R) := hR
          clear hR b9 HBD
          have hbe := es_bE HOK.out p
          obtain ⟨B, hB⟩ : ∃ B, bE (esOf l p) = B := ⟨_, rfl⟩
          have HB : Hid (bE (esOf l p) = B) := hB
          rw [hB, HML.out.1] at hbe
          rw [hB]
          clear hB
          rcases hbe with rfl | ⟨rfl, hbig⟩
          · obtain ⟨ts, xs, ho, htl, hbk⟩ := HB9.out.tx
            have HTS : Hid (w9.ownsRow w2.heap.size 9 1 u7 i (sv ts) ∧ ts.length = i ∧ Bks (ps.take i) l ts xs) := ⟨ho, htl, hbk⟩
            have HIX : Hid (∃ M, M.Perm (esOf l p) ∧ IsIx R p M) := by
              obtain ⟨M, m1, m2, m3⟩ := HR9.out.2 HB.out
              exact ⟨M, m1, HP.out.2.1, m2, by rw [m3]; rfl⟩
            have HTX : Hid (TxL (w9.alloc (.cells #[.string R] 9)) (some ⟨w9.heap.size, 0, none⟩) [R]) := Bk.txl (xs := [R]) (bk_new _ _ _)
            clear ho htl hbk
            go_wp2_with (first
              | (at_builtin; refine wpList_append_txts _ rfl _ _ rfl w2.heap.size u7 ts [R] i 1 1 rfl HTS.out.2.1 rfl (HTS.out.1.alloc _) (by rw [al_size]; have := HB9.out.bel2.size; omega) (some ⟨w9.heap.size, 0, none⟩) rfl HTX.out (by omega) ?_
                 intro v10 w10 ho10 hg10
                 have H10 : Hid (w10.ownsRow w2.heap.size 9 1 v10 (i + 1) (sv (ts ++ [R])) ∧ (w9.alloc (.cells #[.string R] 9)).grownBy w10 u7.ownBlock) := ⟨ho10, hg10⟩
                 clear ho10 hg10)
              | fail)
            have HN2 : Hid (BkU w w2 ps l (i + 1) v10 w10) := by
              have k2 : Below w2.heap.size w2 w10 := apn_bel HB9.out.bel2 HB9.out.bel2.size HTS.out.1 H10.out.2
              obtain ⟨M, m1, m2⟩ := HIX.out
              exact ⟨H2.out.2.2.trans (k2.mono H2.out.2.2.size), k2, ts ++ [R], xs ++ [(p, M)], H10.out.1, by rw [List.length_append, HTS.out.2.1]; rfl, by rw [HP.out.2.2]; exact HTS.out.2.2.snoc m1 m2⟩
            clear H10
            try go_wp2
            go_roundw
            case rel => exact ⟨i + 1, by go_num, by omega, HN2.out⟩
            case measure => simp [intOf]; omega
          · have hbz : (65536 : Int) < (m : Int) := by omega
            go_wp2
            go_ret
            exact ⟨rfl, HB9.out.bel⟩
    · have hiz : ¬ (i : Int) < (np : Nat) := by omega
      obtain ⟨ts, xs, ho, htl, hbk⟩ := HU.out.tx
      have HBK : Hid (Bks ps l ts xs) := by rwa [List.take_of_length_le (by rw [HN.out.1]; omega)] at hbk
      obtain ⟨a7, c7, rfl, hx7⟩ := own_txl15 htl ho
      have hz : ∀ t ∈ ts, t.size ≤ 4611686018427387904 := fun t ht => by
        obtain ⟨j, hj⟩ := List.getElem?_of_mem ht
        have hjl : j < xs.length := by rw [← HBK.out.ix.len]; exact (List.getElem?_eq_some_iff.1 hj).1
        have := isIx_size (HBK.out.ix.ix j t _ hj (List.getElem?_eq_getElem hjl))
        omega
      have HMG : Hid (Calls Tryz.prog 9 #[.slice a7 i c7] wr fun e w' => e = .returned (.tuple #[.string s, .int .i64 0]) ∧ Below wr.heap.size wr w') := (merge_any a7 i c7 ts wr hx7 htl (by omega) hz).mono fun e w' q => ⟨HBK.out.back HM.out.2 q.1, q.2⟩
      have HBW : Hid (Below w.heap.size w wr) := HU.out.bel
      clear ho htl hbk hx7 hz HU
      go_wp2_with fail
      refine HMG.out.mono ?_
      rintro e w9 ⟨rfl, b9⟩
      have H9 : Hid (Below w.heap.size w w9) := HBW.out.trans (b9.mono HBW.out.size)
      clear b9 HMG
      go_wp2
      go_ret
      exact ⟨rfl, H9.out⟩
end Go.Proofs.YtbfoiocbmhhdbaaGreat
