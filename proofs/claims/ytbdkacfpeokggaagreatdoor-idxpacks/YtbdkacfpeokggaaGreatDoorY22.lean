import Derived.Test.YtbdkacfpeokggaaGreatDoorY14
import Derived.Test.YtbdkacfpeokggaaGreatDoorY19
import Derived.Test.YtbdkacfpeokggaaGreatDoorY21
import Derived.Test.YtbdkacfpeokggaaGreatDoorRows
import Derived.ProofKit
import Derived.Deep.Slices
import Derived.Lib.SmallJoins
import Derived.SizedLaws
/- IdxPacks: the walk. -/
namespace Go.Proofs.YtbdkacfpeokggaaGreatDoor
open Go.RowKit
set_option linter.unusedSimpArgs false
set_option linter.unusedVariables false
structure PS (w0 : World) (am : Option Addr) (l : List Ob) (gI : Nat) (X : ByteArray) (L : List Xe) (W : World) : Prop where
  om : ObL W am l
  ix : IxS W gI X L
  bel : Below w0.heap.size w0 W
theorem PS.next {w0 W W' : World} {am : Option Addr} {l : List Ob} {gI : Nat} {X : ByteArray} {L : List Xe} (h : PS w0 am l gI X L W) (hb : Below W.heap.size W W') : PS w0 am l gI X L W' := ⟨h.om.below hb, h.ix.below hb, h.bel.trans (hb.mono h.bel.size)⟩
/-- What a round holds. -/
structure RS (w6 : World) (gi go : Nat) (E O : Array Value) (W : World) : Prop where
  be : Bk W gi E 34
  bo : Bk W go O 59
  bel : Below w6.heap.size w6 W
theorem RS.next {w6 W W' : World} {gi go : Nat} {E O : Array Value} (h : RS w6 gi go E O W) (hb : Below W.heap.size W W') : RS w6 gi go E O W' := ⟨h.be.below hb h.be.lt, h.bo.below hb h.bo.lt, h.bel.trans (hb.mono h.bel.size)⟩
/-- What the end holds. -/
structure QS (w0 : World) (b1 b2 b3 : Nat) (A B : Array Value) (gI : Nat) (X : ByteArray) (L : List Xe) (W : World) : Prop where
  k1 : Bk W b1 B 23
  k2 : Bk W b2 A 23
  k3 : Bk W b3 B 23
  ix : IxS W gI X L
  bel : Below w0.heap.size w0 W
theorem QS.next {w0 W W' : World} {b1 b2 b3 : Nat} {A B : Array Value} {gI : Nat} {X : ByteArray} {L : List Xe} (h : QS w0 b1 b2 b3 A B gI X L W) (hb : Below W.heap.size W W') : QS w0 b1 b2 b3 A B gI X L W' := ⟨h.k1.below hb h.k1.lt, h.k2.below hb h.k2.lt, h.k3.below hb h.k3.lt, h.ix.below hb, h.bel.trans (hb.mono h.bel.size)⟩
theorem noPk : ∀ m, ¬ PkO ⟨#[]⟩ m := fun m h => by
  have h4 := pm4 h.2.1
  exact absurd h4 (by decide)
set_option maxHeartbeats 64000000 in
set_option maxRecDepth 100000 in
theorem packs13 (l : List Ob) (ad : Option Addr) (n c : Nat) (w : World) (hO : ObL w ad l) (hl : l.length = n) (hn : (n + 1) * 24 ≤ 140737488355328) (hA : All w) :
    Calls Tryz.prog 5 #[.slice ad n c] w fun e w' => e = .returned (.bool true) ∧ Below w.heap.size w w' := by
  have HO : Hid (ObL w ad l) := hO
  have HL : Hid (l.length = n) := hl
  have HA : Hid (∀ W, Below w.heap.size w W → All W) := fun W hW => hA.below hW
  have HOZ : Hid (ObZ l) := hO.sz
  clear hO hl hA
  go_enter Tryz.func5, Tryz.ntmps5
  go_wp2
  go_loopw [3, 4] (fun m v wr => ∃ (k : Nat) (u : Value), m = u ∧ v = .int .i64 k ∧ k ≤ n ∧ Hid (OwS w (l.take k) u wr)) (fun m v _ => n - (intOf v).toNat)
  case atStart => exact ⟨0, _, rfl, rfl, Nat.zero_le _, rows_none, Below.refl _ _⟩
  case round =>
    obtain ⟨k, u, rfl, rfl, hk, OR⟩ := hrel
    have htk : (l.take k).length = k := by rw [List.length_take, HL.out]; omega
    by_cases hlt : k < n
    · have hkz : (k : Int) < (n : Nat) := by omega
      obtain ⟨o, ho⟩ : ∃ o, l[k]? = some o := ⟨l[k]'(by rw [HL.out]; exact hlt), List.getElem?_eq_getElem _⟩
      obtain ⟨g, z, rfl, hg, hc0, hc1, hpz⟩ := HO.out.below OR.out.bel k o ho
      obtain ⟨g7, cp7, w7, hrun, O7, _⟩ := OR.out.drew.app o (by rw [htk]; omega)
      have O8 : Hid (OwS w (l.take (k + 1)) (.slice (some ⟨g7, 0, none⟩) (k + 1) cp7) w7) := by
        rw [List.take_add_one, ho, Option.toList_some]
        rw [htk] at O7
        exact O7
      rw [htk] at hrun
      obtain ⟨kk, p⟩ := o
      simp only at hc0 hc1 hpz hrun
      clear O7 ho htk
      go_wp2
      go_region_law (refine step_app_run (by rfl) _ _ _ _ (by rfl) u3 (.slice (some ⟨wr.heap.size, 0, none⟩) 1 1) (.slice (some ⟨g7, 0, none⟩) (k + 1) cp7) w7 (by rfl) (by rfl) hrun ?_)
      all_goals (first | go_wp2 | skip)
      all_goals go_roundw
      all_goals first
        | (case rel => exact ⟨k + 1, _, rfl, by go_num, by omega, O8.out⟩)
        | (case measure => simp [intOf]; omega)
    · have hkz : ¬ (k : Int) < (n : Nat) := by omega
      obtain rfl : k = n := by omega
      have hxs : l.take k = l := List.take_of_length_le (by rw [HL.out]; omega)
      rw [hxs] at OR
      obtain ⟨am, cm, hum, hom⟩ := row_obl0 OR.out.ow HOZ.out rfl
      rw [HL.out] at hum
      subst hum
      have HM : Hid (ObL wr am l ∧ Below w.heap.size w wr) := ⟨hom, OR.out.bel⟩
      have HBU : Hid (Calls Tryz.prog 24 #[.slice am k cm] wr fun e w' => e = .returned (.tuple #[.string (buS l), .int .i64 (buE l)]) ∧ Below wr.heap.size wr w') := build_any l am k cm wr hom HL.out (by omega) (HA.out _ OR.out.bel).l
      clear hxs hom OR htk hlt hk
      by_cases hE : buE l = 0
      · have hsz : (buS l).size ≤ 67108864 := by rw [buS_size hE]; exact (buE_ok hE).sz
        have HPO : Hid (PkO (buS l) (ens 4 l)) := pkO_bu hE
        have HRD : Hid (∀ (i : Nat) (o : Ob), l[i]? = some o → rdO (buS l) ((4 + lenL (l.take i) : Nat) : Int) = o ∧ rdE (buS l) ((4 + lenL (l.take i) : Nat) : Int) = 0) := fun i o hi => read_rec hE i o hi
        have HGD : Hid (GdX (exs l)) := exs_gd hE
        rw [hE] at HBU
        obtain ⟨S, hS⟩ : ∃ S, buS l = S := ⟨_, rfl⟩
        rw [hS] at HBU HPO HRD hsz
        obtain ⟨X, hX⟩ : ∃ X, sb (sha (byl S)) = X := ⟨_, rfl⟩
        have hX32 : X.size = 32 := by rw [← hX]; exact sha_size _
        have HX32 : Hid (X.size = 32) := hX32
        have HSM : Hid (∀ W, Below w.heap.size w W → Calls Tryz.prog 26 #[.string S] W fun e w' => e = .returned (.agg (idc X)) ∧ Below W.heap.size W w') := fun W hW => by rw [← hX]; exact sum_id S W (HA.out W hW).l (by omega)
        have HFM : Hid (∀ W, Below w.heap.size w W → Calls Tryz.prog 9 #[.string S] W fun e w' => (∃ R L, e = .returned (.tuple #[.string R, .int .i64 0]) ∧ L.Perm (exs l) ∧ IsIx R X L) ∧ Below W.heap.size W w') := fun W hW => by
          refine (from_any S W (by omega) (HA.out W hW).l).mono ?_
          rintro e w' ⟨hF, hb⟩
          refine ⟨?_, hb⟩
          rcases hF with ⟨m, R, q1, q2, q3, q4⟩ | ⟨q1, _⟩
          · obtain rfl := q1.one HPO.out
            have h0 : bE (exs l) = 0 := HGD.out.bE
            rw [hX] at q4
            obtain ⟨L, r1, r2⟩ := BdX.ix (l := exs l) q4 hX32 h0
            exact ⟨R, L, by rw [q3]; exact congrArg (fun x => Ending.returned (.tuple #[.string R, .int .i64 x])) h0, r1, r2⟩
          · exact absurd HPO.out (q1 _)
        clear hE hS hX HPO hX32
        go_wp2_with fail
        refine HBU.out.mono ?_
        rintro e w1 ⟨rfl, hb1⟩
        have M1 : Hid (ObL w1 am l ∧ Below w.heap.size w w1) := ⟨HM.out.1.below hb1, HM.out.2.trans (hb1.mono HM.out.2.size)⟩
        clear hb1 HBU HM
        go_wp2_with fail
        refine (HFM.out w1 M1.out.2).mono ?_
        rintro e w2 ⟨⟨R, L, rfl, hLp, hLi⟩, hb2⟩
        have HLP : Hid (L.Perm (exs l) ∧ IsIx R X L) := ⟨hLp, hLi⟩
        have M2 : Hid (ObL w2 am l ∧ Below w.heap.size w w2) := ⟨M1.out.1.below hb2, M1.out.2.trans (hb2.mono M1.out.2.size)⟩
        clear hb2 HFM M1 hLp hLi
        go_wp2_with fail
        refine (open_any R w2 (isIx_le HLP.out.2)).mono ?_
        rintro e w3 ⟨hOp, hb3⟩
        obtain ⟨gI, rfl, hI3⟩ := hOp.yes HLP.out.2
        have M3 : Hid (PS w am l gI X L w3) := ⟨M2.out.1.below hb3, hI3, M2.out.2.trans (hb3.mono M2.out.2.size)⟩
        clear hOp hb3 hI3 M2
        have HLn : Hid (L.length = k) := by show _ = _; rw [HLP.out.1.length_eq, exs_len]; exact HL.out
        have hk6 : k ≤ 65536 := by rw [← HLn.out]; exact HLP.out.2.2.1.len
        have HLen : Hid (Calls Tryz.prog 22 #[.pointer (some ⟨gI, 0, none⟩)] w3 fun e w' => e = .returned (.int .i64 (k : Int)) ∧ w' = w3) := by
          have := ilen_any gI X L w3 M3.out.ix
          rw [HLn.out] at this
          exact this
        have hPN := neq_ids X X HX32.out HX32.out
        have hdx : (!decide (X = X)) = false := by simp
        rw [hdx] at hPN
        have hEQX := eql_ids X X HX32.out HX32.out
        have hdx2 : decide (X = X) = true := decide_eq_true rfl
        rw [hdx2] at hEQX
        have HIA : Hid ((Tryz.prog.info? 23).map (·.size) = some (idc X).size ∧ (idc X).all (·.oneCell') = true ∧ (idc X).size = 32) := ⟨info_32 (by rw [idc_size, HX32.out]), idc_allX X, by rw [idc_size, HX32.out]⟩
        have HPK : Hid (∀ W, IxS W gI X L → Calls Tryz.prog 25 #[.pointer (some ⟨gI, 0, none⟩)] W fun e w' => e = .returned (.agg (idc X)) ∧ Below W.heap.size W w') := fun W hW => pack_any gI X L W hW
        obtain ⟨A, hAe⟩ : ∃ A, idc X = A := ⟨_, rfl⟩
        have HAE : Hid (idc X = A) := hAe
        rw [hAe] at hPN hEQX HIA HPK HSM
        clear hdx hdx2 hAe
        go_wp2_with (first
          | (go_at_call 22; refine HLen.out.mono ?_; rintro e w4 ⟨rfl, hw4⟩; obtain rfl := hw4.symm)
          | (go_at_call 25; refine (HPK.out _ M3.out.ix).mono ?_; rintro e w5 ⟨rfl, hb5⟩; have M5 : Hid (PS w am l gI X L w5) := M3.out.next hb5; clear hb5)
          | (go_at_call 26; refine (HSM.out _ M5.out.bel).mono ?_; rintro e w6 ⟨rfl, hb6⟩; have M6 : Hid (PS w am l gI X L w6) := M5.out.next hb6; clear hb6)
          | fail)
        clear HLen M3 M5
        go_loopw [11] (fun v wr => ∃ i : Nat, v = .int .i64 i ∧ i ≤ k ∧ Hid (PS w am l gI X L wr)) (fun v _ => k - (intOf v).toNat)
        case atStart => exact ⟨0, rfl, Nat.zero_le _, M6.out⟩
        case round =>
          clear M6
          obtain ⟨i, rfl, hi, HR⟩ := hrel
          by_cases hli : i < k
          · have hiz : (i : Int) < (k : Nat) := by omega
            have HLI : Hid (i < k) := hli
            obtain ⟨o, ho⟩ : ∃ o, l[i]? = some o := ⟨l[i]'(by rw [HL.out]; exact hli), List.getElem?_eq_getElem _⟩
            obtain ⟨gm, zm, rfl, hgm, hc0, hc1, hpz⟩ := HR.out.om i o ho
            obtain ⟨hrd1, hrd2⟩ := HRD.out i o ho
            have hEg : (exs l)[i]? = some (xeO (enO (4 + lenL (l.take i)) o)) := exs_get ho
            obtain ⟨off, hoff⟩ : ∃ off, 4 + lenL (l.take i) = off := ⟨_, rfl⟩
            rw [hoff] at hrd1 hrd2 hEg
            have hfn : fnd L (nmO o) = some (xeO (enO off o)) := fnd_mem (e := xeO (enO off o)) HLP.out.2.2.1.ri.apart (HLP.out.1.mem_iff.2 (List.mem_of_getElem? hEg))
            have h32 : (nmO o).size = 32 := nmO_size o
            have HFD : Hid (∀ W, PS w (some ⟨gm, zm, none⟩) l gI X L W → Calls Tryz.prog 27 #[.pointer (some ⟨gI, 0, none⟩), .agg (idc (nmO o))] W fun r w' => r = .returned (.tuple #[.agg (xeC (xeO (enO off o))), .int .i64 0]) ∧ Below W.heap.size W w') := fun W hW => by
              have := find_any gI X (nmO o) L W hW.ix HLP.out.2.2.1.ri h32 (by rw [HLn.out]; exact hk6)
              rw [hfn] at this
              exact this
            have HOF : Hid (∀ W, PS w (some ⟨gm, zm, none⟩) l gI X L W → Calls Tryz.prog 28 #[.int .u8 (o.k.toNat : Int), .string o.p] W fun e w' => e = .returned (.agg (idc (nmO o))) ∧ Below W.heap.size W w') := fun W hW => of_nm o W (by omega) (HA.out W hW.bel).l
            have HRE : Hid (∀ W, Calls Tryz.prog 29 #[.string S, .int .i64 (off : Int)] W fun r w' => r = .returned (.tuple #[.agg #[.int .u8 (o.k.toNat : Int), .string o.p], .int .i64 0]) ∧ Below W.heap.size W w') := fun W => by
              have := read_any S (off : Int) W (by omega)
              rw [hrd1, hrd2] at this
              exact this
            obtain ⟨q1, q2, q3⟩ := xeC_at (xeO (enO off o)) h32
            have hE1 := xeC_size (xeO (enO off o)) h32
            have hE2 := xeC_all (xeO (enO off o))
            obtain ⟨kk, p⟩ := o
            simp only [xeO, enO] at q1 q2 q3
            obtain ⟨I, hI⟩ : ∃ I, idc (nmO ⟨kk, p⟩) = I := ⟨_, rfl⟩
            obtain ⟨E, hEe⟩ : ∃ E, xeC (xeO (enO off ⟨kk, p⟩)) = E := ⟨_, rfl⟩
            have q1' : E[32]? = some (.int .u8 (kk.toNat : Int)) := by rw [← hEe]; exact q1
            have q2' : E[33]? = some (.int .i64 (off : Int)) := by rw [← hEe]; exact q2
            have q3' : E[34]? = some (.int .i64 (p.size : Int)) := by rw [← hEe]; exact q3
            have HEE : Hid (E[32]? = some (.int .u8 (kk.toNat : Int)) ∧ E[33]? = some (.int .i64 (off : Int)) ∧ E[34]? = some (.int .i64 (p.size : Int))) := ⟨q1', q2', q3'⟩
            have HIE : Hid ((Tryz.prog.info? 34).map (·.size) = some E.size ∧ E.all (·.oneCell') = true ∧ E.size = 35) := by rw [← hEe]; exact ⟨info_xe hE1, hE2, hE1⟩
            rw [hI] at HFD HOF
            rw [hEe] at HFD
            simp only at hc0 hc1 HOF HRE
            have hNO := neq_obj kk p
            obtain ⟨kz, hkz2⟩ : ∃ kz : Int, (kk.toNat : Int) = kz := ⟨_, rfl⟩
            rw [hkz2] at hc0 HOF HRE HEE hNO
            have HCO : Hid (∀ ov W, KN wr z35X 34 ov W → Calls Tryz.prog 28 #[.int .u8 kz, .string p] W (fun e w'' => e = .returned (.agg I) ∧ KN wr z35X 34 ov w'')) := fun ov W hW => (HOF.out W (HR.out.next hW.bel)).mono fun e w' h => ⟨h.1, hW.up h.2⟩
            have HCF : Hid (∀ ov W, KN wr z35X 34 ov W → Calls Tryz.prog 27 #[.pointer (some ⟨gI, 0, none⟩), .agg I] W (fun e w'' => e = .returned (.tuple #[.agg E, .int .i64 0]) ∧ KN wr z35X 34 ov w'')) := fun ov W hW => (HFD.out W (HR.out.next hW.bel)).mono fun e w' h => ⟨h.1, hW.up h.2⟩
            have HY0 : Hid (∀ (ov : Option Value) W, KN wr z35X 34 ov W → W.cell? ⟨gm, zm + i * 2, none⟩ = some (.int .u8 kz)) := fun ov W hW => by rw [hW.bel.cell (p := ⟨gm, zm + i * 2, none⟩) hgm]; exact hc0
            have HY1 : Hid (∀ (ov : Option Value) W, KN wr z35X 34 ov W → W.cell? ⟨gm, zm + i * 2 + 1, none⟩ = some (.string p)) := fun ov W hW => by rw [hW.bel.cell (p := ⟨gm, zm + i * 2 + 1, none⟩) hgm]; exact hc1
            have HYY : Hid (∀ W, Below wr.heap.size wr W → W.cell? ⟨gm, zm + i * 2, none⟩ = some (.int .u8 kz) ∧ W.cell? ⟨gm, zm + i * 2 + 1, none⟩ = some (.string p)) := fun W hW => ⟨by rw [hW.cell (p := ⟨gm, zm + i * 2, none⟩) hgm]; exact hc0, by rw [hW.cell (p := ⟨gm, zm + i * 2 + 1, none⟩) hgm]; exact hc1⟩
            have HDR : Hid (KN wr z35X 34 none wr.drew) := (Below.refl _ _).drew
            clear hc0 hc1 HOF HFD hI hEe hrd1 hrd2 hEg hoff hfn h32 ho q1 q2 q3 q1' q2' q3' hE1 hE2 hkz2
            go_wp2_with fail
            refine wp_region_late (KN wr z35X 34) 17 16 15 17 _ (by kernel_rfl) (by kernel_rfl) (by kernel_rfl) (by kernel_rfl) (by omega) (by omega) rfl rfl (fun a W hW => ⟨_, _, by kernel_rfl, hW.made⟩) HDR.out ?_
            simp only [List.take_succ_cons, List.take_zero, List.drop_succ_cons, List.drop_zero, skipL, Nat.reduceAdd, Nat.reduceBEq, Bool.false_eq_true, if_false, if_true]
            simp only [Act.put]
            refine wpQF_val rfl (.pointer (some ⟨gI, 0, none⟩)) (fun ov W hW => by go_simp) ?_; simp only [Act.put, List.setIfInBounds_toArray, List.set_cons_zero, List.set_cons_succ]
            refine wpQF_val rfl (.slice (some ⟨gm, zm, none⟩) k cm) (fun ov W hW => by go_simp) ?_; simp only [Act.put, List.setIfInBounds_toArray, List.set_cons_zero, List.set_cons_succ]
            refine wpQF_val rfl (.int .i64 (i : Int)) (fun ov W hW => by go_simp) ?_; simp only [Act.put, List.setIfInBounds_toArray, List.set_cons_zero, List.set_cons_succ]
            refine wpQF_val rfl (.pointer (some ⟨gm, zm + i * 2, none⟩)) (fun ov W hW => by go_simp) ?_; simp only [Act.put, List.setIfInBounds_toArray, List.set_cons_zero, List.set_cons_succ]
            refine wpQF_val rfl (.pointer (some ⟨gm, zm + i * 2, none⟩)) (fun ov W hW => by go_simp) ?_; simp only [Act.put, List.setIfInBounds_toArray, List.set_cons_zero, List.set_cons_succ]
            refine wpQF_one rfl 5 (.tmp 94) rfl gm (zm + i * 2) (.int .u8 kz) rfl (fun _ => by kernel_rfl) HY0.out ?_; simp only [Act.put, List.setIfInBounds_toArray, List.set_cons_zero, List.set_cons_succ]
            refine wpQF_val rfl (.slice (some ⟨gm, zm, none⟩) k cm) (fun ov W hW => by go_simp) ?_; simp only [Act.put, List.setIfInBounds_toArray, List.set_cons_zero, List.set_cons_succ]
            refine wpQF_val rfl (.int .i64 (i : Int)) (fun ov W hW => by go_simp) ?_; simp only [Act.put, List.setIfInBounds_toArray, List.set_cons_zero, List.set_cons_succ]
            refine wpQF_val rfl (.pointer (some ⟨gm, zm + i * 2, none⟩)) (fun ov W hW => by go_simp) ?_; simp only [Act.put, List.setIfInBounds_toArray, List.set_cons_zero, List.set_cons_succ]
            refine wpQF_val rfl (.pointer (some ⟨gm, zm + i * 2 + 1, none⟩)) (fun ov W hW => by go_simp) ?_; simp only [Act.put, List.setIfInBounds_toArray, List.set_cons_zero, List.set_cons_succ]
            refine wpQF_one rfl 9 (.tmp 99) rfl gm (zm + i * 2 + 1) (.string p) rfl (fun _ => by kernel_rfl) HY1.out ?_; simp only [Act.put, List.setIfInBounds_toArray, List.set_cons_zero, List.set_cons_succ]
            refine wpQF_call rfl (.agg I) 28 #[.int .u8 kz, .string p] (fun ov W hW => by go_simp) HCO.out ?_; simp only [Act.put, List.setIfInBounds_toArray, List.set_cons_zero, List.set_cons_succ]
            refine wpQF_call rfl (.tuple #[.agg E, .int .i64 0]) 27 #[.pointer (some ⟨gI, 0, none⟩), .agg I] (fun ov W hW => by go_simp) HCF.out ?_; simp only [Act.put, List.setIfInBounds_toArray, List.set_cons_zero, List.set_cons_succ]
            refine wpQF_val rfl (.tuple #[.agg E, .int .i64 0]) (fun ov W hW => by go_simp) ?_; simp only [Act.put, List.setIfInBounds_toArray, List.set_cons_zero, List.set_cons_succ]
            refine wpQF_val rfl (.agg E) (fun ov W hW => by go_simp) ?_; simp only [Act.put, List.setIfInBounds_toArray, List.set_cons_zero, List.set_cons_succ]
            refine wpQF_val rfl (.int .i64 0) (fun ov W hW => by go_simp) ?_; simp only [Act.put, List.setIfInBounds_toArray, List.set_cons_zero, List.set_cons_succ]
            intro v w5 h5
            obtain ⟨gi, rfl, hgi, hbi, hb5⟩ := h5
            have HB5 : Hid (Below wr.heap.size wr w5) := hb5
            have HK5 : Hid (Bk w5 gi z35X 34) := hbi
            clear hb5 hbi HCO HCF HY0 HY1 HDR
            simp only [Act.put, List.setIfInBounds_toArray, List.set_cons_zero, List.set_cons_succ]
            refine wpList_sto rfl 34 (.tmp 12) (.tmp 103) rfl gi E z35X 34 rfl rfl HK5.out HIE.out.1 (by rw [HIE.out.2.2]; rfl) HIE.out.2.1 ?_
            intro w6 HK6 HG6
            have HB6 : Hid (Below wr.heap.size wr w6) := below_own HB5.out HB5.out.size HG6.out hgi
            simp only [Act.put]
            refine wpList_asg rfl (.tmp 104) rfl (.int .i64 0) rfl ?_
            refine ⟨rfl, ?_⟩
            simp only [Act.put, List.setIfInBounds_toArray, List.set_cons_zero, List.set_cons_succ]
            clear HG6 HK5 HB5
            have c33 : w6.cell? ⟨gi, 33, none⟩ = some (.int .i64 (off : Int)) := by rw [HK6.out.cell]; exact HEE.out.2.1
            have hio : (Tryz.prog.info? 59).map (·.size) = some 2 := by kernel_rfl
            have HO2 : Hid ((Tryz.prog.info? 59).map (·.size) = some (#[Value.int .u8 kz, Value.string p] : Array Value).size ∧ (#[Value.int .u8 kz, Value.string p] : Array Value).all (·.oneCell') = true) := ⟨hio, Array.all_eq_true_iff_forall_mem.2 (by intro v hv; simp at hv; rcases hv with rfl | rfl <;> rfl)⟩
            obtain ⟨O, hOe⟩ : ∃ O, (#[Value.int .u8 kz, Value.string p] : Array Value) = O := ⟨_, rfl⟩
            have HOE : Hid (O[0]? = some (.int .u8 kz) ∧ O[1]? = some (.string p) ∧ O.size = 2) := by rw [← hOe]; exact ⟨rfl, rfl, rfl⟩
            rw [hOe] at HO2 HRE hNO
            clear hOe hio
            go_wp2_with fail
            refine (HRE.out w6).mono ?_
            rintro e w7 ⟨rfl, hb7⟩
            have R7 : Hid (RS wr gi w7.heap.size E O (w7.alloc (.cells O 59))) := by
              have q := (Below.refl w7.heap.size w7).alloc (Nat.le_refl _) (.cells O 59)
              have b7 := HB6.out.trans (hb7.mono HB6.out.size)
              exact ⟨(HK6.out.below hb7 HK6.out.lt).below q (HK6.out.below hb7 HK6.out.lt).lt, bk_new _ _ _, b7.trans (q.mono b7.size)⟩
            clear hb7 HK6 HB6 c33 HRE
            go_wp2_with (first
              | (refine wpList_store_new rfl 59 (.tmp 14) (.tmp 110) rfl O _ 59 w7.heap.size rfl rfl rfl HO2.out.1 (by rw [HOE.out.2.2]; rfl) HO2.out.2 ?_)
              | fail)
            have C8 : Hid (∀ W, RS wr gi w7.heap.size E O W → ∀ j v, O[j]? = some v → W.cell? ⟨gm, zm + i * 2 + j, none⟩ = some v) := fun W hW j v hv => by
              have hj : j = 0 ∨ j = 1 := by
                have := (Array.getElem?_eq_some_iff.1 hv).1
                rw [HOE.out.2.2] at this
                omega
              rcases hj with rfl | rfl
              · rw [HOE.out.1] at hv; injection hv with hv; rw [← hv]; exact (HYY.out W hW.bel).1
              · rw [HOE.out.2.1] at hv; injection hv with hv; rw [← hv]; exact (HYY.out W hW.bel).2
            have D1 : Hid (∀ W, RS wr gi w7.heap.size E O W → W.cell? ⟨gi, 32, none⟩ = some (.int .u8 kz)) := fun W hW => by rw [hW.be.cell]; exact HEE.out.1
            have D2 : Hid (∀ W, RS wr gi w7.heap.size E O W → W.cell? ⟨gi, 34, none⟩ = some (.int .i64 (p.size : Int))) := fun W hW => by rw [hW.be.cell]; exact HEE.out.2.2
            have D3 : Hid (∀ W, RS wr gi w7.heap.size E O W → W.cell? ⟨w7.heap.size, 0, none⟩ = some (.int .u8 kz)) := fun W hW => by rw [hW.bo.cell]; exact HOE.out.1
            have D4 : Hid (∀ W, RS wr gi w7.heap.size E O W → W.cell? ⟨w7.heap.size, 1, none⟩ = some (.string p)) := fun W hW => by rw [hW.bo.cell]; exact HOE.out.2.1
            refine region_class10 (RS wr gi w7.heap.size E O) (by kernel_rfl) (by kernel_rfl) (R7.out.next ((Below.refl _ _).drew)) ?_
            try simp only [Act.put, List.setIfInBounds_toArray, List.set_cons_zero, List.set_cons_succ]
            repeat (first
              | go_big_quiet_skip
              | (go_big_quiet_want
                 first
                   | (refine quiet_row 59 _ rfl w7.heap.size 0 O O 59 _ rfl (fun _ h => h.bo) (fun j v hv => by rw [Nat.zero_add]; exact hv) Tryz.underlying59 rfl HO2.out.1 ?_; go_big_quiet_on; simp only [Act.put, List.setIfInBounds_toArray, List.set_cons_zero, List.set_cons_succ])
                   | (refine quiet_rowc 59 _ rfl gm (zm + i * 2) O _ rfl C8.out Tryz.underlying59 rfl HO2.out.1 ?_; go_big_quiet_on; simp only [Act.put, List.setIfInBounds_toArray, List.set_cons_zero, List.set_cons_succ])
                   | (refine quiet_one 5 _ rfl gi 32 (.int .u8 kz) rfl (fun _ => by kernel_rfl) D1.out ?_; go_big_quiet_on; simp only [Act.put, List.setIfInBounds_toArray, List.set_cons_zero, List.set_cons_succ])
                   | (refine quiet_one 3 _ rfl gi 34 (.int .i64 (p.size : Int)) rfl (fun _ => by kernel_rfl) D2.out ?_; go_big_quiet_on; simp only [Act.put, List.setIfInBounds_toArray, List.set_cons_zero, List.set_cons_succ])
                   | (refine quiet_one 5 _ rfl w7.heap.size 0 (.int .u8 kz) rfl (fun _ => by kernel_rfl) D3.out ?_; go_big_quiet_on; simp only [Act.put, List.setIfInBounds_toArray, List.set_cons_zero, List.set_cons_succ])
                   | (refine quiet_one 9 _ rfl w7.heap.size 1 (.string p) rfl (fun _ => by kernel_rfl) D4.out ?_; go_big_quiet_on; simp only [Act.put, List.setIfInBounds_toArray, List.set_cons_zero, List.set_cons_succ])
                   | (refine quiet_val10 (.pointer (some ⟨gm, zm + i * 2, none⟩)) ?_ ?_; (focus (intro W hW; go_simp; done)); go_big_quiet_on; simp only [Act.put, List.setIfInBounds_toArray, List.set_cons_zero, List.set_cons_succ])
                   | (refine quiet_val10 (.pointer (some ⟨gi, 32, none⟩)) ?_ ?_; (focus (intro W hW; go_simp; done)); go_big_quiet_on; simp only [Act.put, List.setIfInBounds_toArray, List.set_cons_zero, List.set_cons_succ])
                   | (refine quiet_val10 (.pointer (some ⟨gi, 34, none⟩)) ?_ ?_; (focus (intro W hW; go_simp; done)); go_big_quiet_on; simp only [Act.put, List.setIfInBounds_toArray, List.set_cons_zero, List.set_cons_succ])
                   | (refine quiet_val10 (.pointer (some ⟨w7.heap.size, 0, none⟩)) ?_ ?_; (focus (intro W hW; go_simp; done)); go_big_quiet_on; simp only [Act.put, List.setIfInBounds_toArray, List.set_cons_zero, List.set_cons_succ])
                   | (refine quiet_val10 (.pointer (some ⟨w7.heap.size, 1, none⟩)) ?_ ?_; (focus (intro W hW; go_simp; done)); go_big_quiet_on; simp only [Act.put, List.setIfInBounds_toArray, List.set_cons_zero, List.set_cons_succ])
                   | (refine quiet_val10 (.int .i64 (p.size : Int)) ?_ ?_; (focus (intro W hW; go_simp; done)); go_big_quiet_on; simp only [Act.put, List.setIfInBounds_toArray, List.set_cons_zero, List.set_cons_succ])
                   | (refine quiet_val10 (.bool false) ?_ ?_; (focus (intro W hW; go_simp; done)); go_big_quiet_on; simp only [Act.put, List.setIfInBounds_toArray, List.set_cons_zero, List.set_cons_succ])
                   | (go_big_quiet_op; go_big_quiet_on)))
            refine wpQuiet_nil ?_
            intro w9 hw9
            have H9 : Hid (PS w (some ⟨gm, zm, none⟩) l gI X L w9) := HR.out.next hw9.bel
            clear hw9 HR R7 C8 D1 D2 D3 D4 HYY
            go_wp2
            go_roundw
            case rel => exact ⟨i + 1, by go_num, HLI.out, H9.out⟩
            case measure => have := HLI.out; simp [intOf]; omega
          · have hiz : ¬ (i : Int) < (k : Nat) := by omega
            obtain ⟨Y, hY⟩ : ∃ Y, sb (sha (byl R)) = Y := ⟨_, rfl⟩
            have hY32 : Y.size = 32 := by rw [← hY]; exact sha_size _
            have hRz := isIx_size HLP.out.2
            have HSR : Hid (Calls Tryz.prog 26 #[.string R] wr fun e w' => e = .returned (.agg (idc Y)) ∧ Below wr.heap.size wr w') := by rw [← hY]; exact sum_id R wr (HA.out _ HR.out.bel).l (by omega)
            have HLB : Hid (∀ W, Below w.heap.size w W → Calls Tryz.prog 19 #[.agg (idc X), .agg (idc Y)] W fun e w' => e = .returned (.string (ilb X Y)) ∧ Below W.heap.size W w') := fun W hW => label13 X Y W HX32.out hY32 (HA.out W hW)
            have hlz : (ilb X Y).size ≤ 140737488351232 := by
              rw [ilb, lbI, ByteArray.size_append, ByteArray.size_append, ByteArray.size_append, ByteArray.size_append, tx32_size HX32.out, tx32_size hY32]
              decide
            have HSS : Hid (∀ W, Below w.heap.size w W → Calls Tryz.prog 15 #[.string (ilb X Y)] W fun e w' => e = .returned (.tuple #[.agg (idc X), .agg (idc Y), .int .i64 0]) ∧ Below W.heap.size W w') := fun W hW => (sums13 (ilb X Y) W hlz (HA.out W hW)).mono fun e w' q => ⟨q.1.ilb HX32.out hY32, q.2⟩
            have HFI : Hid (∀ W, Below w.heap.size w W → Calls Tryz.prog 17 #[.string (ilb X Y), .string R] W fun e w' => e = .returned (.bool true) ∧ Below W.heap.size W w') := fun W hW => fits_yes X Y R W HX32.out hY.symm (by omega) (HA.out W hW)
            have hEQY := eql_ids Y Y hY32 hY32
            have hdy : decide (Y = Y) = true := decide_eq_true rfl
            rw [hdy] at hEQY
            have HIB : Hid ((Tryz.prog.info? 23).map (·.size) = some (idc Y).size ∧ (idc Y).all (·.oneCell') = true ∧ (idc Y).size = 32) := ⟨info_32 (by rw [idc_size, hY32]), idc_allX Y, by rw [idc_size, hY32]⟩
            obtain ⟨B, hB⟩ : ∃ B, idc Y = B := ⟨_, rfl⟩
            obtain ⟨T, hT⟩ : ∃ T, ilb X Y = T := ⟨_, rfl⟩
            rw [HAE.out, hB, hT] at HLB
            rw [hT, HAE.out, hB] at HSS
            rw [hT] at HFI
            rw [hB] at HSR hEQY HIB
            have hz := zero_id
            clear hdy hlz hRz hY hB hT hY32
            go_wp2_with fail
            refine HSR.out.mono ?_
            rintro e w1' ⟨rfl, hb1⟩
            have T1 : Hid (Bk (w1'.alloc (.cells B 23)) w1'.heap.size B 23 ∧ PS w am l gI X L (w1'.alloc (.cells B 23))) := ⟨bk_new _ _ _, (HR.out.next hb1).next ((Below.refl _ _).alloc (Nat.le_refl _) _)⟩
            clear hb1 HR HSR
            go_wp2_with (first
              | (refine wpList_store_new rfl 23 (.tmp 16) (.tmp 142) rfl B _ 23 w1'.heap.size rfl rfl rfl HIB.out.1 (by rw [HIB.out.2.2]; rfl) HIB.out.2.1 ?_)
              | fail)
            have E1 : Hid (∀ W, (Bk W w1'.heap.size B 23 ∧ PS w am l gI X L W) → Calls Tryz.prog 25 #[.pointer (some ⟨gI, 0, none⟩)] W fun e w' => e = .returned (.agg A) ∧ (Bk w' w1'.heap.size B 23 ∧ PS w am l gI X L w')) := fun W hW => (HPK.out W hW.2.ix).mono fun e w' q => ⟨q.1, hW.1.below q.2 hW.1.lt, hW.2.next q.2⟩
            have E2 : Hid (∀ W, (Bk W w1'.heap.size B 23 ∧ PS w am l gI X L W) → Calls Tryz.prog 19 #[.agg A, .agg B] W fun e w' => e = .returned (.string T) ∧ (Bk w' w1'.heap.size B 23 ∧ PS w am l gI X L w')) := fun W hW => (HLB.out W hW.2.bel).mono fun e w' q => ⟨q.1, hW.1.below q.2 hW.1.lt, hW.2.next q.2⟩
            refine region_class10 (fun W => Bk W w1'.heap.size B 23 ∧ PS w am l gI X L W) (by kernel_rfl) (by kernel_rfl) ⟨T1.out.1.below ((Below.refl _ _).drew) T1.out.1.lt, T1.out.2.next ((Below.refl _ _).drew)⟩ ?_
            try simp only [Act.put, List.setIfInBounds_toArray, List.set_cons_zero, List.set_cons_succ]
            repeat (first
              | go_big_quiet_skip
              | (go_big_quiet_want
                 first
                   | (refine quiet_row 23 _ rfl w1'.heap.size 0 B B 23 _ rfl (fun _ h => h.1) (fun j v hv => by rw [Nat.zero_add]; exact hv) Tryz.underlying23 rfl HIB.out.1 ?_; go_big_quiet_on; simp only [Act.put, List.setIfInBounds_toArray, List.set_cons_zero, List.set_cons_succ])
                   | (refine quiet_call10 (.agg A) 25 #[.pointer (some ⟨gI, 0, none⟩)] ?_ ?_ ?_; (focus (intro W hW; go_simp; done)); (focus (intro W hW; exact E1.out W hW)); go_big_quiet_on; simp only [Act.put, List.setIfInBounds_toArray, List.set_cons_zero, List.set_cons_succ])
                   | (refine quiet_call10 (.string T) 19 #[.agg A, .agg B] ?_ ?_ ?_; (focus (intro W hW; go_simp; done)); (focus (intro W hW; exact E2.out W hW)); go_big_quiet_on; simp only [Act.put, List.setIfInBounds_toArray, List.set_cons_zero, List.set_cons_succ])
                   | (go_big_quiet_op; go_big_quiet_on)))
            refine wpQuiet_nil ?_
            intro w2' hw2
            have T2 : Hid (Bk w2' w1'.heap.size B 23 ∧ PS w am l gI X L w2') := hw2
            clear hw2 E1 E2 T1
            go_wp2_with fail
            refine (HSS.out w2' T2.out.2.bel).mono ?_
            rintro e w3' ⟨rfl, hb3⟩
            have T3 : Hid (Bk w3' w1'.heap.size B 23 ∧ PS w am l gI X L w3') := ⟨T2.out.1.below hb3 T2.out.1.lt, T2.out.2.next hb3⟩
            have S0 : Hid (SU w3' z32c z32c ((w3'.alloc (.cells z32c 23)).alloc (.cells z32c 23))) := by
              have := bk_new (w3'.alloc (.cells z32c 23)) z32c 23
              rw [al_size] at this
              exact ⟨(bk_new _ _ _).alloc _, this, ((Below.refl _ _).alloc (Nat.le_refl _) _).alloc (by rw [al_size]; omega) _⟩
            clear hb3 T2 HSS HLB
            go_wp2_with (first
              | (refine wpList_stoX rfl 23 (.tmp 18) (.tmp 150) rfl w3'.heap.size A z32c 23 rfl rfl S0.out.b2 HIA.out.1 (by rw [HIA.out.2.2]; exact z32c_size) HIA.out.2.1 ?_; intro w5' HB5 HG5; have S5 : Hid (SU w3' A z32c w5') := S0.out.put2 HG5.out HB5.out)
              | (refine wpList_stoX rfl 23 (.tmp 19) (.tmp 151) rfl (w3'.heap.size + 1) B z32c 23 rfl rfl S5.out.b3 HIB.out.1 (by rw [HIB.out.2.2]; exact z32c_size) HIB.out.2.1 ?_; intro w6' HB6 HG6; have S6 : Hid (SU w3' A B w6') := S5.out.put3 HG6.out HB6.out)
              | fail)
            have Q6 : Hid (QS w w1'.heap.size w3'.heap.size (w3'.heap.size + 1) A B gI X L w6') := by
              have hs := S6.out
              have hp := T3.out.2.next hs.bel
              exact ⟨T3.out.1.below hs.bel T3.out.1.lt, hs.b2, hs.b3, hp.ix, hp.bel⟩
            clear HB5 HG5 HB6 HG6 S0 S5 S6 T3
            have F1 : Hid (∀ W, QS w w1'.heap.size w3'.heap.size (w3'.heap.size + 1) A B gI X L W → Calls Tryz.prog 25 #[.pointer (some ⟨gI, 0, none⟩)] W fun e w' => e = .returned (.agg A) ∧ QS w w1'.heap.size w3'.heap.size (w3'.heap.size + 1) A B gI X L w') := fun W hW => (HPK.out W hW.ix).mono fun e w' q => ⟨q.1, hW.next q.2⟩
            have F2 : Hid (∀ W, QS w w1'.heap.size w3'.heap.size (w3'.heap.size + 1) A B gI X L W → Calls Tryz.prog 17 #[.string T, .string R] W fun e w' => e = .returned (.bool true) ∧ QS w w1'.heap.size w3'.heap.size (w3'.heap.size + 1) A B gI X L w') := fun W hW => (HFI.out W hW.bel).mono fun e w' q => ⟨q.1, hW.next q.2⟩
            have F3 : Hid (∀ W, QS w w1'.heap.size w3'.heap.size (w3'.heap.size + 1) A B gI X L W → Calls Tryz.prog 12 #[] W fun e w' => e = .returned (.bool true) ∧ QS w w1'.heap.size w3'.heap.size (w3'.heap.size + 1) A B gI X L w') := fun W hW => (awake13 W).mono fun e w' q => ⟨q.1, hW.next q.2⟩
            refine region_class10 (QS w w1'.heap.size w3'.heap.size (w3'.heap.size + 1) A B gI X L) (by kernel_rfl) (by kernel_rfl) (Q6.out.next ((Below.refl _ _).drew)) ?_
            try simp only [Act.put, List.setIfInBounds_toArray, List.set_cons_zero, List.set_cons_succ]
            repeat (first
              | go_big_quiet_skip
              | (go_big_quiet_want
                 first
                   | (refine quiet_row 23 _ rfl w3'.heap.size 0 A A 23 _ rfl (fun _ h => h.k2) (fun j v hv => by rw [Nat.zero_add]; exact hv) Tryz.underlying23 rfl HIA.out.1 ?_; go_big_quiet_on; simp only [Act.put, List.setIfInBounds_toArray, List.set_cons_zero, List.set_cons_succ])
                   | (refine quiet_row 23 _ rfl (w3'.heap.size + 1) 0 B B 23 _ rfl (fun _ h => h.k3) (fun j v hv => by rw [Nat.zero_add]; exact hv) Tryz.underlying23 rfl HIB.out.1 ?_; go_big_quiet_on; simp only [Act.put, List.setIfInBounds_toArray, List.set_cons_zero, List.set_cons_succ])
                   | (refine quiet_row 23 _ rfl w1'.heap.size 0 B B 23 _ rfl (fun _ h => h.k1) (fun j v hv => by rw [Nat.zero_add]; exact hv) Tryz.underlying23 rfl HIB.out.1 ?_; go_big_quiet_on; simp only [Act.put, List.setIfInBounds_toArray, List.set_cons_zero, List.set_cons_succ])
                   | (refine quiet_call10 (.agg A) 25 #[.pointer (some ⟨gI, 0, none⟩)] ?_ ?_ ?_; (focus (intro W hW; go_simp; done)); (focus (intro W hW; exact F1.out W hW)); go_big_quiet_on; simp only [Act.put, List.setIfInBounds_toArray, List.set_cons_zero, List.set_cons_succ])
                   | (refine quiet_call10 (.bool true) 17 #[.string T, .string R] ?_ ?_ ?_; (focus (intro W hW; go_simp; done)); (focus (intro W hW; exact F2.out W hW)); go_big_quiet_on; simp only [Act.put, List.setIfInBounds_toArray, List.set_cons_zero, List.set_cons_succ])
                   | (refine quiet_call10 (.bool true) 12 #[] ?_ ?_ ?_; (focus (intro W hW; go_simp; done)); (focus (intro W hW; exact F3.out W hW)); go_big_quiet_on; simp only [Act.put, List.setIfInBounds_toArray, List.set_cons_zero, List.set_cons_succ])
                   | (refine quiet_val10 (.bool true) ?_ ?_; (focus (intro W hW; go_simp; done)); go_big_quiet_on; simp only [Act.put, List.setIfInBounds_toArray, List.set_cons_zero, List.set_cons_succ])
                   | (go_big_quiet_op; go_big_quiet_on)))
            refine wpQuiet_nil ?_
            intro w9' hw9
            have Q9 : Hid (Below w.heap.size w w9') := hw9.bel
            clear hw9
            go_wp2
            go_ret
            exact ⟨rfl, Q9.out⟩
      · have hSn : buS l = ⟨#[]⟩ := by rw [buS, if_neg hE]
        rw [hSn] at HBU
        obtain ⟨E, hEe⟩ : ∃ E, buE l = E := ⟨_, rfl⟩
        rw [hEe] at HBU hE
        have hEb : (E != 0) = true := by simpa using hE
        have HFM : Hid (∀ W, Below w.heap.size w W → Calls Tryz.prog 9 #[.string ⟨#[]⟩] W fun e w' => e = .returned (.tuple #[.string ⟨#[]⟩, .int .i64 4]) ∧ Below W.heap.size W w') := fun W hW => by
          refine (from_any ⟨#[]⟩ W (by decide) (HA.out W hW).l).mono ?_
          rintro e w' ⟨hF, hb⟩
          rcases hF with ⟨m, R, q1, _⟩ | ⟨_, q⟩
          · exact absurd q1 (noPk m)
          · exact ⟨q, hb⟩
        clear hSn hEe
        go_wp2_with fail
        refine HBU.out.mono ?_
        rintro e w1 ⟨rfl, hb1⟩
        have M1 : Hid (Below w.heap.size w w1) := HM.out.2.trans (hb1.mono HM.out.2.size)
        clear hb1 HBU HM
        go_wp2_with (first
          | (go_at_call 9; refine (HFM.out _ M1.out).mono ?_; rintro e w2 ⟨rfl, hb2⟩; have M2 : Hid (Below w.heap.size w w2) := M1.out.trans (hb2.mono M1.out.size); clear hb2)
          | (go_at_call 12; refine (awake13 _).mono ?_; rintro e w3 ⟨rfl, hb3⟩)
          | fail)
        go_ret
        exact ⟨rfl, M2.out.trans (hb3.mono M2.out.size)⟩
end Go.Proofs.YtbdkacfpeokggaaGreatDoor
/- A slice of structs that came in, opened at an index: plain laws on readings, over any program. -/
namespace Go.Proofs.YtbdkacfpeokggaaGreatDoor
open Go.ChangeShapes Go.WideShapes Go.ChangeAt Go.RowKit
set_option linter.unusedSimpArgs false
set_option linter.unusedVariables false
theorem weightsAll_mem {H : Type} {P : Program} {e : TypeId} : ∀ {l : List (DataW H)} {d : DataW H}, d ∈ l → ∀ n ∈ d.weights P e, n ∈ DataW.weightsAll P e l
  | [], _, h, _, _ => by simp at h
  | x :: l, d, hd, n, hn => by
    simp only [DataW.weightsAll, List.mem_append]
    rcases List.mem_cons.1 hd with rfl | h
    · exact Or.inl hn
    · exact Or.inr (weightsAll_mem h n hn)
theorem open_elem {H : Type} {enc : TypeId × Value → H} {P : Program} {w : World} {t e : TypeId} {d : DataW H} {ps : List MemPlace} {a0 : Option Addr} {len cap : Nat}
    (ht : P.underlying t = some (.slice e)) (hce : 0 < P.cellsOf e) (h : DataW.Trod enc P w 0 (fun _ => true) true t (.slice a0 len cap) d ps) :
    len ≤ maxLen ∧ ∀ i, i < len → ∃ (b off : Nat) (cs : List Value) (D : DataW H) (Pl : List MemPlace) (n : Nat), a0 = some ⟨b, off, none⟩ ∧ b < w.heap.size ∧ cs.length = P.cellsOf e ∧
      (∀ j, j < P.cellsOf e → w.cell? ⟨b, off + i * P.cellsOf e + j, none⟩ = cs[j]?) ∧ DataW.trod enc P w 0 (fun _ => true) true n e cs = some (D, Pl) ∧ ∀ q ∈ D.weights P e, q ∈ d.weights P t := by
  obtain ⟨fuel, hf⟩ := h
  have hcs : (Value.slice a0 len cap).cells.toList = [.slice a0 len cap] := by simp [Value.cells]
  rw [hcs] at hf
  rcases Go.Deep.open_slice ht hf with ⟨h1, _⟩ | ⟨a, l, c, m, n, D, Pl, h1, _, hl, hm, hmm, hx, hi⟩
  · simp only [List.cons.injEq, Value.slice.injEq, and_true] at h1
    obtain ⟨rfl, rfl, rfl⟩ := h1
    exact ⟨by unfold maxLen; omega, fun i hi => by omega⟩
  · simp only [List.cons.injEq, Value.slice.injEq, and_true] at h1
    obtain ⟨rfl, rfl, rfl⟩ := h1
    have hmc : m = cap := by simpa using hmm
    refine ⟨by omega, fun i hil => ?_⟩
    obtain ⟨cs, h2, h3⟩ := hi i (by omega)
    obtain ⟨_, hlen, hcell⟩ := World.cells?_some h2
    obtain ⟨b, off, spot⟩ := a
    have hsp : spot = none := by
      obtain ⟨cs0, k2, _⟩ := hi 0 (by omega)
      obtain ⟨_, klen, kcell⟩ := World.cells?_some k2
      have kc := kcell 0 hce
      rw [Go.Deep.add_add, Nat.zero_mul, Nat.zero_add, show (⟨b, off, spot⟩ : Addr).add 0 = ⟨b, off, spot⟩ from rfl, List.getElem?_eq_getElem (by omega)] at kc
      exact World.cell?_spot kc
    subst hsp
    have hc0 := hcell 0 hce
    rw [Go.Deep.add_add, add_plain, List.getElem?_eq_getElem (by omega)] at hc0
    refine ⟨b, off, cs, D i, Pl i, n, rfl, block_lt_of_cell hc0, hlen, fun j hj => ?_, h3, fun q hq => ?_⟩
    · have := hcell j hj
      rw [Go.Deep.add_add, add_plain, ← Nat.add_assoc] at this
      exact this
    · simp only [Prod.mk.injEq] at hx
      rw [hx.1]
      simp only [DataW.weights, ht, List.mem_cons, List.mem_append]
      exact Or.inr (Or.inl (weightsAll_mem (List.mem_map.2 ⟨i, by simpa using hil, rfl⟩) q hq))
theorem open_cap {H : Type} {enc : TypeId × Value → H} {P : Program} {w : World} {t e : TypeId} {d : DataW H} {ps : List MemPlace} {a0 : Option Addr} {len cap : Nat}
    (ht : P.underlying t = some (.slice e)) (h : DataW.Trod enc P w 0 (fun _ => true) true t (.slice a0 len cap) d ps) : len ≤ cap ∧ cap ≤ maxLen := by
  obtain ⟨fuel, hf⟩ := h
  have hcs : (Value.slice a0 len cap).cells.toList = [.slice a0 len cap] := by simp [Value.cells]
  rw [hcs] at hf
  rcases Go.Deep.open_slice ht hf with ⟨h1, _⟩ | ⟨a, l, c, m, n, D, Pl, h1, _, hl, hm, hmm, hx, hi⟩
  · simp only [List.cons.injEq, Value.slice.injEq, and_true] at h1
    obtain ⟨rfl, rfl, rfl⟩ := h1
    exact ⟨Nat.le_refl _, by unfold maxLen; omega⟩
  · simp only [List.cons.injEq, Value.slice.injEq, and_true] at h1
    obtain ⟨rfl, rfl, rfl⟩ := h1
    have hmc : m = cap := by simpa using hmm
    omega
end Go.Proofs.YtbdkacfpeokggaaGreatDoor
