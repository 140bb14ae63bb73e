import Derived.Test.YtbdkacfpeokggaaY11
/- IdxFinds: the walk. -/
namespace Go.Proofs.Ytbdkacfpeokggaa
open Go.RowKit
set_option linter.unusedSimpArgs false
set_option linter.unusedVariables false
set_option maxHeartbeats 64000000 in
set_option maxRecDepth 100000 in
theorem finds13 (l : List Xe) (os : List ByteArray) (a ao : Option Addr) (n c no co : Nat) (t : UInt8) (w : World) (hX : XeL w a l) (hl : l.length = n) (hn : (n + 1) * 56 ≤ 140737488355328) (hN : NmL w ao os) (hol : os.length = no) (hno : no ≤ maxLen) :
    Calls Try.prog 3 #[.slice a n c, .slice ao no co, .int .u8 (t.toNat : Int)] w fun e w' => e = .returned (.bool true) ∧ Below w.heap.size w w' := by
  unfold maxLen at hno
  have HXL : Hid (XeL w a l) := hX
  have HL : Hid (l.length = n) := hl
  have HNL : Hid (NmL w ao os) := hN
  have HOL : Hid (os.length = no) := hol
  have HO := owns13 l a n c w hX hl hn
  obtain ⟨D, hD⟩ : ∃ D, idc (tid t) = D := ⟨_, rfl⟩
  obtain ⟨T, hT⟩ : ∃ T, (t.toNat : Int) = T := ⟨_, rfl⟩
  have HTT : Hid ((t.toNat : Int) = T) := hT
  have HT0 : 0 ≤ T ∧ T < 256 := by rw [← hT]; have := t.toNat_lt; omega
  have hbt : ∀ w, (Instr.build 30 #[(0, .int .u8 T)]).run Try.prog w = .ok (.agg D) w := fun w => by rw [← hD, ← hT]; exact build_tid t w
  have HDD : Hid (idc (tid t) = D) := hD
  rw [hT]
  clear hX hl hN hol hT hD
  go_enter Try.func3, Try.ntmps3
  go_wp2_with fail
  refine HO.mono ?_
  rintro e w1 ⟨g, cp, rfl, how, hcp, hb1⟩
  have HX1 : Hid (XeL w1 (some ⟨g, 0, none⟩) l ∧ Below w.heap.size w w1) := by
    have hids : ∀ e ∈ l ++ [mkX], e.id.size = 32 := fun e he => by
      rcases List.mem_append.1 he with he | he
      · exact HXL.out.ids e he
      · rw [List.mem_singleton.1 he]; exact mkX_id
    obtain ⟨a', c', hv, hx, _, _⟩ := own_xel how (by rw [List.length_append, HL.out, List.length_singleton]) hids
    injection hv with hv1 hv2 hv3
    rw [← hv1] at hx
    exact ⟨hx.front, hb1⟩
  have HBD : Hid (Calls Try.prog 5 #[.agg D, .slice (some ⟨g, 0, none⟩) n cp] w1 fun e w' => ∃ R, e = .returned (.tuple #[.string R, .int .i64 (bE l)]) ∧ BdX (tid t) l R ∧ Below w1.heap.size w1 w') := by
    rw [← HDD.out]
    exact ibuild_any sort_none (tid t) l _ n cp w1 (tid_size t) HX1.out.1 HL.out (.inr ⟨_, _, rfl⟩) (by omega)
  clear HO how hb1
  go_wp2_with (first
    | (refine wpList_bdX1 rfl 30 0 (.tmp 37) rfl (.int .u8 T) (.agg D) rfl (hbt _) ?_)
    | fail)
  refine HBD.out.mono ?_
  rintro e w2 ⟨R, rfl, hBX, hb2⟩
  have HBX : Hid (BdX (tid t) l R) := hBX
  have H2 : Hid (XeL w2 (some ⟨g, 0, none⟩) l ∧ Below w.heap.size w w2) := ⟨HX1.out.1.below hb2, HX1.out.2.trans (hb2.mono HX1.out.2.size)⟩
  clear hBX hb2 HBD HX1
  by_cases hE : bE l = 0
  · have HGD : Hid (GdX l) := bE_ok hE
    obtain ⟨L, hLp, hLi⟩ := HBX.out.ix (tid_size t) hE
    have HLP : Hid (L.Perm l) := hLp
    have HLI : Hid (IsIx R (tid t) L) := hLi
    have HE0 : Hid (bE l = 0) := hE
    rw [hE]
    clear hE hLp hLi
    go_wp2_with fail
    refine (open_any R w2 (isIx_le HLI.out)).mono ?_
    rintro e w3 ⟨hO, hb3⟩
    obtain ⟨gI, rfl, hI3⟩ := hO.yes HLI.out
    have H3 : Hid (FS w (some ⟨g, 0, none⟩) l ao os gI (tid t) L w3) := ⟨H2.out.1.below hb3, HNL.out.below (H2.out.2.trans (hb3.mono H2.out.2.size)), hI3, H2.out.2.trans (hb3.mono H2.out.2.size)⟩
    have hLn : L.length = n := by rw [HLP.out.length_eq]; exact HL.out
    have HLn : Hid (L.length = n) := hLn
    have hn6 : n ≤ 65536 := by rw [← HL.out]; exact HGD.out.len
    have HLen : Hid (Calls Try.prog 8 #[.pointer (some ⟨gI, 0, none⟩)] w3 fun e w' => e = .returned (.int .i64 (n : Int)) ∧ w' = w3) := by
      have := ilen_any gI (tid t) L w3 H3.out.ix
      rw [hLn] at this
      exact this
    have hPN : ∀ u, (Op.equalIn 10000 30 (.agg D) (.agg #[.int .u8 T, .int .u8 0, .int .u8 0, .int .u8 0, .int .u8 0, .int .u8 0, .int .u8 0, .int .u8 0, .int .u8 0, .int .u8 0, .int .u8 0, .int .u8 0, .int .u8 0, .int .u8 0, .int .u8 0, .int .u8 0, .int .u8 0, .int .u8 0, .int .u8 0, .int .u8 0, .int .u8 0, .int .u8 0, .int .u8 0, .int .u8 0, .int .u8 0, .int .u8 0, .int .u8 0, .int .u8 0, .int .u8 0, .int .u8 0, .int .u8 0, .int .u8 0])).run Try.prog u = .ok true u := fun u => by
      have e : #[.int .u8 T, .int .u8 0, .int .u8 0, .int .u8 0, .int .u8 0, .int .u8 0, .int .u8 0, .int .u8 0, .int .u8 0, .int .u8 0, .int .u8 0, .int .u8 0, .int .u8 0, .int .u8 0, .int .u8 0, .int .u8 0, .int .u8 0, .int .u8 0, .int .u8 0, .int .u8 0, .int .u8 0, .int .u8 0, .int .u8 0, .int .u8 0, .int .u8 0, .int .u8 0, .int .u8 0, .int .u8 0, .int .u8 0, .int .u8 0, .int .u8 0, .int .u8 0] = idc (tid t) := by rw [← HTT.out]; rfl
      rw [e, ← HDD.out, equalIn_ids _ _ (tid_size t) (tid_size t) u]; simp
    have HPK : Hid (Calls Try.prog 9 #[.pointer (some ⟨gI, 0, none⟩)] w3 fun e w' => e = .returned (.agg D) ∧ Below w3.heap.size w3 w') := by
      rw [← HDD.out]; exact pack_any gI (tid t) L w3 H3.out.ix
    clear hO hb3 hI3 H2 hLn
    go_wp2_with (first
      | (go_at_call 8; refine HLen.out.mono ?_; rintro e w4 ⟨rfl, hw4⟩; obtain rfl := hw4.symm)
      | (go_at_call 9; refine HPK.out.mono ?_; rintro e w5 ⟨rfl, hb5⟩; have H5 : Hid (FS w (some ⟨g, 0, none⟩) l ao os gI (tid t) L w5) := H3.out.next hb5; clear hb5)
      | (refine wpList_bdX1 rfl 30 0 (.tmp 75) rfl (.int .u8 T) (.agg D) rfl (hbt _) ?_)
      | fail)
    clear hPN HLen HPK H3
    go_loopw [12] (fun v wr => ∃ k : Nat, v = .int .i64 k ∧ k ≤ n ∧ Hid (FS w (some ⟨g, 0, none⟩) l ao os gI (tid t) L wr)) (fun v _ => n - (intOf v).toNat)
    case atStart => exact ⟨0, rfl, Nat.zero_le _, H5.out⟩
    case round =>
      obtain ⟨k, rfl, hk, HR⟩ := hrel
      clear H5
      by_cases hlt : k < n
      · have hkz : (k : Int) < (n : Nat) := by omega
        obtain ⟨e, he⟩ : ∃ e, l[k]? = some e := ⟨l[k]'(by rw [HL.out]; exact hlt), List.getElem?_eq_getElem _⟩
        obtain ⟨ga, oa, hgo, hga, h32, hcells⟩ := HR.out.xm.get he
        injection hgo with hgo
        injection hgo with hgo1 hgo2 hgo3
        subst hgo1
        subst hgo2
        have hfe : fnd L e.id = some e := by
          refine fnd_mem (HLI.out.2.1.ri.apart) (HLP.out.mem_iff.2 (List.mem_of_getElem? he))
        have HFD := find_any gI (tid t) e.id L wr HR.out.ix HLI.out.2.1.ri h32 (by rw [HLn.out]; omega)
        rw [hfe] at HFD
        have hNE : ∀ u, (binOp .neq 38 (.agg (xeC e)) (.agg (xeC e))).run Try.prog u = .ok (.bool false) u := fun u => by rw [neq_xe e e h32 h32 u, xeQ_self]; rfl
        obtain ⟨X, hXe⟩ : ∃ X, xeC e = X := ⟨_, rfl⟩
        obtain ⟨I, hI⟩ : ∃ I, idc e.id = I := ⟨_, rfl⟩
        have HFE : Hid (Calls Try.prog 10 #[.pointer (some ⟨gI, 0, none⟩), .agg I] wr fun r w' => r = .returned (.tuple #[.agg X, .int .i64 0]) ∧ Below wr.heap.size wr w') := by
          rw [← hI, ← hXe]; exact HFD
        have HIX : Hid ((Try.prog.info? 38).map (·.size) = some X.size ∧ X.all (·.oneCell') = true ∧ X.size = 35) := by rw [← hXe]; exact ⟨info_xe (xeC_size e h32), xeC_all e, xeC_size e h32⟩
        have HIi : Hid ((Try.prog.info? 30).map (·.size) = some I.toList.length) := by rw [← hI, Array.length_toList]; exact info_32 (by rw [idc_size, h32])
        have HCX : Hid (∀ W, Below wr.heap.size wr W → ∀ j v, X[j]? = some v → W.cell? ⟨g, 0 + k * 35 + j, none⟩ = some v) := fun W hW j v hv => by
          rw [hW.cell hga]; exact hcells j v (by rw [hXe]; exact hv)
        have HCI : Hid (∀ j v, I[j]? = some v → wr.cell? ⟨g, 0 + k * 35 + j, none⟩ = some v) := fun j v hv => hcells j v (by have := xeC_id e h32 j v (by rw [hI]; exact hv); rwa [Nat.zero_add] at this)
        rw [Nat.zero_add] at HCX HCI
        rw [hXe] at hNE
        clear hcells hXe hI HFD hfe he h32
        go_wp2_with (first
          | (refine wpList_load_mid rfl 30 (.tmp 90) rfl g (k * 35) rfl I.toList _ (fun j v hv => HCI.out j v (by rwa [Array.getElem?_toList] at hv)) Try.underlying30 rfl HIi.out ?_)
          | (go_at_call 10; refine HFE.out.mono ?_; rintro r w6 ⟨rfl, hb6⟩; have R6 : Hid (Below wr.heap.size wr w6) := hb6; clear hb6)
          | (refine wpList_store_new rfl 38 (.tmp 13) (.tmp 93) rfl X _ 38 w6.heap.size rfl rfl rfl HIX.out.1 (by rw [HIX.out.2.2]; rfl) HIX.out.2.1 ?_)
          | fail)
        have C7 : Hid (∀ W, MbS w6 X W → Below wr.heap.size wr W) := fun W hW => R6.out.trans (hW.bel.mono R6.out.size)
        have HC7 : Hid (∀ W, MbS w6 X W → ∀ j v, X[j]? = some v → W.cell? ⟨g, k * 35 + j, none⟩ = some v) := fun W hW => HCX.out W (C7.out W hW)
        refine region_class10 (MbS w6 X) (by kernel_rfl) (by kernel_rfl) ⟨bk_new _ _ _, ((Below.refl _ _).alloc (Nat.le_refl _) _).drew⟩ ?_
        try simp only [Act.put, List.setIfInBounds_toArray, List.set_cons_zero, List.set_cons_succ]
        repeat (first
          | go_big_quiet_skip
          | (go_big_quiet_want
             first
               | (refine quiet_row 38 _ rfl w6.heap.size 0 X X 38 _ rfl (fun _ h => h.bx) (fun j v hv => by rw [Nat.zero_add]; exact hv) Try.underlying38 rfl HIX.out.1 ?_; go_big_quiet_on; simp only [Act.put, List.setIfInBounds_toArray, List.set_cons_zero, List.set_cons_succ])
               | (refine quiet_rowc 38 _ rfl g (k * 35) X _ rfl HC7.out Try.underlying38 rfl HIX.out.1 ?_; go_big_quiet_on; simp only [Act.put, List.setIfInBounds_toArray, List.set_cons_zero, List.set_cons_succ])
               | (refine quiet_val10 (.pointer (some ⟨g, k * 35, none⟩)) ?_ ?_; (focus (intro W hW; go_simp; done)); go_big_quiet_on; simp only [Act.put, List.setIfInBounds_toArray, List.set_cons_zero, List.set_cons_succ])
               | (refine quiet_val10 (.bool false) ?_ ?_; (focus (intro W hW; go_simp; done)); go_big_quiet_on; simp only [Act.put, List.setIfInBounds_toArray, List.set_cons_zero, List.set_cons_succ])
               | (go_big_quiet_op; go_big_quiet_on)))
        refine wpQuiet_nil ?_
        intro w9 hw9
        have H9 : Hid (FS w (some ⟨g, 0, none⟩) l ao os gI (tid t) L w9) := HR.out.next (C7.out w9 hw9)
        clear hw9 HR HC7 C7 R6 HCX HCI hNE
        go_wp2
        go_roundw
        case rel => exact ⟨k + 1, by go_num, by omega, H9.out⟩
        case measure => simp [intOf]; omega
      · have hkz : ¬ (k : Int) < (n : Nat) := by omega
        clear hlt hk
        go_wp2
        go_loopw [15] (fun v wr => ∃ k : Nat, v = .int .i64 k ∧ k ≤ no ∧ Hid (FS w (some ⟨g, 0, none⟩) l ao os gI (tid t) L wr)) (fun v _ => no - (intOf v).toNat)
        case atStart => exact ⟨0, rfl, Nat.zero_le _, HR.out⟩
        case round =>
          clear HR hkz
          obtain ⟨i, rfl, hi, HR⟩ := hrel
          by_cases hlt : i < no
          · have hiz : (i : Int) < (no : Nat) := by omega
            have HLT : Hid (i < no) := hlt
            obtain ⟨o, ho⟩ : ∃ o, os[i]? = some o := ⟨os[i]'(by rw [HOL.out]; exact hlt), List.getElem?_eq_getElem _⟩
            obtain ⟨gb, ob, rfl, hgb, ho32, hocell⟩ := HR.out.no.get ho
            obtain ⟨V, E, hVE, hV1, hV2, hVc⟩ : ∃ V E, fdV (fnd L o) = .tuple #[.agg V, .int .i64 E] ∧ V.size = 35 ∧ V.all (·.oneCell') = true ∧ ((E = 0 ∧ anyX l o = true) ∨ (E = 6 ∧ anyX l o = false)) := by
              have hany := anyX_fnd HLP.out o
              cases q : fnd L o with
              | none => rw [q] at hany; exact ⟨z35X, 6, rfl, rfl, z35_all, .inr ⟨rfl, hany⟩⟩
              | some d =>
                rw [q] at hany
                have hd := HLI.out.2.1.id d (fnd_some q).1
                exact ⟨xeC d, 0, rfl, xeC_size d hd, xeC_all d, .inl ⟨rfl, hany⟩⟩
            obtain ⟨O, hO⟩ : ∃ O, idc o = O := ⟨_, rfl⟩
            have HFE : Hid (∀ W, FS w (some ⟨g, 0, none⟩) l (some ⟨gb, ob, none⟩) os gI (tid t) L W → Calls Try.prog 10 #[.pointer (some ⟨gI, 0, none⟩), .agg O] W fun r w' => r = .returned (.tuple #[.agg V, .int .i64 E]) ∧ Below W.heap.size W w') := fun W hW => by
              have := find_any gI (tid t) o L W hW.ix HLI.out.2.1.ri ho32 (by rw [HLn.out]; omega)
              rw [hVE, hO] at this
              exact this
            have HIV : Hid ((Try.prog.info? 38).map (·.size) = some V.size ∧ V.all (·.oneCell') = true ∧ V.size = 35) := ⟨info_xe hV1, hV2, hV1⟩
            have HIO : Hid ((Try.prog.info? 30).map (·.size) = some O.size ∧ (Try.prog.info? 30).map (·.size) = some O.toList.length) := by rw [← hO, Array.length_toList]; exact ⟨info_32 (by rw [idc_size, ho32]), info_32 (by rw [idc_size, ho32])⟩
            have HCO : Hid (∀ W, Below wr.heap.size wr W → ∀ j v, O[j]? = some v → W.cell? ⟨gb, ob + i * 32 + j, none⟩ = some v) := fun W hW j v hv => by
              rw [hW.cell hgb]; exact hocell j v (by rw [hO]; exact hv)
            have HEQ : Hid (∀ e : Xe, e.id.size = 32 → ∀ u, (binOp .eql 30 (.agg (idc e.id)) (.agg O)).run Try.prog u = .ok (.bool (decide (e.id = o))) u) := fun e he u => by rw [← hO]; exact eql_ids e.id o he ho32 u
            have HVC : Hid ((E = 0 ∧ anyX l o = true) ∨ (E = 6 ∧ anyX l o = false)) := hVc
            have HW0 : Hid (Below wr.heap.size wr wr) := Below.refl _ _
            obtain ⟨wo, hwo⟩ : ∃ wo, wo = wr := ⟨_, rfl⟩
            rw [← hwo] at HCO HW0
            clear hVE hV1 hV2 hVc hO ho32 hocell ho
            go_wp2
            go_loopw [16, 17] (fun v16 v17 wr => ∃ m : Nat, v17 = .int .i64 m ∧ m ≤ n ∧ v16 = .bool (anyX (l.take m) o) ∧ Hid (FS w (some ⟨g, 0, none⟩) l (some ⟨gb, ob, none⟩) os gI (tid t) L wr ∧ Below wo.heap.size wo wr)) (fun v16 v17 _ => n - (intOf v17).toNat)
            case atStart => exact ⟨0, rfl, Nat.zero_le _, rfl, HR.out, (by rw [hwo]; exact Below.refl _ _)⟩
            case round =>
              clear HR HW0 hwo
              obtain ⟨m, rfl, hm, rfl, HR⟩ := hrel
              by_cases hlm : m < n
              · have hmz : (m : Int) < (n : Nat) := by omega
                obtain ⟨e, he⟩ : ∃ e, l[m]? = some e := ⟨l[m]'(by rw [HL.out]; exact hlm), List.getElem?_eq_getElem _⟩
                obtain ⟨ga, oa, hgo, hga, h32, hcells⟩ := HR.out.1.xm.get he
                injection hgo with hgo
                injection hgo with hgo1 hgo2 hgo3
                subst hgo1
                subst hgo2
                have hEQ := HEQ.out e h32
                obtain ⟨I, hI⟩ : ∃ I, idc e.id = I := ⟨_, rfl⟩
                have HII : Hid ((Try.prog.info? 30).map (·.size) = some I.size) := by rw [← hI]; exact info_32 (by rw [idc_size, h32])
                have HCI : Hid (∀ W, Below wr.heap.size wr W → ∀ j v, I[j]? = some v → W.cell? ⟨g, 0 + m * 35 + j, none⟩ = some v) := fun W hW j v hv => by
                  rw [hW.cell hga]; exact hcells j v (by have := xeC_id e h32 j v (by rw [hI]; exact hv); rwa [Nat.zero_add] at this)
                have HCO2 : Hid (∀ W, Below wr.heap.size wr W → ∀ j v, O[j]? = some v → W.cell? ⟨gb, ob + i * 32 + j, none⟩ = some v) := fun W hW => HCO.out W (HR.out.2.trans (hW.mono HR.out.2.size))
                rw [Nat.zero_add] at HCI
                rw [hI] at hEQ
                obtain ⟨B, hB⟩ : ∃ B, decide (e.id = o) = B := ⟨_, rfl⟩
                rw [hB] at hEQ
                have hst : anyX (l.take (m + 1)) o = (anyX (l.take m) o || B) := by rw [take_snocX he, anyX_snoc, hB]
                obtain ⟨Tb, hTb⟩ : ∃ Tb, anyX (l.take m) o = Tb := ⟨_, rfl⟩
                rw [hTb] at hst ⊢
                have HST : Hid (anyX (l.take (m + 1)) o = (Tb || B)) := hst
                clear hcells hI he h32 hB hst hTb
                cases Tb with
                | true =>
                  go_wp2
                  refine region_class10 (fun W => Below wr.heap.size wr W) (by kernel_rfl) (by kernel_rfl) ((Below.refl _ _).drew) ?_
                  try simp only [Act.put, List.setIfInBounds_toArray, List.set_cons_zero, List.set_cons_succ]
                  repeat (first
                    | go_big_quiet_skip
                    | (go_big_quiet_want
                       first
                         | (refine quiet_val10 (.bool true) ?_ ?_; (focus (intro W hW; go_simp; done)); go_big_quiet_on; simp only [Act.put, List.setIfInBounds_toArray, List.set_cons_zero, List.set_cons_succ])
                         | (go_big_quiet_op; go_big_quiet_on)))
                  refine wpQuiet_nil ?_
                  intro w9 hw9
                  have H9 : Hid (FS w (some ⟨g, 0, none⟩) l (some ⟨gb, ob, none⟩) os gI (tid t) L w9 ∧ Below wo.heap.size wo w9) := ⟨HR.out.1.next hw9, HR.out.2.trans (Below.mono hw9 HR.out.2.size)⟩
                  clear hw9 HR HCI HCO2 hEQ
                  go_wp2
                  go_roundw
                  case rel => exact ⟨m + 1, by go_num, by omega, by rw [HST.out]; rfl, H9.out⟩
                  case measure => simp [intOf]; omega
                | false =>
                  go_wp2
                  refine region_class10 (fun W => Below wr.heap.size wr W) (by kernel_rfl) (by kernel_rfl) ((Below.refl _ _).drew) ?_
                  try simp only [Act.put, List.setIfInBounds_toArray, List.set_cons_zero, List.set_cons_succ]
                  repeat (first
                    | go_big_quiet_skip
                    | (go_big_quiet_want
                       first
                         | (refine quiet_rowc 30 _ rfl g (m * 35) I _ rfl HCI.out Try.underlying30 rfl HII.out ?_; go_big_quiet_on; simp only [Act.put, List.setIfInBounds_toArray, List.set_cons_zero, List.set_cons_succ])
                         | (refine quiet_rowc 30 _ rfl gb (ob + i * 32) O _ rfl HCO2.out Try.underlying30 rfl HIO.out.1 ?_; go_big_quiet_on; simp only [Act.put, List.setIfInBounds_toArray, List.set_cons_zero, List.set_cons_succ])
                         | (refine quiet_val10 (.pointer (some ⟨g, m * 35, none⟩)) ?_ ?_; (focus (intro W hW; go_simp; done)); go_big_quiet_on; simp only [Act.put, List.setIfInBounds_toArray, List.set_cons_zero, List.set_cons_succ])
                         | (refine quiet_val10 (.pointer (some ⟨gb, ob + i * 32, none⟩)) ?_ ?_; (focus (intro W hW; go_simp; done)); go_big_quiet_on; simp only [Act.put, List.setIfInBounds_toArray, List.set_cons_zero, List.set_cons_succ])
                         | (refine quiet_val10 (.bool B) ?_ ?_; (focus (intro W hW; go_simp; done)); go_big_quiet_on; simp only [Act.put, List.setIfInBounds_toArray, List.set_cons_zero, List.set_cons_succ])
                         | (refine quiet_val10 (.bool false) ?_ ?_; (focus (intro W hW; go_simp; done)); go_big_quiet_on; simp only [Act.put, List.setIfInBounds_toArray, List.set_cons_zero, List.set_cons_succ])
                         | (go_big_quiet_op; go_big_quiet_on)))
                  refine wpQuiet_nil ?_
                  intro w9 hw9
                  have H9 : Hid (FS w (some ⟨g, 0, none⟩) l (some ⟨gb, ob, none⟩) os gI (tid t) L w9 ∧ Below wo.heap.size wo w9) := ⟨HR.out.1.next hw9, HR.out.2.trans (Below.mono hw9 HR.out.2.size)⟩
                  clear hw9 HR HCI HCO2 hEQ
                  go_wp2
                  go_roundw
                  case rel => exact ⟨m + 1, by go_num, by omega, by rw [HST.out]; rfl, H9.out⟩
                  case measure => simp [intOf]; omega
              · have hmz : ¬ (m : Int) < (n : Nat) := by omega
                obtain rfl : m = n := by omega
                have hxs : l.take m = l := List.take_of_length_le (by rw [HL.out]; omega)
                rw [hxs]
                obtain ⟨Tb, hTb⟩ : ∃ Tb, anyX l o = Tb := ⟨_, rfl⟩
                have hvc := HVC.out
                rw [hTb] at hvc ⊢
                have HCO3 : Hid (∀ j v, O[j]? = some v → wr.cell? ⟨gb, ob + i * 32 + j, none⟩ = some v) := HCO.out wr HR.out.2
                have HF3 : Hid (Calls Try.prog 10 #[.pointer (some ⟨gI, 0, none⟩), .agg O] wr fun r w' => r = .returned (.tuple #[.agg V, .int .i64 E]) ∧ Below wr.heap.size wr w') := HFE.out wr HR.out.1
                clear hxs hTb HVC HCO HEQ HFE
                rcases hvc with ⟨rfl, rfl⟩ | ⟨rfl, rfl⟩
                · go_wp2_with (first
                    | (refine wpList_load_mid rfl 30 (.tmp 134) rfl gb (ob + i * 32) rfl O.toList _ (fun j v hv => HCO3.out j v (by rwa [Array.getElem?_toList] at hv)) Try.underlying30 rfl HIO.out.2 ?_)
                    | (go_at_call 10; refine HF3.out.mono ?_; rintro r w6 ⟨rfl, hb6⟩; have R6 : Hid (FS w (some ⟨g, 0, none⟩) l (some ⟨gb, ob, none⟩) os gI (tid t) L w6) := HR.out.1.next hb6; clear hb6)
                    | (refine wpList_store_new rfl 38 (.tmp 18) (.tmp 137) rfl V _ 38 w6.heap.size rfl rfl rfl HIV.out.1 (by rw [HIV.out.2.2]; rfl) HIV.out.2.1 ?_)
                    | fail)
                  have R7 : Hid (FS w (some ⟨g, 0, none⟩) l (some ⟨gb, ob, none⟩) os gI (tid t) L (w6.alloc (.cells V 38))) := R6.out.next ((Below.refl _ _).alloc (Nat.le_refl _) _)
                  clear R6 HR HCO3 HF3
                  go_wp2
                  go_roundw
                  case rel => exact ⟨i + 1, by go_num, HLT.out, R7.out⟩
                  case measure => have := HLT.out; simp [intOf]; omega
                · go_wp2_with (first
                    | (refine wpList_load_mid rfl 30 (.tmp 134) rfl gb (ob + i * 32) rfl O.toList _ (fun j v hv => HCO3.out j v (by rwa [Array.getElem?_toList] at hv)) Try.underlying30 rfl HIO.out.2 ?_)
                    | (go_at_call 10; refine HF3.out.mono ?_; rintro r w6 ⟨rfl, hb6⟩; have R6 : Hid (FS w (some ⟨g, 0, none⟩) l (some ⟨gb, ob, none⟩) os gI (tid t) L w6) := HR.out.1.next hb6; clear hb6)
                    | (refine wpList_store_new rfl 38 (.tmp 18) (.tmp 137) rfl V _ 38 w6.heap.size rfl rfl rfl HIV.out.1 (by rw [HIV.out.2.2]; rfl) HIV.out.2.1 ?_)
                    | fail)
                  have R7 : Hid (FS w (some ⟨g, 0, none⟩) l (some ⟨gb, ob, none⟩) os gI (tid t) L (w6.alloc (.cells V 38))) := R6.out.next ((Below.refl _ _).alloc (Nat.le_refl _) _)
                  clear R6 HR HCO3 HF3
                  go_wp2
                  go_roundw
                  case rel => exact ⟨i + 1, by go_num, HLT.out, R7.out⟩
                  case measure => have := HLT.out; simp [intOf]; omega
          · have hiz : ¬ (i : Int) < (no : Nat) := by omega
            have hz0 : ((fanB L 0 : Nat) : Int) = 0 := by rw [fanB_zero]; rfl
            clear hlt hi
            go_wp2
            go_loopw [20, 21] (fun v20 v21 wr => ∃ b : Nat, v21 = .int .i64 b ∧ b ≤ 256 ∧ v20 = .int .i64 ((fanB L b : Nat) : Int) ∧ Hid (FS w (some ⟨g, 0, none⟩) l ao os gI (tid t) L wr)) (fun v20 v21 _ => 256 - (intOf v21).toNat)
            case atStart => exact ⟨0, rfl, by omega, by rw [hz0], HR.out⟩
            case round =>
              clear HR hz0 hiz
              obtain ⟨b, rfl, hb, rfl, HR⟩ := hrel
              by_cases hlb : b < 256
              · have hbz : (b : Int) < 256 := by omega
                have HLB : Hid (b < 256) := hlb
                have hwb : IntKind.u8.wrap (b : Int) = (b : Int) := by simp [IntKind.wrap, IntKind.bits, IntKind.signed]; omega
                obtain ⟨F, hF⟩ : ∃ F, fanB L b = F := ⟨_, rfl⟩
                obtain ⟨To, hTo⟩ : ∃ To, fanL L b = To := ⟨_, rfl⟩
                have hFT : F ≤ To := by rw [← hF, ← hTo]; exact fan_le L b
                have hTn : To ≤ n := by rw [← hTo, ← HLn.out]; exact fanL_le L b
                have HNX : Hid (fanB L (b + 1) = To) := by rw [fanB_succ]; exact hTo
                have HAT : Hid (∀ i e, L[i]? = some e → F ≤ i → i < To → f8 e.id = b) := fun i e he h1 h2 => at_first HLI.out.2.1.ri he (by rw [hF]; exact h1) (by rw [hTo]; exact h2)
                have HRG : Hid (Calls Try.prog 11 #[.pointer (some ⟨gI, 0, none⟩), .int .u8 (b : Int)] wr fun e w' => e = .returned (.tuple #[.int .i64 (F : Int), .int .i64 (To : Int)]) ∧ Below wr.heap.size wr w') := by
                  have := irange_any gI (tid t) L b hlb wr HR.out.ix
                  rw [hF, hTo] at this
                  exact this.mono fun e w' ⟨q1, q, q2⟩ => ⟨q1, by rw [q2]; exact blw_drewNx (Below.refl _ _) q⟩
                have hTF : ¬ To < F := by omega
                rw [hF]
                clear hF hTo
                go_wp2_with (first
                  | (go_at_call 11; refine HRG.out.mono ?_; rintro e w6 ⟨rfl, hb6⟩; have R6 : Hid (FS w (some ⟨g, 0, none⟩) l ao os gI (tid t) L w6) := HR.out.next hb6; clear hb6)
                  | fail)
                clear HR HRG
                go_loopw [24] (fun v wr => ∃ i : Nat, v = .int .i64 i ∧ F ≤ i ∧ i ≤ To ∧ Hid (FS w (some ⟨g, 0, none⟩) l ao os gI (tid t) L wr)) (fun v _ => To - (intOf v).toNat)
                case atStart => exact ⟨F, rfl, Nat.le_refl _, hFT, R6.out⟩
                case round =>
                  clear R6
                  obtain ⟨i, rfl, hFi, hiT, HR⟩ := hrel
                  by_cases hli : i < To
                  · have hiz : (i : Int) < (To : Int) := by omega
                    obtain ⟨e, he⟩ : ∃ e, L[i]? = some e := ⟨L[i]'(by rw [HLn.out]; omega), List.getElem?_eq_getElem _⟩
                    have h32 := HLI.out.2.1.id e (List.mem_of_getElem? he)
                    have hf8 := HAT.out i e he hFi hli
                    obtain ⟨X, hXe⟩ : ∃ X, xeC e = X := ⟨_, rfl⟩
                    have HAA : Hid (Calls Try.prog 12 #[.pointer (some ⟨gI, 0, none⟩), .int .i64 (i : Int)] wr fun r w' => r = .returned (.tuple #[.agg X, .int .i64 0]) ∧ Below wr.heap.size wr w') := by
                      rw [← hXe]; exact at_yes gI (tid t) L i e wr HR.out.ix he (by rw [HLn.out]; omega)
                    have HIX : Hid ((Try.prog.info? 38).map (·.size) = some X.size ∧ X.all (·.oneCell') = true ∧ X.size = 35) := by rw [← hXe]; exact ⟨info_xe (xeC_size e h32), xeC_all e, xeC_size e h32⟩
                    have HX0 : Hid (X[0]? = some (.int .u8 (b : Int))) := by
                      rw [← hXe]
                      have := fst8_cell e h32
                      rw [fst8_f8, hf8] at this
                      exact this
                    have HLI2 : Hid (i < To) := hli
                    clear he h32 hf8 hXe
                    go_wp2_with (first
                      | (go_at_call 12; refine HAA.out.mono ?_; rintro r w6 ⟨rfl, hb6⟩; have R6 : Hid (FS w (some ⟨g, 0, none⟩) l ao os gI (tid t) L (w6.alloc (.cells X 38))) := (HR.out.next hb6).next ((Below.refl _ _).alloc (Nat.le_refl _) _); have hc0 : (w6.alloc (.cells X 38)).cell? ⟨w6.heap.size, 0, none⟩ = some (.int .u8 (b : Int)) := (by rw [(bk_new w6 X 38).cell]; exact HX0.out); clear hb6)
                      | (refine wpList_store_new rfl 38 (.tmp 25) (.tmp 180) rfl X _ 38 w6.heap.size rfl rfl rfl HIX.out.1 (by rw [HIX.out.2.2]; rfl) HIX.out.2.1 ?_)
                      | fail)
                    clear HR HAA hc0
                    go_roundw
                    case rel => exact ⟨i + 1, by go_num, by omega, HLI2.out, R6.out⟩
                    case measure => have := HLI2.out; simp [intOf]; omega
                  · have hiz : ¬ (i : Int) < (To : Int) := by omega
                    go_wp2
                    go_roundw
                    case rel => exact ⟨b + 1, by go_num, HLB.out, by rw [HNX.out], HR.out⟩
                    case measure => have := HLB.out; simp [intOf]; omega
              · have hbz : ¬ (b : Int) < 256 := by omega
                obtain rfl : b = 256 := by omega
                have hfn : fanB L 256 = n := by rw [fanB_end]; exact HLn.out
                rw [hfn]
                have HAL : Hid (Calls Try.prog 13 #[.pointer (some ⟨gI, 0, none⟩)] wr fun e w' => ∃ va vc, e = .returned (.slice va n vc) ∧ XeL w' va L ∧ AdS va ∧ Below wr.heap.size wr w') := by
                  refine (iall_any gI (tid t) L wr HR.out.ix (by rw [HLn.out]; omega)).mono ?_
                  rintro e w' ⟨v, h1, h2, h3⟩
                  rw [HLn.out] at h2
                  obtain ⟨va, vc, q1, q2, q3, q4⟩ := own_xel h2 HLn.out HLI.out.2.1.id
                  exact ⟨va, vc, by rw [h1, q1], q2, (by rcases q4 with ⟨q, _⟩ | ⟨q, q5, _⟩; exact .inl q; exact .inr ⟨q, 0, q5⟩), h3⟩
                clear hfn hb hlb
                go_wp2_with (first
                  | (go_at_call 13; refine HAL.out.mono ?_; rintro e w6 ⟨va, vc, rfl, hx6, hA6, hb6⟩; have R6 : Hid (FS w (some ⟨g, 0, none⟩) l ao os gI (tid t) L w6 ∧ XeL w6 va L ∧ AdS va) := ⟨HR.out.next hb6, hx6, hA6⟩; clear hb6 hx6 hA6)
                  | fail)
                clear HR HAL
                have hone : (1 : Nat) ≤ 1 := Nat.le_refl _
                go_loopw [28] (fun v wr => ∃ k : Nat, v = .int .i64 k ∧ 1 ≤ k ∧ (k ≤ n ∨ k = 1) ∧ Hid (FS w (some ⟨g, 0, none⟩) l ao os gI (tid t) L wr ∧ XeL wr va L ∧ AdS va)) (fun v _ => n - (intOf v).toNat)
                case atStart => exact ⟨1, rfl, Nat.le_refl _, .inr rfl, R6.out⟩
                case round =>
                  clear R6 hone
                  obtain ⟨k, rfl, hk1, hkn, HR⟩ := hrel
                  by_cases hlk : k < n
                  · obtain ⟨d, rfl⟩ : ∃ d, k = d + 1 := ⟨k - 1, by omega⟩
                    obtain ⟨e, he⟩ : ∃ e, L[d + 1]? = some e := ⟨L[d + 1]'(by rw [HLn.out]; exact hlk), List.getElem?_eq_getElem _⟩
                    obtain ⟨p, hp⟩ : ∃ p, L[d]? = some p := ⟨L[d]'(by rw [HLn.out]; omega), List.getElem?_eq_getElem _⟩
                    obtain ⟨gv, ov, rfl, hgv, h32, hcells⟩ := HR.out.2.1.get he
                    obtain ⟨gv', ov', hgo, hgv', h32', hcells'⟩ := HR.out.2.1.get hp
                    injection hgo with hgo
                    injection hgo with hgo1 hgo2 hgo3
                    subst hgo1
                    subst hgo2
                    have hlt : ltN p.id e.id = true := by
                      obtain ⟨q1, rfl⟩ := List.getElem?_eq_some_iff.1 he
                      obtain ⟨q2, rfl⟩ := List.getElem?_eq_some_iff.1 hp
                      exact List.pairwise_iff_getElem.1 HLI.out.2.1.ri d (d + 1) q2 q1 (by omega)
                    obtain ⟨I, hI⟩ : ∃ I, idc e.id = I := ⟨_, rfl⟩
                    obtain ⟨J, hJ⟩ : ∃ J, idc p.id = J := ⟨_, rfl⟩
                    have HII : Hid ((Try.prog.info? 30).map (·.size) = some I.size ∧ (Try.prog.info? 30).map (·.size) = some J.size) := by rw [← hI, ← hJ]; exact ⟨info_32 (by rw [idc_size, h32]), info_32 (by rw [idc_size, h32'])⟩
                    have HCI : Hid (∀ W, Below wr.heap.size wr W → ∀ j v, I[j]? = some v → W.cell? ⟨gv, ov + (d + 1) * 35 + j, none⟩ = some v) := fun W hW j v hv => by
                      rw [hW.cell hgv]; exact hcells j v (by have := xeC_id e h32 j v (by rw [hI]; exact hv); rwa [Nat.zero_add] at this)
                    have HCJ : Hid (∀ W, Below wr.heap.size wr W → ∀ j v, J[j]? = some v → W.cell? ⟨gv, ov + d * 35 + j, none⟩ = some v) := fun W hW j v hv => by
                      rw [hW.cell hgv']; exact hcells' j v (by have := xeC_id p h32' j v (by rw [hJ]; exact hv); rwa [Nat.zero_add] at this)
                    have HLS : Hid (∀ W, Below wr.heap.size wr W → Calls Try.prog 14 #[.agg J, .agg I] W fun r w' => r = .returned (.bool true) ∧ Below wr.heap.size wr w') := fun W hW => by
                      rw [← hI, ← hJ]
                      have := less_grow p.id e.id W h32' h32
                      rw [hlt] at this
                      exact this.mono fun r w' ⟨q1, q2⟩ => ⟨q1, Below.trans hW ((Grw.below q2).mono (Below.size hW))⟩
                    obtain ⟨f, hf⟩ : ∃ f, d + 1 = f := ⟨_, rfl⟩
                    have h4 : (f : Int) - 1 = d := by omega
                    have h6 : (0 : Int) ≤ d := by omega
                    have h7n : d < n := by omega
                    have h7 : (d : Int) < (n : Nat) := by omega
                    have h8n : f < n := by omega
                    have h8 : (f : Int) < (n : Nat) := by omega
                    have h9 : (0 : Int) ≤ f := by omega
                    have hwr : IntKind.i64.wrap (d : Int) = (d : Int) := by rw [IntKind.wrap_i64]; omega
                    have HLK : Hid (f < n ∧ d + 1 = f) := ⟨h8n, hf⟩
                    clear he hp hcells hcells' hlt hI hJ h32 h32' hlk hk1 hkn
                    rw [hf] at HCI ⊢
                    clear hf
                    go_wp2
                    refine region_class10 (fun W => Below wr.heap.size wr W) (by kernel_rfl) (by kernel_rfl) ((Below.refl _ _).drew) ?_
                    try simp only [Act.put, List.setIfInBounds_toArray, List.set_cons_zero, List.set_cons_succ]
                    repeat (first
                      | go_big_quiet_skip
                      | (go_big_quiet_want
                         first
                           | (refine quiet_rowc 30 _ rfl gv (ov + f * 35) I _ rfl HCI.out Try.underlying30 rfl HII.out.1 ?_; go_big_quiet_on; simp only [Act.put, List.setIfInBounds_toArray, List.set_cons_zero, List.set_cons_succ])
                           | (refine quiet_rowc 30 _ rfl gv (ov + d * 35) J _ rfl HCJ.out Try.underlying30 rfl HII.out.2 ?_; go_big_quiet_on; simp only [Act.put, List.setIfInBounds_toArray, List.set_cons_zero, List.set_cons_succ])
                           | (refine quiet_call10 (.bool true) 14 #[.agg J, .agg I] ?_ ?_ ?_; (focus (intro W hW; go_simp; done)); (focus (intro W hW; exact HLS.out W hW)); go_big_quiet_on; simp only [Act.put, List.setIfInBounds_toArray, List.set_cons_zero, List.set_cons_succ])
                           | (refine quiet_val10 (.int .i64 (d : Int)) ?_ ?_; (focus (intro W hW; go_simp; done)); go_big_quiet_on; simp only [Act.put, List.setIfInBounds_toArray, List.set_cons_zero, List.set_cons_succ])
                           | (refine quiet_val10 (.pointer (some ⟨gv, ov + d * 35, none⟩)) ?_ ?_; (focus (intro W hW; go_simp; done)); go_big_quiet_on; simp only [Act.put, List.setIfInBounds_toArray, List.set_cons_zero, List.set_cons_succ])
                           | (refine quiet_val10 (.pointer (some ⟨gv, ov + f * 35, none⟩)) ?_ ?_; (focus (intro W hW; go_simp; done)); go_big_quiet_on; simp only [Act.put, List.setIfInBounds_toArray, List.set_cons_zero, List.set_cons_succ])
                           | (refine quiet_val10 (.bool false) ?_ ?_; (focus (intro W hW; go_simp; done)); go_big_quiet_on; simp only [Act.put, List.setIfInBounds_toArray, List.set_cons_zero, List.set_cons_succ])
                           | (go_big_quiet_op; go_big_quiet_on)))
                    refine wpQuiet_nil ?_
                    intro w9 hw9
                    have H9 : Hid (FS w (some ⟨g, 0, none⟩) l ao os gI (tid t) L w9 ∧ XeL w9 (some ⟨gv, ov, none⟩) L ∧ AdS (some ⟨gv, ov, none⟩)) := ⟨HR.out.1.next hw9, HR.out.2.1.below hw9, HR.out.2.2⟩
                    clear hw9 HR HCI HCJ HLS h4
                    go_wp2
                    go_roundw
                    case rel => exact ⟨f + 1, by go_num, by omega, .inl HLK.out.1, H9.out⟩
                    case measure => have := HLK.out; simp [intOf]; omega
                  · have hlz : ¬ (k : Int) < (n : Nat) := by omega
                    have HBD2 : Hid (Calls Try.prog 5 #[.agg D, .slice va n vc] wr fun e w' => e = .returned (.tuple #[.string R, .int .i64 0]) ∧ Below wr.heap.size wr w') := by
                      have hg0 : bE L = 0 := (HGD.out.perm HLP.out.symm).bE
                      rw [← HDD.out]
                      refine (ibuild_any sort_none (tid t) L va n vc wr (tid_size t) HR.out.2.1 HLn.out HR.out.2.2 (by omega)).mono ?_
                      rintro e w' ⟨R2, h1, h2, h3⟩
                      have := same_ix HLI.out HLP.out h2 hg0 HLP.out
                      rw [this] at h1
                      exact ⟨by rw [h1, hg0], h3⟩
                    clear hlk hkn
                    obtain ⟨kk, hkk⟩ : ∃ kk : Nat, kk = if n = 0 then 0 else t.toNat % n := ⟨_, rfl⟩
                    have hkn2 : kk ≤ n := by
                      rw [hkk]; split
                      · omega
                      · exact Nat.le_of_lt (Nat.mod_lt _ (by omega))
                    by_cases hn0 : n = 0
                    · subst hn0
                      clear hkk hkn2
                      go_wp2_with (first
                        | (refine wpList_bdX1 rfl 30 0 (.tmp 215) rfl (.int .u8 T) (.agg D) rfl (hbt _) ?_)
                        | (go_at_call 5; refine HBD2.out.mono ?_; rintro e w6 ⟨rfl, hb6⟩; have R6 : Hid (FS w (some ⟨g, 0, none⟩) l ao os gI (tid t) L w6) := HR.out.1.next hb6; clear hb6)
                        | fail)
                      have hrr := rot_run w6.drew g 0 cp 0 l (R6.out.xm.below ((Below.refl _ _).drew)) HL.out (Nat.zero_le _) (by omega) cp cp
                      simp only [Nat.zero_mul, Nat.sub_zero] at hrr
                      obtain ⟨a1, k1, w7, a8, k8, w8, hrun1, hrun2, hX8, hA8, hb8⟩ := hrr
                      have hbs := bs_none
                      have hne : ¬ cp = 0 := by omega
                      have HB8 : Hid (Calls Try.prog 5 #[.agg #[.int .u8 T, .int .u8 0, .int .u8 0, .int .u8 0, .int .u8 0, .int .u8 0, .int .u8 0, .int .u8 0, .int .u8 0, .int .u8 0, .int .u8 0, .int .u8 0, .int .u8 0, .int .u8 0, .int .u8 0, .int .u8 0, .int .u8 0, .int .u8 0, .int .u8 0, .int .u8 0, .int .u8 0, .int .u8 0, .int .u8 0, .int .u8 0, .int .u8 0, .int .u8 0, .int .u8 0, .int .u8 0, .int .u8 0, .int .u8 0, .int .u8 0, .int .u8 0], .slice a8 0 k8] w8 fun e w' => e = .returned (.tuple #[.string R, .int .i64 0]) ∧ Below w8.heap.size w8 w') := by
                        have hg0 : bE (l.drop 0 ++ l.take 0) = 0 := (HGD.out.perm (rot_perm l 0).symm).bE
                        have e : #[.int .u8 T, .int .u8 0, .int .u8 0, .int .u8 0, .int .u8 0, .int .u8 0, .int .u8 0, .int .u8 0, .int .u8 0, .int .u8 0, .int .u8 0, .int .u8 0, .int .u8 0, .int .u8 0, .int .u8 0, .int .u8 0, .int .u8 0, .int .u8 0, .int .u8 0, .int .u8 0, .int .u8 0, .int .u8 0, .int .u8 0, .int .u8 0, .int .u8 0, .int .u8 0, .int .u8 0, .int .u8 0, .int .u8 0, .int .u8 0, .int .u8 0, .int .u8 0] = idc (tid t) := by rw [← HTT.out]; rfl
                        rw [e]
                        refine (ibuild_any sort_none (tid t) (l.drop 0 ++ l.take 0) a8 0 k8 w8 (tid_size t) hX8 (by rw [(rot_perm l 0).length_eq]; exact HL.out) hA8 (by omega)).mono ?_
                        rintro e w' ⟨R2, h1, h2, h3⟩
                        have := same_ix HLI.out HLP.out h2 hg0 (rot_perm l 0)
                        rw [this] at h1
                        exact ⟨by rw [h1, hg0], h3⟩
                      have HZ8 : Hid (Below w.heap.size w w8) := R6.out.bel.trans ((((Below.refl _ _).drew).trans hb8).mono R6.out.bel.size)
                      clear hX8 hA8 hb8 HBD2
                      go_region_law (first
                        | (refine step_app_run (by rfl) _ _ _ _ (by rfl) (.slice (some ⟨w6.heap.size, 0, none⟩) 0 0) (.slice (some ⟨g, 0, none⟩) 0 cp) (.slice a1 0 k1) w7 (by rfl) (by rfl) hrun1 ?_)
                        | (refine step_app_run (by rfl) _ _ _ _ (by rfl) (.slice a1 0 k1) (.slice (some ⟨g, 0, none⟩) 0 cp) (.slice a8 0 k8) w8 (by rfl) (by rfl) hrun2 ?_)
                        | (refine step_call13 (by rfl) 5 #[.agg #[.int .u8 T, .int .u8 0, .int .u8 0, .int .u8 0, .int .u8 0, .int .u8 0, .int .u8 0, .int .u8 0, .int .u8 0, .int .u8 0, .int .u8 0, .int .u8 0, .int .u8 0, .int .u8 0, .int .u8 0, .int .u8 0, .int .u8 0, .int .u8 0, .int .u8 0, .int .u8 0, .int .u8 0, .int .u8 0, .int .u8 0, .int .u8 0, .int .u8 0, .int .u8 0, .int .u8 0, .int .u8 0, .int .u8 0, .int .u8 0, .int .u8 0, .int .u8 0], .slice a8 0 k8] (.tuple #[.string R, .int .i64 0]) (fun w' => Below w8.heap.size w8 w') (by go_simp) HB8.out ?_; intro w9 hb9))
                      simp only [Act.put, List.setIfInBounds_toArray, List.set_cons_zero, List.set_cons_succ]
                      have H9 : Hid (Below w.heap.size w w9) := HZ8.out.trans (Below.mono hb9 HZ8.out.size)
                      clear hb9 HB8 HZ8 hrun1 hrun2 hbs R6
                      go_wp2_with (first
                        | (go_at_call 6; refine (awake13 _).mono ?_; rintro e w10 ⟨rfl, hb10⟩)
                        | fail)
                      go_ret
                      exact ⟨rfl, H9.out.trans (hb10.mono H9.out.size)⟩
                    · have hpos : 0 < n := by omega
                      have hkl : kk < n := by rw [hkk, if_neg hn0]; exact Nat.mod_lt _ hpos
                      have hrem : T % (n : Int) = (kk : Int) := by
                        rw [hkk, if_neg hn0, ← HTT.out]; exact (Int.natCast_emod _ _).symm
                      have hwT : IntKind.i64.wrap T = T := by rw [IntKind.wrap_i64]; have := HT0; omega
                      clear hkk hn0
                      go_wp2_with (first
                        | (refine wpList_bdX1 rfl 30 0 (.tmp 215) rfl (.int .u8 T) (.agg D) rfl (hbt _) ?_)
                        | (go_at_call 5; refine HBD2.out.mono ?_; rintro e w6 ⟨rfl, hb6⟩; have R6 : Hid (FS w (some ⟨g, 0, none⟩) l ao os gI (tid t) L w6) := HR.out.1.next hb6; clear hb6)
                        | fail)
                      try rw [hrem]
                      clear hrem
                      obtain ⟨a1, k1, w7, a8, k8, w8, hrun1, hrun2, hX8, hA8, hb8⟩ := rot_run w6.drew g n cp kk l (R6.out.xm.below ((Below.refl _ _).drew)) HL.out hkn2 hn6 (cp - kk) cp
                      have hbs := bs_none
                      have hne : ¬ cp = kk := by omega
                      have hkz2 : (kk : Int) ≤ (n : Int) := by omega
                      have hkc : (kk : Int) ≤ (cp : Int) := by omega
                      have HB8 : Hid (Calls Try.prog 5 #[.agg #[.int .u8 T, .int .u8 0, .int .u8 0, .int .u8 0, .int .u8 0, .int .u8 0, .int .u8 0, .int .u8 0, .int .u8 0, .int .u8 0, .int .u8 0, .int .u8 0, .int .u8 0, .int .u8 0, .int .u8 0, .int .u8 0, .int .u8 0, .int .u8 0, .int .u8 0, .int .u8 0, .int .u8 0, .int .u8 0, .int .u8 0, .int .u8 0, .int .u8 0, .int .u8 0, .int .u8 0, .int .u8 0, .int .u8 0, .int .u8 0, .int .u8 0, .int .u8 0], .slice a8 n k8] w8 fun e w' => e = .returned (.tuple #[.string R, .int .i64 0]) ∧ Below w8.heap.size w8 w') := by
                        have hg0 : bE (l.drop kk ++ l.take kk) = 0 := (HGD.out.perm (rot_perm l kk).symm).bE
                        have e : #[.int .u8 T, .int .u8 0, .int .u8 0, .int .u8 0, .int .u8 0, .int .u8 0, .int .u8 0, .int .u8 0, .int .u8 0, .int .u8 0, .int .u8 0, .int .u8 0, .int .u8 0, .int .u8 0, .int .u8 0, .int .u8 0, .int .u8 0, .int .u8 0, .int .u8 0, .int .u8 0, .int .u8 0, .int .u8 0, .int .u8 0, .int .u8 0, .int .u8 0, .int .u8 0, .int .u8 0, .int .u8 0, .int .u8 0, .int .u8 0, .int .u8 0, .int .u8 0] = idc (tid t) := by rw [← HTT.out]; rfl
                        rw [e]
                        refine (ibuild_any sort_none (tid t) (l.drop kk ++ l.take kk) a8 n k8 w8 (tid_size t) hX8 (by rw [(rot_perm l kk).length_eq]; exact HL.out) hA8 (by omega)).mono ?_
                        rintro e w' ⟨R2, h1, h2, h3⟩
                        have := same_ix HLI.out HLP.out h2 hg0 (rot_perm l kk)
                        rw [this] at h1
                        exact ⟨by rw [h1, hg0], h3⟩
                      have HZ8 : Hid (Below w.heap.size w w8) := R6.out.bel.trans ((((Below.refl _ _).drew).trans hb8).mono R6.out.bel.size)
                      clear hX8 hA8 hb8 HBD2
                      go_region_law (first
                        | (refine step_app_run (by rfl) _ _ _ _ (by rfl) (.slice (some ⟨w6.heap.size, 0, none⟩) 0 0) (.slice (some ⟨g, kk * 35, none⟩) (n - kk) (cp - kk)) (.slice a1 (n - kk) k1) w7 (by rfl) (by rfl) hrun1 ?_)
                        | (refine step_app_run (by rfl) _ _ _ _ (by rfl) (.slice a1 (n - kk) k1) (.slice (some ⟨g, 0, none⟩) kk cp) (.slice a8 n k8) w8 (by rfl) (by rfl) hrun2 ?_)
                        | (refine step_call13 (by rfl) 5 #[.agg #[.int .u8 T, .int .u8 0, .int .u8 0, .int .u8 0, .int .u8 0, .int .u8 0, .int .u8 0, .int .u8 0, .int .u8 0, .int .u8 0, .int .u8 0, .int .u8 0, .int .u8 0, .int .u8 0, .int .u8 0, .int .u8 0, .int .u8 0, .int .u8 0, .int .u8 0, .int .u8 0, .int .u8 0, .int .u8 0, .int .u8 0, .int .u8 0, .int .u8 0, .int .u8 0, .int .u8 0, .int .u8 0, .int .u8 0, .int .u8 0, .int .u8 0, .int .u8 0], .slice a8 n k8] (.tuple #[.string R, .int .i64 0]) (fun w' => Below w8.heap.size w8 w') (by go_simp) HB8.out ?_; intro w9 hb9))
                      simp only [Act.put, List.setIfInBounds_toArray, List.set_cons_zero, List.set_cons_succ]
                      have H9 : Hid (Below w.heap.size w w9) := HZ8.out.trans (Below.mono hb9 HZ8.out.size)
                      clear hb9 HB8 HZ8 hrun1 hrun2 hbs R6
                      go_wp2_with (first
                        | (go_at_call 6; refine (awake13 _).mono ?_; rintro e w10 ⟨rfl, hb10⟩)
                        | fail)
                      go_ret
                      exact ⟨rfl, H9.out.trans (hb10.mono H9.out.size)⟩
  · have hB1 := bE_cases l
    obtain ⟨E, hEE⟩ : ∃ E, bE l = E := ⟨_, rfl⟩
    have hR := HBX.out.1 hE
    subst hR
    rw [hEE] at hB1 hE ⊢
    have hE2 : E = 1 ∨ E = 7 := by omega
    clear hB1 hEE
    rcases hE2 with rfl | rfl
    · go_wp2_with (first
        | (go_at_call 6; refine (awake13 _).mono ?_; rintro e w6 ⟨rfl, hb6⟩)
        | fail)
      go_ret
      exact ⟨rfl, H2.out.2.trans (hb6.mono H2.out.2.size)⟩
    · go_wp2_with (first
        | (go_at_call 6; refine (awake13 _).mono ?_; rintro e w6 ⟨rfl, hb6⟩)
        | fail)
      go_ret
      exact ⟨rfl, H2.out.2.trans (hb6.mono H2.out.2.size)⟩
end Go.Proofs.Ytbdkacfpeokggaa
