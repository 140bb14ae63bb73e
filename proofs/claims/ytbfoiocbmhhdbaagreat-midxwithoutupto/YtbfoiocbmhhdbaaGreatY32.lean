import Derived.Test.YtbfoiocbmhhdbaaGreatY29
import Derived.Test.YtbfoiocbmhhdbaaGreatY26
/- MidxOne: the walk. -/
namespace Go.Proofs.YtbfoiocbmhhdbaaGreat
open Go.RowKit
set_option linter.unusedSimpArgs false
set_option linter.unusedVariables false
/-- The pack, as it was changed. -/
structure OnS (w : World) (s : ByteArray) (a : Option Addr) (n c : Nat) (W : World) : Prop where
  bk : Bk W w.heap.size #[.string s, .slice a n c, .string ⟨#[]⟩] 41
  bel : Below w.heap.size w W
theorem OnS.next {w W W' : World} {s : ByteArray} {a : Option Addr} {n c : Nat} (h : OnS w s a n c W) (hb : Below W.heap.size W W') : OnS w s a n c W' := ⟨h.bk.below hb h.bk.lt, h.bel.trans (hb.mono h.bel.size)⟩
def ffS : ByteArray := ⟨#[255, 255, 255, 255, 255, 255, 255, 255, 255, 255, 255, 255, 255, 255, 255, 255, 255, 255, 255, 255, 255, 255, 255, 255, 255, 255, 255, 255, 255, 255, 255, 255]⟩
theorem ffS_id : idF ffS = lstN := by decide +kernel
theorem OkL.take {l : List Xe} (h : OkL l) (k : Nat) : OkL (l.take k) := ⟨fun e he => h.ok e (List.mem_of_mem_take he), fun e he => h.id e (List.mem_of_mem_take he), List.Pairwise.sublist (List.take_sublist _ _) h.ri, by rw [List.length_take]; have := h.len; omega⟩
theorem mvE_cells (x : Xe) (h : x.id.size = 32) : (xeC x).setIfInBounds 33 (.int .i64 (4 + (x.off + 1) % 1000)) = xeC (mvE x) := by
  have hl : (idc x.id).toList.length = 32 := by rw [Array.length_toList, idc_size, h]
  unfold xeC mvE
  rw [List.setIfInBounds_toArray, List.set_append_right _ _ (by omega), hl]
  rfl
theorem rwA_one (s : ByteArray) (M : List Xe) : (rwA [(s, M)]).length = M.length := by simp [rwA]
theorem rwA_two (s t : ByteArray) (M N : List Xe) : (rwA [(s, M), (t, N)]).length = M.length + N.length := by simp [rwA]
theorem rwO_len (s : ByteArray) (M : List Xe) : (rwO s M).length = M.length := by simp [rwO]
theorem isMx_sz {T : ByteArray} {ps : List ByteArray} {l : List Mr} (h : IsMx T ps l) : T.size ≤ 60000000 := by
  have h1 : T.size = (mxB ps l).length := by rw [← h.bs, bl_length]
  rw [h1, mxB_len h.ok.psz h.ok.id]
  have := h.ok.pln
  have := h.ok.len
  omega
theorem MpS.yes {S : ByteArray} {ps : List ByteArray} {l : List Mr} {e : Ending} {w : World} (h : MpS S e w) (hi : IsMx S ps l) : ∃ g, e = .returned (.tuple #[.pointer (some ⟨g, 0, none⟩), .int .i64 0]) ∧ MxS w g ps l := by
  rcases h with ⟨_, h2⟩ | ⟨g, ps', l', h1, h2, h3⟩
  · exact absurd hi (h2 ps l)
  · obtain ⟨rfl, rfl⟩ := hi.one h2
    exact ⟨g, h1, h3⟩
set_option maxHeartbeats 16000000 in
set_option maxRecDepth 100000 in
theorem one15 (s t : ByteArray) (a : Option Addr) (n c : Nat) (L : List Xe) (ab : Option Addr) (nb cb : Nat) (bs : List Bool) (S : ByteArray) (w : World) (hL : ItL w a L) (hn : L.length = n) (hn2 : n ≤ 4611686018427387904) (hb : BoL w ab bs) (hbn : bs.length = nb) (hS : S.size ≤ 140737488351232) :
    Calls Tryz.prog 5 #[.agg #[.string s, .slice a n c, .string t], .slice ab nb cb, .string S] w fun e w' => e = .returned (.bool true) ∧ Below w.heap.size w w' := by
  have HL : Hid (ItL w a L ∧ L.length = n ∧ BoL w ab bs ∧ bs.length = nb ∧ S.size ≤ 140737488351232 ∧ n ≤ 4611686018427387904) := ⟨hL, hn, hb, hbn, hS, hn2⟩
  have HB0 : Hid (Bk (w.alloc (.cells #[.string s, .slice a n c, .string t] 41)) w.heap.size #[.string s, .slice a n c, .string t] 41 ∧ Below w.heap.size w (w.alloc (.cells #[.string s, .slice a n c, .string t] 41))) := ⟨bk_new _ _ _, (Below.refl _ _).alloc (Nat.le_refl _) _⟩
  have HEQ : Hid (∀ u, (binOp .eql 48 (.agg (idc (idF s))) (.agg (idc lstN))).run Tryz.prog u = .ok (.bool (decide (idF s = lstN))) u) := fun u => eql_ids _ _ (idF_size s) lstN_size u
  have HID : Hid (∀ u, Calls Tryz.prog 18 #[.string s] u fun e w' => e = .returned (.agg (idc (idF s))) ∧ Below u.heap.size u w') := fun u => id_any15 s u
  have HIF : Hid (∀ u, Calls Tryz.prog 18 #[.string ⟨#[255, 255, 255, 255, 255, 255, 255, 255, 255, 255, 255, 255, 255, 255, 255, 255, 255, 255, 255, 255, 255, 255, 255, 255, 255, 255, 255, 255, 255, 255, 255, 255]⟩] u fun e w' => e = .returned (.agg (idc lstN)) ∧ Below u.heap.size u w') := fun u => by rw [← ffS_id]; exact id_any15 ffS u
  obtain ⟨D, hD⟩ : ∃ D, idc (idF s) = D := ⟨_, rfl⟩
  obtain ⟨F, hF⟩ : ∃ D, idc lstN = D := ⟨_, rfl⟩
  have HDF : Hid (idc (idF s) = D ∧ idc lstN = F) := ⟨hD, hF⟩
  rw [hD, hF] at HEQ
  rw [hD] at HID
  rw [hF] at HIF
  clear hL hn hb hbn hS hn2 hD hF
  go_enter Tryz.func5, Tryz.ntmps5
  go_wp2_with fail
  refine (awake15 _).mono ?_
  rintro e w1 ⟨rfl, b1⟩
  have H1 : Hid (Bk w1 w.heap.size #[.string s, .slice a n c, .string t] 41 ∧ Below w.heap.size w w1) := ⟨HB0.out.1.below b1 HB0.out.1.lt, HB0.out.2.trans (b1.mono HB0.out.2.size)⟩
  clear b1 HB0
  have f2 := H1.out.1.frozen 2
  have c2 : w1.cell? ⟨w.heap.size, 2, none⟩ = some (.string t) := by rw [H1.out.1.cell]; rfl
  have H2 : Hid (OnS w s a n c (w1.setCell ⟨w.heap.size, 2, none⟩ (.string ⟨#[]⟩))) := by
    have hg : w1.grownBy (w1.setCell ⟨w.heap.size, 2, none⟩ (.string ⟨#[]⟩)) (some w.heap.size) := Lib.grownBy_setB (World.grownBy.refl w1 _) 2 _
    exact ⟨H1.out.1.set 2 _, below_own H1.out.2 H1.out.2.size hg (Nat.le_refl _)⟩
  have d0 : (w1.setCell ⟨w.heap.size, 2, none⟩ (.string ⟨#[]⟩)).cell? ⟨w.heap.size, 0, none⟩ = some (.string s) := by rw [H2.out.bk.cell]; rfl
  go_wp2_with fail
  refine (HID.out _).mono ?_
  rintro e w2 ⟨rfl, b2⟩
  have H3 : Hid (OnS w s a n c w2) := H2.out.next b2
  clear b2 H1 H2 f2 c2 d0
  go_wp2_with fail
  refine (HIF.out _).mono ?_
  rintro e w3 ⟨rfl, b3⟩
  have H4 : Hid (OnS w s a n c w3) := H3.out.next b3
  clear b3 H3
  by_cases hE : idF s = lstN
  · have hEQ : ∀ u, (binOp .eql 48 (.agg D) (.agg F)).run Tryz.prog u = .ok (.bool true) u := fun u => by rw [HEQ.out u]; simp [hE]
    clear hE HEQ
    go_wp2
    go_ret
    exact ⟨rfl, H4.out.bel⟩
  have hEQ : ∀ u, (binOp .eql 48 (.agg D) (.agg F)).run Tryz.prog u = .ok (.bool false) u := fun u => by rw [HEQ.out u]; simp [hE]
  have HNE : Hid (idF s ≠ lstN) := hE
  have d0 : w3.cell? ⟨w.heap.size, 0, none⟩ = some (.string s) := by rw [H4.out.bk.cell]; rfl
  have d1 : w3.cell? ⟨w.heap.size, 1, none⟩ = some (.slice a n c) := by rw [H4.out.bk.cell]; rfl
  have d2 : w3.cell? ⟨w.heap.size, 2, none⟩ = some (.string ⟨#[]⟩) := by rw [H4.out.bk.cell]; rfl
  clear hE HEQ
  go_wp2_with fail
  refine (index_any15 s ⟨#[]⟩ a n c L w3 (HL.out.1.below H4.out.bel) HL.out.2.1 HL.out.2.2.2.2.2).mono ?_
  rintro e w4 ⟨R, rfl, hR, b4⟩
  obtain ⟨M, _, hM⟩ := hR.2 rfl
  have HM : Hid (IsIx R (idF s) M) := hM
  have H5 : Hid (OnS w s a n c w4) := H4.out.next b4
  clear hR hM b4 H4 d0 d1 d2 hEQ
  have HTX : Hid (Bk (w4.alloc (.cells #[.string R] 9)) w4.heap.size #[.string R] 9) := bk_new _ _ _
  have H5a : Hid (OnS w s a n c (w4.alloc (.cells #[.string R] 9))) := H5.out.next ((Below.refl _ _).alloc (Nat.le_refl _) _)
  have HMG : Hid (Calls Tryz.prog 9 #[.slice (some ⟨w4.heap.size, 0, none⟩) 1 1] (w4.alloc (.cells #[.string R] 9)) fun e w' => ∃ T, e = .returned (.tuple #[.string T, .int .i64 0]) ∧ IsMx T [idF s] (rwO (idF s) M) ∧ Below (w4.alloc (.cells #[.string R] 9)).heap.size (w4.alloc (.cells #[.string R] 9)) w') := by
    refine (merge_any (some ⟨w4.heap.size, 0, none⟩) 1 1 [R] _ (Bk.txl (xs := [R]) HTX.out) rfl (by omega) (fun t ht => ?_)).mono ?_
    · rw [List.mem_singleton] at ht; subst ht; have := isIx_size HM.out; omega
    · rintro e w' ⟨h1, h2⟩
      have hx : Ixs [R] [(idF s, M)] := Ixs.nil.snoc (q := (idF s, M)) HM.out
      have hu : Unl [(idF s, M)] := List.pairwise_singleton _ _
      obtain ⟨ps, l, hm, hok, he⟩ := h1.yes hx hu (by simp) (by rw [rwA_one]; have := HM.out.2.1.len; omega)
      obtain ⟨rfl, rfl⟩ := hm.one hu (fun q hq => by rw [List.mem_singleton] at hq; subst hq; exact HM.out.2.1.ri.apart) (one_mgd HM.out.2.1)
      exact ⟨_, he, ⟨hok, rfl⟩, h2⟩
  go_wp2_with fail
  refine HMG.out.mono ?_
  rintro e w5 ⟨T, rfl, hT, b5⟩
  have H6 : Hid (OnS w s a n c w5 ∧ IsMx T [idF s] (rwO (idF s) M)) := ⟨H5a.out.next b5, hT⟩
  clear hT b5 H5 H5a HTX HMG
  have hTz : T.size ≤ 140737488351232 := by have := isMx_sz H6.out.2; omega
  go_wp2_with fail
  refine (mopen_any T w5 hTz).mono ?_
  rintro e w6 ⟨hO, b6⟩
  obtain ⟨gx, rfl, hX⟩ := hO.yes H6.out.2
  have H7 : Hid (OnS w s a n c w6 ∧ MxS w6 gx [idF s] (rwO (idF s) M)) := ⟨H6.out.1.next b6, hX⟩
  clear hO hX b6 hTz
  go_wp2_with fail
  refine (open_any R w6 (by have := isIx_size HM.out; omega)).mono ?_
  rintro e w7 ⟨hO, b7⟩
  obtain ⟨gn, rfl, hN⟩ := hO.yes15 HM.out
  have H8 : Hid (OnS w s a n c w7 ∧ MxS w7 gx [idF s] (rwO (idF s) M) ∧ IxS w7 gn (idF s) M) := ⟨H7.out.1.next b7, H7.out.2.below b7, hN⟩
  clear hO hN b7 H7 H6
  go_wp2_with fail
  refine (iall_any gn (idF s) M w7 H8.out.2.2 HM.out.2.1.len).mono ?_
  rintro e w8 ⟨v8, rfl, ho8, b8⟩
  obtain ⟨nM, hnM⟩ : ∃ k, M.length = k := ⟨_, rfl⟩
  rw [hnM] at ho8
  obtain ⟨a8, c8, rfl, hx8, _, _⟩ := own_xel ho8 hnM HM.out.2.1.id
  have H9 : Hid (OnS w s a n c w8 ∧ MxS w8 gx [idF s] (rwO (idF s) M) ∧ XeL w8 a8 M) := ⟨H8.out.1.next b8, H8.out.2.1.below b8, hx8⟩
  clear ho8 b8 hx8 H8
  go_wp2_with fail
  refine (mall_any gx [idF s] (rwO (idF s) M) w8 H9.out.2.1).mono ?_
  rintro e w9 ⟨v9, rfl, ho9, b9⟩
  have hrs : ∀ r ∈ rwO (idF s) M, r.p.size = 32 ∧ r.e.id.size = 32 := fun r hr => by
    obtain ⟨x, hx, rfl⟩ := List.mem_map.1 hr
    exact ⟨idF_size s, HM.out.2.1.id x hx⟩
  rw [rwO_len, hnM] at ho9
  obtain ⟨a9, c9, rfl, hx9⟩ := own_mrs hrs (by rw [rwO_len, hnM]) ho9
  have H10 : Hid (OnS w s a n c w9 ∧ XeL w9 a8 M ∧ MrL w9 a9 (rwO (idF s) M) ∧ M.length = nM) := ⟨H9.out.1.next b9, H9.out.2.2.below b9, hx9, hnM⟩
  have hnM2 : nM ≤ 65536 := by rw [← hnM]; exact HM.out.2.1.len
  clear ho9 b9 hrs hx9 H9 hnM
  have HO0 : Hid (OwX w9 (chS bs (M.take 0)) (.slice none 0 0) w9) := ⟨rows_none, (fun e he => by simp [chS] at he), Below.refl _ _⟩
  go_wp2
  go_loopw [16, 17] (fun v u W => ∃ k : Nat, u = .int .i64 k ∧ k ≤ nM ∧ Hid (OwX w9 (chS bs (M.take k)) v W)) (fun _ u _ => nM - (intOf u).toNat)
  case atStart => exact ⟨0, rfl, Nat.zero_le _, HO0.out⟩
  case round =>
    clear HO0
    obtain ⟨k, rfl, hk, HO⟩ := hrel
    by_cases hlt : k < nM
    · have hkz : (k : Int) < (nM : Nat) := by omega
      obtain ⟨x, hx⟩ : ∃ x, M[k]? = some x := ⟨_, List.getElem?_eq_getElem (by rw [H10.out.2.2.2]; exact hlt)⟩
      obtain ⟨hx32, g8, o8, rfl, hg8, hc8⟩ := H10.out.2.1 k x hx
      obtain ⟨_, g9, o9, rfl, hg9, hc9⟩ := H10.out.2.2.1 k ⟨idF s, x⟩ (by rw [rwO, List.getElem?_map, hx]; rfl)
      have HB9 : Hid (Below w9.heap.size w9 wr) := HO.out.bel
      have HON : Hid (OnS w s a n c wr) := H10.out.1.next HO.out.bel
      have C8 : Hid (∀ W, Below wr.heap.size wr W → ∀ (j : Nat) (v : Value), (xeC x)[j]? = some v → W.cell? ⟨g8, o8 + k * 35 + j, none⟩ = some v) := fun W hW j v hv => by
        rw [(HB9.out.trans (hW.mono HB9.out.size)).cell (p := ⟨g8, o8 + k * 35 + j, none⟩) hg8]; exact hc8 j v hv
      have C9 : Hid (∀ W, Below wr.heap.size wr W → ∀ (j : Nat) (v : Value), (mrC ⟨idF s, x⟩)[j]? = some v → W.cell? ⟨g9, o9 + k * 67 + j, none⟩ = some v) := fun W hW j v hv => by
        rw [(HB9.out.trans (hW.mono HB9.out.size)).cell (p := ⟨g9, o9 + k * 67 + j, none⟩) hg9]; exact hc9 j v hv
      have CS : Hid (∀ W, Below wr.heap.size wr W → W.cell? ⟨w.heap.size, 0, none⟩ = some (.string s)) := fun W hW => by
        rw [((HON.out.next hW).bk).cell]; rfl
      have HI2 : Hid ((Tryz.prog.info? 50).map (·.size) = some (xeC x).size ∧ (Tryz.prog.info? 52).map (·.size) = some (mrC ⟨idF s, x⟩).size ∧ (xeC x).all (·.oneCell') = true ∧ (xeC x).size = 35) := ⟨info_xe (xeC_size _ hx32), info_mr (mrC_size _ (idF_size s) hx32), xeC_all x, xeC_size _ hx32⟩
      have HBM : Hid (∀ w, (Instr.build 52 #[(0, .agg D), (1, .agg (xeC x))]).run Tryz.prog w = .ok (.agg (mrC ⟨idF s, x⟩)) w) := fun w => by
        rw [← HDF.out.1]; exact build_mr ⟨idF s, x⟩ (idF_size s) hx32 w
      have hNEQ := neq_mrr ⟨idF s, x⟩ (idF_size s) hx32
      have HIDC : Hid (∀ W, Below wr.heap.size wr W → Calls Tryz.prog 18 #[.string s] W fun e w' => e = .returned (.agg D) ∧ Below wr.heap.size wr w') := fun W hW => (HID.out W).mono fun e w' q => ⟨q.1, hW.trans (q.2.mono hW.size)⟩
      have HCH : Hid (chS bs (M.take (k + 1)) = if bs.getD k false = true then chS bs (M.take k) ++ [mvE x] else chS bs (M.take k)) := chS_snoc bs M k x hx
      have HX32 : Hid (x.id.size = 32 ∧ okX x = true) := ⟨hx32, HM.out.2.1.ok x (List.mem_of_getElem? hx)⟩
      have HXC : Hid (xeC x = xeC x) := rfl
      obtain ⟨X, hX⟩ : ∃ X, xeC x = X := ⟨_, rfl⟩
      obtain ⟨Y, hY⟩ : ∃ Y, mrC ⟨idF s, x⟩ = Y := ⟨_, rfl⟩
      have HXE : Hid (xeC x = X) := hX
      rw [hX] at C8 HI2 HBM
      rw [hY] at C9 HI2 HBM hNEQ
      clear hx hx32 hg8 hc8 hg9 hc9 hX hY HXC
      go_wp2_with fail
      refine region_class10 (fun W => Below wr.heap.size wr W) (by kernel_rfl) (by kernel_rfl) ((Below.refl _ _).drew) ?_
      try simp only [Act.put, List.setIfInBounds_toArray, List.set_cons_zero, List.set_cons_succ]
      repeat (first
        | go_big_quiet_skip
        | (go_big_quiet_want
           first
             | (refine quiet_rowc 52 _ rfl g9 (o9 + k * 67) Y _ rfl C9.out Tryz.underlying52 rfl HI2.out.2.1 ?_; go_big_quiet_on; simp only [Act.put, List.setIfInBounds_toArray, List.set_cons_zero, List.set_cons_succ])
             | (refine quiet_rowc 50 _ rfl g8 (o8 + k * 35) X _ rfl C8.out Tryz.underlying50 rfl HI2.out.1 ?_; go_big_quiet_on; simp only [Act.put, List.setIfInBounds_toArray, List.set_cons_zero, List.set_cons_succ])
             | (refine quiet_str10 _ rfl w.heap.size 0 s rfl CS.out ?_; go_big_quiet_on; simp only [Act.put, List.setIfInBounds_toArray, List.set_cons_zero, List.set_cons_succ])
             | (refine quiet_call10 (.agg D) 18 #[.string s] ?_ ?_ ?_; (focus (intro W hW; go_simp; done)); (focus (intro W hW; exact HIDC.out W hW)); go_big_quiet_on; simp only [Act.put, List.setIfInBounds_toArray, List.set_cons_zero, List.set_cons_succ])
             | (refine quiet_bd2 52 _ _ rfl (.agg D) (.agg X) (.agg Y) rfl rfl HBM.out ?_; go_big_quiet_on; simp only [Act.put, List.setIfInBounds_toArray, List.set_cons_zero, List.set_cons_succ])
             | (refine quiet_val10 (.pointer (some ⟨g9, o9 + k * 67, none⟩)) ?_ ?_; (focus (intro W hW; go_simp; done)); go_big_quiet_on; simp only [Act.put, List.setIfInBounds_toArray, List.set_cons_zero, List.set_cons_succ])
             | (refine quiet_val10 (.pointer (some ⟨g8, o8 + k * 35, none⟩)) ?_ ?_; (focus (intro W hW; go_simp; done)); go_big_quiet_on; simp only [Act.put, List.setIfInBounds_toArray, List.set_cons_zero, List.set_cons_succ])
             | (refine quiet_val10 (.pointer (some ⟨w.heap.size, 0, none⟩)) ?_ ?_; (focus (intro W hW; go_simp; done)); go_big_quiet_on; simp only [Act.put, List.setIfInBounds_toArray, List.set_cons_zero, List.set_cons_succ])
             | (refine quiet_val10 (.bool false) ?_ ?_; (focus (intro W hW; go_simp; done)); go_big_quiet_on; simp only [Act.put, List.setIfInBounds_toArray, List.set_cons_zero, List.set_cons_succ])
             | (go_big_quiet_op; go_big_quiet_on)))
      refine wpQuiet_nil ?_
      intro w10 hw10
      have H11 : Hid (Below wr.heap.size wr w10) := hw10
      clear hw10 hNEQ HIDC
      have HOX : Hid (OwX w9 (chS bs (M.take k)) u16 w10) := HO.out.next H11.out
      have HBW : Hid (BoL w10 ab bs) := HL.out.2.2.1.below (HON.out.bel.trans (H11.out.mono HON.out.bel.size))
      by_cases hkb : k < nb
      · have hkbz : (k : Int) < (nb : Nat) := by omega
        obtain ⟨β, hβ⟩ : ∃ β, bs[k]? = some β := ⟨_, List.getElem?_eq_getElem (by rw [HL.out.2.2.2.1]; exact hkb)⟩
        obtain ⟨gb, ob, rfl, _, hcb⟩ := HBW.out k β hβ
        have HBD : Hid (bs.getD k false = β) := by show _ = _; rw [List.getD, hβ]; rfl
        clear hβ
        cases β with
        | false =>
          have HN2 : Hid (OwX w9 (chS bs (M.take (k + 1))) u16 w10) := by
            show OwX _ _ _ _
            rw [HCH.out, HBD.out, if_neg (by decide)]
            exact HOX.out
          go_wp2
          go_roundw
          case rel => exact ⟨k + 1, by go_num, by omega, HN2.out⟩
          case measure => simp [intOf]; omega
        | true =>
          have HCT : Hid (chS bs (M.take (k + 1)) = chS bs (M.take k) ++ [mvE x]) := by
            show _ = _
            rw [HCH.out, HBD.out, if_pos rfl]
          have HX33 : Hid (X[33]? = some (.int .i64 x.off)) := by show _ = _; rw [← HXE.out]; exact (xeC_at x HX32.out.1).2.1
          have HMV : Hid (X.setIfInBounds 33 (.int .i64 (4 + (x.off + 1) % 1000)) = xeC (mvE x)) := by
            show _ = _
            rw [← HXE.out]
            exact mvE_cells x HX32.out.1
          have hob := (okX_iff x).1 HX32.out.2
          have ho1 : (4 : Int) ≤ x.off := hob.2.2.1
          have ho2 : x.off ≤ 67108864 := hob.2.2.2.1
          have H12 : Hid (Bk (w10.alloc (.cells X 50)) w10.heap.size X 50 ∧ ∀ v, OwX w9 (chS bs (M.take k)) u16 ((w10.alloc (.cells X 50)).setCell ⟨w10.heap.size, 33, none⟩ v)) := ⟨bk_new _ _ _, fun v => HOX.out.next (below_own ((Below.refl _ _).alloc (Nat.le_refl _) _) (by rw [al_size]; omega) (Lib.grownBy_setB (World.grownBy.refl _ _) 33 _) (Nat.le_refl _))⟩
          obtain ⟨X2, hX2⟩ : ∃ X2, xeC (mvE x) = X2 := ⟨_, rfl⟩
          have HX2 : Hid ((Tryz.prog.info? 50).map (·.size) = some X2.size) := by show _ = _; rw [← hX2]; exact info_xe (xeC_size _ HX32.out.1)
          have HSL : Hid (∀ w, (Instr.buildSlice 66 1 #[(0, .agg X2)]).run Tryz.prog w = .ok (.slice (some ⟨w.heap.size, 0, none⟩) 1 1) (w.alloc (.cells X2 50))) := by rw [← hX2]; exact slice_xe (mvE x) HX32.out.1
          obtain ⟨m, hm⟩ : ∃ m, (chS bs (M.take k)).length = m := ⟨_, rfl⟩
          have HAP : Hid (∀ W, OwX w9 (chS bs (M.take k)) u16 W → ∃ g cp w7, (Builtin.append_ #[66, 66] 66 #[u16, .slice (some ⟨W.heap.size, 0, none⟩) 1 1]).run Tryz.prog (W.alloc (.cells X2 50)) = .ok (.slice (some ⟨g, 0, none⟩) (m + 1) cp) w7 ∧ OwX w9 (chS bs (M.take (k + 1))) (.slice (some ⟨g, 0, none⟩) (m + 1) cp) w7) := fun W hW => by
            have hlb := (chS_gd (bs := bs) (M := M.take k) (HM.out.2.1.take k)).len
            obtain ⟨g, cp, w7, q1, q2, _⟩ := hW.app (mvE x) HX32.out.1 (by omega)
            rw [hm, hX2] at q1
            rw [hm, ← HCT.out] at q2
            exact ⟨g, cp, w7, q1, q2⟩
          rw [hX2] at HMV
          clear hX2 hm
          have HC8 : Hid (∀ (j : Nat) (v : Value), X.toList[j]? = some v → w10.cell? ⟨g8, o8 + k * 35 + j, none⟩ = some v) := fun j v hv => C8.out w10 H11.out j v (by rwa [Array.getElem?_toList] at hv)
          have HXL : Hid ((Tryz.prog.info? 50).map (·.size) = some X.toList.length) := by show _ = _; rw [Array.length_toList]; exact HI2.out.1
          clear hob HBM C8 C9 CS HON HBW HOX HCH HBD
          go_wp2_with (first
            | (refine wpList_load_mid rfl 50 (.tmp 106) rfl g8 (o8 + k * 35) rfl X.toList _ HC8.out Tryz.underlying50 rfl HXL.out ?_)
            | (refine wpList_store_new rfl 50 (.tmp 18) (.tmp 107) rfl X _ 50 w10.heap.size rfl rfl rfl HI2.out.1 (by rw [HI2.out.2.2.2]; rfl) HI2.out.2.2.1 ?_
               obtain ⟨w11, hw11⟩ : ∃ u, w10.alloc (.cells X 50) = u := ⟨_, rfl⟩
               obtain ⟨g18, hg18⟩ : ∃ u, w10.heap.size = u := ⟨_, rfl⟩
               rw [hw11, hg18] at H12
               rw [hw11, hg18]
               have h33 : w11.cell? ⟨g18, 33, none⟩ = some (.int .i64 x.off) := by rw [H12.out.1.cell]; exact HX33.out
               have f33 := H12.out.1.frozen 33
               have HB18 : Hid (Bk (w11.setCell ⟨g18, 33, none⟩ (.int .i64 (4 + (x.off + 1) % 1000))) g18 X2 50 ∧ OwX w9 (chS bs (M.take k)) u16 (w11.setCell ⟨g18, 33, none⟩ (.int .i64 (4 + (x.off + 1) % 1000)))) := by
                 refine ⟨?_, H12.out.2 _⟩
                 rw [← HMV.out]
                 exact H12.out.1.set 33 _
               clear hw11 hg18)
            | (obtain ⟨w12, hw12⟩ : ∃ u, w11.setCell ⟨g18, 33, none⟩ (.int .i64 (4 + (x.off + 1) % 1000)) = u := ⟨_, rfl⟩
               rw [hw12] at HB18
               rw [hw12]
               refine wpList_get rfl 50 (.tmp 18) rfl g18 0 X2 X2 50 _ rfl HB18.out.1 (fun j v hv => by rw [Nat.zero_add]; exact hv) Tryz.underlying50 rfl HX2.out ?_
               obtain ⟨g7, cp7, w13, hrun, hO13⟩ := HAP.out w12 HB18.out.2
               have HN2 : Hid (OwX w9 (chS bs (M.take (k + 1))) (.slice (some ⟨g7, 0, none⟩) (m + 1) cp7) w13) := hO13
               clear hw12 hO13 h33 f33)
            | (refine wpList_bsX rfl 66 (.tmp 115) rfl (.agg X2) (.slice (some ⟨w12.heap.size, 0, none⟩) 1 1) (w12.alloc (.cells X2 50)) rfl (HSL.out _) ?_)
            | (refine wpList_appX rfl (.tmp 114) (.tmp 116) 66 66 rfl u16 (.slice (some ⟨w12.heap.size, 0, none⟩) 1 1) (.slice (some ⟨g7, 0, none⟩) (m + 1) cp7) w13 rfl rfl hrun ?_)
            | fail)
          clear hrun
          try go_wp2
          go_roundw
          case rel => exact ⟨k + 1, by go_num, by omega, HN2.out⟩
          case measure => simp [intOf]; omega
      · have hkbz : ¬ (k : Int) < (nb : Nat) := by omega
        have HN2 : Hid (OwX w9 (chS bs (M.take (k + 1))) u16 w10) := by
          show OwX _ _ _ _
          have : bs.getD k false = false := by rw [List.getD, List.getElem?_eq_none (by rw [HL.out.2.2.2.1]; omega)]; rfl
          rw [HCH.out, this, if_neg (by decide)]
          exact HOX.out
        go_wp2
        go_roundw
        case rel => exact ⟨k + 1, by go_num, by omega, HN2.out⟩
        case measure => simp [intOf]; omega
    · have hkz : ¬ (k : Int) < (nM : Nat) := by omega
      have HX : Hid (OwX w9 (chS bs M) u16 wr) := by
        have := HO.out
        rwa [List.take_of_length_le (by rw [H10.out.2.2.2]; omega)] at this
      have HGD : Hid (GdX (chS bs M)) := chS_gd HM.out.2.1
      obtain ⟨m, hm⟩ : ∃ m, (chS bs M).length = m := ⟨_, rfl⟩
      have hox := HX.out.ow
      rw [hm] at hox
      obtain ⟨a16, c16, rfl, hx16, hc16, ha16⟩ := own_xel hox hm HX.out.ids
      clear hox
      have HXE : Hid (XeL wr a16 (chS bs M) ∧ (a16 = none ∨ ∃ g o, a16 = some ⟨g, o, none⟩) ∧ (chS bs M).length = m) := ⟨hx16, by rcases ha16 with ⟨h, _⟩ | ⟨g, h, _⟩; exact .inl h; exact .inr ⟨g, 0, h⟩, hm⟩
      have HON : Hid (OnS w s a n c wr ∧ MrL wr a9 (rwO (idF s) M)) := ⟨H10.out.1.next HX.out.bel, H10.out.2.2.1.below HX.out.bel⟩
      have HFI : Hid ((Tryz.prog.info? 48).map (·.size) = some F.size ∧ F.all (·.oneCell') = true ∧ F.size = 32) := by rw [← HDF.out.2]; exact ⟨info_32 (by rw [idc_size, lstN_size]), idc_allX _, by rw [idc_size, lstN_size]⟩
      clear hm hx16 hc16 ha16 HO HX
      go_wp2_with fail
      refine (HIF.out _).mono ?_
      rintro e w14 ⟨rfl, b14⟩
      have H14 : Hid (OnS w s a n c (w14.alloc (.cells F 48)) ∧ MrL (w14.alloc (.cells F 48)) a9 (rwO (idF s) M) ∧ XeL (w14.alloc (.cells F 48)) a16 (chS bs M) ∧ Bk (w14.alloc (.cells F 48)) w14.heap.size F 48) := by
        have q : Below wr.heap.size wr (w14.alloc (.cells F 48)) := b14.alloc b14.size _
        exact ⟨HON.out.1.next q, HON.out.2.below q, HXE.out.1.below q, bk_new _ _ _⟩
      have HBD : Hid (∀ W, XeL W a16 (chS bs M) → Calls Tryz.prog 25 #[.agg F, .slice a16 m c16] W fun e w' => ∃ R2, e = .returned (.tuple #[.string R2, .int .i64 0]) ∧ (∃ N, N.Perm (chS bs M) ∧ IsIx R2 lstN N) ∧ Below W.heap.size W w') := fun W hW => by
        have := ibuild_any sort_none lstN (chS bs M) a16 m c16 W lstN_size hW HXE.out.2.2 HXE.out.2.1 (by have := HGD.out.len; rw [HXE.out.2.2] at this; omega)
        rw [HDF.out.2] at this
        refine this.mono ?_
        rintro e w' ⟨R2, h1, h2, h3⟩
        rw [HGD.out.bE] at h1
        obtain ⟨N, n1, n2, n3⟩ := h2.2 HGD.out.bE
        exact ⟨R2, h1, ⟨N, n1, lstN_size, n2, by rw [n3]; rfl⟩, h3⟩
      clear b14
      go_wp2_with (first
        | (refine wpList_store_new rfl 48 (.tmp 19) (.tmp 118) rfl F _ 48 w14.heap.size rfl rfl rfl HFI.out.1 (by rw [HFI.out.2.2]; rfl) HFI.out.2.1 ?_)
        | (refine wpList_get rfl 48 (.tmp 19) rfl w14.heap.size 0 F F 48 _ rfl H14.out.2.2.2 (fun j v hv => by rw [Nat.zero_add]; exact hv) Tryz.underlying48 rfl HFI.out.1 ?_)
        | fail)
      refine (HBD.out _ H14.out.2.2.1).mono ?_
      rintro e w15 ⟨R2, rfl, hN, b15⟩
      have H15 : Hid (OnS w s a n c w15 ∧ MrL w15 a9 (rwO (idF s) M) ∧ ∃ N, N.Perm (chS bs M) ∧ IsIx R2 lstN N) := ⟨H14.out.1.next b15, H14.out.2.1.below b15, hN⟩
      clear b15 hN H14 HBD HXE
      have H16 : Hid (OnS w s a n c (w15.alloc (.cells #[.string R2, .string R] 9)) ∧ MrL (w15.alloc (.cells #[.string R2, .string R] 9)) a9 (rwO (idF s) M) ∧ Bk (w15.alloc (.cells #[.string R2, .string R] 9)) w15.heap.size (txc [R2, R]) 9) := by
        have q : Below w15.heap.size w15 (w15.alloc (.cells #[.string R2, .string R] 9)) := (Below.refl _ _).alloc (Nat.le_refl _) _
        exact ⟨H15.out.1.next q, H15.out.2.1.below q, bk_new _ _ _⟩
      have HMG : Hid (∀ W g, Bk W g (txc [R2, R]) 9 → Calls Tryz.prog 9 #[.slice (some ⟨g, 0, none⟩) 2 2] W fun e w' => ∃ T, e = .returned (.tuple #[.string T, .int .i64 0]) ∧ IsMx T [idF s, lstN] (rwO (idF s) M) ∧ Below W.heap.size W w') := fun W g hW => by
        obtain ⟨N, n1, n2⟩ := H15.out.2.2
        refine (merge_any (some ⟨g, 0, none⟩) 2 2 [R2, R] W hW.txl rfl (by omega) (fun t ht => ?_)).mono ?_
        · rcases List.mem_cons.1 ht with rfl | ht
          · have := isIx_size n2; omega
          · rw [List.mem_singleton] at ht; subst ht; have := isIx_size HM.out; omega
        · rintro e w' ⟨h1, h2⟩
          have hx : Ixs [R2, R] [(lstN, N), (idF s, M)] := (Ixs.nil.snoc (q := (lstN, N)) n2).snoc (q := (idF s, M)) HM.out
          have hu : Unl [(lstN, N), (idF s, M)] := List.pairwise_pair.2 (fun q => HNE.out q.symm)
          obtain ⟨ps, l, hm, hok, he⟩ := h1.yes hx hu (by simp) (by rw [rwA_two]; have := HM.out.2.1.len; have := n2.2.1.len; omega)
          obtain ⟨rfl, rfl⟩ := hm.one hu (fun q hq => by
            rcases List.mem_cons.1 hq with rfl | hq
            · exact n2.2.1.ri.apart
            · rw [List.mem_singleton] at hq; subst hq; exact HM.out.2.1.ri.apart) (two_mgd (idF_size s) HNE.out HM.out.2.1 (fun e he => by
              obtain ⟨f, hf, hfe⟩ := chS_mem (n1.mem_iff.1 he)
              exact ⟨f, hf, by rw [hfe]; rfl⟩))
          exact ⟨_, he, ⟨hok, rfl⟩, h2⟩
      go_wp2_with fail
      refine (HMG.out _ _ H16.out.2.2).mono ?_
      rintro e w17 ⟨T2, rfl, hT2, b17⟩
      have H17 : Hid (OnS w s a n c w17 ∧ MrL w17 a9 (rwO (idF s) M) ∧ IsMx T2 [idF s, lstN] (rwO (idF s) M)) := ⟨H16.out.1.next b17, H16.out.2.1.below b17, hT2⟩
      clear b17 hT2 H16 H15 HMG
      have hTz2 : T2.size ≤ 140737488351232 := by have := isMx_sz H17.out.2.2; omega
      go_wp2_with fail
      refine (mopen_any T2 w17 hTz2).mono ?_
      rintro e w18 ⟨hO, b18⟩
      obtain ⟨gy, rfl, hY⟩ := hO.yes H17.out.2.2
      have H18 : Hid (OnS w s a n c w18 ∧ MrL w18 a9 (rwO (idF s) M) ∧ MxS w18 gy [idF s, lstN] (rwO (idF s) M)) := ⟨H17.out.1.next b18, H17.out.2.1.below b18, hY⟩
      clear hO hY b18 H17 hTz2
      go_wp2_with fail
      refine (mall_any gy _ _ w18 H18.out.2.2).mono ?_
      rintro e w19 ⟨v19, rfl, ho19, b19⟩
      have hrs : ∀ r ∈ rwO (idF s) M, r.p.size = 32 ∧ r.e.id.size = 32 := fun r hr => by
        obtain ⟨x, hx, rfl⟩ := List.mem_map.1 hr
        exact ⟨idF_size s, HM.out.2.1.id x hx⟩
      rw [rwO_len, H10.out.2.2.2] at ho19
      obtain ⟨a26, c26, rfl, hx26⟩ := own_mrs hrs (by rw [rwO_len, H10.out.2.2.2]) ho19
      have H19 : Hid (OnS w s a n c w19 ∧ MrL w19 a9 (rwO (idF s) M) ∧ MrL w19 a26 (rwO (idF s) M)) := ⟨H18.out.1.next b19, H18.out.2.1.below b19, hx26⟩
      clear ho19 hx26 b19 hrs H18
      go_wp2
      go_loopw [27] (fun u W => ∃ j : Nat, u = .int .i64 j ∧ j ≤ nM ∧ Hid (Below w19.heap.size w19 W)) (fun u _ => nM - (intOf u).toNat)
      case atStart => exact ⟨0, rfl, Nat.zero_le _, Below.refl _ _⟩
      case round =>
        obtain ⟨j, rfl, hj, HJ⟩ := hrel
        by_cases hlj : j < nM
        · have hjz : (j : Int) < (nM : Nat) := by omega
          obtain ⟨r, hr⟩ : ∃ r, (rwO (idF s) M)[j]? = some r := ⟨_, List.getElem?_eq_getElem (by rw [rwO_len, H10.out.2.2.2]; exact hlj)⟩
          obtain ⟨⟨hr1, hr2⟩, g9, o9, rfl, hg9, hc9⟩ := H19.out.2.1 j r hr
          obtain ⟨_, g26, o26, rfl, hg26, hc26⟩ := H19.out.2.2 j r hr
          have C9 : Hid (∀ W, Below wr.heap.size wr W → ∀ (i : Nat) (v : Value), (mrC r)[i]? = some v → W.cell? ⟨g9, o9 + j * 67 + i, none⟩ = some v) := fun W hW i v hv => by
            rw [(HJ.out.trans (hW.mono HJ.out.size)).cell (p := ⟨g9, o9 + j * 67 + i, none⟩) hg9]; exact hc9 i v hv
          have C26 : Hid (∀ W, Below wr.heap.size wr W → ∀ (i : Nat) (v : Value), (mrC r)[i]? = some v → W.cell? ⟨g26, o26 + j * 67 + i, none⟩ = some v) := fun W hW i v hv => by
            rw [(HJ.out.trans (hW.mono HJ.out.size)).cell (p := ⟨g26, o26 + j * 67 + i, none⟩) hg26]; exact hc26 i v hv
          have hNEQ := neq_mrr r hr1 hr2
          have HI2 : Hid ((Tryz.prog.info? 52).map (·.size) = some (mrC r).size) := info_mr (mrC_size r hr1 hr2)
          obtain ⟨Y, hY⟩ : ∃ Y, mrC r = Y := ⟨_, rfl⟩
          rw [hY] at C9 C26 hNEQ HI2
          clear hr hr1 hr2 hg9 hc9 hg26 hc26 hY
          go_wp2_with fail
          refine region_class10 (fun W => Below wr.heap.size wr W) (by kernel_rfl) (by kernel_rfl) ((Below.refl _ _).drew) ?_
          try simp only [Act.put, List.setIfInBounds_toArray, List.set_cons_zero, List.set_cons_succ]
          repeat (first
            | go_big_quiet_skip
            | (go_big_quiet_want
               first
             | (refine quiet_rowc 52 _ rfl g26 (o26 + j * 67) Y _ rfl C26.out Tryz.underlying52 rfl HI2.out ?_; go_big_quiet_on; simp only [Act.put, List.setIfInBounds_toArray, List.set_cons_zero, List.set_cons_succ])
             | (refine quiet_rowc 52 _ rfl g9 (o9 + j * 67) Y _ rfl C9.out Tryz.underlying52 rfl HI2.out ?_; go_big_quiet_on; simp only [Act.put, List.setIfInBounds_toArray, List.set_cons_zero, List.set_cons_succ])
             | (refine quiet_val10 (.pointer (some ⟨g26, o26 + j * 67, none⟩)) ?_ ?_; (focus (intro W hW; go_simp; done)); go_big_quiet_on; simp only [Act.put, List.setIfInBounds_toArray, List.set_cons_zero, List.set_cons_succ])
             | (refine quiet_val10 (.pointer (some ⟨g9, o9 + j * 67, none⟩)) ?_ ?_; (focus (intro W hW; go_simp; done)); go_big_quiet_on; simp only [Act.put, List.setIfInBounds_toArray, List.set_cons_zero, List.set_cons_succ])
             | (refine quiet_val10 (.bool false) ?_ ?_; (focus (intro W hW; go_simp; done)); go_big_quiet_on; simp only [Act.put, List.setIfInBounds_toArray, List.set_cons_zero, List.set_cons_succ])
             | (go_big_quiet_op; go_big_quiet_on)))
          refine wpQuiet_nil ?_
          intro w20 hw20
          have H20 : Hid (Below w19.heap.size w19 w20) := HJ.out.trans (Below.mono hw20 HJ.out.size)
          clear hw20 hNEQ
          go_wp2
          go_roundw
          case rel => exact ⟨j + 1, by go_num, by omega, H20.out⟩
          case measure => simp [intOf]; omega
        · have hjz : ¬ (j : Int) < (nM : Nat) := by omega
          have H21 : Hid (Below w.heap.size w wr) := (H19.out.1.next HJ.out).bel
          go_wp2_with fail
          refine (mopen_any S wr HL.out.2.2.2.2.1).mono ?_
          rintro e w22 ⟨hO, b22⟩
          have H22 : Hid (Below w.heap.size w w22) := H21.out.trans (b22.mono H21.out.size)
          clear b22
          rcases hO with ⟨rfl, _⟩ | ⟨gz, ps, l, rfl, hI, hX⟩
          · go_wp2
            go_ret
            exact ⟨rfl, H22.out⟩
          · have HBC : Hid (Calls Tryz.prog 26 #[.pointer (some ⟨gz, 0, none⟩), .string S] w22 fun e w' => e = .returned (.bool true) ∧ Below w22.heap.size w22 w') := back15 gz S ps l w22 hX hI
            clear hI hX
            go_wp2_with fail
            refine HBC.out.mono ?_
            rintro e w23 ⟨rfl, b23⟩
            have H23 : Hid (Below w.heap.size w w23) := H22.out.trans (b23.mono H22.out.size)
            clear b23
            go_wp2
            go_ret
            exact ⟨rfl, H23.out⟩
end Go.Proofs.YtbfoiocbmhhdbaaGreat
