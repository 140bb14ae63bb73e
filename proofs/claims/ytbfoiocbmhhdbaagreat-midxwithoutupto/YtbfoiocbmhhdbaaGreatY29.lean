import Derived.Test.YtbfoiocbmhhdbaaGreatY25
import Derived.Test.YtbfoiocbmhhdbaaGreatY28
import Derived.Test.YtbfoiocbmhhdbaaGreatY27
import Derived.Test.YtbfoiocbmhhdbaaGreatY10
import Derived.Test.YtbfoiocbmhhdbaaGreatY15
/- Law 15's awake. -/
namespace Go.Proofs.YtbfoiocbmhhdbaaGreat
open Go.RowKit
set_option linter.unusedSimpArgs false
set_option linter.unusedVariables false
theorem Bk.itl1 {W : World} {g : Nat} {e : Xe} {T : TypeId} (h : Bk W g (itC e) T) : ItL W (some ⟨g, 0, none⟩) [e] := fun i x hx => by
  have hi : i = 0 := by have := (List.getElem?_eq_some_iff.1 hx).1; simp at this; exact this
  subst hi
  simp at hx
  subst hx
  refine ⟨g, 0, rfl, h.lt, ?_, ?_, ?_, ?_⟩ <;> rw [h.cell] <;> rfl
theorem Bk.itl2 {W : World} {g : Nat} {e f : Xe} {T : TypeId} (h : Bk W g (itC e ++ itC f) T) : ItL W (some ⟨g, 0, none⟩) [e, f] := fun i x hx => by
  have hi : i = 0 ∨ i = 1 := by have := (List.getElem?_eq_some_iff.1 hx).1; simp at this; omega
  rcases hi with rfl | rfl <;> simp at hx <;> subst hx <;> refine ⟨g, 0, rfl, h.lt, ?_, ?_, ?_, ?_⟩ <;> rw [h.cell] <;> rfl
/-- Two rows that were found. -/
structure AwS (w : World) (g1 g2 : Nat) (X1 X2 : Array Value) (W : World) : Prop where
  bel : Below w.heap.size w W
  k1 : Bk W g1 X1 52
  k2 : Bk W g2 X2 52
theorem AwS.next {w W W' : World} {g1 g2 : Nat} {X1 X2 : Array Value} (h : AwS w g1 g2 X1 X2 W) (hb : Below W.heap.size W W') : AwS w g1 g2 X1 X2 W' := ⟨h.bel.trans (hb.mono h.bel.size), h.k1.below hb h.k1.lt, h.k2.below hb h.k2.lt⟩
set_option maxHeartbeats 8000000 in
set_option maxRecDepth 100000 in
theorem awake15 (w : World) : Calls Tryz.prog 13 #[] w fun e w' => e = .returned (.bool true) ∧ Below w.heap.size w w' := by
  have HIA : Hid (∀ W : World, Calls Tryz.prog 15 #[.agg #[.string ⟨#[1]⟩, .slice (some ⟨W.heap.size, 0, none⟩) 1 1, .string ⟨#[]⟩]] (W.alloc (.cells #[.string ⟨#[110]⟩, .int .u8 1, .int .i64 4, .int .i64 5] 45)) fun e w' => ∃ R, e = .returned (.string R) ∧ (∃ M, M.Perm [eA] ∧ IsIx R (idF s1) M) ∧ Below W.heap.size W w') := fun W => by
    have hb : Bk (W.alloc (.cells #[.string ⟨#[110]⟩, .int .u8 1, .int .i64 4, .int .i64 5] 45)) W.heap.size (itC ⟨nN, 1, 4, 5⟩) 45 := bk_new _ _ _
    refine (index_any15 s1 ⟨#[]⟩ (some ⟨W.heap.size, 0, none⟩) 1 1 [⟨nN, 1, 4, 5⟩] _ hb.itl1 rfl (by omega)).mono ?_
    rintro e w' ⟨R, h1, h2, h3⟩
    obtain ⟨M, m1, m2⟩ := h2.2 rfl
    rw [fitA15] at m1
    exact ⟨R, h1, ⟨M, m1, m2⟩, ((Below.refl _ _).alloc (Nat.le_refl _) _).trans (h3.mono (by rw [al_size]; omega))⟩
  have HIB : Hid (∀ W : World, Calls Tryz.prog 15 #[.agg #[.string ⟨#[2]⟩, .slice (some ⟨W.heap.size, 0, none⟩) 2 2, .string ⟨#[]⟩]] (W.alloc (.cells #[.string ⟨#[110]⟩, .int .u8 1, .int .i64 9, .int .i64 5, .string ⟨#[109]⟩, .int .u8 2, .int .i64 4, .int .i64 1] 45)) fun e w' => ∃ R, e = .returned (.string R) ∧ (∃ M, M.Perm [eB, eM] ∧ IsIx R (idF s2) M) ∧ Below W.heap.size W w') := fun W => by
    have hb : Bk (W.alloc (.cells #[.string ⟨#[110]⟩, .int .u8 1, .int .i64 9, .int .i64 5, .string ⟨#[109]⟩, .int .u8 2, .int .i64 4, .int .i64 1] 45)) W.heap.size (itC ⟨nN, 1, 9, 5⟩ ++ itC ⟨nm2, 2, 4, 1⟩) 45 := bk_new _ _ _
    refine (index_any15 s2 ⟨#[]⟩ (some ⟨W.heap.size, 0, none⟩) 2 2 [⟨nN, 1, 9, 5⟩, ⟨nm2, 2, 4, 1⟩] _ hb.itl2 rfl (by omega)).mono ?_
    rintro e w' ⟨R, h1, h2, h3⟩
    obtain ⟨M, m1, m2⟩ := h2.2 rfl
    rw [fitB15] at m1
    exact ⟨R, h1, ⟨M, m1, m2⟩, ((Below.refl _ _).alloc (Nat.le_refl _) _).trans (h3.mono (by rw [al_size]; omega))⟩
  have HMG : Hid (∀ (Ra Rb : ByteArray) (W : World), (∃ M, M.Perm [eA] ∧ IsIx Ra (idF s1) M) → (∃ M, M.Perm [eB, eM] ∧ IsIx Rb (idF s2) M) → Calls Tryz.prog 9 #[.slice (some ⟨W.heap.size, 0, none⟩) 2 2] (W.alloc (.cells #[.string Rb, .string Ra] 9)) fun e w' => ∃ S, e = .returned (.tuple #[.string S, .int .i64 0]) ∧ IsMx S [idF s1, idF s2] awL ∧ Below W.heap.size W w') := fun Ra Rb W ⟨Ma, a1, a2⟩ ⟨Mb, b1, b2⟩ => by
    have hb : Bk (W.alloc (.cells #[.string Rb, .string Ra] 9)) W.heap.size (txc [Rb, Ra]) 9 := bk_new _ _ _
    have hx : Ixs [Rb, Ra] [(idF s2, Mb), (idF s1, Ma)] := (Ixs.nil.snoc (q := (idF s2, Mb)) b2).snoc (q := (idF s1, Ma)) a2
    have hu : Unl [(idF s2, Mb), (idF s1, Ma)] := by
      have : idF s2 ≠ idF s1 := by decide +kernel
      exact List.pairwise_pair.2 this
    refine (merge_any (some ⟨W.heap.size, 0, none⟩) 2 2 [Rb, Ra] _ hb.txl rfl (by omega) (fun t ht => ?_)).mono ?_
    · rcases List.mem_cons.1 ht with rfl | ht
      · have := isIx_size b2; omega
      · rw [List.mem_singleton] at ht; subst ht; have := isIx_size a2; omega
    · rintro e w' ⟨h1, h2⟩
      obtain ⟨ps, l, hm, hok, he⟩ := h1.yes hx hu (by simp) (by
        have e1 := b1.length_eq
        have e2 := a1.length_eq
        simp [rwA] at e1 e2 ⊢
        omega)
      obtain ⟨rfl, rfl⟩ := hm.one hu (fun q hq => by
        rcases List.mem_cons.1 hq with rfl | hq
        · exact b2.2.1.ri.apart
        · rw [List.mem_singleton] at hq; subst hq; exact a2.2.1.ri.apart) (aw_mgd a1 b1)
      exact ⟨_, he, ⟨hok, rfl⟩, ((Below.refl _ _).alloc (Nat.le_refl _) _).trans (h2.mono (by rw [al_size]; omega))⟩
  have HOP : Hid (∀ (S : ByteArray) (W : World), IsMx S [idF s1, idF s2] awL → Calls Tryz.prog 10 #[.string S] W fun e w' => ∃ g, e = .returned (.tuple #[.pointer (some ⟨g, 0, none⟩), .int .i64 0]) ∧ MxS w' g [idF s1, idF s2] awL ∧ Below W.heap.size W w') := fun S W hS => by
    have hz : S.size ≤ 140737488351232 := by
      have e1 : S.size = (mxB [idF s1, idF s2] awL).length := by rw [← hS.bs, bl_length]
      have e2 : (mxB [idF s1, idF s2] awL).length ≤ 140737488351232 := by decide +kernel
      omega
    refine (mopen_any S W hz).mono ?_
    rintro e w' ⟨⟨_, h⟩ | ⟨g, ps, l, h1, h2, h3⟩, hb⟩
    · exact absurd hS (h _ _)
    · obtain ⟨rfl, rfl⟩ := h2.one hS
      exact ⟨g, h1, h3, hb⟩
  obtain ⟨D1, hD1⟩ : ∃ D, idc (idF s1) = D := ⟨_, rfl⟩
  obtain ⟨D2, hD2⟩ : ∃ D, idc (idF s2) = D := ⟨_, rfl⟩
  obtain ⟨DN, hDN⟩ : ∃ D, idc (idF nN) = D := ⟨_, rfl⟩
  obtain ⟨DM, hDM⟩ : ∃ D, idc (idF nm2) = D := ⟨_, rfl⟩
  obtain ⟨X1, hX1⟩ : ∃ X, mrC ⟨idF s1, eA⟩ = X := ⟨_, rfl⟩
  obtain ⟨X2, hX2⟩ : ∃ X, mrC ⟨idF s2, eM⟩ = X := ⟨_, rfl⟩
  have I1 : Hid (∀ u, Calls Tryz.prog 18 #[.string ⟨#[1]⟩] u fun e w' => e = .returned (.agg D1) ∧ Below u.heap.size u w') := fun u => by rw [← hD1]; exact id_any15 s1 u
  have I2 : Hid (∀ u, Calls Tryz.prog 18 #[.string ⟨#[2]⟩] u fun e w' => e = .returned (.agg D2) ∧ Below u.heap.size u w') := fun u => by rw [← hD2]; exact id_any15 s2 u
  have IN : Hid (∀ u, Calls Tryz.prog 18 #[.string ⟨#[110]⟩] u fun e w' => e = .returned (.agg DN) ∧ Below u.heap.size u w') := fun u => by rw [← hDN]; exact id_any15 nN u
  have IM : Hid (∀ u, Calls Tryz.prog 18 #[.string ⟨#[109]⟩] u fun e w' => e = .returned (.agg DM) ∧ Below u.heap.size u w') := fun u => by rw [← hDM]; exact id_any15 nm2 u
  have ri : RiM awL := (aw_mgd (List.Perm.refl _) (List.Perm.refl _)).ri
  have FN : Hid (∀ u g, MxS u g [idF s1, idF s2] awL → Calls Tryz.prog 19 #[.pointer (some ⟨g, 0, none⟩), .agg DN] u fun e w' => e = .returned (.tuple #[.agg X1, .int .i64 0]) ∧ Below u.heap.size u w') := fun u g h => by
    have := mfind_any g (idF nN) _ _ u h ri (idF_size _)
    rw [aw_n, hDN] at this
    rw [← hX1]; exact this
  have FM : Hid (∀ u g, MxS u g [idF s1, idF s2] awL → Calls Tryz.prog 19 #[.pointer (some ⟨g, 0, none⟩), .agg DM] u fun e w' => e = .returned (.tuple #[.agg X2, .int .i64 0]) ∧ Below u.heap.size u w') := fun u g h => by
    have := mfind_any g (idF nm2) _ _ u h ri (idF_size _)
    rw [aw_m, hDM] at this
    rw [← hX2]; exact this
  have HI1 : Hid ((Tryz.prog.info? 52).map (·.size) = some X1.size ∧ X1.all (·.oneCell') = true ∧ X1.size = 67) := by rw [← hX1]; exact ⟨by rw [inf_mr67, mrC_size _ (idF_size _) (idF_size _)], mrC_all _, mrC_size _ (idF_size _) (idF_size _)⟩
  have HI2 : Hid ((Tryz.prog.info? 52).map (·.size) = some X2.size ∧ X2.all (·.oneCell') = true ∧ X2.size = 67) := by rw [← hX2]; exact ⟨by rw [inf_mr67, mrC_size _ (idF_size _) (idF_size _)], mrC_all _, mrC_size _ (idF_size _) (idF_size _)⟩
  have HP1 : Hid (∀ (j : Nat) (v : Value), D1.toList[j]? = some v → X1[j]? = some v) := fun j v hv => by
    rw [← hD1, Array.getElem?_toList] at hv
    rw [← hX1]
    have := mrC_p ⟨idF s1, eA⟩ (idF_size _) j v hv
    rwa [Nat.zero_add] at this
  have HP2 : Hid (∀ (j : Nat) (v : Value), D2.toList[j]? = some v → X2[j]? = some v) := fun j v hv => by
    rw [← hD2, Array.getElem?_toList] at hv
    rw [← hX2]
    have := mrC_p ⟨idF s2, eM⟩ (idF_size _) j v hv
    rwa [Nat.zero_add] at this
  have HOF : Hid (X1[65]? = some (.int .i64 4) ∧ X2[64]? = some (.int .u8 2)) := by
    rw [← hX1, ← hX2]
    exact ⟨by kernel_rfl, by kernel_rfl⟩
  have EQ1 : ∀ u, (binOp .eql 48 (.agg D1) (.agg D1)).run Tryz.prog u = .ok (.bool true) u := fun u => by rw [← hD1, eql_ids _ _ (idF_size _) (idF_size _)]; simp
  have EQ2 : ∀ u, (binOp .eql 48 (.agg D2) (.agg D2)).run Tryz.prog u = .ok (.bool true) u := fun u => by rw [← hD2, eql_ids _ _ (idF_size _) (idF_size _)]; simp
  have HZ1 : Hid (D1.toList.length = 32 ∧ (Tryz.prog.info? 48).map (·.size) = some D1.toList.length ∧ D2.toList.length = 32 ∧ (Tryz.prog.info? 48).map (·.size) = some D2.toList.length) := by rw [← hD1, ← hD2]; exact ⟨by rw [Array.length_toList, idc_size, idF_size], inf_id32 _ (idF_size _), by rw [Array.length_toList, idc_size, idF_size], inf_id32 _ (idF_size _)⟩
  clear hD1 hD2 hDN hDM hX1 hX2 ri
  have hlen : awL.length = 2 := rfl
  go_enter Tryz.func13, Tryz.ntmps13
  go_wp2_with fail
  refine (HIA.out _).mono ?_
  rintro e w1 ⟨Ra, rfl, hA, b1⟩
  have H1 : Hid ((∃ M, M.Perm [eA] ∧ IsIx Ra (idF s1) M) ∧ Below w.heap.size w w1) := ⟨hA, b1⟩
  clear hA b1
  go_wp2_with fail
  refine (HIB.out _).mono ?_
  rintro e w2 ⟨Rb, rfl, hB, b2⟩
  have H2 : Hid ((∃ M, M.Perm [eB, eM] ∧ IsIx Rb (idF s2) M) ∧ Below w.heap.size w w2) := ⟨hB, H1.out.2.trans (b2.mono H1.out.2.size)⟩
  clear hB b2
  go_wp2_with fail
  refine (HMG.out Ra Rb _ H1.out.1 H2.out.1).mono ?_
  rintro e w3 ⟨S, rfl, hS, b3⟩
  have H3 : Hid (IsMx S [idF s1, idF s2] awL ∧ Below w.heap.size w w3) := ⟨hS, H2.out.2.trans (b3.mono H2.out.2.size)⟩
  clear hS b3 H1 H2 HIA HIB HMG
  go_wp2_with fail
  refine (HOP.out S _ H3.out.1).mono ?_
  rintro e w4 ⟨g, rfl, hx, b4⟩
  have H4 : Hid (MxS w4 g [idF s1, idF s2] awL ∧ Below w.heap.size w w4) := ⟨hx, H3.out.2.trans (b4.mono H3.out.2.size)⟩
  clear hx b4 H3 HOP
  go_wp2_with (first
    | (go_at_call 22; refine (mlen_any _ _ _ _ H4.out.1).mono ?_; rintro e w5 ⟨rfl, hw5⟩; rw [hlen]; obtain rfl := hw5.symm)
    | fail)
  refine (IN.out _).mono ?_
  rintro e w5 ⟨rfl, b5⟩
  have H5 : Hid (MxS w5 g [idF s1, idF s2] awL ∧ Below w.heap.size w w5) := ⟨H4.out.1.below b5, H4.out.2.trans (b5.mono H4.out.2.size)⟩
  clear b5 H4 IN
  go_wp2_with fail
  refine (FN.out _ _ H5.out.1).mono ?_
  rintro e w6 ⟨rfl, b6⟩
  have H6 : Hid (MxS (w6.alloc (.cells X1 52)) g [idF s1, idF s2] awL ∧ Below w.heap.size w (w6.alloc (.cells X1 52)) ∧ Bk (w6.alloc (.cells X1 52)) w6.heap.size X1 52) := by
    have q := H5.out.2.trans (b6.mono H5.out.2.size)
    exact ⟨(H5.out.1.below b6).below ((Below.refl _ _).alloc (Nat.le_refl _) _), q.alloc q.size _, bk_new _ _ _⟩
  clear b6 H5 FN
  go_wp2_with (first
    | (refine wpList_store_new rfl 52 (.tmp 7) (.tmp 51) rfl X1 _ 52 w6.heap.size rfl rfl rfl HI1.out.1 (by rw [HI1.out.2.2]; kernel_rfl) HI1.out.2.1 ?_)
    | fail)
  obtain ⟨w7, hw7⟩ : ∃ u, w6.alloc (.cells X1 52) = u := ⟨_, rfl⟩
  obtain ⟨g1, hg1⟩ : ∃ u, w6.heap.size = u := ⟨_, rfl⟩
  rw [hw7, hg1] at H6
  rw [hw7, hg1]
  clear hw7 hg1 HI1
  refine (IM.out _).mono ?_
  rintro e w8 ⟨rfl, b8⟩
  have H8 : Hid (MxS w8 g [idF s1, idF s2] awL ∧ Below w.heap.size w w8 ∧ Bk w8 g1 X1 52) := ⟨H6.out.1.below b8, H6.out.2.1.trans (b8.mono H6.out.2.1.size), H6.out.2.2.below b8 H6.out.2.2.lt⟩
  clear b8 H6 IM
  go_wp2_with fail
  refine (FM.out _ _ H8.out.1).mono ?_
  rintro e w9 ⟨rfl, b9⟩
  have H9 : Hid (Below w.heap.size w (w9.alloc (.cells X2 52)) ∧ Bk (w9.alloc (.cells X2 52)) g1 X1 52 ∧ Bk (w9.alloc (.cells X2 52)) w9.heap.size X2 52) := by
    have q := H8.out.2.1.trans (b9.mono H8.out.2.1.size)
    exact ⟨q.alloc q.size _, (H8.out.2.2.below b9 H8.out.2.2.lt).alloc _, bk_new _ _ _⟩
  clear b9 H8 FM
  go_wp2_with (first
    | (refine wpList_store_new rfl 52 (.tmp 9) (.tmp 57) rfl X2 _ 52 w9.heap.size rfl rfl rfl HI2.out.1 (by rw [HI2.out.2.2]; kernel_rfl) HI2.out.2.1 ?_)
    | fail)
  obtain ⟨w10, hw10⟩ : ∃ u, w9.alloc (.cells X2 52) = u := ⟨_, rfl⟩
  obtain ⟨g2, hg2⟩ : ∃ u, w9.heap.size = u := ⟨_, rfl⟩
  rw [hw10, hg2] at H9
  rw [hw10, hg2]
  clear hw10 hg2 HI2
  have H10 : Hid (AwS w g1 g2 X1 X2 w10.drew) := ⟨H9.out.1.trans (((Below.refl _ _).drew).mono H9.out.1.size), H9.out.2.1.below (Below.refl _ _).drew H9.out.2.1.lt, H9.out.2.2.below (Below.refl _ _).drew H9.out.2.2.lt⟩
  have J1 : Hid (∀ W, AwS w g1 g2 X1 X2 W → Calls Tryz.prog 18 #[.string ⟨#[1]⟩] W fun e w' => e = .returned (.agg D1) ∧ AwS w g1 g2 X1 X2 w') := fun W hW => (I1.out W).mono fun e w' q => ⟨q.1, hW.next q.2⟩
  have J2 : Hid (∀ W, AwS w g1 g2 X1 X2 W → Calls Tryz.prog 18 #[.string ⟨#[2]⟩] W fun e w' => e = .returned (.agg D2) ∧ AwS w g1 g2 X1 X2 w') := fun W hW => (I2.out W).mono fun e w' q => ⟨q.1, hW.next q.2⟩
  have P1 : Hid (∀ (j : Nat) (v : Value), D1[j]? = some v → X1[0 + j]? = some v) := fun j v hv => by rw [Nat.zero_add]; exact HP1.out j v (by rwa [Array.getElem?_toList])
  have P2 : Hid (∀ (j : Nat) (v : Value), D2[j]? = some v → X2[0 + j]? = some v) := fun j v hv => by rw [Nat.zero_add]; exact HP2.out j v (by rwa [Array.getElem?_toList])
  have HZ3 : Hid ((Tryz.prog.info? 48).map (·.size) = some D1.size ∧ (Tryz.prog.info? 48).map (·.size) = some D2.size) := by
    have := HZ1.out
    exact ⟨by rw [this.2.1, Array.length_toList], by rw [this.2.2.2, Array.length_toList]⟩
  clear HP1 HP2 H9 hlen I1 I2 HZ1
  refine region_class10 (AwS w g1 g2 X1 X2) (by kernel_rfl) (by kernel_rfl) H10.out ?_
  try simp only [Act.put, List.setIfInBounds_toArray, List.set_cons_zero, List.set_cons_succ]
  repeat (first
    | go_big_quiet_skip
    | (go_big_quiet_want
       first
         | (refine quiet_row 48 _ rfl g1 0 X1 D1 52 _ rfl (fun _ h => h.k1) P1.out Tryz.underlying48 rfl HZ3.out.1 ?_; go_big_quiet_on; simp only [Act.put, List.setIfInBounds_toArray, List.set_cons_zero, List.set_cons_succ])
         | (refine quiet_row 48 _ rfl g2 0 X2 D2 52 _ rfl (fun _ h => h.k2) P2.out Tryz.underlying48 rfl HZ3.out.2 ?_; go_big_quiet_on; simp only [Act.put, List.setIfInBounds_toArray, List.set_cons_zero, List.set_cons_succ])
         | (refine quiet_one 3 _ rfl g1 65 (.int .i64 4) rfl (fun _ => by kernel_rfl) (fun W hW => by rw [hW.k1.cell]; exact HOF.out.1) ?_; go_big_quiet_on; simp only [Act.put, List.setIfInBounds_toArray, List.set_cons_zero, List.set_cons_succ])
         | (refine quiet_one 5 _ rfl g2 64 (.int .u8 2) rfl (fun _ => by kernel_rfl) (fun W hW => by rw [hW.k2.cell]; exact HOF.out.2) ?_; go_big_quiet_on; simp only [Act.put, List.setIfInBounds_toArray, List.set_cons_zero, List.set_cons_succ])
         | (refine quiet_call10 (.agg D1) 18 #[.string ⟨#[1]⟩] ?_ ?_ ?_; (focus (intro W hW; go_simp; done)); (focus (intro W hW; exact J1.out W hW)); go_big_quiet_on; simp only [Act.put, List.setIfInBounds_toArray, List.set_cons_zero, List.set_cons_succ])
         | (refine quiet_call10 (.agg D2) 18 #[.string ⟨#[2]⟩] ?_ ?_ ?_; (focus (intro W hW; go_simp; done)); (focus (intro W hW; exact J2.out W hW)); go_big_quiet_on; simp only [Act.put, List.setIfInBounds_toArray, List.set_cons_zero, List.set_cons_succ])
         | (refine quiet_val10 (.pointer (some ⟨g1, 0, none⟩)) ?_ ?_; (focus (intro W hW; go_simp; done)); go_big_quiet_on; simp only [Act.put, List.setIfInBounds_toArray, List.set_cons_zero, List.set_cons_succ])
         | (refine quiet_val10 (.pointer (some ⟨g1, 32, none⟩)) ?_ ?_; (focus (intro W hW; go_simp; done)); go_big_quiet_on; simp only [Act.put, List.setIfInBounds_toArray, List.set_cons_zero, List.set_cons_succ])
         | (refine quiet_val10 (.pointer (some ⟨g1, 65, none⟩)) ?_ ?_; (focus (intro W hW; go_simp; done)); go_big_quiet_on; simp only [Act.put, List.setIfInBounds_toArray, List.set_cons_zero, List.set_cons_succ])
         | (refine quiet_val10 (.pointer (some ⟨g2, 0, none⟩)) ?_ ?_; (focus (intro W hW; go_simp; done)); go_big_quiet_on; simp only [Act.put, List.setIfInBounds_toArray, List.set_cons_zero, List.set_cons_succ])
         | (refine quiet_val10 (.pointer (some ⟨g2, 32, none⟩)) ?_ ?_; (focus (intro W hW; go_simp; done)); go_big_quiet_on; simp only [Act.put, List.setIfInBounds_toArray, List.set_cons_zero, List.set_cons_succ])
         | (refine quiet_val10 (.pointer (some ⟨g2, 64, none⟩)) ?_ ?_; (focus (intro W hW; go_simp; done)); go_big_quiet_on; simp only [Act.put, List.setIfInBounds_toArray, List.set_cons_zero, List.set_cons_succ])
         | (refine quiet_val10 (.bool true) ?_ ?_; (focus (intro W hW; go_simp; done)); go_big_quiet_on; simp only [Act.put, List.setIfInBounds_toArray, List.set_cons_zero, List.set_cons_succ])
         | (refine quiet_val10 (.int .i64 0) ?_ ?_; (focus (intro W hW; go_simp; done)); go_big_quiet_on; simp only [Act.put, List.setIfInBounds_toArray, List.set_cons_zero, List.set_cons_succ])
         | (go_big_quiet_op; go_big_quiet_on)))
  refine wpQuiet_nil ?_
  intro w12 hw12
  have H12 : Hid (AwS w g1 g2 X1 X2 w12) := hw12
  clear hw12 H10
  go_wp2
  go_ret
  exact ⟨rfl, H12.out.bel⟩
end Go.Proofs.YtbfoiocbmhhdbaaGreat
/- Rows compared; what MidxOne wants of names, entries and indexes. -/
namespace Go.Proofs.YtbfoiocbmhhdbaaGreat
open Go.RowKit
set_option linter.unusedSimpArgs false
set_option linter.unusedVariables false
set_option maxRecDepth 100000 in
theorem equalIn_xeD (d : Nat) (e f : Xe) (he : e.id.size = 32) (hf : f.id.size = 32) (w : World) : (Op.equalIn (d + 3) 50 (.agg (xeC e)) (.agg (xeC f))).run Tryz.prog w = .ok (xeQ e f) w := by
  have hu : Tryz.prog.underlying 50 = some (.struct (Tryz.prog.fieldsOf 50)) := by kernel_rfl
  have hst : Tryz.prog.stoodInHeld 50 = false := by kernel_rfl
  have hfs : (Tryz.prog.fieldsOf 50).toList.map (fun q => (q.name != "_", q.type, q.offset)) = [(true, 48, 0), (true, 5, 32), (true, 3, 33), (true, 3, 34)] := by kernel_rfl
  rw [run_equalIn_struct w (d + 2) 50 (xeC e) (xeC f) hu hst]
  generalize (Tryz.prog.fieldsOf 50).toList = fs at hfs
  have hlen : fs.length = 4 := by have := congrArg List.length hfs; simpa using this
  match fs, hlen, hfs with
  | [f0, f1, f2, f3], _, hfs =>
    simp only [List.map_cons, List.map_nil, List.cons.injEq, Prod.mk.injEq, and_true, bne_iff_ne] at hfs
    obtain ⟨⟨n0, t0, o0⟩, ⟨n1, t1, o1⟩, ⟨n2, t2, o2⟩, n3, t3, o3⟩ := hfs
    obtain ⟨a1, a2, a3⟩ := xeC_at e he
    obtain ⟨b1, b2, b3⟩ := xeC_at f hf
    have u8a : (isAgg 5).run Tryz.prog w = .ok false w := by kernel_rfl
    have i64a : (isAgg 3).run Tryz.prog w = .ok false w := by kernel_rfl
    have q0 := equalIn_idsQ d e.id f.id he hf w
    have q1 := run_equalIn_int (P := Tryz.prog) w (d + 1) 5 .u8 .u8 (e.k.toNat : Int) (f.k.toNat : Int) Tryz.underlying5
    have q2 := run_equalIn_int (P := Tryz.prog) w (d + 1) 3 .i64 .i64 (e.off : Int) (f.off : Int) Tryz.underlying3
    have q3 := run_equalIn_int (P := Tryz.prog) w (d + 1) 3 .i64 .i64 (e.sz : Int) (f.sz : Int) Tryz.underlying3
    simp only [Op.eqFields, n0, n1, n2, n3, t0, t1, t2, t3, o0, o1, o2, o3, ne_eq, not_false_eq_true, if_true, Sem.run_bind, part_idQ e he, part_idQ f hf, part_cellQ _ _ _ w u8a a1, part_cellQ _ _ _ w u8a b1, part_cellQ _ _ _ w i64a a2, part_cellQ _ _ _ w i64a b2, part_cellQ _ _ _ w i64a a3, part_cellQ _ _ _ w i64a b3, Result.andThen_ok]
    rw [q0, Result.andThen_ok, xeQ]
    cases decide (e.id = f.id) with
    | false => rfl
    | true =>
      simp only [Bool.not_true, Bool.false_eq_true, if_false, Bool.true_and, Sem.run_bind, part_cellQ _ _ _ w u8a a1, part_cellQ _ _ _ w u8a b1, Result.andThen_ok, q1]
      cases ((e.k.toNat : Int) == (f.k.toNat : Int)) with
      | false => rfl
      | true =>
        simp only [Bool.not_true, Bool.false_eq_true, if_false, Bool.true_and, Sem.run_bind, part_cellQ _ _ _ w i64a a2, part_cellQ _ _ _ w i64a b2, Result.andThen_ok, q2]
        cases ((e.off : Int) == (f.off : Int)) with
        | false => rfl
        | true =>
          simp only [Bool.not_true, Bool.false_eq_true, if_false, Bool.true_and, Sem.run_bind, part_cellQ _ _ _ w i64a a3, part_cellQ _ _ _ w i64a b3, Result.andThen_ok, q3]
          cases ((e.sz : Int) == (f.sz : Int)) with
          | false => rfl
          | true => rfl
theorem part_mrp (r : Mr) (hp : r.p.size = 32) (h : r.e.id.size = 32) (w : World) : (part 48 (mrC r) 0).run Tryz.prog w = .ok (.agg (idc r.p)) w := by
  have ha : (isAgg 48).run Tryz.prog w = .ok true w := by kernel_rfl
  have hs : (sizeOf 48).run Tryz.prog w = .ok 32 w := by kernel_rfl
  have hz := mrC_size r hp h
  have hx : (mrC r).extract 0 32 = idc r.p := by
    apply Array.ext_getElem?
    intro j
    rw [Array.getElem?_extract]
    by_cases hj : j < 32
    · obtain ⟨v, hv⟩ : ∃ v, (idc r.p)[j]? = some v := ⟨_, Array.getElem?_eq_getElem (by rw [idc_size, hp]; exact hj)⟩
      rw [hv, if_pos (by omega)]
      exact mrC_p r hp j v hv
    · rw [if_neg (by omega), Array.getElem?_eq_none (by rw [idc_size, hp]; omega)]
  simp [part, ha, hs, hx]
theorem part_mre (r : Mr) (hp : r.p.size = 32) (h : r.e.id.size = 32) (w : World) : (part 50 (mrC r) 32).run Tryz.prog w = .ok (.agg (xeC r.e)) w := by
  have ha : (isAgg 50).run Tryz.prog w = .ok true w := by kernel_rfl
  have hs : (sizeOf 50).run Tryz.prog w = .ok 35 w := by kernel_rfl
  have hz := mrC_size r hp h
  have hx : (mrC r).extract 32 67 = xeC r.e := by
    apply Array.ext_getElem?
    intro j
    rw [Array.getElem?_extract]
    by_cases hj : j < 35
    · obtain ⟨v, hv⟩ : ∃ v, (xeC r.e)[j]? = some v := ⟨_, Array.getElem?_eq_getElem (by rw [xeC_size _ h]; exact hj)⟩
      rw [hv, if_pos (by omega)]
      exact mrC_e r hp j v hv
    · rw [if_neg (by omega), Array.getElem?_eq_none (by rw [xeC_size _ h]; omega)]
  simp [part, ha, hs, hx]
set_option maxRecDepth 100000 in
theorem equalIn_mrr (r : Mr) (hp : r.p.size = 32) (h : r.e.id.size = 32) (w : World) : (Op.equalIn 10000 52 (.agg (mrC r)) (.agg (mrC r))).run Tryz.prog w = .ok true w := by
  have hu : Tryz.prog.underlying 52 = some (.struct (Tryz.prog.fieldsOf 52)) := by kernel_rfl
  have hst : Tryz.prog.stoodInHeld 52 = false := by kernel_rfl
  have hfs : (Tryz.prog.fieldsOf 52).toList.map (fun q => (q.name != "_", q.type, q.offset)) = [(true, 48, 0), (true, 50, 32)] := by kernel_rfl
  rw [run_equalIn_struct w 9999 52 (mrC r) (mrC r) hu hst]
  generalize (Tryz.prog.fieldsOf 52).toList = fs at hfs
  have hlen : fs.length = 2 := by have := congrArg List.length hfs; simpa using this
  match fs, hlen, hfs with
  | [f0, f1], _, hfs =>
    simp only [List.map_cons, List.map_nil, List.cons.injEq, Prod.mk.injEq, and_true, bne_iff_ne] at hfs
    obtain ⟨⟨n0, t0, o0⟩, n1, t1, o1⟩ := hfs
    have q0 := equalIn_idsQ 9997 r.p r.p hp hp w
    have q1 := equalIn_xeD 9996 r.e r.e h h w
    simp only [Op.eqFields, n0, n1, t0, t1, o0, o1, ne_eq, not_false_eq_true, if_true, Sem.run_bind, part_mrp r hp h, part_mre r hp h, Result.andThen_ok]
    rw [q0, Result.andThen_ok]
    simp only [decide_true, Bool.not_true, Bool.false_eq_true, if_false, Sem.run_bind, part_mre r hp h, Result.andThen_ok, q1, xeQ_self, Sem.run_pure]
theorem neq_mrr (r : Mr) (hp : r.p.size = 32) (h : r.e.id.size = 32) (w : World) : (binOp .neq 52 (.agg (mrC r)) (.agg (mrC r))).run Tryz.prog w = .ok (.bool false) w := by
  rw [run_neq_struct, equalIn_mrr r hp h]; rfl
/-- The last of all names. -/
def lstN : ByteArray := ⟨(List.replicate 32 (255 : UInt8)).toArray⟩
theorem lstN_size : lstN.size = 32 := rfl
theorem cmp_last : ∀ (n : Nat) (l : List UInt8), l.length = n → ¬ Lib.compareBytes (List.replicate n (255 : UInt8)) l < 0
  | 0, [], _ => by simp [Lib.compareBytes]
  | n + 1, b :: l, h => by
    rw [List.replicate_succ, Lib.compareBytes]
    have hb : ¬ (255 : UInt8) < b := by
      rw [UInt8.lt_iff_toNat_lt]
      have := b.toNat_lt
      have e : (255 : UInt8).toNat = 255 := rfl
      omega
    rw [if_neg hb]
    split
    · decide
    · exact cmp_last n l (by simpa using h)
theorem lst_no (x : ByteArray) (h : x.size = 32) : ltN lstN x = false := decide_eq_false (cmp_last 32 (bl x) (by rw [bl_length, h]))
theorem lst_lt (x : ByteArray) (h : x.size = 32) (hx : x ≠ lstN) : ltN x lstN = true := ltN_ne hx (lst_no x h)
/-- Opened. -/
theorem IsIx.one15 {R s s' : ByteArray} {l l' : List Xe} (h : IsIx R s l) (h' : IsIx R s' l') : s = s' ∧ l = l' := by
  have h1 := h.take
  have h2 := h'.take
  exact ⟨h1.1.symm.trans h2.1, h1.2.symm.trans h2.2⟩
theorem OpS.yes15 {S s : ByteArray} {l : List Xe} {e : Ending} {w : World} (h : OpS S e w) (hi : IsIx S s l) : ∃ g, e = .returned (.tuple #[.pointer (some ⟨g, 0, none⟩), .int .i64 0]) ∧ IxS w g s l := by
  rcases h with ⟨_, h2⟩ | ⟨g, s', l', h1, h2, h3⟩
  · exact absurd hi (h2 s l)
  · obtain ⟨rfl, rfl⟩ := hi.one15 h2
    exact ⟨g, h1, h3⟩
/-- One pack's rows. -/
def rwO (s : ByteArray) (M : List Xe) : List Mr := M.map fun e => ⟨s, e⟩
theorem rwO_e (s : ByteArray) (M : List Xe) : (rwO s M).map Mr.e = M := by
  unfold rwO
  rw [List.map_map]
  exact (List.map_congr_left (fun _ _ => rfl)).trans (List.map_id M)
/-- Merged of one index. -/
theorem one_mgd {s : ByteArray} {M : List Xe} (h : OkL M) : Mgd [(s, M)] [s] (rwO s M) where
  sums := fun p => by simp [eq_comm]
  pri := List.pairwise_singleton _ _
  ri := by rw [RiM, rwO_e]; exact h.ri
  src := fun r hr => by
    obtain ⟨e, he, rfl⟩ := List.mem_map.1 hr
    exact ⟨(s, M), by simp, rfl, he⟩
  all := fun q hq e he => by
    rw [List.mem_singleton] at hq
    subst hq
    exact ⟨⟨s, e⟩, List.mem_map.2 ⟨e, he, rfl⟩, rfl, ltN_irr _⟩
/-- Merged of it and a later pack that has some of its names. -/
theorem two_mgd {s : ByteArray} {M N : List Xe} (hs : s.size = 32) (hn : s ≠ lstN) (h : OkL M) (hN : ∀ e ∈ N, ∃ f ∈ M, f.id = e.id) : Mgd [(lstN, N), (s, M)] [s, lstN] (rwO s M) where
  sums := fun p => by
    constructor
    · intro hp
      rcases List.mem_cons.1 hp with rfl | hp
      · exact ⟨(p, M), by simp, rfl⟩
      · rw [List.mem_singleton] at hp; subst hp; exact ⟨(lstN, N), by simp, rfl⟩
    · rintro ⟨q, hq, rfl⟩
      rcases List.mem_cons.1 hq with rfl | hq
      · simp
      · rw [List.mem_singleton] at hq; subst hq; simp
  pri := List.pairwise_pair.2 (lst_lt s hs hn)
  ri := by rw [RiM, rwO_e]; exact h.ri
  src := fun r hr => by
    obtain ⟨e, he, rfl⟩ := List.mem_map.1 hr
    exact ⟨(s, M), by simp, rfl, he⟩
  all := fun q hq e he => by
    rcases List.mem_cons.1 hq with rfl | hq
    · obtain ⟨f, hf, hfe⟩ := hN e he
      exact ⟨⟨s, f⟩, List.mem_map.2 ⟨f, hf, rfl⟩, hfe, lst_no s hs⟩
    · rw [List.mem_singleton] at hq; subst hq
      exact ⟨⟨s, e⟩, List.mem_map.2 ⟨e, he, rfl⟩, rfl, ltN_irr _⟩
/-- An entry that lies elsewhere. -/
def mvE (e : Xe) : Xe := ⟨e.id, e.k, 4 + (e.off + 1) % 1000, e.sz⟩
theorem mvE_ok {e : Xe} (h : okX e = true) : okX (mvE e) = true := by
  rw [okX_iff] at h ⊢
  obtain ⟨h1, h2, h3, h4, h5, h6⟩ := h
  refine ⟨h1, h2, ?_, ?_, h5, h6⟩
  · show (4 : Int) ≤ 4 + (e.off + 1) % 1000
    omega
  · show (4 : Int) + (e.off + 1) % 1000 ≤ 67108864
    omega
/-- Those that are chosen. -/
def chS (bs : List Bool) (M : List Xe) : List Xe := (M.zipIdx.filter fun q => bs.getD q.2 false).map fun q => mvE q.1
theorem chS_snoc (bs : List Bool) (M : List Xe) (k : Nat) (e : Xe) (h : M[k]? = some e) : chS bs (M.take (k + 1)) = if bs.getD k false = true then chS bs (M.take k) ++ [mvE e] else chS bs (M.take k) := by
  have hk : k < M.length := (List.getElem?_eq_some_iff.1 h).1
  rw [List.take_add_one, h]
  unfold chS
  rw [Option.toList_some, List.zipIdx_append, List.filter_append, List.map_append]
  have e1 : 0 + (M.take k).length = k := by rw [List.length_take]; omega
  rw [e1]
  cases hb : bs.getD k false with
  | true =>
    have hb' : bs[k]?.getD false = true := by simpa using hb
    simp [List.zipIdx, List.filter, hb']
  | false =>
    have hb' : bs[k]?.getD false = false := by simpa using hb
    simp [List.zipIdx, List.filter, hb']
theorem chS_mem {bs : List Bool} {M : List Xe} {e : Xe} (h : e ∈ chS bs M) : ∃ f ∈ M, e = mvE f := by
  unfold chS at h
  obtain ⟨q, hq, rfl⟩ := List.mem_map.1 h
  have := (List.mem_filter.1 hq).1
  exact ⟨q.1, List.fst_mem_of_mem_zipIdx this, rfl⟩
theorem chS_gd {bs : List Bool} {M : List Xe} (h : OkL M) : GdX (chS bs M) := by
  refine ⟨fun e he => ?_, ?_, ?_⟩
  · obtain ⟨f, hf, rfl⟩ := chS_mem he
    exact mvE_ok (h.ok f hf)
  · have h1 : (M.zipIdx.map (·.1)).Pairwise (fun a b => a.id ≠ b.id) := by rw [List.zipIdx_map_fst]; exact h.ri.apart
    rw [List.pairwise_map] at h1
    unfold chS
    rw [Aprt, List.pairwise_map]
    exact (h1.sublist List.filter_sublist).imp (fun {a b} q => q)
  · unfold chS
    rw [List.length_map]
    refine Nat.le_trans (List.length_filter_le _ _) ?_
    rw [List.length_zipIdx]
    exact h.len
end Go.Proofs.YtbfoiocbmhhdbaaGreat
