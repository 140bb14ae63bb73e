import Derived.Test.YtblmblbkfdcbjaaY12
import Derived.Test.YtblmblbkfdcbjaaY13
import Derived.Test.YtblmblbkfdcbjaaY16
import Derived.Maps.AppendAt
/- The document's Rebuild. -/
namespace Go.Proofs.Ytblmblbkfdcbjaa
open Go.RowKit
set_option linter.unusedSimpArgs false
set_option linter.unusedVariables false
theorem thr_at (ts : List Bool) (i : Nat) (t : Bool) (h : ts[i]? = some t) (hi : i < 64) : thr ts i = t := by
  have hl := (List.getElem?_eq_some_iff.1 h).1
  rw [thr, nt, mis, List.getD, misK_get ts ts.length i hi, if_pos hl, List.getD, h]
  simp
/-- A list of the call's own: where it lies. -/
theorem own_at {w : World} {B : Nat} {v : Value} {xs : List ByteArray} {e : TypeId} (h : w.ownsRow B e 1 v xs.length (sv xs)) : ∃ a c, v = .slice a xs.length c ∧ TxL w a xs ∧ xs.length ≤ c := by
  obtain ⟨a, c, rfl, ht, _⟩ := own_txl h
  refine ⟨a, c, rfl, ht, ?_⟩
  rcases h.2 with ⟨e, h0⟩ | ⟨g, cap, cur, e, _, _, h4, _⟩
  · omega
  · simp only [Value.slice.injEq] at e
    rw [e.2.2]; exact h4
/-- Two rows of the call's own, in two blocks. -/
def Apt (v u : Value) : Prop := v.ownBlock = none ∨ v.ownBlock ≠ u.ownBlock
/-- The one grows, the other stays apart. -/
theorem apt_grow {W : World} {B r : Nat} {v u v' : Value} {ys : List Value} {e : TypeId} (hu : W.ownsRow B e 1 u r ys) (ha : Apt v u ∧ Apt u v) (hat : v'.ownBlock = v.ownBlock ∨ v'.ownBlock = some (W.heap.size + 1)) : Apt v' u ∧ Apt u v' := by
  unfold Apt at *
  rcases hat with h | h
  · rw [h]; exact ha
  · rw [h]
    cases hb : u.ownBlock with
    | none => exact ⟨.inr (by simp), .inl rfl⟩
    | some g =>
      have := (hu.lt g hb).2
      exact ⟨.inr (by simp; omega), .inr (by simp; omega)⟩
theorem ofD_lo (n k i : Nat) (h : i < k) : (ofD n k)[i]? = (txtL k (unL k))[i]? := by
  rw [ofD, List.getElem?_append_left (by rw [txtL_len, unL_len]; exact h)]
theorem ofD_hi (n k i : Nat) (h : k ≤ i) : (ofD n k)[i]? = (cyX (n - k) k)[i - k]? := by
  rw [ofD, List.getElem?_append_right (by rw [txtL_len, unL_len]; exact h), txtL_len, unL_len]
set_option maxHeartbeats 4000000 in
set_option maxRecDepth 100000 in
theorem rrebuild_any (a b : Option Addr) (ca cb n m : Nat) (k : Int) (xs : List ByteArray) (ts : List Bool) (w : World) (hx : TxL w a xs) (ht : BoL w b ts) (nx : xs.length = n) (nt' : ts.length = m) (ln : n ≤ 4611686018427387904) (lm : m ≤ 4611686018427387904)
    (sx : ∀ x ∈ xs, x.size ≤ 281474976710656) (k1 : -9223372036854775808 ≤ k) (k2 : k ≤ 9223372036854775807) :
    Calls Try.prog 26 #[.slice a n ca, .slice b m cb, .int .i64 k] w fun e w' => ∃ ao c, e = .returned (.tuple #[.slice ao (rbX xs ts k).length c, .int .i64 (rbE xs ts k)]) ∧ Ans w ao (rbX xs ts k) w' ∧ Below w.heap.size w w' := by
  have HX : Hid (TxL w a xs) := hx
  have HT : Hid (BoL w b ts) := ht
  by_cases h1 : 1 ≤ k
  · by_cases h2 : k ≤ 32
    · by_cases h3 : k ≤ (n : Int)
      · have h3a : ¬ (n : Int) < k := by omega
        by_cases h4 : n ≤ 64
        · have h4a : ¬ (n : Int) > 64 := by omega
          by_cases hmn : m = n
          · subst hmn
            have hok : rbOk xs ts k := ⟨by rw [nx]; exact ⟨⟨h1, h2⟩, h3, by omega⟩, by rw [nx, nt']⟩
            obtain ⟨q, rfl⟩ : ∃ q : Nat, k = q := ⟨k.toNat, by omega⟩
            have hq1 : 1 ≤ q := by omega
            have hq2 : q ≤ 32 := by omega
            have hqm : q ≤ m := by omega
            have NX : Hid (xs.length = m) := nx
            have NT : Hid (ts.length = m) := nt'
            have SX : Hid (∀ x ∈ xs, x.size ≤ 281474976710656) := sx
            have HOK : Hid (rbOk xs ts (q : Int)) := hok
            have c1 := fun W => ru_any (q : Int) W
            have e1 : unX (q : Int) = txtL q (unL q) := by unfold unX; rw [if_pos (by omega), Int.toNat_natCast]
            have e2 : unE (q : Int) = 0 := by unfold unE; rw [if_pos (by omega)]
            have e3 : (txtL q (unL q)).length = q := by rw [txtL_len, unL_len]
            rw [e1, e2, e3] at c1
            have C1 : Hid _ := c1
            have NO : Hid ((ofD m q).length = m) := ofD_len m q hq1 hqm h4
            obtain ⟨i0, hi, hz0, hz1, hz2⟩ := info_parts inf_str
            obtain ⟨p, hp⟩ : ∃ p, thr ts = p := ⟨_, rfl⟩
            have HP : Hid (thr ts = p) := hp
            clear c1 e1 e2 e3 hx ht nx nt' sx hok hp k1 k2
            go_enter Try.func26, Try.ntmps26
            go_wp2_with fail
            refine Calls.mono (C1.out _) ?_
            rintro e w1 ⟨au, cu, rfl, hA, hb1⟩
            have AU : Hid (TxL w1 au (txtL q (unL q))) := hA.1
            have B1 : Hid (Below w.heap.size w w1) := hb1
            have HX1 : Hid (TxL w1 a xs) := HX.out.below hb1
            have HT1 : Hid (BoL w1 b ts) := HT.out.below hb1
            clear hA hb1
            go_wp2_with fail
            go_loopw [8, 9, 12] (fun v u t wr => ∃ i r : Nat, i ≤ m ∧ t = .int .i64 i ∧ r ≤ i ∧ Hid (cnt p i = r) ∧ Hid (wr.ownsRow w1.heap.size 9 1 v r (sv (pkK p xs i))) ∧ Hid (wr.ownsRow w1.heap.size 9 1 u r (sv (pkK p (ofD m q) i))) ∧ Hid (Apt v u ∧ Apt u v) ∧ Hid (Below w1.heap.size w1 wr)) (fun _ _ t _ => m - (intOf t).toNat)
            case atStart => exact ⟨0, 0, by omega, rfl, by omega, rfl, World.ownsRow_nil _ _ _ _, World.ownsRow_nil _ _ _ _, ⟨.inl rfl, .inl rfl⟩, Below.refl _ _⟩
            case round =>
              obtain ⟨i, r, him, rfl, hri, HC, HV, HU, HA, HB⟩ := hrel
              have hzr : w1.heap.size ≤ wr.heap.size := HB.out.size
              by_cases hlt : i < m
              · have hiz : (i : Int) < (m : Nat) := by omega
                obtain ⟨x, hxi⟩ : ∃ x, xs[i]? = some x := ⟨_, List.getElem?_eq_getElem (by rw [NX.out]; exact hlt)⟩
                obtain ⟨t, hti⟩ : ∃ t, ts[i]? = some t := ⟨_, List.getElem?_eq_getElem (by rw [NT.out]; exact hlt)⟩
                have hpi : p i = t := by rw [← HP.out]; exact thr_at ts i t hti (by omega)
                obtain ⟨gb, ob, rfl, hgb, hc1⟩ := (HT1.out.below HB.out) i t hti
                have hcn := cnt_next p i
                rw [HC.out, hpi] at hcn
                cases t with
                | false =>
                  have HCn : Hid (cnt p (i + 1) = r) := by show _ = r; rw [hcn]; rfl
                  have HVn : Hid (wr.ownsRow w1.heap.size 9 1 u8 r (sv (pkK p xs (i + 1)))) := by show World.ownsRow _ _ _ _ _ _ _; rw [pkK_no p xs i hpi]; exact HV.out
                  have HUn : Hid (wr.ownsRow w1.heap.size 9 1 u9 r (sv (pkK p (ofD m q) (i + 1)))) := by show World.ownsRow _ _ _ _ _ _ _; rw [pkK_no p (ofD m q) i hpi]; exact HU.out
                  clear hcn hpi hti hxi HV HU HC
                  go_wp2
                  go_roundw
                  case rel => exact ⟨i + 1, r, by omega, by go_num, by omega, HCn.out, HVn.out, HUn.out, HA.out, HB.out⟩
                  case measure => simp [intOf]; omega
                | true =>
                  have HCn : Hid (cnt p (i + 1) = r + 1) := by show _ = r + 1; rw [hcn]; rfl
                  have HNV : Hid (sv (pkK p xs (i + 1)) = sv (pkK p xs i) ++ [.string x]) := by show _ = _; rw [pkK_yes p xs i x hxi hpi, sv_append]; rfl
                  obtain ⟨y, hyi⟩ : ∃ y, (ofD m q)[i]? = some y := ⟨_, List.getElem?_eq_getElem (by rw [NO.out]; exact hlt)⟩
                  have HNU : Hid (sv (pkK p (ofD m q) (i + 1)) = sv (pkK p (ofD m q) i) ++ [.string y]) := by show _ = _; rw [pkK_yes p (ofD m q) i y hyi hpi, sv_append]; rfl
                  obtain ⟨ga, oa, rfl, hga, hc2⟩ := (HX1.out.below HB.out) i x hxi
                  clear hcn hpi hti hxi HC
                  go_wp2_with (at_builtin; refine wpList_append_own_at _ rfl _ _ 22 rfl w1.heap.size 9 i0 (.string ⟨#[]⟩) 1 16 Try.underlying22 hi hz0 hz1 hz2 rfl (by decide) _ _ _ rfl (HV.out.alloc _) ⟨wr.heap.size, 0, none⟩ 1 1 [.string x] rfl rfl (news_one _ _ _) (one_str _) (by unfold maxLen; omega) (by omega) (by simp; omega) ?_)
                  intro v' w7 hown1 hgrow _ hat
                  have HV7 : Hid (w7.ownsRow w1.heap.size 9 1 v' (r + 1) (sv (pkK p xs (i + 1)))) := by
                    show World.ownsRow _ _ _ _ _ _ _
                    rw [HNV.out]; exact hown1
                  have HU7 : Hid (w7.ownsRow w1.heap.size 9 1 u9 r (sv (pkK p (ofD m q) i))) := (HU.out.alloc _).kept hgrow HA.out.2
                  have HB7 : Hid (Below w1.heap.size w1 w7) := apn_bel HB.out hzr HV.out hgrow
                  have HA7 : Hid (Apt v' u9 ∧ Apt u9 v') := apt_grow HU.out HA.out hat
                  have hz7 : w1.heap.size ≤ w7.heap.size := HB7.out.size
                  clear hown1 hgrow HV HU HB HA hat
                  by_cases hiq : i < q
                  · have hiqz : (i : Int) < (q : Nat) := by omega
                    rw [ofD_lo m q i hiq] at hyi
                    obtain ⟨gu, ou, rfl, hgu, hc3⟩ := (AU.out.below HB7.out) i y hyi
                    clear hyi
                    go_wp2_with (at_builtin; refine wpList_append_own_at _ rfl _ _ 22 rfl w1.heap.size 9 i0 (.string ⟨#[]⟩) 1 16 Try.underlying22 hi hz0 hz1 hz2 rfl (by decide) _ _ _ rfl (HU7.out.alloc _) ⟨w7.heap.size, 0, none⟩ 1 1 [.string y] rfl rfl (news_one _ _ _) (one_str _) (by unfold maxLen; omega) (by omega) (by simp; omega) ?_)
                    intro u' w8 hown2 hgrow2 _ hat
                    have HU8 : Hid (w8.ownsRow w1.heap.size 9 1 u' (r + 1) (sv (pkK p (ofD m q) (i + 1)))) := by
                      show World.ownsRow _ _ _ _ _ _ _
                      rw [HNU.out]; exact hown2
                    have HV8 : Hid (w8.ownsRow w1.heap.size 9 1 v' (r + 1) (sv (pkK p xs (i + 1)))) := (HV7.out.alloc _).kept hgrow2 HA7.out.1
                    have HB8 : Hid (Below w1.heap.size w1 w8) := apn_bel HB7.out hz7 HU7.out hgrow2
                    have HA8 : Hid (Apt v' u' ∧ Apt u' v') := (apt_grow HV7.out ⟨HA7.out.2, HA7.out.1⟩ hat).symm
                    clear hown2 hgrow2 HV7 HU7 HB7 HA7 hat
                    go_wp2
                    go_roundw
                    case rel => exact ⟨i + 1, r + 1, by omega, by go_num, by omega, HCn.out, HV8.out, HU8.out, HA8.out, HB8.out⟩
                    case measure => simp [intOf]; omega
                  · have hiqz : ¬ (i : Int) < (q : Nat) := by omega
                    rw [ofD_hi m q i (by omega)] at hyi
                    obtain ⟨z, hz⟩ : ∃ z, m - q = z := ⟨_, rfl⟩
                    obtain ⟨jj, hjj⟩ : ∃ jj, i - q = jj := ⟨_, rfl⟩
                    have hzz : (m : Int) - (q : Int) = (z : Int) := by omega
                    have hjz : (i : Int) - (q : Int) = (jj : Int) := by omega
                    have hz1z : 1 ≤ z := by omega
                    have hz64 : z ≤ 64 := by omega
                    have hjl : jj < z := by omega
                    rw [hz, hjj] at hyi
                    have c2 := rcy_any (z : Int) (q : Int) w7
                    have e3 : (caX (z : Int) (q : Int)).length = z := cyX_len z q hz64 hq1 (by omega)
                    have e4 : caE (z : Int) (q : Int) = 0 := by unfold caE; rw [if_pos (by omega)]
                    rw [e3, e4] at c2
                    have C2 : Hid _ := c2
                    have HYI : Hid ((cyX z q)[jj]? = some y) := hyi
                    clear c2 e3 e4 hz hjj hyi
                    go_wp2_with fail
                    refine Calls.mono C2.out ?_
                    rintro e w8 ⟨ac, cc, rfl, hAc, hb8⟩
                    obtain ⟨gu, ou, rfl, hgu, hc3⟩ := hAc.1 jj y HYI.out
                    have HU8 : Hid (w8.ownsRow w1.heap.size 9 1 u9 r (sv (pkK p (ofD m q) i))) := own_kept HU7.out hb8
                    have HV8 : Hid (w8.ownsRow w1.heap.size 9 1 v' (r + 1) (sv (pkK p xs (i + 1)))) := own_kept HV7.out hb8
                    have HB8 : Hid (Below w1.heap.size w1 w8) := HB7.out.trans (hb8.mono hz7)
                    have hz8 : w1.heap.size ≤ w8.heap.size := HB8.out.size
                    clear hAc hb8 HU7 HV7 HB7 C2
                    go_wp2_with (at_builtin; refine wpList_append_own_at _ rfl _ _ 22 rfl w1.heap.size 9 i0 (.string ⟨#[]⟩) 1 16 Try.underlying22 hi hz0 hz1 hz2 rfl (by decide) _ _ _ rfl (HU8.out.alloc _) ⟨w8.heap.size, 0, none⟩ 1 1 [.string y] rfl rfl (news_one _ _ _) (one_str _) (by unfold maxLen; omega) (by omega) (by simp; omega) ?_)
                    intro u' w9 hown2 hgrow2 _ hat
                    have HU9 : Hid (w9.ownsRow w1.heap.size 9 1 u' (r + 1) (sv (pkK p (ofD m q) (i + 1)))) := by
                      show World.ownsRow _ _ _ _ _ _ _
                      rw [HNU.out]; exact hown2
                    have HV9 : Hid (w9.ownsRow w1.heap.size 9 1 v' (r + 1) (sv (pkK p xs (i + 1)))) := (HV8.out.alloc _).kept hgrow2 HA7.out.1
                    have HB9 : Hid (Below w1.heap.size w1 w9) := apn_bel HB8.out hz8 HU8.out hgrow2
                    have HA9 : Hid (Apt v' u' ∧ Apt u' v') := (apt_grow HV8.out ⟨HA7.out.2, HA7.out.1⟩ hat).symm
                    clear hown2 hgrow2 HV8 HU8 HB8 HA7 hat
                    go_wp2
                    go_roundw
                    case rel => exact ⟨i + 1, r + 1, by omega, by go_num, by omega, HCn.out, HV9.out, HU9.out, HA9.out, HB9.out⟩
                    case measure => simp [intOf]; omega
              · have hiz : ¬ (i : Int) < (m : Nat) := by omega
                have him2 : i = m := by omega
                have hpv := HV.out
                have hpu := HU.out
                have hpl := pkd_len p xs
                have hplU := pkd_len p (ofD m q)
                rw [NX.out] at hpl
                rw [NO.out] at hplU
                have hrc : cnt p m = r := by rw [← him2]; exact HC.out
                rw [hrc] at hpl hplU
                rw [him2] at hpv hpu
                have ev : pkK p xs m = pkd p xs := by rw [← pkK_all, NX.out]
                have eu : pkK p (ofD m q) m = pkd p (ofD m q) := by rw [← pkK_all, NO.out]
                rw [ev] at hpv
                rw [eu] at hpu
                obtain ⟨av, cv, hv, htv, hcv⟩ := own_at (xs := pkd p xs) (by rw [hpl]; exact hpv)
                obtain ⟨aU, cU, hu, htu, hcu⟩ := own_at (xs := pkd p (ofD m q)) (by rw [hplU]; exact hpu)
                rw [hpl] at hv hcv
                rw [hplU] at hu hcu
                subst hv
                subst hu
                have TV : Hid (TxL wr av (pkd p xs)) := htv
                have TU : Hid (TxL wr aU (pkd p (ofD m q))) := htu
                have PL : Hid ((pkd p xs).length = r) := hpl
                have B2 : Hid (Below w.heap.size w wr) := B1.out.trans (HB.out.mono B1.out.size)
                have HRC : Hid (cnt p m = r) := hrc
                have c3 := fun W hW => alike_any av cv (pkd p xs) W hW (by rw [hpl]; omega)
                rw [hpl] at c3
                clear hpv hpu hpl hplU hrc ev eu htv htu HV HU HC HA HB him2
                cases hev : evn (pkd p xs) with
                | false =>
                  rw [hev] at c3
                  have C3 : Hid _ := c3
                  have e1 : Hid (rbX xs ts (q : Int) = []) := if_neg (fun h => by rw [HP.out, hev] at h; exact absurd h.2.1 (by simp))
                  have e2 : Hid (rbE xs ts (q : Int) = 1) := if_neg (fun h => by rw [HP.out, hev] at h; exact absurd h.2 (by simp))
                  clear c3 hev
                  go_wp2_with fail
                  refine Calls.mono (C3.out _ TV.out) ?_
                  rintro e w4 ⟨rfl, hb4⟩
                  have B4 : Hid (Below w.heap.size w w4) := B2.out.trans (hb4.mono B2.out.size)
                  clear hb4
                  go_wp2
                  go_ret2
                  rw [e1.out, e2.out]
                  first | exact ⟨none, 0, rfl, ⟨fun i x hx => by simp at hx, fun b o s e => by cases e⟩, B4.out⟩ | exact ⟨none, ⟨0, rfl⟩, ⟨fun i x hx => by simp at hx, fun b o s e => by cases e⟩, B4.out⟩
                | true =>
                  rw [hev] at c3
                  have C3 : Hid _ := c3
                  have HEV : Hid (evn (pkd p xs) = true) := hev
                  clear c3 hev
                  go_wp2_with fail
                  refine Calls.mono (C3.out _ TV.out) ?_
                  rintro e w4 ⟨rfl, hb4⟩
                  have B4 : Hid (Below w.heap.size w w4) := B2.out.trans (hb4.mono B2.out.size)
                  have TV4 : Hid (TxL w4 av (pkd p xs)) := TV.out.below hb4
                  have TU4 : Hid (TxL w4 aU (pkd p (ofD m q))) := TU.out.below hb4
                  clear hb4 TV TU B2 C3
                  by_cases hrq : r < q
                  · have hrqz : (r : Int) < (q : Nat) := by omega
                    have e1 : Hid (rbX xs ts (q : Int) = []) := if_neg (fun h => by have := h.2.2; rw [HP.out, PL.out] at this; omega)
                    have e2 : Hid (rbE xs ts (q : Int) = 70) := by
                      show rbE xs ts (q : Int) = 70
                      unfold rbE
                      rw [if_pos ⟨HOK.out, by rw [HP.out]; exact HEV.out⟩, if_neg (by rw [HP.out, PL.out]; omega)]
                    go_wp2
                    go_ret2
                    rw [e1.out, e2.out]
                    first | exact ⟨none, 0, rfl, ⟨fun i x hx => by simp at hx, fun b o s e => by cases e⟩, B4.out⟩ | exact ⟨none, ⟨0, rfl⟩, ⟨fun i x hx => by simp at hx, fun b o s e => by cases e⟩, B4.out⟩
                  · have hrqz : ¬ (r : Int) < (q : Nat) := by omega
                    have hcn : q ≤ cnt p m := by rw [HRC.out]; omega
                    have e1 : Hid (rbX xs ts (q : Int) = reX p xs q (wid (pkd p xs))) := by
                      show rbX xs ts (q : Int) = _
                      unfold rbX
                      rw [if_pos ⟨HOK.out, by rw [HP.out]; exact HEV.out, by rw [HP.out, PL.out]; omega⟩, HP.out, Int.toNat_natCast]
                    have e2 : Hid (rbE xs ts (q : Int) = 0) := by
                      show rbE xs ts (q : Int) = 0
                      unfold rbE
                      rw [if_pos ⟨HOK.out, by rw [HP.out]; exact HEV.out⟩, if_pos (by rw [HP.out, PL.out]; omega)]
                    have hUt : (pkd p (ofD m q)).take q = usd m q (idxU p m q) := by rw [pkd_take, NO.out]; rfl
                    obtain ⟨hsq, hE⟩ := used_inv p m q hq1 hqm h4 hcn
                    have hUsq := usd_sq m q (idxU p m q) hq1 hqm h4 (idx_ris p m q) (idx_len p m q hcn)
                    obtain ⟨U, hU⟩ : ∃ U, usd m q (idxU p m q) = U := ⟨_, rfl⟩
                    rw [hU] at hUt hsq hE hUsq
                    obtain ⟨V, hV⟩ : ∃ V, ivX U = V := ⟨_, rfl⟩
                    have c5 := fun W hW => ri_any aU cU U W hW (by rw [hUsq.1]; omega) (fun x hx => by rw [hUsq.2 x hx]; omega)
                    rw [hV] at hsq c5
                    rw [hE, hUsq.1, hsq.1] at c5
                    have NV : Hid (V.length = q) := hsq.1
                    have SV : Hid (∀ x ∈ V, x.size = q) := hsq.2
                    obtain ⟨d, hd⟩ : ∃ d, wid (pkd p xs) = d := ⟨_, rfl⟩
                    have hdb : d ≤ 281474976710656 := by rw [← hd]; exact wid_of (by rw [PL.out]; omega) _ (fun x hx => SX.out x (pkd_mem _ _ x hx))
                    obtain ⟨S, hS⟩ : ∃ S, (pkd p xs).take q = S := ⟨_, rfl⟩
                    have NS : Hid (S.length = q) := by show S.length = q; rw [← hS, List.length_take, PL.out]; omega
                    have SS : Hid (∀ x ∈ S, x.size = d) := fun x hx => by rw [← hd]; rw [← hS] at hx; exact evn_all _ HEV.out x (List.mem_of_mem_take hx)
                    have hda : daX p xs q d = mixL V S d := by rw [daX, NX.out, hU, hV, hS]
                    obtain ⟨O, hO⟩ : ∃ O, mixL V S d = O := ⟨_, rfl⟩
                    have NO2 : Hid (O.length = q) := by show O.length = q; rw [← hO, mixL_len]; exact NV.out
                    have SO : Hid (∀ x ∈ O, x.size = d) := by rw [← hO]; exact mixL_size _ _ _
                    have HO : Hid (mixL V S d = O) := hO
                    have hre : reX p xs q (wid (pkd p xs)) = O ++ mixL (cyX (m - q) q) O d := by rw [hd, reX, hda, hO, NX.out]
                    have HRE : Hid (rbX xs ts (q : Int) = O ++ mixL (cyX (m - q) q) O d) := by show _ = _; rw [e1.out, hre]
                    have TS4 : Hid (TxL w4 av S) := by rw [← hS]; exact TV4.out.take q
                    have TW4 : Hid (TxL w4 aU U) := by rw [← hUt]; exact TU4.out.take q
                    have C5 : Hid _ := c5
                    have hqc : q ≤ cU := by omega
                    have hqv : q ≤ cv := by omega
                    clear c5 hU hV hd hS hO hda hre hE hsq hUsq hUt TV4 TU4 e1 hcn
                    go_wp2_with fail
                    refine Calls.mono (C5.out _ TW4.out) ?_
                    rintro e w5 ⟨ab, cb2, rfl, hA, hb5⟩
                    have TB5 : Hid (TxL w5 ab V) := hA.1
                    have B5 : Hid (Below w.heap.size w w5) := B4.out.trans (hb5.mono B4.out.size)
                    have TS5 : Hid (TxL w5 av S) := TS4.out.below hb5
                    clear hA hb5 B4 TS4 TW4 C5
                    go_wp2_with fail
                    go_loopw [17, 18] (fun v t wr => ∃ i : Nat, i ≤ q ∧ t = .int .i64 i ∧ Hid (wr.ownsRow w5.heap.size 9 1 v i (sv (O.take i))) ∧ Hid (Below w5.heap.size w5 wr)) (fun _ t _ => q - (intOf t).toNat)
                    case atStart => exact ⟨0, by omega, rfl, World.ownsRow_nil _ _ _ _, Below.refl _ _⟩
                    case round =>
                      obtain ⟨i, hiq, rfl, HW, HB⟩ := hrel
                      have hzr : w5.heap.size ≤ wr.heap.size := HB.out.size
                      by_cases hlt : i < q
                      · have hiz : (i : Int) < (q : Nat) := by omega
                        obtain ⟨x, hxi⟩ : ∃ x, V[i]? = some x := ⟨_, List.getElem?_eq_getElem (by rw [NV.out]; exact hlt)⟩
                        have hxs := SV.out x (List.mem_of_getElem? hxi)
                        obtain ⟨gB, oB, rfl, hgB, hc⟩ := (TB5.out.below HB.out) i x hxi
                        have HT : Hid (O.take (i + 1) = O.take i ++ [mixT x S d]) := by
                          show _ = _
                          rw [List.take_add_one, ← HO.out, mixL, List.getElem?_map, hxi]; rfl
                        obtain ⟨cap, W1, hcvt, hb1, hby⟩ := conv_by x wr.drew
                        rw [hxs] at hcvt hby
                        have HBY : Hid (ByL W1 (some ⟨wr.heap.size, 0, none⟩) x q) := hby
                        have HB1 : Hid (Below w5.heap.size w5 W1) := HB.out.drew.trans (hb1.mono hzr)
                        have HW1 : Hid (W1.ownsRow w5.heap.size 9 1 u17 i (sv (O.take i))) := own_kept HW.out.drew hb1
                        have hcm := made_any (some ⟨wr.heap.size, 0, none⟩) av q cap cv q d x S W1 HBY.out (TS5.out.below HB1.out) NS.out hq1 (by omega) (Nat.le_refl _) (by omega) SS.out hdb
                        obtain ⟨pt, hpt⟩ : ∃ pt, mixT x S d = pt := ⟨_, rfl⟩
                        rw [hpt] at hcm HT
                        have CM : Hid _ := hcm
                        clear hcm hpt hby hb1 hxi hxs HBY
                        go_wp2_with fail
                        go_region_law (first
                          | (obtain ⟨v', w7, hrun, hown1, hgrow, _⟩ := run_append_own (P := Try.prog) (w := w6.alloc (.cells #[.string pt] 9)) w5.heap.size 22 22 9 i0 (.string ⟨#[]⟩) 1 16 Try.underlying22 hi hz0 hz1 hz2 rfl (by decide) u17 i (sv (O.take i)) (HW6.out.alloc _) ⟨w6.heap.size, 0, none⟩ 1 1 [.string pt] rfl (news_one _ _ _) (one_str _) (by unfold maxLen; omega) (by omega) (by simp; omega)
                             refine step_app_run (by rfl) _ _ _ _ (by rfl) u17 (.slice (some ⟨w6.heap.size, 0, none⟩) 1 1) v' w7 (by rfl) (by rfl) hrun ?_)
                          | (go_simp; go_at_call 47; refine Calls.mono CM.out ?_; rintro e w6 ⟨rfl, hb6⟩; dsimp only
                             have HW6 : Hid (w6.ownsRow w5.heap.size 9 1 u17 i (sv (O.take i))) := own_kept HW1.out hb6
                             have HB6 : Hid (Below w5.heap.size w5 w6) := HB1.out.trans (hb6.mono HB1.out.size)
                             have hz6 : w5.heap.size ≤ w6.heap.size := HB6.out.size
                             clear hb6))
                        have HO7 : Hid (w7.ownsRow w5.heap.size 9 1 v' (i + 1) (sv (O.take (i + 1)))) := by
                          show World.ownsRow _ _ _ _ _ _ _
                          rw [HT.out, sv_append]; exact hown1
                        have HB7 : Hid (Below w5.heap.size w5 w7) := apn_bel HB6.out hz6 HW6.out hgrow
                        clear hown1 hgrow hrun
                        go_wp2
                        go_roundw
                        case rel => exact ⟨i + 1, by omega, by go_num, HO7.out, HB7.out⟩
                        case measure => simp [intOf]; omega
                      · have hiz : ¬ (i : Int) < (q : Nat) := by omega
                        have hiq2 : i = q := by omega
                        have hown := HW.out
                        rw [hiq2, List.take_of_length_le (by rw [NO2.out]; omega)] at hown
                        obtain ⟨ao, co, hvo, hto, _⟩ := own_at (xs := O) (by rw [NO2.out]; exact hown)
                        rw [NO2.out] at hvo
                        obtain ⟨z, hz⟩ : ∃ z, m - q = z := ⟨_, rfl⟩
                        have hzz : (m : Int) - (q : Int) = (z : Int) := by omega
                        have hz64 : z ≤ 64 := by omega
                        have hwo : wid O = d := by
                          obtain ⟨o0, ho0⟩ : ∃ o0, O[0]? = some o0 := ⟨_, List.getElem?_eq_getElem (by rw [NO2.out]; omega)⟩
                          rw [wid, ho0]
                          exact SO.out o0 (List.mem_of_getElem? ho0)
                        have hevo : evn O = true := evn_yes O (fun i x hx => by rw [hwo]; exact SO.out x (List.mem_of_getElem? hx))
                        have hok2 : enOk O (z : Int) := ⟨by rw [NO2.out]; omega, hevo, by omega, by rw [NO2.out]; omega⟩
                        have eX : enX O (z : Int) = mixL (cyX z q) O d := by unfold enX; rw [if_pos hok2, Int.toNat_natCast, NO2.out, hwo]
                        have eE : enE O (z : Int) = 0 := if_pos hok2
                        have lX : (mixL (cyX z q) O d).length = z := by rw [mixL_len, cyX_len z q hz64 hq1 (by omega)]
                        have c6 := fun W hW => rencode_any ao co q O (z : Int) W hW NO2.out (by omega) (fun x hx => by rw [SO.out x hx]; exact hdb) (by omega) (by omega)
                        rw [eX, eE, lX] at c6
                        rw [hz] at HRE
                        have C6 : Hid _ := c6
                        have LX : Hid ((mixL (cyX z q) O d).length = z) := lX
                        have HOW : Hid (wr.ownsRow w5.heap.size 9 1 (.slice ao q co) q (sv O)) := by rw [hvo] at hown; exact hown
                        have TO : Hid (TxL wr ao O) := hto
                        subst hvo
                        have B6 : Hid (Below w.heap.size w wr) := B5.out.trans (HB.out.mono B5.out.size)
                        have hzq : q + z = m := by omega
                        clear hown hto hwo hevo hok2 eX eE lX c6 hz hiq2 HW
                        go_wp2_with fail
                        refine Calls.mono (C6.out _ TO.out) ?_
                        rintro e w7 ⟨ap, cp, rfl, hA, hb7⟩
                        have TP : Hid (TxL w7 ap (mixL (cyX z q) O d)) := hA.1
                        have HO7 : Hid (w7.ownsRow w5.heap.size 9 1 (.slice ao q co) q (sv O)) := own_kept HOW.out hb7
                        have HB7 : Hid (Below w5.heap.size w5 w7) := HB.out.trans (hb7.mono hzr)
                        have hz7 : w5.heap.size ≤ w7.heap.size := HB7.out.size
                        clear hA hb7 HOW TO HB C6
                        go_wp2_with (at_builtin; refine wpList_append_txts _ rfl _ _ rfl w5.heap.size _ O (mixL (cyX z q) O d) q z cp rfl NO2.out LX.out HO7.out hz7 ap rfl TP.out (by omega) ?_)
                        intro v8 w8 ho8 hg8
                        have hlen : (O ++ mixL (cyX z q) O d).length = m := by rw [List.length_append, NO2.out, LX.out]; exact hzq
                        obtain ⟨a8, c8', hv8, hA8⟩ := ans_of (xs := O ++ mixL (cyX z q) O d) (by rw [hlen]; exact ho8)
                        rw [hlen] at hv8
                        subst hv8
                        have HA8 : Hid (Ans w a8 (rbX xs ts (q : Int)) w8) := by
                          show Ans _ _ _ _
                          rw [HRE.out]
                          exact ⟨hA8.1, fun b o s e => ⟨Nat.le_trans B5.out.size (hA8.2 b o s e).1, (hA8.2 b o s e).2⟩⟩
                        have HB8 : Hid (Below w.heap.size w w8) := B5.out.trans ((HB7.out.grown hg8 hz7 (fun g hg => (HO7.out.lt g hg).1)).mono B5.out.size)
                        have HLN : Hid ((rbX xs ts (q : Int)).length = m) := by show _ = m; rw [HRE.out]; exact hlen
                        clear ho8 hg8 hA8 hlen
                        go_wp2
                        go_ret2
                        rw [e2.out, HLN.out]
                        first | exact ⟨a8, c8', rfl, HA8.out, HB8.out⟩ | exact ⟨a8, ⟨c8', rfl⟩, HA8.out, HB8.out⟩
          · have hne : ((m : Int) == (n : Int)) = false := by rw [beq_eq_false_iff_ne]; omega
            have hnn : ((m : Int) != (n : Int)) = true := by rw [bne, hne]; rfl
            have e1 : rbX xs ts k = [] := if_neg (fun h => hmn (by have := (h.1).2; omega))
            have e2 : rbE xs ts k = 1 := if_neg (fun h => hmn (by have := (h.1).2; omega))
            rw [e1, e2]
            clear e1 e2 nx nt' hx ht sx
            go_enter Try.func26, Try.ntmps26
            go_wp2
            go_ret2
            first | exact ⟨none, 0, rfl, ⟨fun i x hx => by simp at hx, fun b o s e => by cases e⟩, Below.refl _ _⟩ | exact ⟨none, ⟨0, rfl⟩, ⟨fun i x hx => by simp at hx, fun b o s e => by cases e⟩, Below.refl _ _⟩
        · have h4a : (n : Int) > 64 := by omega
          have e1 : rbX xs ts k = [] := if_neg (fun h => h4 (by have := (h.1).1.2.2; omega))
          have e2 : rbE xs ts k = 1 := if_neg (fun h => h4 (by have := (h.1).1.2.2; omega))
          rw [e1, e2]
          clear e1 e2 nx nt' hx ht sx
          go_enter Try.func26, Try.ntmps26
          go_wp2
          go_ret2
          first | exact ⟨none, 0, rfl, ⟨fun i x hx => by simp at hx, fun b o s e => by cases e⟩, Below.refl _ _⟩ | exact ⟨none, ⟨0, rfl⟩, ⟨fun i x hx => by simp at hx, fun b o s e => by cases e⟩, Below.refl _ _⟩
      · have h3a : (n : Int) < k := by omega
        have e1 : rbX xs ts k = [] := if_neg (fun h => h3 (by have := (h.1).1.2.1; omega))
        have e2 : rbE xs ts k = 1 := if_neg (fun h => h3 (by have := (h.1).1.2.1; omega))
        rw [e1, e2]
        clear e1 e2 nx nt' hx ht sx
        go_enter Try.func26, Try.ntmps26
        go_wp2
        go_ret2
        first | exact ⟨none, 0, rfl, ⟨fun i x hx => by simp at hx, fun b o s e => by cases e⟩, Below.refl _ _⟩ | exact ⟨none, ⟨0, rfl⟩, ⟨fun i x hx => by simp at hx, fun b o s e => by cases e⟩, Below.refl _ _⟩
    · have h2a : k > 32 := by omega
      have e1 : rbX xs ts k = [] := if_neg (fun h => h2 (h.1).1.1.2)
      have e2 : rbE xs ts k = 1 := if_neg (fun h => h2 (h.1).1.1.2)
      rw [e1, e2]
      clear e1 e2 nx nt' hx ht sx
      go_enter Try.func26, Try.ntmps26
      go_wp2
      go_ret2
      first | exact ⟨none, 0, rfl, ⟨fun i x hx => by simp at hx, fun b o s e => by cases e⟩, Below.refl _ _⟩ | exact ⟨none, ⟨0, rfl⟩, ⟨fun i x hx => by simp at hx, fun b o s e => by cases e⟩, Below.refl _ _⟩
  · have h1a : k < 1 := by omega
    have e1 : rbX xs ts k = [] := if_neg (fun h => h1 (h.1).1.1.1)
    have e2 : rbE xs ts k = 1 := if_neg (fun h => h1 (h.1).1.1.1)
    rw [e1, e2]
    clear e1 e2 nx nt' hx ht sx
    go_enter Try.func26, Try.ntmps26
    go_wp2
    go_ret2
    first | exact ⟨none, 0, rfl, ⟨fun i x hx => by simp at hx, fun b o s e => by cases e⟩, Below.refl _ _⟩ | exact ⟨none, ⟨0, rfl⟩, ⟨fun i x hx => by simp at hx, fun b o s e => by cases e⟩, Below.refl _ _⟩
end Go.Proofs.Ytblmblbkfdcbjaa
/- slices.Equal of texts; shards.Fits. -/
namespace Go.Proofs.Ytblmblbkfdcbjaa
open Go.RowKit
set_option linter.unusedSimpArgs false
set_option linter.unusedVariables false
set_option maxHeartbeats 1000000 in
set_option maxRecDepth 100000 in
theorem equal_any (a b : Option Addr) (ca cb : Nat) (xs ys : List ByteArray) (w : World) (hx : TxL w a xs) (hy : TxL w b ys) (nx : xs.length ≤ 4611686018427387904) (ny : ys.length ≤ 4611686018427387904) :
    Calls Try.prog 55 #[.slice a xs.length ca, .slice b ys.length cb] w fun e w' => e = .returned (.bool (decide (xs = ys))) ∧ Below w.heap.size w w' := by
  have HX : Hid (TxL w a xs) := hx
  have HY : Hid (TxL w b ys) := hy
  clear hx hy
  by_cases hl : xs.length = ys.length
  · obtain ⟨n, hn⟩ : ∃ n, xs.length = n := ⟨_, rfl⟩
    have hn2 : ys.length = n := by omega
    have HL : Hid (xs.length = n ∧ ys.length = n) := ⟨hn, hn2⟩
    rw [hn, hn2]
    have hnn : n ≤ 4611686018427387904 := by omega
    clear hn hn2 hl nx ny
    go_enter Try.func55, Try.ntmps55
    go_wp2
    go_loopw [13] (fun v wr => ∃ k : Nat, v = .int .i64 k ∧ k ≤ n ∧ Hid (Below w.heap.size w wr) ∧ Hid (∀ i, i < k → xs[i]? = ys[i]?)) (fun v _ => n - (intOf v).toNat)
    case atStart => exact ⟨0, rfl, Nat.zero_le _, Below.refl _ _, fun i hi => by omega⟩
    case round =>
      obtain ⟨k, rfl, hk, HB, HE⟩ := hrel
      by_cases hlt : k < n
      · obtain ⟨x, hx⟩ : ∃ x, xs[k]? = some x := ⟨xs[k]'(by rw [HL.out.1]; exact hlt), List.getElem?_eq_getElem _⟩
        obtain ⟨y, hy⟩ : ∃ y, ys[k]? = some y := ⟨ys[k]'(by rw [HL.out.2]; exact hlt), List.getElem?_eq_getElem _⟩
        obtain ⟨g, o, rfl, hg, hc⟩ := HX.out.below HB.out k x hx
        obtain ⟨g2, o2, rfl, hg2, hc2⟩ := HY.out.below HB.out k y hy
        have H1 : Hid (xs[k]? = some x ∧ ys[k]? = some y) := ⟨hx, hy⟩
        clear hx hy
        have hkz : (k : Int) < (n : Nat) := by omega
        have hbn := str_ne x y
        by_cases he : x = y
        · subst he
          simp only [decide_true, Bool.not_true] at hbn
          go_wp2
          go_quiet (fail)
          go_wp2
          go_roundw
          case rel =>
            refine ⟨k + 1, by go_num, by omega, below_drewN HB.out _, fun i hi => ?_⟩
            by_cases hik : i < k
            · exact HE.out i hik
            · obtain rfl : i = k := by omega
              rw [H1.out.1, H1.out.2]
          case measure => simp [intOf]; omega
        · simp only [he, decide_false, Bool.not_false] at hbn
          have hbe : (x.toList == y.toList) = false := by simpa [bne] using hbn
          go_wp2
          go_quiet (fail)
          go_wp2
          go_ret
          refine ⟨?_, below_drewN HB.out _⟩
          have : decide (xs = ys) = false := decide_eq_false fun e => he (by
            have := H1.out
            rw [e] at this
            exact Option.some.inj (this.1.symm.trans this.2))
          rw [this]; rfl
      · go_wp2
        go_ret
        refine ⟨?_, HB.out⟩
        have : decide (xs = ys) = true := decide_eq_true (List.ext_getElem? fun i => by
          by_cases hi : i < n
          · exact HE.out i (by omega)
          · rw [List.getElem?_eq_none (by rw [HL.out.1]; omega), List.getElem?_eq_none (by rw [HL.out.2]; omega)])
        rw [this]; rfl
  · have hz : ((xs.length : Int) != (ys.length : Int)) = true := by simp; omega
    have hd : decide (xs = ys) = false := decide_eq_false fun e => hl (by rw [e])
    rw [hd]
    clear hd HX HY
    go_enter Try.func55, Try.ntmps55
    go_wp2
    go_ret
    exact ⟨rfl, Below.refl _ _⟩
/-- Do shards go together? -/
def ftOk (xs : List ByteArray) (k : Int) : Prop := ((1 ≤ k ∧ k ≤ 32) ∧ k ≤ (xs.length : Int) ∧ (xs.length : Int) ≤ 64) ∧ evn xs = true
instance (xs : List ByteArray) (k : Int) : Decidable (ftOk xs k) := by unfold ftOk; infer_instance
def ftB (xs : List ByteArray) (k : Int) : Bool := if ftOk xs k then decide (mixL (cyX (xs.length - k.toNat) k.toNat) (xs.take k.toNat) (wid xs) = xs.drop k.toNat) else false
def ftE (xs : List ByteArray) (k : Int) : Nat := if ftOk xs k then 0 else 1
theorem TxL.drop {w : World} {g o : Nat} {xs : List ByteArray} (h : TxL w (some ⟨g, o, none⟩) xs) (k : Nat) : TxL w (some ⟨g, o + k, none⟩) (xs.drop k) := by
  intro i x hx
  rw [List.getElem?_drop] at hx
  obtain ⟨g2, o2, e, hg, hc⟩ := h (k + i) x hx
  obtain ⟨rfl, rfl⟩ : g = g2 ∧ o = o2 := by simpa using e
  exact ⟨g, o + k, rfl, hg, by rw [Nat.add_assoc]; exact hc⟩
set_option maxHeartbeats 1000000 in
set_option maxRecDepth 100000 in
theorem fits_any (a : Option Addr) (c n : Nat) (k : Int) (xs : List ByteArray) (w : World) (hx : TxL w a xs) (nx : xs.length = n) (hnc : n ≤ c) (hcm : c ≤ maxLen) (ln : n ≤ 4611686018427387904) (sx : ∀ x ∈ xs, x.size ≤ 281474976710656) (k1 : -9223372036854775808 ≤ k) (k2 : k ≤ 9223372036854775807) :
    Calls Try.prog 29 #[.slice a n c, .int .i64 k] w fun e w' => e = .returned (.tuple #[.bool (ftB xs k), .int .i64 (ftE xs k)]) ∧ Below w.heap.size w w' := by
  have c1 := fun W => together_any (n : Int) k W
  have c2 := fun W hW => even_any a c xs W hW (by omega)
  rw [nx] at c2
  have HX : Hid (TxL w a xs) := hx
  by_cases hk : (1 ≤ k ∧ k ≤ 32) ∧ k ≤ (n : Int) ∧ (n : Int) ≤ 64
  · rw [tgB, decide_eq_true hk] at c1
    have C1 : Hid _ := c1
    clear c1
    cases hev : evn xs with
    | false =>
      rw [hev] at c2
      have C2 : Hid _ := c2
      have e1 : ftB xs k = false := if_neg (fun h => by have := h.2; rw [hev] at this; cases this)
      have e2 : ftE xs k = 1 := if_neg (fun h => by have := h.2; rw [hev] at this; cases this)
      rw [e1, e2]
      clear c2 e1 e2 nx hx sx hk hev
      go_enter Try.func29, Try.ntmps29
      go_wp2_with fail
      refine Calls.mono (C1.out _) ?_
      rintro e w1 ⟨rfl, hw⟩
      subst hw
      go_wp2_with fail
      refine Calls.mono (C2.out _ HX.out) ?_
      rintro e w2 ⟨rfl, hb2⟩
      have B2 : Hid (Below w1.heap.size w1 w2) := hb2
      clear hb2
      go_wp2
      go_ret2
      exact ⟨rfl, B2.out⟩
    | true =>
      rw [hev] at c2
      have C2 : Hid _ := c2
      have hok : ftOk xs k := ⟨by rw [nx]; exact hk, hev⟩
      obtain ⟨q, rfl⟩ : ∃ q : Nat, k = q := ⟨k.toNat, by omega⟩
      have e1 : ftB xs (q : Int) = decide (mixL (cyX (n - q) q) (xs.take q) (wid xs) = xs.drop q) := by unfold ftB; rw [if_pos hok, Int.toNat_natCast, nx]
      have e2 : ftE xs (q : Int) = 0 := if_pos hok
      rw [e1, e2]
      have hq1 : 1 ≤ q := by omega
      have hq2 : q ≤ 32 := by omega
      have hqn : q ≤ n := by omega
      have hn6 : n ≤ 64 := by omega
      obtain ⟨x0, hx0⟩ : ∃ x0, xs[0]? = some x0 := ⟨_, List.getElem?_eq_getElem (by omega)⟩
      obtain ⟨ga, oa, rfl, hga, _⟩ := hx 0 x0 hx0
      have cl := cyX_len (n - q) q (by omega) hq1 (by omega)
      have c3 := fun W => parity_any (n - q) q W (by omega) hq1 (by omega)
      have c4 := fun ar cr W hW hV => mixed_any ar (some ⟨ga, oa, none⟩) cr c (n - q) q (wid xs) (cyX (n - q) q) (xs.take q) W hW hV cl (by rw [List.length_take, nx]; omega) (by omega) hq1 (by omega) (cyX_size (n - q) q (by omega) hq1 (by omega)) (fun x hx => evn_all xs hev x (List.mem_of_mem_take hx)) (wid_of (by omega) _ sx)
      have ml : (mixL (cyX (n - q) q) (xs.take q) (wid xs)).length = n - q := by rw [mixL_len, cl]
      have dl : (xs.drop q).length = n - q := by rw [List.length_drop, nx]
      have c5 := fun p b cp cb W hW hV => equal_any p b cp cb (mixL (cyX (n - q) q) (xs.take q) (wid xs)) (xs.drop q) W hW hV (by rw [ml]; omega) (by rw [dl]; omega)
      rw [ml, dl] at c5
      obtain ⟨R, hR⟩ : ∃ R, mixL (cyX (n - q) q) (xs.take q) (wid xs) = R := ⟨_, rfl⟩
      rw [hR] at c4 c5 ⊢
      obtain ⟨m, hm⟩ : ∃ m, n - q = m := ⟨_, rfl⟩
      rw [hm] at c3 c4 c5
      have hmz : (n : Int) - (q : Int) = (m : Int) := by omega
      have hmn : q + m = n := by omega
      have hqz : (q : Int) ≤ (n : Nat) := by omega
      have C3 : Hid _ := c3
      have C4 : Hid _ := c4
      have C5 : Hid _ := c5
      have HXa : Hid (TxL w (some ⟨ga, oa, none⟩) xs) := hx
      have NXs : Hid (xs.length = n) := nx
      clear c2 c3 c4 c5 hR hm hx0 cl ml dl e1 e2 hok hk hev nx hx sx HX k1 k2
      go_enter Try.func29, Try.ntmps29
      go_wp2_with fail
      refine Calls.mono (C1.out _) ?_
      rintro e w1 ⟨rfl, hw⟩
      subst hw
      go_wp2_with fail
      refine Calls.mono (C2.out _ HXa.out) ?_
      rintro e w2 ⟨rfl, hb2⟩
      have B2 : Hid (Below w1.heap.size w1 w2) := hb2
      have HX2 : Hid (TxL w2 (some ⟨ga, oa, none⟩) xs) := HXa.out.below hb2
      clear hb2
      have hwm : IntKind.i64.wrap (m : Int) = (m : Int) := by rw [IntKind.wrap_i64]; omega
      by_cases hcq : c = q
      · have HDR : Hid (∀ W, Below w2.heap.size w2 W → TxL W (some ⟨ga, oa, none⟩) (xs.drop q)) := fun W hW => by
          rw [List.drop_eq_nil_of_le (by rw [NXs.out]; omega)]
          intro i x hx
          simp at hx
        subst hcq
        have hnq : n - c = m := by omega
        go_wp2_with fail
        go_region_with (first
          | (go_at_call 49; refine Calls.mono (C3.out _) ?_; rintro e w3 ⟨ar, rfl, hM3, hb3⟩
             have HM3 : Hid (Mad w2.drew ar (cyX m c) w3) := hM3
             have B3 : Hid (Below w2.heap.size w2 w3) := (Below.refl w2.heap.size w2).drew.trans hb3
             clear hM3 hb3)
          | (go_at_call 48; refine Calls.mono (C4.out _ _ _ HM3.out.txl ((HX2.out.below B3.out).take c)) ?_; rintro e w4 ⟨ap, rfl, hM4, hb4⟩
             have HM4 : Hid (Mad w3 ap R w4) := hM4
             have B4 : Hid (Below w2.heap.size w2 w4) := B3.out.trans (hb4.mono B3.out.size)
             clear hM4 hb4)
          | (go_at_call 55; refine Calls.mono (C5.out _ _ _ _ _ HM4.out.txl (HDR.out _ B4.out)) ?_; rintro e w5 ⟨rfl, hb5⟩
             have B5 : Hid (Below w2.heap.size w2 w5) := B4.out.trans (hb5.mono B4.out.size)
             clear hb5))
        all_goals
          go_wp2
          go_ret2
          exact ⟨rfl, B2.out.trans (B5.out.mono B2.out.size)⟩
      · have HDR : Hid (∀ W, Below w2.heap.size w2 W → TxL W (some ⟨ga, oa + q, none⟩) (xs.drop q)) := fun W hW => (HX2.out.below hW).drop q
        have hnq : n - q = m := by omega
        go_wp2_with fail
        go_region_with (first
          | (go_at_call 49; refine Calls.mono (C3.out _) ?_; rintro e w3 ⟨ar, rfl, hM3, hb3⟩
             have HM3 : Hid (Mad w2.drew ar (cyX m q) w3) := hM3
             have B3 : Hid (Below w2.heap.size w2 w3) := (Below.refl w2.heap.size w2).drew.trans hb3
             clear hM3 hb3)
          | (go_at_call 48; refine Calls.mono (C4.out _ _ _ HM3.out.txl ((HX2.out.below B3.out).take q)) ?_; rintro e w4 ⟨ap, rfl, hM4, hb4⟩
             have HM4 : Hid (Mad w3 ap R w4) := hM4
             have B4 : Hid (Below w2.heap.size w2 w4) := B3.out.trans (hb4.mono B3.out.size)
             clear hM4 hb4)
          | (go_at_call 55; refine Calls.mono (C5.out _ _ _ _ _ HM4.out.txl (HDR.out _ B4.out)) ?_; rintro e w5 ⟨rfl, hb5⟩
             have B5 : Hid (Below w2.heap.size w2 w5) := B4.out.trans (hb5.mono B4.out.size)
             clear hb5))
        all_goals
          go_wp2
          go_ret2
          exact ⟨rfl, B2.out.trans (B5.out.mono B2.out.size)⟩
  · rw [tgB, decide_eq_false hk] at c1
    have C1 : Hid _ := c1
    have e1 : ftB xs k = false := if_neg (fun h => hk (by have := h.1; rw [nx] at this; exact this))
    have e2 : ftE xs k = 1 := if_neg (fun h => hk (by have := h.1; rw [nx] at this; exact this))
    rw [e1, e2]
    clear c1 c2 e1 e2 nx hx sx hk
    go_enter Try.func29, Try.ntmps29
    go_wp2_with fail
    refine Calls.mono (C1.out _) ?_
    rintro e w1 ⟨rfl, hw⟩
    subst hw
    go_wp2
    go_ret2
    exact ⟨rfl, Below.refl _ _⟩
end Go.Proofs.Ytblmblbkfdcbjaa
