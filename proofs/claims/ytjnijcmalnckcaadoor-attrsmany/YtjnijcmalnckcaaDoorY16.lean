import Derived.Test.YtjnijcmalnckcaaDoorY14
import Derived.Test.YtjnijcmalnckcaaDoorY15
import Derived.Test.YtjnijcmalnckcaaDoorY9
import Derived.Test.YtjnijcmalnckcaaDoorY7
import Derived.Test.YtjnijcmalnckcaaDoorY12
import Derived.Maps.AppendAt
import Derived.Deep.Cut
import Derived.Deep.CutRange
import Derived.Deep.DeepCutAuto
/- The walk of munimentlaw10.AttrsMany. -/
namespace Go.Proofs.YtjnijcmalnckcaaDoor
open Go.RowKit
set_option linter.unusedSimpArgs false
set_option linter.unusedVariables false
/-- Seven cells that stand at a place. -/
def Sev (w : World) (g f : Nat) (v0 v1 v2 v3 v4 v5 v6 : Value) : Prop :=
  w.cell? ⟨g, f, none⟩ = some v0 ∧ w.cell? ⟨g, f + 1, none⟩ = some v1 ∧ w.cell? ⟨g, f + 2, none⟩ = some v2 ∧ w.cell? ⟨g, f + 3, none⟩ = some v3 ∧ w.cell? ⟨g, f + 4, none⟩ = some v4 ∧ w.cell? ⟨g, f + 5, none⟩ = some v5 ∧ w.cell? ⟨g, f + 6, none⟩ = some v6
theorem Sev.below {w w' : World} {g f : Nat} {v0 v1 v2 v3 v4 v5 v6 : Value} (h : Sev w g f v0 v1 v2 v3 v4 v5 v6) (hg : g < w.heap.size) (hb : Below w.heap.size w w') : Sev w' g f v0 v1 v2 v3 v4 v5 v6 := by
  obtain ⟨h0, h1, h2, h3, h4, h5, h6⟩ := h
  refine ⟨?_, ?_, ?_, ?_, ?_, ?_, ?_⟩
  · rw [hb.cell (p := ⟨g, f, none⟩) hg]; exact h0
  · rw [hb.cell (p := ⟨g, f + 1, none⟩) hg]; exact h1
  · rw [hb.cell (p := ⟨g, f + 2, none⟩) hg]; exact h2
  · rw [hb.cell (p := ⟨g, f + 3, none⟩) hg]; exact h3
  · rw [hb.cell (p := ⟨g, f + 4, none⟩) hg]; exact h4
  · rw [hb.cell (p := ⟨g, f + 5, none⟩) hg]; exact h5
  · rw [hb.cell (p := ⟨g, f + 6, none⟩) hg]; exact h6
theorem quiet_sev {P : Program} {o : Oper} {a : Act} {C : World → Prop} {K : Act → Prop} (t : TypeId) (x : Operand) (ho : o.op = .load t x) (g f : Nat) (v0 v1 v2 v3 v4 v5 v6 : Value) (d : TypeDesc) (hx : a.eval x = .pointer (some ⟨g, f, none⟩))
    (hc : ∀ w, C w → Sev w g f v0 v1 v2 v3 v4 v5 v6) (hu : P.underlying t = some d) (hd : d.isRow = true) (hi : (P.info? t).map (·.size) = some 7) (hn : K (a.put o.dst (.agg #[v0, v1, v2, v3, v4, v5, v6]))) : o.quiet P a C K :=
  quiet_val10 (.agg #[v0, v1, v2, v3, v4, v5, v6]) (fun w hw => by
    obtain ⟨h0, h1, h2, h3, h4, h5, h6⟩ := hc w hw
    have hr := run_loadVar_mid (P := P) w g f t [v0, v1, v2, v3, v4, v5, v6] d (fun j v hv => by
      match j, hv with
      | 0, hv => simp at hv; subst hv; exact h0
      | 1, hv => simp at hv; subst hv; exact h1
      | 2, hv => simp at hv; subst hv; exact h2
      | 3, hv => simp at hv; subst hv; exact h3
      | 4, hv => simp at hv; subst hv; exact h4
      | 5, hv => simp at hv; subst hv; exact h5
      | 6, hv => simp at hv; subst hv; exact h6
      | j + 7, hv => simp at hv) hu hd hi
    unfold execOp
    simp [ho, hx, Instr.loadAt, Instr.sureAddr, hr]) hn
/-- The mark. -/
def mkA : At × Value := (⟨77, 0, 0, 0, 0, ⟨#[]⟩, []⟩, .slice none 0 0)
theorem mkA_ok : AtOk mkA.1 := ⟨by decide, by decide, by decide, by decide, ⟨by decide, by decide⟩, Nat.zero_le _, Nat.zero_le _⟩
theorem row_sev {w : World} {B n g c : Nat} {e : TypeId} {P : List (At × Value)} (h : w.ownsRow B e 7 (.slice (some ⟨g, 0, none⟩) n c) n (atv P)) (hn : P.length = n) : g < w.heap.size ∧ n ≤ c ∧ ∀ i p, P[i]? = some p → Sev w g (i * 7) (.int .u8 (p.1.nd : Int)) (.int .u32 (p.1.md : Int)) (.int .u32 (p.1.ui : Int)) (.int .u32 (p.1.gi : Int)) (.int .i64 p.1.mt) (.string p.1.tg) p.2 := by
  rcases h.2 with ⟨h1, h0⟩ | ⟨g', cap, cur, h1, hle, hg, hnc, _, hc, ht⟩
  · cases h1
  · injection h1 with h1 _ h3
    injection h1 with h1
    injection h1 with h1
    subst h1
    subst h3
    refine ⟨(Array.getElem?_eq_some_iff.1 hg).1, hnc, fun i p hp => ?_⟩
    have hb : Bk w g cur e := hg
    have hl : i < P.length := (List.getElem?_eq_some_iff.1 hp).1
    have q : ∀ j, j < 7 → w.cell? ⟨g, i * 7 + j, none⟩ = (acl p)[j]? := fun j hj => by
      have := atv_get P i p hp j hj
      rw [← ht, List.getElem?_take, if_pos (by omega), Array.getElem?_toList] at this
      rw [hb.cell]
      exact this
    have q0 := q 0 (by omega)
    rw [Nat.add_zero] at q0
    exact ⟨q0, q 1 (by omega), q 2 (by omega), q 3 (by omega), q 4 (by omega), q 5 (by omega), q 6 (by omega)⟩
theorem one_mkA : ∀ u ∈ acl mkA, u.oneCell' = true := by
  intro u hu
  simp only [acl, mkA, List.mem_cons, List.not_mem_nil, or_false] at hu
  rcases hu with rfl | rfl | rfl | rfl | rfl | rfl | rfl <;> rfl
set_option maxHeartbeats 40000000 in
set_option maxRecDepth 100000 in
theorem many10 (OW : OwnC) (al : Option Addr) (n cl : Nat) (l : List At) (s : ByteArray) (w : World) (hL : AtL w al l) (hl : l.length = n) (hn : n ≤ 2199023255488) (hx : ∀ a ∈ l, a.xs.length ≤ 4398046510976) (hs : s.size ≤ 140737488351232) (hT : U8 w) :
    Calls Tryd.prog 4 #[.slice al n cl, .string s] w fun e w' => e = .returned (.bool true) ∧ Below w.heap.size w w' := by
  have HOW : Hid OwnC := OW
  have HA : Hid (AtL w al l) := hL
  have HT : Hid (U8 w) := hT
  have HL : Hid (l.length = n) := hl
  have HXL : Hid (∀ a ∈ l, a.xs.length ≤ 4398046510976) := hx
  clear OW hL hT hl hx
  go_enter Tryd.func4, Tryd.ntmps4
  go_wp2
  go_loopw [5, 6] (fun v5 v6 wr => ∃ (k cm : Nat) (am : Option Addr), v5 = .slice am k cm ∧ v6 = .int .i64 k ∧ k ≤ n ∧ Hid (∃ P : List (At × Value), P.length = k ∧ P.map Prod.fst = l.take k ∧ MS w P (.slice am k cm) wr)) (fun _ v6 _ => n - (intOf v6).toNat)
  case atStart => exact ⟨0, 0, none, rfl, rfl, Nat.zero_le _, [], rfl, rfl, MS.start w⟩
  case round =>
    obtain ⟨k, cm, am, rfl, rfl, hk, HR⟩ := hrel
    obtain ⟨P, hPk, hPl, hMS⟩ := HR.out
    have HP : Hid (P.length = k ∧ P.map Prod.fst = l.take k) := ⟨hPk, hPl⟩
    have HM : Hid (MS w P (.slice am k cm) wr) := hMS
    have hzr : w.heap.size ≤ wr.heap.size := hMS.bel.size
    clear HR hPk hPl hMS
    by_cases hlt : k < n
    · have hiz : (k : Int) < (n : Nat) := by omega
      obtain ⟨a, ha⟩ : ∃ a, l[k]? = some a := ⟨l[k]'(by rw [HL.out]; exact hlt), List.getElem?_eq_getElem _⟩
      obtain ⟨hao, g0, o0, sl, cp0, rfl, hg2, c0, c1, c2, c3, c4, c5, c6, hX⟩ := HA.out.below HM.out.bel k a ha
      have hxl := HXL.out a (List.mem_of_getElem? ha)
      have HNX : Hid (l.take (k + 1) = l.take k ++ [a]) := by show _ = _; rw [List.take_add_one, ha, Option.toList_some]
      obtain ⟨nd, md, ui, gi, mt, tg, xs⟩ := a
      simp only at c0 c1 c2 c3 c4 c5 c6 hX hxl
      obtain ⟨m, hm⟩ : ∃ m, xs.length = m := ⟨_, rfl⟩
      rw [hm] at c6 hxl
      have HMm : Hid (xs.length = m) := hm
      have HSM : Hid (∀ x ∈ xs, x.1.size ≤ 140737488351232 ∧ x.2.size ≤ 140737488351232) := xal_small hX
      have HOA : Hid (AtOk ⟨nd, md, ui, gi, mt, tg, xs⟩) := hao
      have CO : Hid (Calls Tryd.prog 7 #[atV nd md ui gi mt tg (.slice sl m cp0)] wr fun e w' => ∃ g cp, e = .returned (.agg (c7 nd md ui gi mt tg (.slice (some ⟨g, 0, none⟩) m cp))) ∧ w'.ownsRow wr.heap.size 57 2 (.slice (some ⟨g, 0, none⟩) (m + 1) cp) (m + 1) (xav (xs ++ [mrk])) ∧ Below wr.heap.size wr w') := HOW.out nd md ui gi mt tg xs sl m cp0 wr hX hm hxl
      clear ha hX hm hao
      go_wp2_with fail
      refine CO.out.mono ?_
      rintro e w1 ⟨g, cp, rfl, ho1, hb1⟩
      have M1 : Hid (MS w P (.slice am k cm) w1) := HM.out.keep hb1
      have XO1 : Hid (w1.ownsRow w.heap.size 57 2 (.slice (some ⟨g, 0, none⟩) (m + 1) cp) (m + 1) (xav (xs ++ [mrk]))) := rows_low ho1 hzr
      have O1 : Hid (w1.ownsRow w.heap.size 28 7 (.slice am k cm) k (atv P)) := by
        have := M1.out.mo
        rw [HP.out.1] at this
        exact this
      have hz1 : w.heap.size ≤ w1.heap.size := M1.out.bel.size
      obtain ⟨i0, hi, hz0, hz1', hz2⟩ := info_parts inf_attr3
      clear ho1 hb1 CO HM c0 c1 c2 c3 c4 c5 c6
      go_wp2_with (at_builtin; refine wpList_append_own _ rfl _ _ 48 rfl w.heap.size 28 i0 (.agg z7) 7 64 Tryd.underlying48 hi hz0 hz1' hz2 rfl (by decide) _ _ _ rfl (O1.out.alloc _) ⟨w1.heap.size, 0, none⟩ 1 1 (c7 nd md ui gi mt tg (.slice (some ⟨g, 0, none⟩) m cp)).toList rfl rfl (news_list w1 _ _) (one_acl _ _ _ _ _ _ _ _ _) (by unfold maxLen; omega) (by omega) (by simp; omega) ?_)
      intro v' w7 hown hgrow _
      have hbA : Below w1.heap.size w1 (w1.alloc (.cells (c7 nd md ui gi mt tg (.slice (some ⟨g, 0, none⟩) m cp)) 28)) := (Below.refl _ _).alloc (Nat.le_refl _) _
      have M7 : Hid (MS w (P ++ [(⟨nd, md, ui, gi, mt, tg, xs⟩, .slice (some ⟨g, 0, none⟩) m cp)]) v' w7) := by
        refine ⟨?_, ?_, rows_bel (M1.out.bel.alloc M1.out.bel.size _) (by simp; omega) (O1.out.alloc _) (Nat.le_refl _) hgrow⟩
        · rw [List.length_append, HP.out.1, atv_app, atv_one]; exact hown
        · intro p hp
          rcases List.mem_append.1 hp with h | h
          · exact (((M1.out.mq.keep (fun g _ h2 => hbA.block g h2)).grow (O1.out.alloc _) (by decide) hgrow)) p h
          · rw [List.mem_singleton] at h
            subst h
            refine ⟨HOA.out, HSM.out, g, cp, by rw [HMm.out], ?_⟩
            rw [HMm.out]
            exact own_ty (rows_keep XO1.out (fun g _ h2 => hbA.block g h2)) (O1.out.alloc _) (by decide) hgrow
      have HP7 : Hid ((P ++ [((⟨nd, md, ui, gi, mt, tg, xs⟩ : At), Value.slice (some ⟨g, 0, none⟩) m cp)]).length = k + 1 ∧ (P ++ [((⟨nd, md, ui, gi, mt, tg, xs⟩ : At), Value.slice (some ⟨g, 0, none⟩) m cp)]).map Prod.fst = l.take (k + 1)) := by
        refine ⟨by rw [List.length_append, HP.out.1]; rfl, ?_⟩
        rw [List.map_append, HP.out.2, HNX.out]; rfl
      obtain ⟨g7, cp7, hv⟩ : ∃ g7 c7, v' = .slice (some ⟨g7, 0, none⟩) (k + 1) c7 := by
        rcases hown.2 with ⟨_, h0⟩ | ⟨g7, c7, cur, h1, _⟩
        · omega
        · exact ⟨g7, c7, h1⟩
      subst hv
      clear hown hgrow hbA M1 XO1 O1 HOA HNX HSM HMm HP
      go_wp2
      go_roundw
      case rel => exact ⟨k + 1, cp7, some ⟨g7, 0, none⟩, rfl, by go_num, by omega, _, HP7.out.1, HP7.out.2, M7.out⟩
      case measure => simp [intOf]; omega
    · have hiz : ¬ (k : Int) < (n : Nat) := by omega
      obtain rfl : k = n := by omega
      have hxs : l.take k = l := List.take_of_length_le (by rw [HL.out]; omega)
      rw [hxs] at HP
      have O1 : Hid (wr.ownsRow w.heap.size 28 7 (.slice am k cm) k (atv P)) := by
        have := HM.out.mo
        rw [HP.out.1] at this
        exact this
      obtain ⟨i0, hi, hz0, hz1', hz2⟩ := info_parts inf_attr3
      obtain ⟨X, hX⟩ : ∃ X : ByteArray, X = ⟨(smL l).toArray⟩ := ⟨_, rfl⟩
      obtain ⟨EX, hEX⟩ : ∃ e, e = smE l := ⟨_, rfl⟩
      have HST : Hid (∀ ad c W, AtL W ad l → U8 W → Calls Tryd.prog 21 #[.slice ad k c] W fun e w' => e = .returned (.tuple #[.string X, .int .i64 EX]) ∧ Below W.heap.size W w') := fun ad c W h1 h2 => by rw [hX, hEX]; exact stream_any ad k c l W h1 HL.out (by omega) h2
      have HSR : Hid (∀ ad c W, AtL W ad l → U8 W → Calls Tryd.prog 22 #[.slice ad k c] W fun e w' => e = .returned (.tuple #[.string X, .int .i64 EX]) ∧ Below W.heap.size W w') := fun ad c W h1 h2 => by rw [hX, hEX]; exact rstream10 ad k c l W h1 HL.out (by omega) h2
      clear hxs hX hEX
      go_wp2_with (at_builtin; refine wpList_append_own _ rfl _ _ 48 rfl w.heap.size 28 i0 (.agg z7) 7 64 Tryd.underlying48 hi hz0 hz1' hz2 rfl (by decide) _ _ _ rfl (O1.out.alloc _) ⟨wr.heap.size, 0, none⟩ 1 1 (acl mkA) rfl rfl (news_list wr (acl mkA).toArray _) one_mkA (by unfold maxLen; omega) (by omega) (by simp; omega) ?_)
      intro v' w7 hown hgrow _
      have hown' : w7.ownsRow w.heap.size 28 7 v' (k + 1) (atv (P ++ [mkA])) := by rw [atv_app, atv_one]; exact hown
      obtain ⟨gm, cm7, hv⟩ : ∃ g7 c7, v' = .slice (some ⟨g7, 0, none⟩) (k + 1) c7 := by
        rcases hown.2 with ⟨_, h0⟩ | ⟨g7, c7, cur, h1, _⟩
        · omega
        · exact ⟨g7, c7, h1⟩
      subst hv
      have hbA : Below wr.heap.size wr (wr.alloc (.cells (acl mkA).toArray 28)) := (Below.refl _ _).alloc (Nat.le_refl _) _
      have hmq : MkO w7 w.heap.size P := (HM.out.mq.keep (fun g _ h2 => hbA.block g h2)).grow (O1.out.alloc _) (by decide) hgrow
      have B7 : Hid (Below w.heap.size w w7) := rows_bel (HM.out.bel.alloc HM.out.bel.size _) (by simp; omega) (O1.out.alloc _) (Nat.le_refl _) hgrow
      obtain ⟨hgm, hcm, hsev⟩ := row_sev hown' (by rw [List.length_append, HP.out.1]; rfl)
      have hxv : XvO w7 (P ++ [mkA]) := fun p hp => by
        rcases List.mem_append.1 hp with h | h
        · exact hmq.xv p h
        · rw [List.mem_singleton] at h
          subst h
          exact ⟨mkA_ok, none, 0, rfl, fun i x hx => by simp [mkA] at hx⟩
      obtain ⟨a7, c7', hv7, hat7, _, _⟩ := row_atl hown' (by rw [List.length_append, HP.out.1]; rfl) hxv
      have hAM : AtL w7 (some ⟨gm, 0, none⟩) l := by
        injection hv7 with hv7
        rw [← hv7] at hat7
        have := hat7.take k
        rw [List.map_append, HP.out.2, List.take_left' (by rw [HL.out])] at this
        exact this
      have H7 : Hid (AtL w7 (some ⟨gm, 0, none⟩) l ∧ MkO w7 w.heap.size P ∧ (∀ i p, P[i]? = some p → Sev w7 gm (i * 7) (.int .u8 (p.1.nd : Int)) (.int .u32 (p.1.md : Int)) (.int .u32 (p.1.ui : Int)) (.int .u32 (p.1.gi : Int)) (.int .i64 p.1.mt) (.string p.1.tg) p.2) ∧ w7.cell? ⟨gm, k * 7, none⟩ = some (.int .u8 77)) := by
        refine ⟨hAM, hmq, fun i p hp => hsev i p (by rw [List.getElem?_append_left (List.getElem?_eq_some_iff.1 hp).1]; exact hp), ?_⟩
        exact (hsev k mkA (by rw [← HP.out.1]; simp)).1
      have hcz : (k : Int) ≤ (cm7 : Nat) := by omega
      clear hown hown' hgrow hbA hmq hsev hxv hat7 hv7 hAM O1 HM hi hz0 hz1' hz2
      go_wp2_with fail
      refine (HST.out _ _ _ H7.out.1 (HT.out.below B7.out)).mono ?_
      rintro e w8 ⟨rfl, hb8⟩
      have B8 : Hid (Below w7.heap.size w7 w8) := hb8
      have BW8 : Hid (Below w.heap.size w w8) := B7.out.trans (hb8.mono B7.out.size)
      clear hb8 HST
      go_wp2_with fail
      refine (HSR.out _ _ _ (HA.out.below BW8.out) (HT.out.below BW8.out)).mono ?_
      rintro e w9 ⟨rfl, hb9⟩
      have B9 : Hid (Below w7.heap.size w7 w9) := B8.out.trans (hb9.mono B8.out.size)
      have BW9 : Hid (Below w.heap.size w w9) := B7.out.trans (B9.out.mono B7.out.size)
      clear hb9 HSR B8 BW8
      go_wp2_with fail
      refine (readst s _ hs (HT.out.below BW9.out)).mono ?_
      rintro e w10 ⟨P1, v1, er, rfl, hsr, how1, hxr1, hlen1, hb10⟩
      have B10 : Hid (Below w7.heap.size w7 w10) := B9.out.trans (hb10.mono B9.out.size)
      have BW10 : Hid (Below w.heap.size w w10) := B7.out.trans (B10.out.mono B7.out.size)
      obtain ⟨N, hN⟩ : ∃ N, P1.length = N := ⟨_, rfl⟩
      rw [hN] at how1 hlen1
      have hx1 : XrO w10 w.heap.size P1 := fun p hp => ⟨(hxr1 p hp).1, rows_low (hxr1 p hp).2.1 BW9.out.size, (hxr1 p hp).2.2⟩
      obtain ⟨a1, c1, rfl, hvs⟩ := vsp_of (rows_low how1 BW9.out.size) hN hx1
      obtain ⟨a1', c1', hv1, hat1, _, _⟩ := row_atl (rows_low how1 BW9.out.size) hN hx1.xv
      injection hv1 with hv1 hv2 hv3
      subst hv1
      subst hv3
      clear hv2
      have H10 : Hid (P1.length = N ∧ SrS s (P1.map Prod.fst) er ∧ (∀ a ∈ P1.map Prod.fst, AtOk a) ∧ AtL w10 a1 (P1.map Prod.fst) ∧ (N = 0 ∨ ∃ gv, a1 = some ⟨gv, 0, none⟩ ∧ VSp w gv P1 w10)) := ⟨hN, hsr, hx1.ok, hat1, hvs⟩
      clear hsr how1 hxr1 hb10 hx1 hvs hat1 hN B9 BW9
      go_wp2_with fail
      refine (rreadst s _ hs (HT.out.below BW10.out)).mono ?_
      rintro e w11 ⟨P2, v2, er2, rfl, hsr2, how2, hxr2, hlen2, hb11⟩
      have B11 : Hid (Below w7.heap.size w7 w11) := B10.out.trans (hb11.mono B10.out.size)
      have BW11 : Hid (Below w.heap.size w w11) := B7.out.trans (B11.out.mono B7.out.size)
      have hx2 : XrR w11 w.heap.size P2 := fun p hp => ⟨(hxr2 p hp).1, rows_low (hxr2 p hp).2.1 BW10.out.size, (hxr2 p hp).2.2⟩
      obtain ⟨hPP, rfl⟩ := srS_one H10.out.2.1 hsr2 H10.out.2.2.1 hx2.ok
      have hN2 : P2.length = N := by rw [← H10.out.1, ← List.length_map (f := Prod.fst), ← hPP, List.length_map]
      have hD2 : DcS w P2 v2 w11 := ⟨rows_low how2 BW10.out.size, hx2, BW11.out⟩
      rw [hN2] at how2
      obtain ⟨a2, c2, rfl, hat2, _, _⟩ := row_atl (rows_low how2 BW10.out.size) hN2 hx2.xv
      rw [← hPP] at hat2
      have H11 : Hid (P2.length = N ∧ P2.map Prod.fst = P1.map Prod.fst ∧ DcS w P2 (.slice a2 N c2) w11) := ⟨hN2, hPP.symm, hD2⟩
      have HAL : Hid (Calls Tryd.prog 25 #[.slice a1 N c1, .slice a2 N c2] w11 fun e w' => e = .returned (.bool true) ∧ Below w11.heap.size w11 w') :=
        all10 a1 a2 N c1 c2 (P1.map Prod.fst) w11 (H10.out.2.2.2.1.below hb11) hat2 (by rw [List.length_map]; exact H10.out.1) (by omega) (srS_len H10.out.2.1)
      have B1011 : Hid (Below w10.heap.size w10 w11) := hb11
      clear hsr2 how2 hxr2 hlen2 hb11 hx2 hPP hN2 hD2 hat2 B10 BW10
      go_wp2_with fail
      refine HAL.out.mono ?_
      rintro e w12 ⟨rfl, hb12⟩
      have B12 : Hid (Below w7.heap.size w7 w12) := B11.out.trans (hb12.mono B11.out.size)
      have x77 : w12.cell? ⟨gm, k * 7, none⟩ = some (.int .u8 77) := by rw [B12.out.cell (p := ⟨gm, k * 7, none⟩) hgm]; exact H7.out.2.2.2
      have HD12 : Hid (DcS w P2 (.slice a2 N c2) w12) := H11.out.2.2.keep hb12
      have HV12 : Hid (Below w10.heap.size w10 w12) := B1011.out.trans (hb12.mono B1011.out.size)
      have hkk : (k : Int) < (k : Int) + 1 := by omega
      clear hb12 HAL B11 BW11 B1011
      go_wp2
      clear x77
      have HM12 : Hid (∀ i p, P[i]? = some p → Sev w12 gm (i * 7) (.int .u8 (p.1.nd : Int)) (.int .u32 (p.1.md : Int)) (.int .u32 (p.1.ui : Int)) (.int .u32 (p.1.gi : Int)) (.int .i64 p.1.mt) (.string p.1.tg) p.2) := fun i p hp => (H7.out.2.2.1 i p hp).below hgm B12.out
      have HQ12 : Hid (MkO w12 w.heap.size P) := H7.out.2.1.keep (fun g _ h2 => B12.out.block g h2)
      have hgm12 : gm < w12.heap.size := Nat.lt_of_lt_of_le hgm B12.out.size
      clear H7 B12 hgm
      go_loopw [15] (fun v wr' => ∃ (i : Nat), v = .int .i64 i ∧ i ≤ k ∧ Hid (Below w12.heap.size w12 wr')) (fun v _ => k - (intOf v).toNat)
      case atStart => exact ⟨0, rfl, Nat.zero_le _, Below.refl _ _⟩
      case round =>
        obtain ⟨i, rfl, hik, HR⟩ := hrel
        by_cases hlt : i < k
        · have hiz2 : (i : Int) < (k : Nat) := by omega
          have hiz3 : (i : Int) < (k : Int) + 1 := by omega
          obtain ⟨p, hp⟩ : ∃ p, P[i]? = some p := ⟨P[i]'(by rw [HP.out.1]; exact hlt), List.getElem?_eq_getElem _⟩
          have hli : l[i]? = some p.1 := by rw [← HP.out.2, List.getElem?_map, hp]; rfl
          obtain ⟨hao, g0, o0, sl, ca, rfl, hg2, c0, c1x, c2x, c3, c4, c5, c6, hX⟩ := HA.out.below HD12.out.bel i p.1 hli
          have hxl := HXL.out p.1 (List.mem_of_getElem? hli)
          obtain ⟨_, hsm, g, cp, hpv, hom⟩ := HQ12.out p (List.mem_of_getElem? hp)
          have hsv := HM12.out i p hp
          obtain ⟨⟨nd, md, ui, gi, mt, tg, xs⟩, pv⟩ := p
          simp only at hpv hom hsm hsv c0 c1x c2x c3 c4 c5 c6 hX hxl
          subst hpv
          obtain ⟨m, hm⟩ : ∃ m, xs.length = m := ⟨_, rfl⟩
          rw [hm] at c6 hxl hsv
          have hcp : m + 1 ≤ cp := by
            rcases hom.2 with ⟨h1, _⟩ | ⟨_, cap, _, h1, _, _, hnc, _⟩
            · cases h1
            · injection h1 with _ _ h3
              rw [hm] at hnc
              omega
          have HMM : Hid (∀ W, Below w12.heap.size w12 W → Sev W gm (i * 7) (.int .u8 (nd : Int)) (.int .u32 (md : Int)) (.int .u32 (ui : Int)) (.int .u32 (gi : Int)) (.int .i64 mt) (.string tg) (.slice (some ⟨g, 0, none⟩) m cp)) := fun W hW => hsv.below hgm12 hW
          have HLL : Hid (∀ W, Below w12.heap.size w12 W → Sev W g0 (o0 + i * 7) (.int .u8 (nd : Int)) (.int .u32 (md : Int)) (.int .u32 (ui : Int)) (.int .u32 (gi : Int)) (.int .i64 mt) (.string tg) (.slice sl m ca)) := fun W hW => Sev.below ⟨c0, c1x, c2x, c3, c4, c5, c6⟩ hg2 hW
          have HKP : Hid (∀ W, Below w12.heap.size w12 W → Calls Tryd.prog 19 #[atV nd md ui gi mt tg (.slice (some ⟨g, 0, none⟩) m cp), atV nd md ui gi mt tg (.slice sl m ca)] W fun e w' => e = .returned (.bool true) ∧ Below w12.heap.size w12 w') := fun W hW =>
            (kept10 nd md ui gi mt tg xs sl g m cp ca W hm hxl (hX.below hW) ((mk_xal hsm hom).2.below hW) hcp).mono fun e w' h => ⟨h.1, hW.trans (h.2.mono hW.size)⟩
          have HRD : Hid (Below w12.heap.size w12 wr.drew) := HR.out.drew
          clear hp hli hao hg2 c0 c1x c2x c3 c4 c5 c6 hX hxl hsm hom hsv hm hcp HR
          go_wp2_with fail
          refine region_class10 (fun W => Below w12.heap.size w12 W) (by kernel_rfl) (by kernel_rfl) HRD.out ?_
          try simp only [Act.put]
          (go_big_quiet_want; refine quiet_val10 (.slice (some ⟨gm, 0, none⟩) (k + 1) cm7) ?_ ?_; (focus (intro W hW; go_simp; done)); go_big_quiet_on; simp only [Act.put, List.setIfInBounds_toArray, List.set_cons_zero, List.set_cons_succ])
          (go_big_quiet_want; refine quiet_val10 (.int .i64 (i : Int)) ?_ ?_; (focus (intro W hW; go_simp; done)); go_big_quiet_on; simp only [Act.put, List.setIfInBounds_toArray, List.set_cons_zero, List.set_cons_succ])
          (go_big_quiet_want; refine quiet_val10 (.pointer (some ⟨gm, i * 7, none⟩)) ?_ ?_; (focus (intro W hW; go_simp; done)); go_big_quiet_on; simp only [Act.put, List.setIfInBounds_toArray, List.set_cons_zero, List.set_cons_succ])
          (go_big_quiet_want; refine quiet_sev 28 (.tmp 97) rfl gm (i * 7) (.int .u8 (nd : Int)) (.int .u32 (md : Int)) (.int .u32 (ui : Int)) (.int .u32 (gi : Int)) (.int .i64 mt) (.string tg) (.slice (some ⟨g, 0, none⟩) m cp) _ rfl HMM.out Tryd.underlying28 rfl inf_attr ?_; go_big_quiet_on; simp only [Act.put, List.setIfInBounds_toArray, List.set_cons_zero, List.set_cons_succ])
          (go_big_quiet_want; refine quiet_val10 (.slice (some ⟨g0, o0, none⟩) k cl) ?_ ?_; (focus (intro W hW; go_simp; done)); go_big_quiet_on; simp only [Act.put, List.setIfInBounds_toArray, List.set_cons_zero, List.set_cons_succ])
          (go_big_quiet_want; refine quiet_val10 (.int .i64 (i : Int)) ?_ ?_; (focus (intro W hW; go_simp; done)); go_big_quiet_on; simp only [Act.put, List.setIfInBounds_toArray, List.set_cons_zero, List.set_cons_succ])
          (go_big_quiet_want; refine quiet_val10 (.pointer (some ⟨g0, o0 + i * 7, none⟩)) ?_ ?_; (focus (intro W hW; go_simp; done)); go_big_quiet_on; simp only [Act.put, List.setIfInBounds_toArray, List.set_cons_zero, List.set_cons_succ])
          (go_big_quiet_want; refine quiet_sev 25 (.tmp 101) rfl g0 (o0 + i * 7) (.int .u8 (nd : Int)) (.int .u32 (md : Int)) (.int .u32 (ui : Int)) (.int .u32 (gi : Int)) (.int .i64 mt) (.string tg) (.slice sl m ca) _ rfl HLL.out Tryd.underlying25 rfl inf_rattr ?_; go_big_quiet_on; simp only [Act.put, List.setIfInBounds_toArray, List.set_cons_zero, List.set_cons_succ])
          (go_big_quiet_want; refine quiet_call10 (.bool true) 19 #[atV nd md ui gi mt tg (.slice (some ⟨g, 0, none⟩) m cp), atV nd md ui gi mt tg (.slice sl m ca)] ?_ HKP.out ?_; (focus (intro W hW; go_simp; done)); go_big_quiet_on; simp only [Act.put, List.setIfInBounds_toArray, List.set_cons_zero, List.set_cons_succ])
          (go_big_quiet_want; refine quiet_val10 (.bool false) ?_ ?_; (focus (intro W hW; go_simp; done)); go_big_quiet_on; simp only [Act.put, List.setIfInBounds_toArray, List.set_cons_zero, List.set_cons_succ])
          refine wpQuiet_nil ?_
          intro w14 hw14
          have H14 : Hid (Below w12.heap.size w12 w14) := hw14
          clear hw14
          go_wp2
          go_roundw
          case rel => exact ⟨i + 1, by go_num, by omega, H14.out⟩
          case measure => simp [intOf]; omega
        · have hiz2 : ¬ (i : Int) < (k : Nat) := by omega
          have HD13 : Hid (DcS w P2 (.slice a2 N c2) wr) := HD12.out.keep HR.out
          have HV13 : Hid (N = 0 ∨ ∃ gv, a1 = some ⟨gv, 0, none⟩ ∧ VSp w gv P1 wr) := by
            rcases H10.out.2.2.2.2 with h | ⟨gv, h1, h2⟩
            · exact .inl h
            · exact .inr ⟨gv, h1, h2.below (HV12.out.trans (HR.out.mono HV12.out.size))⟩
          clear HM12 HQ12 hgm12 HD12 HV12 HR
          go_wp2
          go_loopw [16, 17] (fun v y wr' => ∃ (j : Nat) (z : Value), v = .int .i64 j ∧ y = z ∧ j ≤ N ∧ Hid (DcS w P2 (.slice a2 N c2) wr' ∧ (N = 0 ∨ ∃ gv, a1 = some ⟨gv, 0, none⟩ ∧ VSp w gv P1 wr'))) (fun v _ _ => N - (intOf v).toNat)
          case atStart => exact ⟨0, _, rfl, rfl, Nat.zero_le _, HD13.out, HV13.out⟩
          case round =>
            obtain ⟨j, z, rfl, rfl, hjN, HRR⟩ := hrel
            by_cases hjlt : j < N
            · have hjz : (j : Int) < (N : Nat) := by omega
              obtain ⟨hds, hvv⟩ := HRR.out
              obtain ⟨gv, rfl, hvsp⟩ : ∃ gv, a1 = some ⟨gv, 0, none⟩ ∧ VSp w gv P1 wr := by
                rcases hvv with h | h
                · omega
                · exact h
              obtain ⟨p, hp⟩ : ∃ p, P1[j]? = some p := ⟨P1[j]'(by rw [H10.out.1]; exact hjlt), List.getElem?_eq_getElem _⟩
              have hmem := List.mem_of_getElem? hp
              obtain ⟨C, hC, hcc⟩ := hvsp.blk
              obtain ⟨⟨q, hq0⟩, _⟩ := hcc j p hp
              have y0 : wr.cell? ⟨gv, j * 7, none⟩ = some (.int .u8 q) := by rw [hC.cell]; exact hq0
              have yf := hC.frozen (j * 7)
              have hgr : wr.grownBy (wr.setCell ⟨gv, j * 7, none⟩ (.int .u8 99)) (some gv) := Lib.grownBy_setB (World.grownBy.refl _ _) _ _
              have HV0 : Hid (VSp w gv P1 (wr.setCell ⟨gv, j * 7, none⟩ (.int .u8 99)) ∧ DcS w P2 (.slice a2 N c2) (wr.setCell ⟨gv, j * 7, none⟩ (.int .u8 99))) := ⟨hvsp.node j 99, hds.put hC (by decide) hgr hvsp.gl⟩
              obtain ⟨ad, cx, hpv⟩ := hvsp.sl p hmem
              obtain ⟨pa, pv⟩ := p
              simp only at hpv
              subst hpv
              obtain ⟨M, hMx⟩ : ∃ M, pa.xs.length = M := ⟨_, rfl⟩
              have HPJ : Hid (P1[j]? = some (pa, .slice ad M cx) ∧ pa.xs.length = M) := by rw [← hMx]; exact ⟨hp, rfl⟩
              have hMz : M ≤ 4398046510976 := by
                rw [← hMx]
                exact srS_len H10.out.2.1 pa (List.mem_map.2 ⟨_, hmem, rfl⟩)
              have hglt := hC.lt
              clear hds hvv hp hmem hC hcc hq0 hgr hvsp HRR hMx HD13 HV13
              go_wp2
              go_loopw [17] (fun y wr' => ∃ (t : Nat), y = .int .i64 t ∧ t ≤ M ∧ Hid (VSp w gv P1 wr' ∧ DcS w P2 (.slice a2 N c2) wr')) (fun y _ => M - (intOf y).toNat)
              case atStart => exact ⟨0, rfl, Nat.zero_le _, HV0.out.1, HV0.out.2⟩
              case round =>
                obtain ⟨t, rfl, htM, HV1⟩ := hrel
                obtain ⟨hvsp, hds⟩ := HV1.out
                obtain ⟨C, hC, hcc⟩ := hvsp.blk
                have h6 := (hcc j _ HPJ.out.1).2
                have y6 : wr.cell? ⟨gv, j * 7 + 6, none⟩ = some (.slice ad M cx) := by rw [hC.cell]; exact h6
                clear HV1 HV0 y0 yf hcc h6
                by_cases htlt : t < M
                · have htz : (t : Int) < (M : Nat) := by omega
                  obtain ⟨g, c, D, y, e1, e2, e3, e4⟩ := hvsp.rows _ (List.mem_of_getElem? HPJ.out.1) t (by rw [HPJ.out.2]; exact htlt)
                  simp only at e1
                  injection e1 with e1 _ e5
                  subst e1
                  subst e5
                  have z1 : wr.cell? ⟨g, t * 2 + 1, none⟩ = some (.string y) := by rw [e3.cell]; exact e4
                  have zf := e3.frozen (t * 2 + 1)
                  have hgr : wr.grownBy (wr.setCell ⟨g, t * 2 + 1, none⟩ (.string ⟨#[126]⟩)) (some g) := Lib.grownBy_setB (World.grownBy.refl _ _) _ _
                  have HV2 : Hid (VSp w gv P1 (wr.setCell ⟨g, t * 2 + 1, none⟩ (.string ⟨#[126]⟩)) ∧ DcS w P2 (.slice a2 N c2) (wr.setCell ⟨g, t * 2 + 1, none⟩ (.string ⟨#[126]⟩))) := ⟨hvsp.val e3, hds.put e3 (by decide) hgr e2⟩
                  have hzlt := e3.lt
                  have hzlt2 := hC.lt
                  clear hvsp hds e2 e3 e4 hgr hC
                  go_wp2
                  go_roundw
                  case rel => exact ⟨t + 1, by go_num, by omega, HV2.out⟩
                  case measure => simp [intOf]; omega
                · have htz : ¬ (t : Int) < (M : Nat) := by omega
                  have HV2 : Hid (VSp w gv P1 wr ∧ DcS w P2 (.slice a2 N c2) wr) := ⟨hvsp, hds⟩
                  have hzlt2 := hC.lt
                  clear hvsp hds hC
                  go_wp2
                  go_roundw
                  case rel => exact ⟨j + 1, _, by go_num, rfl, by omega, HV2.out.2, .inr ⟨gv, rfl, HV2.out.1⟩⟩
                  case measure => simp [intOf]; omega
            · have hjz : ¬ (j : Int) < (N : Nat) := by omega
              have HD14 : Hid (DcS w P2 (.slice a2 N c2) wr) := HRR.out.1
              clear HRR HD13 HV13
              go_wp2_with fail
              refine (readst s _ hs (HT.out.below HD14.out.bel)).mono ?_
              rintro e w20 ⟨P3, v3, er3, rfl, hsr3, how3, hxr3, hlen3, hb20⟩
              have hD20 := HD14.out.keep hb20
              obtain ⟨hPP, rfl⟩ := srS_one H10.out.2.1 hsr3 H10.out.2.2.1 hxr3.ok
              have hN3 : P3.length = N := by rw [← H10.out.1, ← List.length_map (f := Prod.fst), ← hPP, List.length_map]
              rw [hN3] at how3
              obtain ⟨a3, c3, rfl, hat3, _, _⟩ := row_atl how3 hN3 hxr3.xv
              have how2 := hD20.ow
              rw [H11.out.1] at how2
              obtain ⟨a2', c2', hv2, hat2, _, _⟩ := row_atl how2 H11.out.1 hD20.xr.xv
              injection hv2 with hv2 hv2b hv2c
              subst hv2
              subst hv2c
              clear hv2b
              rw [H11.out.2.1] at hat2
              rw [← hPP] at hat3
              have HAL : Hid (Calls Tryd.prog 25 #[.slice a3 N c3, .slice a2 N c2] w20 fun e w' => e = .returned (.bool true) ∧ Below w20.heap.size w20 w') :=
                all10 a3 a2 N c3 c2 (P1.map Prod.fst) w20 hat3 hat2 (by rw [List.length_map]; exact H10.out.1) (by omega) (srS_len H10.out.2.1)
              have B20 : Hid (Below w.heap.size w w20) := hD20.bel
              clear hsr3 how3 hxr3 hlen3 hb20 hD20 hPP hN3 hat3 how2 hat2
              go_wp2_with fail
              refine HAL.out.mono ?_
              rintro e w21 ⟨rfl, hb21⟩
              have B21 : Hid (Below w.heap.size w w21) := B20.out.trans (hb21.mono B20.out.size)
              clear hb21 HAL
              go_wp2_with fail
              refine (awake10 _ (HT.out.below B21.out)).mono ?_
              rintro e w22 ⟨rfl, hb22⟩
              have B22 : Hid (Below w.heap.size w w22) := B21.out.trans (hb22.mono B21.out.size)
              clear hb22
              go_wp2
              go_ret
              exact ⟨rfl, B22.out⟩
end Go.Proofs.YtjnijcmalnckcaaDoor
/- The law's own. -/
namespace Go.Proofs.YtjnijcmalnckcaaDoor
open Go.RowKit
set_option linter.unusedSimpArgs false
set_option linter.unusedVariables false
/-- What lies there while a list is copied. -/
structure OS (w0 : World) (nd md ui gi : Nat) (mt : Int) (tg : ByteArray) (ad : Option Addr) (n c : Nat) (ys : List (ByteArray × ByteArray)) (v : Value) (w : World) : Prop where
  ab : Bk w w0.heap.size (c7 nd md ui gi mt tg (.slice ad n c)) 25
  rb : Bk w (w0.heap.size + 1) z7 28
  xb : Bk w (w0.heap.size + 1 + 1) (c7 nd md ui gi mt tg v) 28
  ow : w.ownsRow (w0.heap.size + 1 + 1 + 1) 57 2 v ys.length (xav ys)
  bel : Below w0.heap.size w0 w
theorem OS.drew {w0 : World} {nd md ui gi : Nat} {mt : Int} {tg : ByteArray} {ad : Option Addr} {n c : Nat} {ys : List (ByteArray × ByteArray)} {v : Value} {w : World} (h : OS w0 nd md ui gi mt tg ad n c ys v w) : OS w0 nd md ui gi mt tg ad n c ys v w.drew :=
  ⟨h.ab, h.rb, h.xb, h.ow, h.bel.drew⟩
theorem OS.start (w0 : World) (nd md ui gi : Nat) (mt : Int) (tg : ByteArray) (ad : Option Addr) (n c : Nat) : OS w0 nd md ui gi mt tg ad n c [] (.slice none 0 0) (((w0.alloc (.cells (c7 nd md ui gi mt tg (.slice ad n c)) 25)).alloc (.cells z7 28)).alloc (.cells (c7 nd md ui gi mt tg (.slice none 0 0)) 28)) := by
  have s1 : (w0.alloc (.cells (c7 nd md ui gi mt tg (.slice ad n c)) 25)).heap.size = w0.heap.size + 1 := al_size _ _
  have s2 : ((w0.alloc (.cells (c7 nd md ui gi mt tg (.slice ad n c)) 25)).alloc (.cells z7 28)).heap.size = w0.heap.size + 1 + 1 := by rw [al_size, s1]
  have b1 := bk_new (w0.alloc (.cells (c7 nd md ui gi mt tg (.slice ad n c)) 25)) z7 28
  rw [s1] at b1
  have b2 := bk_new ((w0.alloc (.cells (c7 nd md ui gi mt tg (.slice ad n c)) 25)).alloc (.cells z7 28)) (c7 nd md ui gi mt tg (.slice none 0 0)) 28
  rw [s2] at b2
  exact ⟨((bk_new w0 _ _).alloc _).alloc _, b1.alloc _, b2, rows_none, (((Below.refl _ w0).alloc (Nat.le_refl _) _).alloc (by omega) _).alloc (by omega) _⟩
/-- One is appended. -/
theorem OS.app {w0 : World} {nd md ui gi : Nat} {mt : Int} {tg : ByteArray} {ad : Option Addr} {n c : Nat} {ys : List (ByteArray × ByteArray)} {v : Value} {w : World} (h : OS w0 nd md ui gi mt tg ad n c ys v w) (x y : ByteArray) (hn : (ys.length + 1) * 32 ≤ 140737488355328) :
    ∃ g cp w7, (Builtin.append_ #[26, 26] 26 #[v, .slice (some ⟨w.heap.size, 0, none⟩) 1 1]).run Tryd.prog (w.alloc (.cells #[.string x, .string y] 57)) = .ok (.slice (some ⟨g, 0, none⟩) (ys.length + 1) cp) w7 ∧
      OS w0 nd md ui gi mt tg ad n c (ys ++ [(x, y)]) (.slice (some ⟨g, 0, none⟩) (ys.length + 1) cp) (w7.setCell ⟨w0.heap.size + 1 + 1, 6, none⟩ (.slice (some ⟨g, 0, none⟩) (ys.length + 1) cp)) ∧
      Bk w7 (w0.heap.size + 1 + 1) (c7 nd md ui gi mt tg v) 28 ∧ Bk w7 w0.heap.size (c7 nd md ui gi mt tg (.slice ad n c)) 25 ∧ ys.length + 1 ≤ cp ∧ Below w0.heap.size w0 w7 ∧
      w7.ownsRow (w0.heap.size + 1 + 1 + 1) 57 2 (.slice (some ⟨g, 0, none⟩) (ys.length + 1) cp) (ys.length + 1) (xav (ys ++ [(x, y)])) ∧ Bk w7 (w0.heap.size + 1) z7 28 := by
  obtain ⟨i0, hi, hz0, hz1, hz2⟩ := info_parts inf_xattr
  have hz := h.bel.size
  have hx3 := h.xb.lt
  obtain ⟨v', w7, hrun, hown, hgrow, _, hat⟩ := run_append_own_at (P := Tryd.prog) (w := w.alloc (.cells #[.string x, .string y] 57)) (w0.heap.size + 1 + 1 + 1) 26 26 57 i0 (.agg #[.string ⟨#[]⟩, .string ⟨#[]⟩]) 2 32 Tryd.underlying26 hi hz0 hz1 hz2 rfl (by decide) v ys.length (xav ys) (h.ow.alloc _) ⟨w.heap.size, 0, none⟩ 1 1 [.string x, .string y] rfl (new_two _ _ _ _) (one_two_s _ _) (by unfold maxLen; omega) (by omega) (by rw [al_size]; omega)
  have hgr : ∀ b, v.ownBlock = some b → w0.heap.size + 1 + 1 + 1 ≤ b := fun b hb => (rows_blk h.ow hb).1
  have b1 := (h.ab.alloc (.cells #[.string x, .string y] 57)).grown hgrow (fun e => by have := hgr _ e; omega)
  have b2 := (h.rb.alloc (.cells #[.string x, .string y] 57)).grown hgrow (fun e => by have := hgr _ e; omega)
  have b3 := (h.xb.alloc (.cells #[.string x, .string y] 57)).grown hgrow (fun e => by have := hgr _ e; omega)
  have b4 : Below w0.heap.size w0 w7 := rows_bel (h.bel.alloc hz _) (by rw [al_size]; omega) (h.ow.alloc _) (by omega) hgrow
  have ho : w7.ownsRow (w0.heap.size + 1 + 1 + 1) 57 2 v' (ys.length + 1) (xav (ys ++ [(x, y)])) := by rw [xav_app]; exact hown
  obtain ⟨g, cp, hv, hcp⟩ : ∃ g cp, v' = .slice (some ⟨g, 0, none⟩) (ys.length + 1) cp ∧ ys.length + 1 ≤ cp := by
    rcases ho.2 with ⟨_, h0⟩ | ⟨g7, c7, cur, h1, _, _, h2, _⟩
    · omega
    · exact ⟨g7, c7, h1, h2⟩
  subst hv
  have hg : w7.grownBy (w7.setCell ⟨w0.heap.size + 1 + 1, 6, none⟩ (.slice (some ⟨g, 0, none⟩) (ys.length + 1) cp)) (some (w0.heap.size + 1 + 1)) := Lib.grownBy_setB (World.grownBy.refl _ _) 6 _
  refine ⟨g, cp, w7, hrun, ⟨b1.grown hg (fun e => by injection e with e; omega), b2.grown hg (fun e => by injection e with e; omega), b3.set 6 _, ?_, below_own b4 b4.size hg (by omega)⟩, b3, b1, hcp, b4, ho, b2⟩
  rw [List.length_append]
  exact own_set ho (by omega)
set_option maxHeartbeats 8000000 in
set_option maxRecDepth 100000 in
theorem own10 (nd md ui gi : Nat) (mt : Int) (tg : ByteArray) (xs : List (ByteArray × ByteArray)) (ad : Option Addr) (n c : Nat) (w : World) (hX : XaL w ad xs) (hl : xs.length = n) (hn : n ≤ 4398046510976) :
    Calls Tryd.prog 7 #[atV nd md ui gi mt tg (.slice ad n c)] w fun e w' => ∃ g cp, e = .returned (.agg (c7 nd md ui gi mt tg (.slice (some ⟨g, 0, none⟩) n cp))) ∧ w'.ownsRow w.heap.size 57 2 (.slice (some ⟨g, 0, none⟩) (n + 1) cp) (n + 1) (xav (xs ++ [(⟨#[35]⟩, ⟨#[]⟩)])) ∧ Below w.heap.size w w' := by
  have HX : Hid (XaL w ad xs) := hX
  have HL : Hid (xs.length = n) := hl
  have O0 : Hid (OS w nd md ui gi mt tg ad n c [] (.slice none 0 0) (((w.alloc (.cells (c7 nd md ui gi mt tg (.slice ad n c)) 25)).alloc (.cells z7 28)).alloc (.cells (c7 nd md ui gi mt tg (.slice none 0 0)) 28))) := OS.start w nd md ui gi mt tg ad n c
  clear hX hl
  go_enter Tryd.func7, Tryd.ntmps7
  go_wp2
  go_loopw [4] (fun v wr => ∃ (k : Nat) (u : Value), v = .int .i64 k ∧ k ≤ n ∧ Hid (OS w nd md ui gi mt tg ad n c (xs.take k) u wr)) (fun v _ => n - (intOf v).toNat)
  case atStart => exact ⟨0, _, rfl, Nat.zero_le _, O0.out⟩
  case round =>
    obtain ⟨k, u, rfl, hk, OR⟩ := hrel
    have htk : (xs.take k).length = k := by rw [List.length_take, HL.out]; omega
    have a6 : wr.cell? ⟨w.heap.size, 6, none⟩ = some (.slice ad n c) := by rw [OR.out.ab.cell]; rfl
    have x6 : wr.cell? ⟨w.heap.size + 1 + 1, 6, none⟩ = some u := by rw [OR.out.xb.cell]; rfl
    have hxl := OR.out.xb.lt
    by_cases hlt : k < n
    · have hkz : (k : Int) < (n : Nat) := by omega
      obtain ⟨x, hx⟩ : ∃ x, xs[k]? = some x := ⟨xs[k]'(by rw [HL.out]; exact hlt), List.getElem?_eq_getElem _⟩
      obtain ⟨g, o, rfl, hg2, hc1, hc2, _, _⟩ := HX.out.below OR.out.bel k x hx
      obtain ⟨x1, x2⟩ := x
      simp only at hc1 hc2
      obtain ⟨g7, cp7, w7, hrun, O7, b7, _, _, _, _⟩ := OR.out.drew.app x1 x2 (by rw [htk]; omega)
      have O8 : Hid (OS w nd md ui gi mt tg (some ⟨g, o, none⟩) n c (xs.take (k + 1)) (.slice (some ⟨g7, 0, none⟩) (k + 1) cp7) (w7.setCell ⟨w.heap.size + 1 + 1, 6, none⟩ (.slice (some ⟨g7, 0, none⟩) (k + 1) cp7))) := by
        rw [List.take_add_one, hx, Option.toList_some]
        rw [htk] at O7
        exact O7
      rw [htk] at hrun
      have y6 : w7.cell? ⟨w.heap.size + 1 + 1, 6, none⟩ = some u := by rw [b7.cell]; rfl
      have y6f := b7.frozen 6
      clear O7 b7 hx htk
      go_wp2
      go_region_law (refine step_app_run (by rfl) _ _ _ _ (by rfl) u (.slice (some ⟨wr.heap.size, 0, none⟩) 1 1) (.slice (some ⟨g7, 0, none⟩) (k + 1) cp7) w7 (by rfl) (by rfl) hrun ?_)
      all_goals (first | go_wp2 | skip)
      all_goals go_roundw
      all_goals first
        | (case rel => exact ⟨k + 1, _, by go_num, by omega, O8.out⟩)
        | (case measure => simp [intOf]; omega)
        | trace_state
    · have hkz : ¬ (k : Int) < (n : Nat) := by omega
      obtain rfl : k = n := by omega
      have hxs : xs.take k = xs := List.take_of_length_le (by rw [HL.out]; omega)
      rw [hxs] at OR htk
      obtain ⟨g7, cp7, w7, hrun, O7, b7, ba7, hcp, hb7, ho7, br7⟩ := OR.out.drew.app ⟨#[35]⟩ ⟨#[]⟩ (by rw [htk]; omega)
      rw [htk] at hrun O7 hcp ho7
      have y6 : w7.cell? ⟨w.heap.size + 1 + 1, 6, none⟩ = some u := by rw [b7.cell]; rfl
      have y6f := b7.frozen 6
      have a7 : w7.cell? ⟨w.heap.size, 6, none⟩ = some (.slice ad k c) := by rw [ba7.cell]; rfl
      have hcz : (k : Int) ≤ (cp7 : Nat) := by omega
      have hal : w.heap.size < wr.heap.size := by omega
      have a8 : (wr.alloc (.cells #[.string ⟨#[35]⟩, .string ⟨#[]⟩] 57)).cell? ⟨w.heap.size, 6, none⟩ = some (.slice ad k c) := by rw [World.cell?_alloc_past _ _ _ hal]; exact a6
      have hg8 : w7.grownBy (w7.setCell ⟨w.heap.size + 1 + 1, 6, none⟩ (.slice (some ⟨g7, 0, none⟩) k cp7)) (some (w.heap.size + 1 + 1)) := Lib.grownBy_setB (World.grownBy.refl _ _) 6 _
      have bx : Bk (w7.setCell ⟨w.heap.size + 1 + 1, 6, none⟩ (.slice (some ⟨g7, 0, none⟩) k cp7)) (w.heap.size + 1 + 1) (c7 nd md ui gi mt tg (.slice (some ⟨g7, 0, none⟩) k cp7)) 28 := b7.set 6 _
      have br : Bk (w7.setCell ⟨w.heap.size + 1 + 1, 6, none⟩ (.slice (some ⟨g7, 0, none⟩) k cp7)) (w.heap.size + 1) z7 28 := br7.grown hg8 (fun e => by injection e with e; omega)
      have BR : Hid (Bk (w7.setCell ⟨w.heap.size + 1 + 1, 6, none⟩ (.slice (some ⟨g7, 0, none⟩) k cp7)) (w.heap.size + 1) z7 28) := br
      have BE : Hid (Below w.heap.size w (w7.setCell ⟨w.heap.size + 1 + 1, 6, none⟩ (.slice (some ⟨g7, 0, none⟩) k cp7))) := below_own hb7 hb7.size hg8 (by omega)
      have BO : Hid ((w7.setCell ⟨w.heap.size + 1 + 1, 6, none⟩ (.slice (some ⟨g7, 0, none⟩) k cp7)).ownsRow (w.heap.size + 1 + 1 + 1) 57 2 (.slice (some ⟨g7, 0, none⟩) (k + 1) cp7) (k + 1) (xav (xs ++ [(⟨#[35]⟩, ⟨#[]⟩)]))) := own_set ho7 (by omega)
      obtain ⟨W8, hW8⟩ : ∃ W8, w7.setCell ⟨w.heap.size + 1 + 1, 6, none⟩ (.slice (some ⟨g7, 0, none⟩) k cp7) = W8 := ⟨_, rfl⟩
      rw [hW8] at bx br BR BE BO
      have e0 : W8.cell? ⟨w.heap.size + 1 + 1, 0, none⟩ = some (.int .u8 (nd : Int)) := by rw [bx.cell]; rfl
      have e1 : W8.cell? ⟨w.heap.size + 1 + 1, 1, none⟩ = some (.int .u32 (md : Int)) := by rw [bx.cell]; rfl
      have e2 : W8.cell? ⟨w.heap.size + 1 + 1, 2, none⟩ = some (.int .u32 (ui : Int)) := by rw [bx.cell]; rfl
      have e3 : W8.cell? ⟨w.heap.size + 1 + 1, 3, none⟩ = some (.int .u32 (gi : Int)) := by rw [bx.cell]; rfl
      have e4 : W8.cell? ⟨w.heap.size + 1 + 1, 4, none⟩ = some (.int .i64 mt) := by rw [bx.cell]; rfl
      have e5 : W8.cell? ⟨w.heap.size + 1 + 1, 5, none⟩ = some (.string tg) := by rw [bx.cell]; rfl
      have e6 : W8.cell? ⟨w.heap.size + 1 + 1, 6, none⟩ = some (.slice (some ⟨g7, 0, none⟩) k cp7) := by rw [bx.cell]; rfl
      have hfz : ∀ j, W8.frozen? ⟨w.heap.size + 1, j, none⟩ = false := fun j => br.frozen j
      have y0 : W8.cell? ⟨w.heap.size + 1, 0, none⟩ = some (.int .u8 0) := by rw [br.cell]; rfl
      have y1 : W8.cell? ⟨w.heap.size + 1, 1, none⟩ = some (.int .u32 0) := by rw [br.cell]; rfl
      have y2 : W8.cell? ⟨w.heap.size + 1, 2, none⟩ = some (.int .u32 0) := by rw [br.cell]; rfl
      have y3 : W8.cell? ⟨w.heap.size + 1, 3, none⟩ = some (.int .u32 0) := by rw [br.cell]; rfl
      have y4 : W8.cell? ⟨w.heap.size + 1, 4, none⟩ = some (.int .i64 0) := by rw [br.cell]; rfl
      have y5 : W8.cell? ⟨w.heap.size + 1, 5, none⟩ = some (.string ⟨#[]⟩) := by rw [br.cell]; rfl
      have y7 : W8.cell? ⟨w.heap.size + 1, 6, none⟩ = some (.slice none 0 0) := by rw [br.cell]; rfl
      clear O7 b7 ba7 hb7 ho7 br7 hg8 bx br hxs htk
      go_wp2
      go_cut [] from 43 to 52 (fun wx => wx = W8)
      case first =>
        go_region_law (refine step_app_run (by rfl) _ _ _ _ (by rfl) u (.slice (some ⟨wr.heap.size, 0, none⟩) 1 1) (.slice (some ⟨g7, 0, none⟩) (k + 1) cp7) w7 (by rfl) (by rfl) hrun ?_)
        all_goals (first | go_wp2_with fail | skip)
        all_goals go_meet
        all_goals first | rfl | exact hW8
      case rest =>
        have hcut' := hcut.symm
        clear hrun hW8 y6 y6f a7 a8
        subst hcut'
        go_wp2
        have q1 := bk_st7 BR.out (.int .u8 (nd : Int)) (.int .u32 (md : Int)) (.int .u32 (ui : Int)) (.int .u32 (gi : Int)) (.int .i64 mt) (.string tg) (.slice (some ⟨g7, 0, none⟩) k cp7)
        have q2 := gr_st7 W8 (w.heap.size + 1) (.int .u8 (nd : Int)) (.int .u32 (md : Int)) (.int .u32 (ui : Int)) (.int .u32 (gi : Int)) (.int .i64 mt) (.string tg) (.slice (some ⟨g7, 0, none⟩) k cp7)
        exact bodyPost_ret (results_cell_row rfl _ _ (w.heap.size + 1) 28 (c7 nd md ui gi mt tg (.slice (some ⟨g7, 0, none⟩) k cp7)) (0, 0) _ rfl q1 Tryd.underlying28 rfl inf_attr) rfl ⟨g7, cp7, rfl, rows_low (own_gr BO.out q2 (by omega)) (by omega), below_own BE.out BE.out.size q2 (by omega)⟩
end Go.Proofs.YtjnijcmalnckcaaDoor
