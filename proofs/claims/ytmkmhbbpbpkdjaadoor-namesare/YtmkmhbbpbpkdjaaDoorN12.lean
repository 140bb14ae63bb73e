/- The document's Split. -/
import Derived.Test.YtmkmhbbpbpkdjaaDoorN11
namespace Go.Proofs.YtmkmhbbpbpkdjaaDoor
open Go.RowKit
set_option linter.unusedSimpArgs false
set_option linter.unusedVariables false
theorem sp_none : ∀ m : List UInt8, (∀ b ∈ m, b ≠ 47) → sp m = [m]
  | [], _ => rfl
  | b :: m, h => by
    rw [sp, if_neg (h b (by simp)), sp_none m (fun x hx => h x (by simp [hx]))]
    rfl
theorem sp_piece : ∀ (n : Nat) (m : List UInt8), (∀ b ∈ m.take n, b ≠ 47) → m[n]? = some 47 → sp m = m.take n :: sp (m.drop (n + 1))
  | _, [], _, h => by simp at h
  | 0, b :: m, _, h => by
    simp at h
    subst h
    simp [sp]
  | n + 1, b :: m, hb, h => by
    have h1 : b ≠ 47 := hb b (by simp)
    rw [sp, if_neg h1, sp_piece n m (fun x hx => hb x (by simp [hx])) (by simpa using h)]
    simp [consH]
/-- Texts as cells. -/
def scl (xs : List ByteArray) : List Value := xs.map Value.string
theorem scl_app (a b : List ByteArray) : scl (a ++ b) = scl a ++ scl b := by simp [scl]
theorem one_str1 (a : ByteArray) : ∀ u ∈ [Value.string a], u.oneCell' = true := by
  intro u hu
  simp at hu
  subst hu; rfl
theorem own_strs {w : World} {B : Nat} {v : Value} {xs : List ByteArray} (h : w.ownsRow B 9 1 v xs.length (scl xs)) : ∃ a c, v = .slice a xs.length c ∧ LieL w a xs ∧ xs.length ≤ c := by
  rcases h.2 with ⟨rfl, h0⟩ | ⟨g, cap, cur, rfl, _, hg, hn, _, hc, ht⟩
  · have : xs = [] := List.eq_nil_of_length_eq_zero h0
    subst this
    exact ⟨none, 0, rfl, fun i c hc => by simp at hc, Nat.le_refl _⟩
  · refine ⟨some ⟨g, 0, none⟩, cap, rfl, fun i c hi => ⟨g, 0, rfl, (Array.getElem?_eq_some_iff.1 hg).1, ?_⟩, hn⟩
    have hl : i < xs.length := (List.getElem?_eq_some_iff.1 hi).1
    have e := congrArg (·[i]?) ht
    rw [Nat.mul_one] at e
    simp only [List.getElem?_take, if_pos hl, scl, List.getElem?_map, hi, Option.map_some] at e
    simp only [World.cell?, hg, Nat.zero_add]
    rw [← Array.getElem?_toList]; exact e
/-- Where the cutting of a path stands. -/
def CutAt (s : ByteArray) (t : List UInt8) (i f : Nat) (done : List ByteArray) : Prop :=
  (i ≤ s.size ∧ f ≤ i ∧ 1 ≤ f ∧ sp t = done.map (·.data.toList) ++ sp (s.data.toList.drop f) ∧ ∀ b ∈ (s.data.toList.drop f).take (i - f), b ≠ 47) ∨ (i = s.size + 1 ∧ sp t = done.map (·.data.toList))
theorem cut_stop {s : ByteArray} {t : List UInt8} {i f : Nat} {done : List ByteArray} (h : CutAt s t i f done) (hi : i ≤ s.size) (hx : i = s.size ∨ s.data.toList[i]? = some 47) : CutAt s t (i + 1) (i + 1) (done ++ [s.extract f i]) ∧ (i = s.size → sp t = (done ++ [s.extract f i]).map (·.data.toList)) ∧ ∃ r, sp t = done.map (·.data.toList) ++ (s.extract f i).data.toList :: r := by
  rcases h with ⟨_, hf, h1, hs, hn⟩ | ⟨h, _⟩
  · have hex : (s.extract f i).data.toList = (s.data.toList.drop f).take (i - f) := by
      simp only [ByteArray.data_extract, Array.toList_extract]
      try rw [List.extract_eq_take_drop]
    by_cases he : i = s.size
    · have hm : (s.data.toList.drop f).take (i - f) = s.data.toList.drop f := List.take_of_length_le (by rw [List.length_drop, data_len]; omega)
      rw [hm] at hn hex
      have e : sp t = (done ++ [s.extract f i]).map (·.data.toList) := by rw [hs, sp_none _ hn, ← hex]; simp
      exact ⟨.inr ⟨by omega, e⟩, fun _ => e, [], by rw [e]; simp⟩
    · have hx' : s.data.toList[i]? = some 47 := hx.resolve_left he
      have e : sp (s.data.toList.drop f) = (s.extract f i).data.toList :: sp (s.data.toList.drop (i + 1)) := by
        rw [sp_piece (i - f) _ hn (by rw [List.getElem?_drop, show f + (i - f) = i by omega]; exact hx'), hex, List.drop_drop, show f + (i - f + 1) = i + 1 by omega]
      refine ⟨.inl ⟨by omega, Nat.le_refl _, by omega, by rw [hs, e]; simp, by simp⟩, fun h => absurd h he, _, by rw [hs, e]⟩
  · omega
theorem cut_go {s : ByteArray} {t : List UInt8} {i f : Nat} {done : List ByteArray} (h : CutAt s t i f done) (hi : i < s.size) (hx : s[i] ≠ 47) : CutAt s t (i + 1) f done := by
  rcases h with ⟨_, hf, h1, hs, hn⟩ | ⟨h, _⟩
  · refine .inl ⟨by omega, by omega, h1, hs, fun b hb => ?_⟩
    rw [show i + 1 - f = (i - f) + 1 by omega, List.take_add_one, List.getElem?_drop, show f + (i - f) = i by omega, List.getElem?_eq_getElem (by rw [data_len]; exact hi)] at hb
    rcases List.mem_append.1 hb with h | h
    · exact hn b h
    · simp at h; subst h; exact hx
  · omega
def e10 (b : Bool) : Int := if b then 0 else 10
def SpRow (w : World) (t : List UInt8) (b : Bool) (v : Value) (w' : World) : Prop := if b then w'.ownsRow w.heap.size 9 1 v (sp t).length (scl ((sp t).map mkB)) else v = .slice none 0 0
set_option maxHeartbeats 2000000 in
set_option maxRecDepth 100000 in
theorem rSplit_row (s : ByteArray) (t : List UInt8) (w : World) (hs : s.size ≤ 140737488351232) (hl : s.data.toList = 47 :: t) (ht : t ≠ []) (hT : U8 w) :
    Calls Tryd.prog 24 #[.string s] w fun e w' => ∃ v, e = .returned (.tuple #[v, .int .i64 (e10 (okQ (sp t)))]) ∧ SpRow w t (okQ (sp t)) v w' ∧ Below w.heap.size w w' := by
  have HT : Hid (U8 w) := hT
  obtain ⟨E, hE⟩ : ∃ E, E = okQ (sp t) := ⟨_, rfl⟩
  rw [← hE]
  have HEQ : Hid (E = okQ (sp t)) := hE
  clear hE
  obtain ⟨i0, hi, hz0, hz1, hzb⟩ := info_parts info_str
  have hsz : s.size = t.length + 1 := by rw [← data_len, hl]; rfl
  have ht1 : 1 ≤ t.length := List.length_pos_iff.2 ht
  have h0 : (s.toList == []) = false := by rw [Lib.toList_data, hl]; rfl
  have h47 : (s.toList == [47]) = false := by
    rw [Lib.toList_data, hl]
    simpa using ht
  have hs2 : 2 ≤ s.size := by omega
  have hg0 : s[0]'(Nat.lt_of_lt_of_le (by decide) hs2) = 47 := by
    have := congrArg (·[0]?) hl
    simp only [List.getElem?_cons_zero] at this
    rw [List.getElem?_eq_getElem (by rw [data_len]; omega)] at this
    exact Option.some.inj this
  have HST : Hid (CutAt s t 1 1 []) := .inl ⟨by omega, Nat.le_refl _, Nat.le_refl _, by rw [hl]; rfl, by simp⟩
  have HTT : Hid (s.data.toList = 47 :: t) := hl
  clear hT hl ht hsz ht1
  have hg0' : ((s[0]'(Nat.lt_of_lt_of_le (by decide) hs2)).toNat : Int) = 47 := by rw [hg0]; rfl
  go_enter Tryd.func24, Tryd.ntmps24
  go_wp2
  clear h0 h47 hg0 hg0'
  go_loopw [4, 5, 6] (fun v4 v5 v6 wr => ∃ (i f : Nat) (done : List ByteArray), v5 = .int .i64 f ∧ v6 = .int .i64 i ∧ wr.ownsRow w.heap.size 9 1 v4 done.length (scl done) ∧ 1 ≤ i ∧ i ≤ s.size + 1 ∧ f ≤ i ∧ done.length ≤ 16 ∧ Hid (CutAt s t i f done) ∧ Hid (∀ x ∈ done, okN x.data.toList = true) ∧ Hid (Below w.heap.size w wr)) (fun _ _ v _ => s.size + 1 - (intOf v).toNat)
  case atStart => exact ⟨1, 1, [], rfl, rfl, World.ownsRow_nil _ _ _ _, Nat.le_refl _, by omega, Nat.le_refl _, by simp, HST.out, (fun x hx => by cases hx), Below.refl _ _⟩
  case round =>
    obtain ⟨i, f, done, rfl, rfl, hown, hi1, hi2, hfi, hd16, HC, HOK, HB⟩ := hrel
    have HO : Hid (wr.ownsRow w.heap.size 9 1 u4 done.length (scl done)) := hown
    have hz : w.heap.size ≤ wr.heap.size := HB.out.size
    clear hown
    by_cases hle : i ≤ s.size
    · by_cases hgo : ∃ h : i < s.size, s[i] ≠ 47
      · obtain ⟨hlt, hne⟩ := hgo
        have hn47 : ((s[i].toNat : Int) != 47) = true := by
          have : s[i].toNat ≠ 47 := fun e => hne (UInt8.toNat_inj.1 e)
          simp; omega
        have hltz : (i : Int) < (s.size : Nat) := by omega
        have HC2 : Hid (CutAt s t (i + 1) f done) := cut_go HC.out hlt hne
        clear HC hne
        go_wp2
        go_roundw
        case rel => exact ⟨i + 1, f, done, rfl, by go_num, HO.out, by omega, by omega, by omega, hd16, HC2.out, HOK.out, HB.out⟩
        case measure => simp [intOf]; omega
      · have hstop : i = s.size ∨ ∃ h : i < s.size, s[i] = 47 := by
          by_cases h : i < s.size
          · right
            refine ⟨h, ?_⟩
            by_cases e : s[i] = 47
            · exact e
            · exact absurd ⟨h, e⟩ hgo
          · left; omega
        have hstop2 : i = s.size ∨ s.data.toList[i]? = some 47 := hstop.imp id fun ⟨h, e⟩ => by rw [List.getElem?_eq_getElem (by rw [data_len]; exact h)]; exact congrArg some e
        obtain ⟨hc2, hcl, rr, hrr⟩ := cut_stop HC.out hle hstop2
        have HC2 : Hid (CutAt s t (i + 1) (i + 1) (done ++ [s.extract f i])) := hc2
        have HRR : Hid (∃ r, sp t = done.map (·.data.toList) ++ (s.extract f i).data.toList :: r) := ⟨rr, hrr⟩
        have hfz : (f : Int) ≤ (i : Nat) := by omega
        have hiz : (i : Int) ≤ (s.size : Nat) := by omega
        clear hc2 hcl hrr hstop2 hgo
        obtain ⟨a4, c4, hu4, _, _⟩ := own_strs HO.out
        subst hu4
        obtain ⟨x, hx⟩ : ∃ x, x = s.extract f i := ⟨_, rfl⟩
        have hxz : x.size ≤ s.size := by rw [hx, ByteArray.size_extract]; omega
        have HXE : Hid (x = s.extract f i) := hx
        rw [← hx] at HC2 HRR
        have HCK : Hid (Calls Tryd.prog 31 #[.string (s.extract f i)] wr fun e w' => e = .returned (.int .i64 (rnE x.data.toList)) ∧ Below wr.heap.size wr w') := by
          have := rcheck_any x wr (HT.out.below HB.out)
          rw [hx] at this ⊢
          exact this
        clear hx
        by_cases h16 : done.length = 16
        · have h16' : ((done.length : Int) == 16) = true := by simp [h16]
          have HBQ : Hid (okQ (sp t) = false) := by
            obtain ⟨r, hr⟩ := HRR.out
            show okQ (sp t) = false
            have : ¬ (sp t).length ≤ 16 := by rw [hr]; simp; omega
            simp [okQ, this]
          clear h16
          rcases hstop with rfl | ⟨hlt, he⟩
          · go_wp2
            go_ret2
            obtain rfl : E = false := by rw [HEQ.out]; exact HBQ.out
            exact ⟨.slice none 0 0, rfl, rfl, HB.out⟩
          · have he' : ((s[i].toNat : Int) != 47) = false := by rw [he]; rfl
            have hltz : (i : Int) < (s.size : Nat) := by omega
            clear he
            go_wp2
            go_ret2
            obtain rfl : E = false := by rw [HEQ.out]; exact HBQ.out
            exact ⟨.slice none 0 0, rfl, rfl, HB.out⟩
        · have h16' : ((done.length : Int) == 16) = false := by simp; omega
          have hd15 : done.length + 1 ≤ 16 := by omega
          have hE : (i = s.size) ∨ ∃ h : i < s.size, ((s[i].toNat : Int) != 47) = false := hstop.imp id fun ⟨h, e⟩ => ⟨h, by rw [e]; rfl⟩
          clear hstop h16
          cases ho : okN x.data.toList with
          | false =>
            have e0 : rnE x.data.toList = 10 := by simp [rnE, ho]
            rw [e0] at HCK
            have HBQ : Hid (okQ (sp t) = false) := by
              obtain ⟨r, hr⟩ := HRR.out
              show okQ (sp t) = false
              simp [okQ, hr, ho]
            clear e0 ho
            rcases hE with rfl | ⟨hlt, he⟩
            · go_wp2_with (go_at_call 31; refine HCK.out.mono ?_; rintro e w1 ⟨rfl, hb1⟩; have HB1 : Hid (Below wr.heap.size wr w1) := hb1; clear hb1)
              go_ret2
              obtain rfl : E = false := by rw [HEQ.out]; exact HBQ.out
              exact ⟨.slice none 0 0, rfl, rfl, HB.out.trans (HB1.out.mono hz)⟩
            · have hltz : (i : Int) < (s.size : Nat) := by omega
              go_wp2_with (go_at_call 31; refine HCK.out.mono ?_; rintro e w1 ⟨rfl, hb1⟩; have HB1 : Hid (Below wr.heap.size wr w1) := hb1; clear hb1)
              go_ret2
              obtain rfl : E = false := by rw [HEQ.out]; exact HBQ.out
              exact ⟨.slice none 0 0, rfl, rfl, HB.out.trans (HB1.out.mono hz)⟩
          | true =>
            have e0 : rnE x.data.toList = 0 := by simp [rnE, ho]
            rw [e0] at HCK
            have HOX : Hid (∀ y ∈ done ++ [x], okN y.data.toList = true) := fun y hy => by
              rcases List.mem_append.1 hy with h | h
              · exact HOK.out y h
              · simp at h; subst h; exact ho
            clear e0 ho
            rcases hE with rfl | ⟨hlt, he⟩
            all_goals
              (try have hltz : (i : Int) < (s.size : Nat) := by omega)
              go_wp2_with (first
                | (go_at_call 31; refine HCK.out.mono ?_; rintro e w1 ⟨rfl, hb1⟩; have HB1 : Hid (Below wr.heap.size wr w1) := hb1; clear hb1
                   have HO1 : Hid (w1.ownsRow w.heap.size 9 1 (.slice a4 done.length c4) done.length (scl done)) := HO.out.kept (grn_below HB1.out none) (by cases (Value.slice a4 done.length c4).ownBlock <;> simp)
                   have HBW : Hid (Below w.heap.size w w1) := HB.out.trans (HB1.out.mono hz)
                   have hzw1 : w.heap.size ≤ w1.heap.size := HBW.out.size
                   )
                | (at_builtin; refine wpList_append_own _ rfl _ _ 35 rfl w.heap.size 9 i0 (.string ByteArray.empty) 1 16 Tryd.underlying35 hi hz0 hz1 hzb rfl (by decide) _ _ _ rfl (HO1.out.alloc _) ⟨w1.heap.size, 0, none⟩ 1 1 [.string (s.extract f _)] rfl rfl (new_one _ _ _) (one_str1 _) (by first | omega | (unfold maxLen; omega) | (simp; omega)) (by first | omega | (unfold maxLen; omega) | (simp; omega)) (by first | omega | (unfold maxLen; omega) | (simp; omega)) ?_))
              intro v' w7 hown7 hgrow _
              have HO7 : Hid (w7.ownsRow w.heap.size 9 1 v' (done ++ [x]).length (scl (done ++ [x]))) := by
                show w7.ownsRow w.heap.size 9 1 v' (done ++ [x]).length (scl (done ++ [x]))
                rw [scl_app, List.length_append, HXE.out]; exact hown7
              have HB7 : Hid (Below w.heap.size w w7) := apn_below HBW.out HBW.out.size HO1.out hgrow
              clear hown7 hgrow HO1 HO
              go_wp2
              go_roundw
              case rel => exact ⟨_, _, done ++ [x], by go_num, by go_num, HO7.out, by omega, by omega, Nat.le_refl _, by rw [List.length_append]; exact hd15, HC2.out, HOX.out, HB7.out⟩
              case measure => simp [intOf] <;> omega
    · have hie : i = s.size + 1 := by omega
      have hsp : sp t = done.map (·.data.toList) := by
        rcases HC.out with ⟨h, _⟩ | ⟨_, h⟩
        · omega
        · exact h
      have hdn : (sp t).map mkB = done := by rw [hsp, mkB_map]
      have hlen : (sp t).length = done.length := by rw [hsp, List.length_map]
      have hok : okQ (sp t) = true := by
        rw [hsp, ← okP_okQ]
        simp only [okP, Bool.and_eq_true, decide_eq_true_eq, List.all_eq_true]
        exact ⟨hd16, HOK.out⟩
      have HOD : Hid (wr.ownsRow w.heap.size 9 1 u4 (sp t).length (scl ((sp t).map mkB))) := by
        show wr.ownsRow w.heap.size 9 1 u4 (sp t).length (scl ((sp t).map mkB))
        rw [hdn, hlen]; exact HO.out
      have HE1 : Hid (E = true) := by show E = true; rw [HEQ.out]; exact hok
      have hiz : ¬ (i : Int) ≤ (s.size : Nat) := by omega
      clear hsp hdn hlen hok hie HC HO
      go_wp2
      go_ret2
      obtain rfl : E = true := HE1.out
      exact ⟨u4, rfl, HOD.out, HB.out⟩
set_option maxRecDepth 100000 in
theorem rSplit_not (s : ByteArray) (w : World) (h0 : s.data.toList = [] ∨ ∃ c t, s.data.toList = c :: t ∧ c ≠ 47) :
    Calls Tryd.prog 24 #[.string s] w fun e w' => e = .returned (.tuple #[.slice none 0 0, .int .i64 10]) ∧ w' = w := by
  rcases h0 with h | ⟨c, t, hl, hc⟩
  · have e : s = ⟨#[]⟩ := by rw [← mkB_of s, h]; rfl
    subst e
    go_enter Tryd.func24, Tryd.ntmps24
    go_wp2
    go_ret2
    exact ⟨rfl, rfl⟩
  · have hsz : s.size = t.length + 1 := by rw [← data_len, hl]; rfl
    have hs1 : 0 < s.size := by omega
    have h0 : (s.toList == []) = false := by rw [Lib.toList_data, hl]; rfl
    have h47 : (s.toList == [47]) = false := by
      rw [Lib.toList_data, hl]
      simp [hc]
    have hg0 : s[0] = c := by
      have := congrArg (·[0]?) hl
      simp only [List.getElem?_cons_zero] at this
      rw [List.getElem?_eq_getElem (by rw [data_len]; omega)] at this
      exact Option.some.inj this
    have hg1 : ((s[0].toNat : Int) != 47) = true := by
      rw [hg0]
      have : c.toNat ≠ 47 := fun e => hc (UInt8.toNat_inj.1 e)
      simp; omega
    have hz : (0 : Int) < (s.size : Nat) := by omega
    clear hg0 hl hsz
    go_enter Tryd.func24, Tryd.ntmps24
    go_wp2
    go_ret2
    exact ⟨rfl, rfl⟩
set_option maxRecDepth 100000 in
theorem rSplit_root (w : World) :
    Calls Tryd.prog 24 #[.string ⟨#[47]⟩] w fun e w' => e = .returned (.tuple #[.slice none 0 0, .int .i64 0]) ∧ w' = w := by
  go_enter Tryd.func24, Tryd.ntmps24
  go_wp2
  go_ret2
  exact ⟨rfl, rfl⟩
theorem rSplit_any (s : ByteArray) (w : World) (hs : s.size ≤ 140737488351232) (hT : U8 w) :
    Calls Tryd.prog 24 #[.string s] w fun e w' => ∃ a c, e = .returned (.tuple #[.slice a (pthX s.data.toList).length c, .int .i64 (pthE s.data.toList)]) ∧ LieL w' a (pthX s.data.toList) ∧ Below w.heap.size w w' := by
  have nil : ∀ w' : World, LieL w' none [] := fun w' i x hx => by simp at hx
  cases hl : s.data.toList with
  | nil => exact (rSplit_not s w (.inl hl)).mono fun e w' ⟨he, hw⟩ => ⟨none, 0, he, nil _, hw ▸ Below.refl _ _⟩
  | cons c t =>
    by_cases hc : c = 47
    · subst hc
      by_cases ht : t = []
      · subst ht
        have hp : pthX [47] = [] := by simp [pthX, pth]
        have hpe : pthE [47] = 0 := by simp [pthE, pth]
        rw [hp, hpe]
        have e : s = ⟨#[47]⟩ := by rw [← mkB_of s, hl]; rfl
        subst e
        exact (rSplit_root w).mono fun e w' ⟨he, hw⟩ => ⟨none, 0, he, nil _, hw ▸ Below.refl _ _⟩
      · refine (rSplit_row s t w hs hl ht hT).mono fun e w' ⟨v, he, hv, hb⟩ => ?_
        cases hf : okQ (sp t) with
        | false =>
          have hp : pthX (47 :: t) = [] := by simp [pthX, pth, ht, hf]
          have hpe : pthE (47 :: t) = 10 := by simp [pthE, pth, ht, hf]
          rw [hf] at he hv
          rw [hp, hpe]
          have hv' : v = .slice none 0 0 := hv
          subst hv'
          exact ⟨none, 0, he, nil _, hb⟩
        | true =>
          have hp : pthX (47 :: t) = (sp t).map mkB := by simp [pthX, pth, ht, hf]
          have hpe : pthE (47 :: t) = 0 := by simp [pthE, pth, ht, hf]
          rw [hf] at hv
          rw [hf] at he
          rw [hp, hpe]
          have hv2 : w'.ownsRow w.heap.size 9 1 v ((sp t).map mkB).length (scl ((sp t).map mkB)) := by rw [List.length_map]; exact hv
          obtain ⟨a, c, rfl, hli, _⟩ := own_strs hv2
          exact ⟨a, c, he, hli, hb⟩
    · have hp : pthX (c :: t) = [] := by simp [pthX, pth, hc]
      have hpe : pthE (c :: t) = 10 := by simp [pthE, pth, hc]
      rw [hp, hpe]
      exact (rSplit_not s w (.inr ⟨c, t, hl, hc⟩)).mono fun e w' ⟨he, hw⟩ => ⟨none, 0, he, nil _, hw ▸ Below.refl _ _⟩
end Go.Proofs.YtmkmhbbpbpkdjaaDoor
