/- names.takeShown, all together; names.Read. -/
import Derived.Test.YtobecfeelamlmaaDoorN24
namespace Go.Proofs.YtobecfeelamlmaaDoor
open Go.RowKit
set_option linter.unusedSimpArgs false
set_option linter.unusedVariables false
theorem cons_of (s : ByteArray) (h0 : 0 < s.size) : s.data.toList = (s[0]'h0) :: (s.extract 1 s.size).data.toList := by
  rw [Lib.extract_to_end]
  have := List.drop_eq_getElem_cons (l := s.data.toList) (i := 0) (by rw [data_len]; exact h0)
  rw [List.drop_zero] at this
  rw [this]; rfl
theorem pre_two (l : List UInt8) (a b : UInt8) (h : Lib.hasPrefix l [a, b] = true) : ∃ t, l = a :: b :: t := by
  unfold Lib.hasPrefix at h
  obtain ⟨t, ht⟩ := List.isPrefixOf_iff_prefix.1 h
  exact ⟨t, ht.symm⟩
theorem pre_not (c a b : UInt8) (t : List UInt8) (h : Lib.hasPrefix (a :: c :: t) [a, b] = false) : c ≠ b := by
  intro e
  subst e
  unfold Lib.hasPrefix at h
  simp at h
theorem size_of_len {s : ByteArray} {l : List UInt8} (h : s.data.toList = l) : s.size = l.length := by rw [← h, data_len]
theorem drop_ext (s : ByteArray) (k : Nat) : (s.extract k s.size).data.toList = s.data.toList.drop k := Lib.extract_to_end _ _
theorem take_any (s : ByteArray) (w : World) (h0 : 0 < s.size) (hs : s.size ≤ 4398046511104) (hE : Er w) :
    Calls Tryd.prog 15 #[.string s] w fun e w' => TkA s e ∧ Below w.heap.size w w' := by
  have hcons := cons_of s h0
  by_cases h92 : (s[0]'h0) = 92
  · rw [h92] at hcons
    cases hq1 : Lib.hasPrefix s.data.toList [92, 92] with
    | true =>
      obtain ⟨t, ht⟩ := pre_two _ _ _ hq1
      have hsz := size_of_len ht
      simp at hsz
      refine (tk_bs s w (by omega) h92 hq1).mono ?_
      rintro e w1 ⟨rfl, hb⟩
      refine ⟨⟨_, _, _, rfl, by show 1 ≤ 4; omega, by rw [ByteArray.size_extract]; omega, ?_⟩, hb⟩
      rw [drop_ext, ht]
      exact tak_bs t
    | false =>
      cases hq2 : Lib.hasPrefix s.data.toList [92, 120] with
      | true =>
        obtain ⟨t, ht⟩ := pre_two _ _ _ hq2
        have hsz := size_of_len ht
        simp at hsz
        by_cases h4 : 4 ≤ s.size
        · refine (tk_x s w h4 hs h92 hq1 hq2 hE).mono ?_
          rintro e w1 ⟨⟨n, ok, rfl, hcase⟩, hb⟩
          refine ⟨⟨_, _, _, rfl, by show 1 ≤ 4; omega, by rw [ByteArray.size_extract]; omega, ?_⟩, hb⟩
          have h24 : (s.extract 2 4).data.toList = t.take 2 := by
            have : (s.extract 2 4).data.toList = (s.data.toList.drop 2).take 2 := by simp [List.take_drop]
            rw [this, ht]; rfl
          rw [h24] at hcase
          obtain ⟨d1, d2, t', rfl⟩ : ∃ d1 d2 t', t = d1 :: d2 :: t' := by
            match t with
            | [] => simp at hsz; omega
            | [_] => simp at hsz; omega
            | d1 :: d2 :: t' => exact ⟨d1, d2, t', rfl⟩
          have hdr : (s.extract 4 s.size).data.toList = t' := by rw [drop_ext, ht]; rfl
          rw [hdr, ht]
          rcases hcase with ⟨rfl, hc⟩ | ⟨rfl, hc⟩
          · exact tak_x d1 d2 t' n hc
          · exact tak_xn d1 d2 t' _ _ _ hc
        · have hq3 : Lib.hasPrefix s.data.toList [92, 117] = false := by
            rw [ht]; unfold Lib.hasPrefix; simp; rfl
          refine (tk_none s w h0 h92 true hq1 hq2 hq3 (fun _ => by omega)).mono ?_
          rintro e w1 ⟨rfl, hb⟩
          refine ⟨⟨_, _, _, rfl, by show 0 ≤ 4; omega, h0, ?_⟩, hb⟩
          rw [ht]
          exact tak_xs t _ _ _ (by omega)
      | false =>
        cases hq3 : Lib.hasPrefix s.data.toList [92, 117] with
        | true =>
          obtain ⟨t, ht⟩ := pre_two _ _ _ hq3
          have hsz := size_of_len ht
          simp at hsz
          refine (tk_u s w (by omega) hs h92 hq1 hq2 hq3 hE).mono ?_
          rintro e w1 ⟨⟨R, b, ok, rfl, hbs, hcase⟩, hb⟩
          refine ⟨⟨_, _, _, rfl, encode_size_le R, hbs, ?_⟩, hb⟩
          have hdr : (s.extract 2 s.size).data.toList = t := by rw [drop_ext, ht]; rfl
          rw [hdr] at hcase
          rw [ht]
          rcases hcase with ⟨hno, rfl⟩ | ⟨i, hno, h59, hbl, hcase⟩
          · exact tak_ue t _ _ _ hno
          · have hsplit : t = t.take i ++ 59 :: t.drop (i + 1) := by
              have hi : i < t.length := (List.getElem?_eq_some_iff.1 h59).1
              have h59' := (List.getElem?_eq_some_iff.1 h59).2
              rw [← h59', ← List.drop_eq_getElem_cons hi, List.take_append_drop]
            rw [hbl]
            rcases hcase with ⟨rfl, n, hn, hR⟩ | ⟨rfl, hn⟩
            · have := tak_u (t.take i) (t.drop (i + 1)) (Utf8.encode R).data.toList n hno hn (fun h => by rw [hR h]; exact enc_model n h)
              rw [← hsplit] at this
              exact this
            · have := tak_un (t.take i) (t.drop (i + 1)) (Utf8.encode R).data.toList (t.drop (i + 1)) false hno hn
              rw [← hsplit] at this
              exact this
        | false =>
          refine (tk_none s w h0 h92 false hq1 hq2 hq3 (fun h => by cases h)).mono ?_
          rintro e w1 ⟨rfl, hb⟩
          refine ⟨⟨_, _, _, rfl, by show 0 ≤ 4; omega, h0, ?_⟩, hb⟩
          rw [hcons] at hq1 hq2 hq3 ⊢
          cases htl : (s.extract 1 s.size).data.toList with
          | nil => exact tak_one _ _ _
          | cons c t =>
            rw [htl] at hq1 hq2 hq3
            exact tak_other c t _ _ _ (pre_not _ _ _ _ hq1) (pre_not _ _ _ _ hq2) (pre_not _ _ _ _ hq3)
  · refine (tk_plain s w h0 h92).mono ?_
    rintro e w1 ⟨rfl, hb⟩
    refine ⟨⟨_, _, _, rfl, by rw [ByteArray.size_extract]; omega, by rw [ByteArray.size_extract]; omega, ?_⟩, hb⟩
    have h1 : (s.extract 0 1).data.toList = [s[0]'h0] := by
      have : (s.extract 0 1).data.toList = s.data.toList.take 1 := by simp
      rw [this, hcons]; rfl
    rw [h1]
    have hpl : plR ((s[0]'h0).toNat : Int) = decide (32 ≤ (s[0]'h0).toNat ∧ (s[0]'h0).toNat ≤ 126) := by
      unfold plR
      congr 1
      simp only [eq_iff_iff]
      omega
    rw [hpl]
    have := tak_plain (s[0]'h0) (s.extract 1 s.size).data.toList h92
    rw [← hcons] at this
    exact this
end Go.Proofs.YtobecfeelamlmaaDoor
