/- names.isPlain, Show. -/
import Derived.Test.YtobecfeelamlmaaDoorN8
import Derived.Test.YtobecfeelamlmaaDoorN15
namespace Go.Proofs.YtobecfeelamlmaaDoor
open Go.RowKit
set_option linter.unusedSimpArgs false
set_option linter.unusedVariables false
theorem grn_keep {w w' : World} (h : Below w.heap.size w w') : w.grownBy w' none := ⟨h.os, h.tape, h.output, h.size, fun i hi _ => h.block i hi⟩
theorem bldAt_keep {B b : Nat} {p : Value} {l : List Value} {w w' : World} (h : Lib.BuilderAtF 39 5 B b p l w) (hb : Below w.heap.size w w') : Lib.BuilderAtF 39 5 B b p l w' := by
  obtain ⟨h1, v, h2, h3, h4⟩ := h
  have hlt : b < w.heap.size := (Array.getElem?_eq_some_iff.1 h2).1
  exact ⟨h1, v, (hb.block b hlt).trans h2, h3.kept (grn_keep hb) (by cases v.ownBlock <;> simp), h4⟩
theorem bld_keep {B b : Nat} {l : List UInt8} {w w' : World} (h : Bld B b l w) (hb : Below w.heap.size w w') : Bld B b l w' := by
  rcases h with h | h
  · exact .inl (bldAt_keep h hb)
  · exact .inr (bldAt_keep h hb)
def plR (r : Int) : Bool := decide (32 ≤ r ∧ r ≤ 126)
theorem isPlain_any (r : Int) (w : World) : Calls Tryd.prog 25 #[.int .i32 r] w fun e w' => e = .returned (.bool (plR r)) ∧ w' = w := by
  unfold plR
  by_cases h1 : 32 ≤ r
  · go_enter Tryd.func25, Tryd.ntmps25
    go_wp2
    go_ret
    exact ⟨by simp [h1], rfl⟩
  · have h1' : r < 32 := by omega
    go_enter Tryd.func25, Tryd.ntmps25
    go_wp2
    go_ret
    exact ⟨by simp; omega, rfl⟩
theorem sh_at (s : ByteArray) (pos : Nat) (h : pos < s.size) : sh (s.data.toList.drop pos) = shF (s.data.toList.drop pos) ++ sh (s.data.toList.drop (pos + (Utf8.decode s pos).2)) := by
  have hne : s.data.toList.drop pos ≠ [] := by
    intro e
    have := congrArg List.length e
    rw [List.length_drop, data_len] at this
    simp at this
    omega
  rw [sh_step _ hne, Lib.decodeL_drop, List.drop_drop]
theorem sh_end (s : ByteArray) (pos : Nat) (h : ¬ pos < s.size) : sh (s.data.toList.drop pos) = [] := by
  rw [List.drop_eq_nil_of_le (by rw [data_len]; omega)]; rfl
theorem pcA_data (X : List UInt8) : ((⟨#[92, 120]⟩ : ByteArray) ++ ⟨X.toArray⟩).data.toList = [92, 120] ++ X := by simp
theorem pcB_data (X : List UInt8) : ((⟨#[92, 117]⟩ : ByteArray) ++ ⟨X.toArray⟩ ++ ⟨#[59]⟩).data.toList = [92, 117] ++ X ++ [59] := by simp
/-- How the front of a text is shown, by its rune. -/
def ShF (s : ByteArray) (pos r : Nat) : Prop := r ≤ 1114111 ∧ (r = 92 → shF (s.data.toList.drop pos) = [92, 92]) ∧ (r ≠ 92 → 32 ≤ r → r ≤ 126 → shF (s.data.toList.drop pos) = [r.toUInt8]) ∧
  (∀ q, r ≠ 92 → ¬(32 ≤ r ∧ r ≤ 126) → (r = 65533 → Lib.hasPrefix (s.data.toList.drop pos) [239, 191, 189] = q) → (r ≠ 65533 ∨ q = true → shF (s.data.toList.drop pos) = [92, 117] ++ hx r ++ [59]) ∧
    (∀ h : pos < s.size, r = 65533 → q = false → shF (s.data.toList.drop pos) = [92, 120] ++ hx (s[pos]'h).toNat))
theorem shF_at (s : ByteArray) (pos : Nat) (hp : pos < s.size) : ShF s pos (Utf8.decode s pos).1 := by
  have hne : s.data.toList.drop pos ≠ [] := by
    intro e
    have := congrArg List.length e
    rw [List.length_drop, data_len] at this
    simp at this
    omega
  have hd := Lib.decodeL_drop s pos
  have hr := Lib.decodeL_rune (s.data.toList.drop pos)
  have hbp := bad_pre (s.data.toList.drop pos) hne
  have hnb : (Lib.decodeL (s.data.toList.drop pos)).1 ≠ 65533 → badF (s.data.toList.drop pos) = false := fun h => by unfold badF; simp [h]
  have hhd : (s.data.toList.drop pos).headD 0 = s[pos]'hp := by
    rw [List.headD_eq_head?_getD, List.head?_drop, List.getElem?_eq_getElem (by rw [data_len]; exact hp)]
    rfl
  rw [hd] at hr hbp hnb
  have hS : shF (s.data.toList.drop pos) = if badF (s.data.toList.drop pos) then [92, 120] ++ hx (s[pos]'hp).toNat else shR (Utf8.decode s pos).1 := by
    unfold shF
    rw [hhd, hd]
  rw [ShF, hS]
  generalize (Utf8.decode s pos).1 = r at hr hbp hnb ⊢
  refine ⟨hr, fun h => ?_, fun h1 h2 h3 => ?_, fun q h1 h2 h3 => ⟨fun h4 => ?_, fun h h4 h5 => ?_⟩⟩
  · rw [hnb (by omega), h]; rfl
  · rw [hnb (by omega)]
    simp only [shR, if_neg h1, if_pos (And.intro h2 h3)]
    rfl
  · have : badF (s.data.toList.drop pos) = false := by
      rcases Nat.decEq r 65533 with h | h
      · exact hnb h
      · rw [hbp h, h3 h]
        rcases h4 with h4 | h4
        · contradiction
        · rw [h4]; rfl
    rw [this]
    simp only [shR, if_neg h1, if_neg h2]
    rfl
  · have : badF (s.data.toList.drop pos) = true := by rw [hbp h4, h3 h4, h5]; rfl
    rw [this]; rfl
set_option maxHeartbeats 1000000 in
set_option maxRecDepth 100000 in
theorem show_any (s : ByteArray) (w : World) (hs : s.size ≤ 10995116277760) (hT : Tz w) :
    Calls Tryd.prog 9 #[.string s] w fun e w' => e = .returned (.string ⟨(sh s.data.toList).toArray⟩) ∧ Below w.heap.size w w' := by
  have HT : Hid (Tz w) := hT
  have hTz : 7 < w.heap.size := hT.2
  clear hT
  go_enter Tryd.func9, Tryd.ntmps9
  go_wp2_with fail
  go_loopw [] (fun wr => ∃ (pos : Nat) (pre : List UInt8), Hid (Bld w.heap.size w.heap.size pre wr) ∧ wr.heap[w.heap.size + 1]? = some (.stringIter s pos) ∧ Hid (Below w.heap.size w wr) ∧ pos ≤ s.size ∧ pre.length ≤ 9 * pos ∧ Hid (sh s.data.toList = pre ++ sh (s.data.toList.drop pos))) (fun wr => s.size - wr.iterPos (w.heap.size + 1))
  case atStart =>
    refine ⟨0, [], (fresh_bld w).alloc _, ?_, ((Below.refl _ w).alloc (Nat.le_refl _) _).alloc (by simp) _, by omega, by simp, rfl⟩
    have := World.iter_heap (w.alloc (.cells #[.pointer none, .slice none 0 0] 39)) s 0
    simpa using this
  case round =>
    obtain ⟨pos, pre, H1, hit, HB, hp0, hpl, HR⟩ := hrel
    have hz : w.heap.size ≤ wr.heap.size := HB.out.size
    by_cases hp : pos < s.size
    · have hnx : ∀ ty, (Instr.next (.pointer (some ⟨w.heap.size + 1, 0, none⟩)) true ty).run Tryd.prog wr = _ := fun ty => Lib.run_next_any_at wr (w.heap.size + 1) s pos ty hit hp
      have hd := dec_le s pos hp
      have hra := sh_at s pos hp
      have hit2 := Lib.iterAt_heap wr (w.heap.size + 1) s pos (pos + (Utf8.decode s pos).2) hit
      have hb2 := Lib.below_iterAt HB.out (k := w.heap.size + 1) (by omega) s (pos + (Utf8.decode s pos).2)
      have hB2 := Lib.IsBuilderF.iterAt H1.out hit (pos + (Utf8.decode s pos).2)
      have hF := shF_at s pos hp
      obtain ⟨r, hr⟩ : ∃ r, (Utf8.decode s pos).1 = r := ⟨_, rfl⟩
      obtain ⟨k, hk⟩ : ∃ k, (Utf8.decode s pos).2 = k := ⟨_, rfl⟩
      obtain ⟨wn, hwn⟩ : ∃ wn, wr.iterAt (w.heap.size + 1) s (pos + k) = wn := ⟨_, rfl⟩
      simp only [hr, hk, hwn] at hnx hd hra hit2 hb2 hB2 hF
      have HB2 : Hid (Below w.heap.size w wn) := hb2
      have H2 : Hid (Bld w.heap.size w.heap.size pre wn) := hB2
      have HF : Hid (ShF s pos r) := hF
      have HIT : Hid (wn.heap[w.heap.size + 1]? = some (.stringIter s (pos + k))) := hit2
      have HRA : Hid (sh s.data.toList = pre ++ (shF (s.data.toList.drop pos) ++ sh (s.data.toList.drop (pos + k)))) := by
        show _ = _
        rw [HR.out, hra]
      have HM : Hid (wr.iterPos (w.heap.size + 1) = pos) := by simp only [Hid, World.iterPos, hit]
      have hz2 : w.heap.size ≤ wn.heap.size := hb2.size
      have hr0 : r ≤ 1114111 := hF.1
      clear hra hb2 hwn hr hk hB2 hF hit2 H1 HB HR hit
      by_cases c1 : r = 92
      · have c1' : ((r : Int) == 92) = true := by simp [c1]
        have HP : Hid (shF (s.data.toList.drop pos) = [92, 92]) := HF.out.2.1 c1
        go_wp2_with fail
        refine (writeS _ _ pre _ _ H2.out (by show pre.length + 2 ≤ _; omega) hz2).mono ?_
        rintro e w3 ⟨rfl, hB3, hb3, ho3⟩
        have HB3 : Hid (Bld w.heap.size w.heap.size (pre ++ [92, 92]) w3) := hB3
        have HI3 : Hid (w3.heap[w.heap.size + 1]? = some (.stringIter s (pos + k))) := ho3.iter HIT.out (by omega)
        have HW3 : Hid (Below w.heap.size w w3) := HB2.out.trans hb3
        have HM3 : Hid (w3.iterPos (w.heap.size + 1) = pos + k) := by simp only [Hid, World.iterPos, HI3.out]
        have hpc := shF_len (s.data.toList.drop pos)
        rw [HP.out] at hpc
        clear hB3 hb3 ho3
        go_wp2
        go_roundw
        case rel => exact ⟨pos + k, pre ++ [92, 92], HB3.out, HI3.out, HW3.out, hd.2, by rw [List.length_append]; omega, by (show _ = _; rw [HRA.out, HP.out]; exact (List.append_assoc _ _ _).symm)⟩
        case measure => rw [HM.out, HM3.out]; omega
      · have c1' : ((r : Int) == 92) = false := by simp; omega
        by_cases c2 : 32 ≤ r ∧ r ≤ 126
        · have HP : Hid (shF (s.data.toList.drop pos) = [r.toUInt8]) := HF.out.2.2.1 c1 c2.1 c2.2
          have hpl2 : plR (r : Int) = true := by unfold plR; simp; omega
          have hcn : ((r.toUInt8).toNat : Int) = (r : Int) := by rw [u8n r (by omega)]
          go_wp2_with fail
          refine (isPlain_any _ _).mono ?_
          rintro e w1 ⟨rfl, hw⟩
          subst hw
          rw [hpl2]
          go_wp2_with fail
          rw [← hcn]
          refine (writeB _ _ pre _ _ H2.out (by omega) hz2).mono ?_
          rintro e w3 ⟨rfl, hB3, hb3, ho3⟩
          have HB3 : Hid (Bld w.heap.size w.heap.size (pre ++ [r.toUInt8]) w3) := hB3
          have HI3 : Hid (w3.heap[w.heap.size + 1]? = some (.stringIter s (pos + k))) := ho3.iter HIT.out (by omega)
          have HW3 : Hid (Below w.heap.size w w3) := HB2.out.trans hb3
          have HM3 : Hid (w3.iterPos (w.heap.size + 1) = pos + k) := by simp only [Hid, World.iterPos, HI3.out]
          have hpc := shF_len (s.data.toList.drop pos)
          rw [HP.out] at hpc
          clear hB3 hb3 ho3
          go_wp2
          go_roundw
          case rel => exact ⟨pos + k, pre ++ [r.toUInt8], HB3.out, HI3.out, HW3.out, hd.2, by rw [List.length_append]; omega, by (show _ = _; rw [HRA.out, HP.out]; exact (List.append_assoc _ _ _).symm)⟩
          case measure => rw [HM.out, HM3.out]; omega
        · have hpl2 : plR (r : Int) = false := by unfold plR; simp; omega
          have HPF := hasPrefix_any (s.extract pos s.size) ⟨#[239, 191, 189]⟩
          obtain ⟨q, hq⟩ : ∃ q, Lib.hasPrefix (s.data.toList.drop pos) [239, 191, 189] = q := ⟨_, rfl⟩
          rw [Lib.extract_to_end, show (⟨#[239, 191, 189]⟩ : ByteArray).data.toList = [239, 191, 189] from rfl, hq] at HPF
          have HQ := HF.out.2.2.2 q c1 c2 (fun _ => hq)
          clear hq
          by_cases c3 : r = 65533
          · have c3' : ((r : Int) == 65533) = true := by simp [c3]
            have hb8 : (s[pos]'hp).toNat < 256 := (s[pos]'hp).toNat_lt
            cases q with
            | false =>
              have HP : Hid (shF (s.data.toList.drop pos) = [92, 120] ++ hx (s[pos]'hp).toNat) := HQ.2 hp c3 rfl
              clear HQ
              go_wp2_with fail
              refine (isPlain_any _ _).mono ?_
              rintro e w1 ⟨rfl, hw⟩
              subst hw
              first | rw [hpl2] | rw [show plR 65533 = false from rfl]
              go_wp2_with fail
              refine (HPF _).mono ?_
              rintro e w1 ⟨rfl, hw⟩
              subst hw
              go_wp2_with fail
              have hxl := (hx_len 5 (s[pos]'hp).toNat (by omega)).2
              have hfm := fmtU (s[pos]'hp).toNat w1 (by omega) (HT.out.below HB2.out hTz)
              refine hfm.mono ?_
              clear hfm
              rintro e w2 ⟨rfl, hb⟩
              have HB4 : Hid (Below w.heap.size w w2) := HB2.out.trans (hb.mono hz2)
              have H4 : Hid (Bld w.heap.size w.heap.size pre w2) := bld_keep H2.out hb
              have HIT2 : Hid (w2.heap[w.heap.size + 1]? = some (.stringIter s (pos + k))) := (hb.block _ (Array.getElem?_eq_some_iff.1 HIT.out).1).trans HIT.out
              have hz4 : w.heap.size ≤ w2.heap.size := HB4.out.size
              clear hb
              go_wp2_with fail
              obtain ⟨U, hU⟩ : ∃ U : ByteArray, (⟨#[92, 120]⟩ : ByteArray) ++ ⟨(hx (s[pos]'hp).toNat).toArray⟩ = U := ⟨_, rfl⟩
              have HU : Hid (U.data.toList = [92, 120] ++ hx (s[pos]'hp).toNat) := by rw [← hU]; exact pcA_data _
              rw [hU]
              have hUs : U.size ≤ 9 := by rw [← data_len, HU.out, ← HP.out]; exact shF_len _
              clear hU
              refine (writeS _ _ pre U _ H4.out (by omega) hz4).mono ?_
              rintro e w3 ⟨rfl, hB3, hb3, ho3⟩
              have HB3 : Hid (Bld w.heap.size w.heap.size (pre ++ ([92, 120] ++ hx (s[pos]'hp).toNat)) w3) := by rw [HU.out] at hB3; exact hB3
              have HI3 : Hid (w3.heap[w.heap.size + 1]? = some (.stringIter s (pos + k))) := ho3.iter HIT2.out (by omega)
              have HW3 : Hid (Below w.heap.size w w3) := HB4.out.trans hb3
              have HM3 : Hid (w3.iterPos (w.heap.size + 1) = pos + k) := by simp only [Hid, World.iterPos, HI3.out]
              have hpc := shF_len (s.data.toList.drop pos)
              rw [HP.out] at hpc
              clear hB3 hb3 ho3
              go_wp2
              go_roundw
              case rel => exact ⟨pos + k, pre ++ ([92, 120] ++ hx (s[pos]'hp).toNat), HB3.out, HI3.out, HW3.out, hd.2, by rw [List.length_append]; omega, by (show _ = _; rw [HRA.out, HP.out]; exact (List.append_assoc _ _ _).symm)⟩
              case measure => rw [HM.out, HM3.out]; omega
            | true =>
              have HP : Hid (shF (s.data.toList.drop pos) = [92, 117] ++ hx 65533 ++ [59]) := by
                have := HQ.1 (.inr rfl)
                rw [c3] at this
                exact this
              clear HQ
              go_wp2_with fail
              refine (isPlain_any _ _).mono ?_
              rintro e w1 ⟨rfl, hw⟩
              subst hw
              first | rw [hpl2] | rw [show plR 65533 = false from rfl]
              go_wp2_with fail
              refine (HPF _).mono ?_
              rintro e w1 ⟨rfl, hw⟩
              subst hw
              go_wp2_with fail
              have hxl := (hx_len 5 65533 (by omega)).2
              have hfm := fmtU 65533 w1 (by omega) (HT.out.below HB2.out hTz)
              refine hfm.mono ?_
              clear hfm
              rintro e w2 ⟨rfl, hb⟩
              have HB4 : Hid (Below w.heap.size w w2) := HB2.out.trans (hb.mono hz2)
              have H4 : Hid (Bld w.heap.size w.heap.size pre w2) := bld_keep H2.out hb
              have HIT2 : Hid (w2.heap[w.heap.size + 1]? = some (.stringIter s (pos + k))) := (hb.block _ (Array.getElem?_eq_some_iff.1 HIT.out).1).trans HIT.out
              have hz4 : w.heap.size ≤ w2.heap.size := HB4.out.size
              clear hb
              go_wp2_with fail
              obtain ⟨U, hU⟩ : ∃ U : ByteArray, (⟨#[92, 117]⟩ : ByteArray) ++ ⟨(hx 65533).toArray⟩ ++ ⟨#[59]⟩ = U := ⟨_, rfl⟩
              have HU : Hid (U.data.toList = [92, 117] ++ hx 65533 ++ [59]) := by rw [← hU]; exact pcB_data _
              rw [hU]
              have hUs : U.size ≤ 9 := by rw [← data_len, HU.out, ← HP.out]; exact shF_len _
              clear hU
              refine (writeS _ _ pre U _ H4.out (by omega) hz4).mono ?_
              rintro e w3 ⟨rfl, hB3, hb3, ho3⟩
              have HB3 : Hid (Bld w.heap.size w.heap.size (pre ++ ([92, 117] ++ hx 65533 ++ [59])) w3) := by rw [HU.out] at hB3; exact hB3
              have HI3 : Hid (w3.heap[w.heap.size + 1]? = some (.stringIter s (pos + k))) := ho3.iter HIT2.out (by omega)
              have HW3 : Hid (Below w.heap.size w w3) := HB4.out.trans hb3
              have HM3 : Hid (w3.iterPos (w.heap.size + 1) = pos + k) := by simp only [Hid, World.iterPos, HI3.out]
              have hpc := shF_len (s.data.toList.drop pos)
              rw [HP.out] at hpc
              clear hB3 hb3 ho3
              go_wp2
              go_roundw
              case rel => exact ⟨pos + k, pre ++ ([92, 117] ++ hx 65533 ++ [59]), HB3.out, HI3.out, HW3.out, hd.2, by rw [List.length_append]; omega, by (show _ = _; rw [HRA.out, HP.out]; exact (List.append_assoc _ _ _).symm)⟩
              case measure => rw [HM.out, HM3.out]; omega
          · have c3' : ((r : Int) == 65533) = false := by simp; omega
            have HP : Hid (shF (s.data.toList.drop pos) = [92, 117] ++ hx r ++ [59]) := HQ.1 (.inl c3)
            clear HQ
            go_wp2_with fail
            refine (isPlain_any _ _).mono ?_
            rintro e w1 ⟨rfl, hw⟩
            subst hw
            first | rw [hpl2] | rw [show plR 65533 = false from rfl]
            go_wp2_with fail
            have hxl := (hx_len 5 r (by omega)).2
            have hfm := fmtU r w1 (by omega) (HT.out.below HB2.out hTz)
            refine hfm.mono ?_
            clear hfm
            rintro e w2 ⟨rfl, hb⟩
            have HB4 : Hid (Below w.heap.size w w2) := HB2.out.trans (hb.mono hz2)
            have H4 : Hid (Bld w.heap.size w.heap.size pre w2) := bld_keep H2.out hb
            have HIT2 : Hid (w2.heap[w.heap.size + 1]? = some (.stringIter s (pos + k))) := (hb.block _ (Array.getElem?_eq_some_iff.1 HIT.out).1).trans HIT.out
            have hz4 : w.heap.size ≤ w2.heap.size := HB4.out.size
            clear hb
            go_wp2_with fail
            obtain ⟨U, hU⟩ : ∃ U : ByteArray, (⟨#[92, 117]⟩ : ByteArray) ++ ⟨(hx r).toArray⟩ ++ ⟨#[59]⟩ = U := ⟨_, rfl⟩
            have HU : Hid (U.data.toList = [92, 117] ++ hx r ++ [59]) := by rw [← hU]; exact pcB_data _
            rw [hU]
            have hUs : U.size ≤ 9 := by rw [← data_len, HU.out, ← HP.out]; exact shF_len _
            clear hU
            refine (writeS _ _ pre U _ H4.out (by omega) hz4).mono ?_
            rintro e w3 ⟨rfl, hB3, hb3, ho3⟩
            have HB3 : Hid (Bld w.heap.size w.heap.size (pre ++ ([92, 117] ++ hx r ++ [59])) w3) := by rw [HU.out] at hB3; exact hB3
            have HI3 : Hid (w3.heap[w.heap.size + 1]? = some (.stringIter s (pos + k))) := ho3.iter HIT2.out (by omega)
            have HW3 : Hid (Below w.heap.size w w3) := HB4.out.trans hb3
            have HM3 : Hid (w3.iterPos (w.heap.size + 1) = pos + k) := by simp only [Hid, World.iterPos, HI3.out]
            have hpc := shF_len (s.data.toList.drop pos)
            rw [HP.out] at hpc
            clear hB3 hb3 ho3
            go_wp2
            go_roundw
            case rel => exact ⟨pos + k, pre ++ ([92, 117] ++ hx r ++ [59]), HB3.out, HI3.out, HW3.out, hd.2, by rw [List.length_append]; omega, by (show _ = _; rw [HRA.out, HP.out]; exact (List.append_assoc _ _ _).symm)⟩
            case measure => rw [HM.out, HM3.out]; omega
    · have hnx : ∀ ty, (Instr.next (.pointer (some ⟨w.heap.size + 1, 0, none⟩)) true ty).run Tryd.prog wr = _ := fun ty => Lib.run_next_end_at wr (w.heap.size + 1) s pos ty hit hp
      have HE : Hid (sh s.data.toList = pre) := by
        have := HR.out
        rw [sh_end s pos hp, List.append_nil] at this
        exact this
      clear HR
      go_wp2_with (go_at_call 17; refine (buildS w.heap.size w.heap.size pre wr H1.out hz).mono ?_; rintro e w2 ⟨rfl, h2, hb2, _⟩; have HB2 : Hid (Below w.heap.size wr w2) := hb2; clear h2 hb2)
      go_ret
      exact ⟨by rw [HE.out]; rfl, HB.out.trans HB2.out⟩
end Go.Proofs.YtobecfeelamlmaaDoor
