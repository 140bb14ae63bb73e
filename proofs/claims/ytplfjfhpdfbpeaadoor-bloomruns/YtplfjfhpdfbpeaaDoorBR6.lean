/- The document's Encode. -/
import Derived.Test.YtplfjfhpdfbpeaaDoorBR4
import Derived.Test.YtplfjfhpdfbpeaaDoorBQ8
import Derived.Test.YtplfjfhpdfbpeaaDoorR3Q
namespace Go.Proofs.YtplfjfhpdfbpeaaDoor
open Go.RowKit
set_option linter.unusedSimpArgs false
set_option linter.unusedVariables false
/-- So many bits of a row, set one behind the other. -/
def enK (m : Nat) (s : List UInt8) : Nat → List UInt8
  | 0 => zrR m
  | i + 1 => if btR s i = true then stR (enK m s i) i else enK m s i
theorem enK_len (m : Nat) (s : List UInt8) : ∀ i, (enK m s i).length = m
  | 0 => zrR_len m
  | i + 1 => by
    rw [enK]
    split
    · rw [stR_len, enK_len m s i]
    · exact enK_len m s i
theorem btR_en (m : Nat) (s : List UInt8) (q : Nat) : ∀ i, i ≤ 8 * m → btR (enK m s i) q = (decide (q < i) && btR s q)
  | 0, _ => by rw [enK, btR_zr]; simp
  | i + 1, h => by
    have ih := btR_en m s q i (by omega)
    rw [enK]
    by_cases hb : btR s i = true
    · rw [if_pos hb, btR_st _ _ _ (by rw [enK_len]; omega), ih]
      by_cases e : q = i
      · subst e; simp [hb]
      · have : (q < i + 1) ↔ (q < i) := by omega
        simp [e, this]
    · rw [if_neg hb, ih]
      by_cases e : q = i
      · subst e; simp [Bool.eq_false_iff.2 hb]
      · have : (q < i + 1) ↔ (q < i) := by omega
        simp [this]
theorem enK_all (m : Nat) (s : List UInt8) (h : s.length = m) : enK m s (8 * m) = s := by
  apply row_ext
  · rw [enK_len, h]
  · intro q hq
    rw [enK_len] at hq
    rw [btR_en m s q _ (Nat.le_refl _)]
    simp [hq]
/-- While the document's filter is written. -/
structure ReS (w : World) (f g n k : Nat) (s r : List UInt8) (W : World) : Prop where
  fil : RfS W f g n k s
  row : Rw W w.heap.size r
  bel : Below w.heap.size w W
theorem ReS.below {w : World} {f g n k : Nat} {s r : List UInt8} {W W' : World} (h : ReS w f g n k s r W) (hb : Below W.heap.size W W') : ReS w f g n k s r W' :=
  ⟨h.fil.below hb, h.row.grown (gr_of_below hb none) (by simp), h.bel.trans (hb.mono h.bel.size)⟩
theorem ReS.bit {w : World} {f g n k : Nat} {s r : List UInt8} {W : World} (h : ReS w f g n k s r W) (hf : f < w.heap.size) (hg : g < w.heap.size) (p : Nat) (hp : p / 8 < r.length) : ReS w f g n k s (stR r p) (W.setCell ⟨w.heap.size, p / 8, none⟩ (.int .u8 ((orB (r.getD (p / 8) 0) (p % 8)).toNat : Int))) := by
  have hg2 := Lib.grownBy_setB (World.grownBy.refl W (some w.heap.size)) (p / 8) (.int .u8 ((orB (r.getD (p / 8) 0) (p % 8)).toNat : Int))
  exact ⟨h.fil.grown hg2 (by simp; omega) (by simp; omega), h.row.set _ hp _, below_own h.bel h.bel.size hg2 (Nat.le_refl _)⟩
set_option maxHeartbeats 2000000 in
set_option maxRecDepth 100000 in
theorem renc_any (f g n k : Nat) (s : List UInt8) (w : World) (hl : 8 * s.length = n) (h : RfS w f g n k s) :
    Calls Tryd.prog 17 #[.pointer (some ⟨f, 0, none⟩)] w fun e w' => e = .returned (.string (enF n k s)) ∧ Below w.heap.size w w' := by
  have hfl := h.lt
  have hgl := h.row.lt
  have h1 := okF_pos h.ok
  have h2 := okF_le h.ok
  have h3 := h.ok.2.2
  obtain ⟨m, hm⟩ : ∃ m, s.length = m := ⟨_, rfl⟩
  have hnm : n = 8 * m := by omega
  have hq : (n : Int).tdiv 8 = (m : Int) := by rw [Int.tdiv_eq_ediv_of_nonneg (by omega)]; omega
  have hmk := make_b8 m (by omega)
  have HS : Hid (ReS w f g n k s (enK m s 0) (w.alloc (.cells (rc (zrR m)) 5))) := ⟨h.below ((Below.refl _ _).alloc (Nat.le_refl _) _), Rw.of_bk (bk_new _ _ _), (Below.refl _ _).alloc (Nat.le_refl _) _⟩
  have HE : Hid (enK m s n = s) := by show _ = _; rw [hnm]; exact enK_all m s hm
  obtain ⟨S1, hS1⟩ : ∃ S : ByteArray, mkT14 ++ sb (encS n) = S := ⟨_, rfl⟩
  obtain ⟨S2, hS2⟩ : ∃ S : ByteArray, S1 ++ sb (encS k) = S := ⟨_, rfl⟩
  have z1 : S1.size ≤ 14 := by
    rw [← hS1, ByteArray.size_append, sb_size, encS_length]
    have := slen_le n (by omega)
    show 4 + _ ≤ _
    omega
  have z2 : S2.size ≤ 24 := by
    rw [← hS2, ByteArray.size_append, sb_size, encS_length]
    have := slen_le k (by omega)
    omega
  have HP1 : Hid (∀ u, ReS w f g n k s s u → Calls Tryd.prog 42 #[.string mkT14, .int .u64 (n : Int)] u fun e w' => e = .returned (.string S1) ∧ ReS w f g n k s s w') := fun u hu => by
    refine (rput_any mkT14 (n : Int) u (by omega) (by omega) (by show 4 ≤ _; omega)).mono ?_
    rintro e w1 ⟨rfl, hb⟩
    exact ⟨by rw [← hS1]; rfl, hu.below hb⟩
  have HP2 : Hid (∀ u, ReS w f g n k s s u → Calls Tryd.prog 42 #[.string S1, .int .u64 (k : Int)] u fun e w' => e = .returned (.string S2) ∧ ReS w f g n k s s w') := fun u hu => by
    refine (rput_any S1 (k : Int) u (by omega) (by omega) (by omega)).mono ?_
    rintro e w1 ⟨rfl, hb⟩
    exact ⟨by rw [← hS2]; rfl, hu.below hb⟩
  have HR : Hid (S2 ++ (⟨s.toArray⟩ : ByteArray) = enF n k s) := by show _ = _; rw [← hS2, ← hS1]; rfl
  have HV : Hid (∀ W, ReS w f g n k s s W → (convert 64 9 (.slice (some ⟨w.heap.size, 0, none⟩) m m)).run Tryd.prog W = .ok (.string ⟨s.toArray⟩) W) := fun W hW => by
    have := conv_row14 w.heap.size m s W (fun j hj => hW.row.cell j hj)
    rw [hm] at this
    exact this
  obtain ⟨B, hB⟩ : ∃ B : ByteArray, (⟨s.toArray⟩ : ByteArray) = B := ⟨_, rfl⟩
  have zB : B.size ≤ 2097152 := by
    rw [← hB]
    show s.toArray.size ≤ _
    rw [List.size_toArray]
    omega
  rw [hB] at HR HV
  have hwr : IntKind.u64.wrap (n : Int) = (n : Int) := by rw [IntKind.wrap_u64]; omega
  have hwk : IntKind.u64.wrap (k : Int) = (k : Int) := by rw [IntKind.wrap_u64]; omega
  have hc0 := (h.below (w' := w.alloc (.cells (rc (zrR m)) 5)) ((Below.refl _ _).alloc (Nat.le_refl _) _)).cells.1
  have hcw := h.cells.1
  have HH : Hid (8 * s.length = n) := hl
  have HNM : Hid (n = 8 * m) := hnm
  have hm8 : m ≤ 2097152 := by omega
  have hqe : (n : Int) / 8 = (m : Int) := by omega
  clear h hS1 hS2 hB hl hm hc0 hnm
  go_enter Tryd.func17, Tryd.ntmps17
  go_wp2
  go_loopw [4] (fun v wr => ∃ i : Nat, i ≤ n ∧ v = .int .i64 i ∧ Hid (ReS w f g n k s (enK m s i) wr)) (fun v _ => n - (intOf v).toNat)
  case atStart => exact ⟨0, Nat.zero_le _, rfl, HS.out⟩
  case round =>
    clear HS
    obtain ⟨i, hi, rfl, HS⟩ := hrel
    obtain ⟨c0, _, cc, c2, hcc⟩ := HS.out.fil.cells
    by_cases hlt : i < n
    · have cb := HS.out.fil.cell i hlt
      cases hv : btR s i with
      | false =>
        have HN : Hid (ReS w f g n k s (enK m s (i + 1)) wr) := by
          have e : enK m s (i + 1) = enK m s i := by rw [enK, if_neg (by rw [hv]; simp)]
          show ReS _ _ _ _ _ _ _ _
          rw [e]; exact HS.out
        rw [hv] at cb
        clear hv HS
        go_wp2
        go_roundw
        case rel => exact ⟨i + 1, by omega, by go_num, HN.out⟩
        case measure => simp [intOf]; omega
      | true =>
        have hil : i / 8 < (enK m s i).length := by have := HNM.out; rw [enK_len]; omega
        have HN : Hid (ReS w f g n k s (enK m s (i + 1)) (wr.setCell ⟨w.heap.size, i / 8, none⟩ (.int .u8 ((orB ((enK m s i).getD (i / 8) 0) (i % 8)).toNat : Int)))) := by
          have e : enK m s (i + 1) = stR (enK m s i) i := by rw [enK, if_pos hv]
          show ReS _ _ _ _ _ _ _ _
          rw [e]; exact HS.out.bit hfl hgl i hil
        have r1 := HS.out.row.cell (i / 8) hil
        have r2 := HS.out.row.frozen (i / 8) hil
        rw [hv] at cb
        have hk : i % 8 < 8 := by omega
        have eo := u8_or_nat ((enK m s i).getD (i / 8) 0).toNat (2 ^ (i % 8)) (UInt8.toNat_lt _) (Nat.pow_lt_pow_right (a := 2) (n := 8) (by omega) hk)
        rw [← orB_toNat _ _ hk] at eo
        obtain ⟨Q, hQ⟩ : ∃ Q, i / 8 = Q := ⟨_, rfl⟩
        obtain ⟨R, hRr⟩ : ∃ R, i % 8 = R := ⟨_, rfl⟩
        obtain ⟨u, hu⟩ : ∃ u, ((enK m s i).getD (i / 8) 0).toNat = u := ⟨_, rfl⟩
        obtain ⟨v, hvv⟩ : ∃ v, (orB ((enK m s i).getD (i / 8) 0) (i % 8)).toNat = v := ⟨_, rfl⟩
        rw [hu] at r1 eo
        rw [hvv] at eo HN
        rw [hQ] at r1 r2 HN
        rw [hRr] at eo
        have q2 : (i : Int).tdiv 8 = (Q : Int) := by rw [Int.tdiv_eq_ediv_of_nonneg (by omega)]; omega
        have q2e : (i : Int) / 8 = (Q : Int) := by omega
        have q3 : (i : Int).tmod 8 = (R : Int) := by rw [Int.tmod_eq_emod_of_nonneg (by omega)]; omega
        have q3e : (i : Int) % 8 = (R : Int) := by omega
        have hQm : Q < m := by have := HNM.out; omega
        have hQz : (Q : Int) < (m : Nat) := by omega
        have hR8 : R < 8 := by omega
        obtain ⟨b, hb⟩ : ∃ b, 2 ^ R = b := ⟨_, rfl⟩
        have hs8 : (2 : Int) ^ R % 256 = (b : Int) := by
          have hb8 : 2 ^ R < 256 := Nat.pow_lt_pow_right (a := 2) (n := 8) (by omega) hR8
          have e : (2 : Int) ^ R = ((2 ^ R : Nat) : Int) := by simp
          rw [e, hb]; omega
        rw [hb] at eo
        clear hQ hRr hu hvv hb hv hil hk HS
        go_wp2_with fail
        go_region
        go_wp2
        go_roundw
        case rel => exact ⟨i + 1, by omega, by go_num, HN.out.below (Below.refl _ _).drew⟩
        case measure => simp [intOf]; omega
    · have HF : Hid (ReS w f g n k s s wr) := by
        have e : i = n := by omega
        have h := HS.out
        rw [e, HE.out] at h
        exact h
      clear HS
      go_wp2_with fail
      refine wp_region_tail (ReS w f g n k s s) 14 (by kernel_rfl) (by kernel_rfl) (HF.out.below (Below.refl _ _).drew) ?_
      simp only [List.take_succ_cons, List.take_zero, List.drop_succ_cons, List.drop_zero]
      repeat (first
        | go_big_quiet_skip
        | (go_big_quiet_want
           first
             | (refine quiet_one 3 _ rfl f 0 (.int .i64 (n : Int)) rfl (fun w => by kernel_rfl) (fun W h => h.fil.cells.1) ?_; go_big_quiet_on; simp only [Act.put, List.setIfInBounds_toArray, List.set_cons_zero, List.set_cons_succ])
             | (refine quiet_one 3 _ rfl f 1 (.int .i64 (k : Int)) rfl (fun w => by kernel_rfl) (fun W h => h.fil.cells.2.1) ?_; go_big_quiet_on; simp only [Act.put, List.setIfInBounds_toArray, List.set_cons_zero, List.set_cons_succ])
             | (refine quiet_call10 (.string S1) 42 #[.string ⟨#[77, 66, 70, 49]⟩, .int .u64 (n : Int)] ?_ ?_ ?_; (focus (intro W hW; go_simp; done)); (focus (intro W hW; exact HP1.out W hW)); go_big_quiet_on; simp only [Act.put, List.setIfInBounds_toArray, List.set_cons_zero, List.set_cons_succ])
             | (refine quiet_call10 (.string S2) 42 #[.string S1, .int .u64 (k : Int)] ?_ ?_ ?_; (focus (intro W hW; go_simp; done)); (focus (intro W hW; exact HP2.out W hW)); go_big_quiet_on; simp only [Act.put, List.setIfInBounds_toArray, List.set_cons_zero, List.set_cons_succ])
             | (refine quiet_val10 (.string B) ?_ ?_; (focus (intro W hW; have hq := HV.out W hW; go_simp; done)); go_big_quiet_on; simp only [Act.put, List.setIfInBounds_toArray, List.set_cons_zero, List.set_cons_succ])
             | (refine quiet_val10 (.int .u64 (n : Int)) ?_ ?_; (focus (intro W hW; go_simp; done)); go_big_quiet_on; simp only [Act.put, List.setIfInBounds_toArray, List.set_cons_zero, List.set_cons_succ])
             | (refine quiet_val10 (.int .u64 (k : Int)) ?_ ?_; (focus (intro W hW; go_simp; done)); go_big_quiet_on; simp only [Act.put, List.setIfInBounds_toArray, List.set_cons_zero, List.set_cons_succ])
             | (go_big_quiet_op; go_big_quiet_on)
             | (refine quiet_val10 (.pointer (some ⟨f, 0, none⟩)) ?_ ?_; (focus (intro W hW; go_simp; done)); go_big_quiet_on; simp only [Act.put, List.setIfInBounds_toArray, List.set_cons_zero, List.set_cons_succ])
             | (refine quiet_val10 (.pointer (some ⟨f, 1, none⟩)) ?_ ?_; (focus (intro W hW; go_simp; done)); go_big_quiet_on; simp only [Act.put, List.setIfInBounds_toArray, List.set_cons_zero, List.set_cons_succ])
             | (refine quiet_val10 (.string (S2 ++ B)) ?_ ?_; (focus (intro W hW; go_simp; done)); go_big_quiet_on; simp only [Act.put, List.setIfInBounds_toArray, List.set_cons_zero, List.set_cons_succ])))
      refine wpQuiet_nil ?_
      intro w9 hw9
      have H9 : Hid (Below w.heap.size w w9) := hw9.bel
      clear hw9 HF
      go_wp2
      go_ret
      refine ⟨?_, H9.out⟩
      show Ending.returned (.string (S2 ++ B)) = _
      rw [HR.out]
end Go.Proofs.YtplfjfhpdfbpeaaDoor
