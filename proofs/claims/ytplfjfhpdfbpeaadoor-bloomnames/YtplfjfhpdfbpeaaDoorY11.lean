import Derived.Test.YtplfjfhpdfbpeaaDoorY10
import Derived.Test.YtplfjfhpdfbpeaaDoorY8
import Derived.Test.YtplfjfhpdfbpeaaDoorY1
import Derived.Test.YtplfjfhpdfbpeaaDoorY3
import Derived.Lib.ConvBytes
import Derived.Laws.IdiomStrings
import Derived.Lib.AppendStr
import Derived.Laws.AppendOwn
import Derived.Laws.CopyRow
import Derived.BigQuiet
import Derived.Deep.QuietTactic
import Derived.StillTail
import Derived.Deep.Quiet
/- The document's Decode. -/
namespace Go.Proofs.YtplfjfhpdfbpeaaDoor
open Go.RowKit
set_option linter.unusedSimpArgs false
set_option linter.unusedVariables false
/-- What the document's Decode tells. -/
def DcR (S : ByteArray) (w : World) (e : Ending) (w' : World) : Prop :=
  (∃ n k s f g, IsF S n k s ∧ NwR w e w' f g n k s) ∨ ((∀ n k s, ¬ IsF S n k s) ∧ e = .returned (.tuple #[.pointer none, .int .i64 4]) ∧ Below w.heap.size w w')
theorem str_ne14 {x : ByteArray} (h : x ≠ ⟨#[77, 66, 70, 49]⟩) : (x.toList == [77, 66, 70, 49]) = false := by
  rw [beq_eq_false_iff_ne, Lib.toList_data]
  intro e
  exact h (bl_inj e)
theorem runint14 (w : World) (t : ByteArray) (W : World) (h : DcS w t W) (ht : t.size ≤ maxLen) : Calls Tryd.prog 45 #[.pointer (some ⟨w.heap.size, 0, none⟩)] W fun e w' => e = .returned (.tuple #[.int .u64 ((unN t : Nat) : Int), .int .i64 (unE t)]) ∧ DcS w (unR t) w' := by
  by_cases hk : shK t = 0
  · refine (ruint_no t w.heap.size W ht h.cell h.frz h.lt hk).mono ?_
    rintro e w' ⟨rfl, hs⟩
    exact ⟨by rw [unN, unE, if_pos hk, if_pos hk]; rfl, by rw [unR, if_pos hk]; exact h.step hs⟩
  · refine (ruint_ok t w.heap.size W ht h.cell h.frz h.lt hk).mono ?_
    rintro e w' ⟨rfl, hs⟩
    exact ⟨by rw [unN, unE, if_neg hk, if_neg hk], by rw [unR, if_neg hk]; exact h.step hs⟩
theorem isF_long {S : ByteArray} {n k : Nat} {s : List UInt8} (h : IsF S n k s) : 4 ≤ S.size ∧ S.extract 0 4 = ⟨#[77, 66, 70, 49]⟩ := by
  have h4 : 4 ≤ S.size := by
    have := congrArg List.length h.2.2
    rw [bl_length] at this
    simp at this
    omega
  refine ⟨h4, bl_inj ?_⟩
  rw [extract_take S 4 h4, h.2.2]; rfl
set_option maxHeartbeats 1000000 in
set_option maxRecDepth 100000 in
theorem rdec_short (S : ByteArray) (w : World) (h : S.size < 4) : Calls Tryd.prog 23 #[.string S] w fun e w' => DcR S w e w' := by
  have HN : Hid (∀ n k s, ¬ IsF S n k s) := fun n k s hI => by have := (isF_long hI).1; omega
  have hz : (S.size : Int) < 4 := by omega
  go_enter Tryd.func23, Tryd.ntmps23
  go_wp2
  go_ret2
  exact .inr ⟨HN.out, rfl, Below.refl _ _⟩
set_option maxHeartbeats 1000000 in
set_option maxRecDepth 100000 in
theorem rdec_other (S : ByteArray) (w : World) (h : 4 ≤ S.size) (hS : S.size ≤ maxLen) (hm : S.extract 0 4 ≠ ⟨#[77, 66, 70, 49]⟩) : Calls Tryd.prog 23 #[.string S] w fun e w' => DcR S w e w' := by
  have HN : Hid (∀ n k s, ¬ IsF S n k s) := fun n k s hI => hm (isF_long hI).2
  have hz : (4 : Int) ≤ (S.size : Int) := by omega
  have hz2 : ¬ (S.size : Int) < 4 := by omega
  unfold maxLen at hS
  have hne := str_ne14 hm
  obtain ⟨M, hM⟩ : ∃ M, S.extract 0 4 = M := ⟨_, rfl⟩
  rw [hM] at hne
  clear hm
  go_enter Tryd.func23, Tryd.ntmps23
  go_wp2
  go_ret2
  exact .inr ⟨HN.out, rfl, Below.refl _ _⟩
/-- The places read so far. -/
def rdP (U : ByteArray) (i j : Nat) : Bool := decide (j < i) && btR (bl U) j
theorem rdP_next (U : ByteArray) (i n : Nat) : ∀ j, j < n → (if j = i then btR (bl U) i else rdP U i j) = rdP U (i + 1) j := by
  intro j _
  unfold rdP
  by_cases e : j = i
  · subst e; simp
  · have : (j < i + 1) ↔ (j < i) := by omega
    simp [e, this]
/-- While the places are read. -/
structure RdS (w : World) (U : ByteArray) (f g n k i : Nat) (W : World) : Prop where
  fil : RfP W f g n k (rdP U i)
  red : DcS w U W
theorem RdS.next {w : World} {U : ByteArray} {f g n k i : Nat} {W : World} (h : RdS w U f g n k i W) (hg : w.heap.size < g) (hi : i < n) : RdS w U f g n k (i + 1) (W.setCell ⟨g, i, none⟩ (.bool (btR (bl U) i))) := by
  obtain ⟨h1, h2⟩ := h.fil.set i (btR (bl U) i) hi
  refine ⟨h1.congr (rdP_next U i n), h2.cell h.red.cell (by simp; omega), ?_, Nat.lt_of_lt_of_le h.red.lt h2.size, below_own h.red.bel h.red.bel.size h2 (by omega)⟩
  have hl := h.red.lt
  have := h2.block w.heap.size hl (by simp; omega)
  have hf := h.red.frz
  simp only [World.frozen?] at hf ⊢
  rw [this]; exact hf
theorem RdS.drew {w : World} {U : ByteArray} {f g n k i : Nat} {W : World} (h : RdS w U f g n k i W) : RdS w U f g n k i W.drew :=
  ⟨h.fil.below (Below.refl _ _).drew, h.red.cell, h.red.frz, h.red.lt, h.red.bel.drew⟩
theorem bit_of (U : ByteArray) (i : Nat) (hi : i / 8 < U.size) : btR (bl U) i = decide ((U[i / 8]'hi).toNat / 2 ^ (i % 8) % 2 = 1) := by
  have e : (bl U).getD (i / 8) 0 = U[i / 8]'hi := by
    unfold bl
    rw [List.getD, List.getElem?_eq_getElem (by rw [Array.length_toList]; exact hi)]
    rfl
  rw [btR, e, Nat.testBit_eq_decide_div_mod_eq]
theorem bit_int (x X : Nat) : (((x : Int) / 2 ^ X).tmod 2 == 1) = decide (x / 2 ^ X % 2 = 1) := by
  have e : (x : Int) / 2 ^ X = ((x / 2 ^ X : Nat) : Int) := by simp
  rw [e]
  generalize x / 2 ^ X = y
  rw [Int.tmod_eq_emod_of_nonneg (by omega)]
  by_cases h : y % 2 = 1
  · have : (y : Int) % 2 = 1 := by omega
    simp [h, this]
  · have : ¬ (y : Int) % 2 = 1 := by omega
    simp [h, this]
set_option maxHeartbeats 2000000 in
set_option maxRecDepth 100000 in
theorem rdec_long (S : ByteArray) (w : World) (h4 : 4 ≤ S.size) (hS : S.size ≤ maxLen) (hm : S.extract 0 4 = ⟨#[77, 66, 70, 49]⟩) : Calls Tryd.prog 23 #[.string S] w fun e w' => DcR S w e w' := by
  have hS' : S.size ≤ 9223372036854775807 := by unfold maxLen at hS; omega
  have hz : (4 : Int) ≤ (S.size : Int) := by omega
  have hz2 : ¬ (S.size : Int) < 4 := by omega
  have hx : (bl S).take 4 = [77, 66, 70, 49] := by rw [← extract_take S 4 h4, hm]; rfl
  obtain ⟨R, hR⟩ : ∃ R, S.extract 4 S.size = R := ⟨_, rfl⟩
  obtain ⟨T, hT⟩ : ∃ T, unR R = T := ⟨_, rfl⟩
  obtain ⟨U, hU⟩ : ∃ U, unR T = U := ⟨_, rfl⟩
  obtain ⟨n, hn⟩ : ∃ n, unN R = n := ⟨_, rfl⟩
  obtain ⟨k, hk⟩ : ∃ n, unN T = n := ⟨_, rfl⟩
  obtain ⟨e1, he1⟩ : ∃ n, unE R = n := ⟨_, rfl⟩
  obtain ⟨e2, he2⟩ : ∃ n, unE T = n := ⟨_, rfl⟩
  have zR : R.size ≤ S.size := by rw [← hR, ByteArray.size_extract]; omega
  have zT : T.size ≤ S.size := by rw [← hT]; have := unR_size R; omega
  have zU : U.size ≤ S.size := by rw [← hU]; have := unR_size T; omega
  have HU1 : Hid (∀ W, DcS w R W → Calls Tryd.prog 45 #[.pointer (some ⟨w.heap.size, 0, none⟩)] W fun e w' => e = .returned (.tuple #[.int .u64 (n : Int), .int .i64 e1]) ∧ Hid (DcS w T w')) := fun W h => by
    have := runint14 w R W h (by omega)
    rw [hn, he1, hT] at this
    exact this
  have HU2 : Hid (∀ W, DcS w T W → Calls Tryd.prog 45 #[.pointer (some ⟨w.heap.size, 0, none⟩)] W fun e w' => e = .returned (.tuple #[.int .u64 (k : Int), .int .i64 e2]) ∧ Hid (DcS w U w')) := fun W h => by
    have := runint14 w T W h (by omega)
    rw [hk, he2, hU] at this
    exact this
  have HNO : Hid (¬ e1 = 0 ∨ ¬ e2 = 0 ∨ ¬ okF n k ∨ ¬ 8 * U.size = n → ∀ n k s, ¬ IsF S n k s) := by
    intro hno n' k' s' hI
    have hr := hI.read R (R.extract (shK R) R.size) hR.symm rfl
    have hR1 : unR R = R.extract (shK R) R.size := by rw [unR, if_neg hr.2.1]
    have hRT : R.extract (shK R) R.size = T := by rw [← hR1]; exact hT
    rw [hRT] at hr
    have en : n = n' := by rw [← hn, unN, if_neg hr.2.1]; exact hr.2.2.1
    have ek : k = k' := by rw [← hk, unN, if_neg hr.2.2.2.1]; exact hr.2.2.2.2.1
    have eU : bl U = s' := by rw [← hU, unR, if_neg hr.2.2.2.1]; exact hr.2.2.2.2.2
    rcases hno with h | h | h | h
    · exact h (by rw [← he1, unE, if_neg hr.2.1])
    · exact h (by rw [← he2, unE, if_neg hr.2.2.2.1])
    · exact h (by rw [en, ek]; exact hI.1)
    · apply h
      rw [← bl_length, eU, en]; exact hI.2.1
  have HYE : Hid (okF n k → 8 * U.size = n → IsF S n k (bl U)) := by
    intro h2 h3
    have p1 := okF_pos h2
    obtain ⟨a1, a2, a3⟩ := unN_pos (t := R) (by omega)
    obtain ⟨b1, b2, b3⟩ := unN_pos (t := T) (by have := h2.2.1; omega)
    rw [hn] at a2
    rw [hk] at b2
    rw [hT] at a3
    rw [hU] at b3
    have := IsF.made (S := S) (R := R) (T := T) hR.symm a3 hx a1 b1 (by rw [← a2, ← b2]; exact h2) (by rw [← b3, ← a2]; exact h3)
    rw [← a2, ← b2, ← b3] at this
    exact this
  have hn64 : n < 18446744073709551616 := by rw [← hn]; exact unN_lt R
  have hk64 : k < 18446744073709551616 := by rw [← hk]; exact unN_lt T
  have H0 : Hid (DcS w R (w.alloc (.cells #[.string R] 84))) := ⟨by rw [(bk_new _ _ _).cell]; rfl, (bk_new _ _ _).frozen 0, by rw [al_size]; omega, (Below.refl _ _).alloc (Nat.le_refl _) _⟩
  have HSZ : Hid (∀ x y u, Calls Tryd.prog 33 #[.int .i64 x, .int .i64 y] u fun e w' => SzE x y e ∧ w' = u) := fun x y u => rsize_any x y u
  clear hx hT hU hn hk he1 he2 hS
  go_enter Tryd.func23, Tryd.ntmps23
  go_wp2_with fail
  refine (HU1.out _ H0.out).mono ?_
  rintro e w1 ⟨rfl, H1⟩
  clear H0 HU1 hm
  by_cases he1 : e1 = 0
  case neg =>
    have HF : Hid (∀ n k s, ¬ IsF S n k s) := HNO.out (.inl he1)
    have he1b : (e1 == 0) = false := by rw [beq_eq_false_iff_ne]; exact he1
    have he1c : (e1 != 0) = true := by simp [he1]
    clear he1 HNO HYE
    go_wp2
    go_ret2
    exact .inr ⟨HF.out, rfl, H1.out.bel⟩
  subst he1
  go_wp2_with fail
  refine (HU2.out _ H1.out).mono ?_
  rintro e w2 ⟨rfl, H2⟩
  clear H1 HU2
  have c2 := H2.out.cell
  by_cases he2 : e2 = 0
  case neg =>
    have HF : Hid (∀ n k s, ¬ IsF S n k s) := HNO.out (.inr (.inl he2))
    have he2b : (e2 == 0) = false := by rw [beq_eq_false_iff_ne]; exact he2
    have he2c : (e2 != 0) = true := by simp [he2]
    clear he2 HNO HYE
    go_wp2
    go_ret2
    exact .inr ⟨HF.out, rfl, H2.out.bel⟩
  subst he2
  by_cases hn24 : n ≤ 16777216
  case neg =>
    have HF : Hid (∀ n k s, ¬ IsF S n k s) := HNO.out (.inr (.inr (.inl (fun h => hn24 (okF_le h)))))
    have hnz : (16777216 : Int) < (n : Int) := by omega
    clear hn24 HNO HYE
    go_wp2
    go_ret2
    exact .inr ⟨HF.out, rfl, H2.out.bel⟩
  by_cases hk8 : k ≤ 8
  case neg =>
    have HF : Hid (∀ n k s, ¬ IsF S n k s) := HNO.out (.inr (.inr (.inl (fun h => hk8 h.2.2))))
    have hnz : ¬ (16777216 : Int) < (n : Int) := by omega
    have hkz : (8 : Int) < (k : Int) := by omega
    clear hk8 HNO HYE
    go_wp2
    go_ret2
    exact .inr ⟨HF.out, rfl, H2.out.bel⟩
  have hnz : ¬ (16777216 : Int) < (n : Int) := by omega
  have hkz : ¬ (8 : Int) < (k : Int) := by omega
  have wn : IntKind.i64.wrap (n : Int) = (n : Int) := by rw [IntKind.wrap_i64]; omega
  have wk : IntKind.i64.wrap (k : Int) = (k : Int) := by rw [IntKind.wrap_i64]; omega
  obtain ⟨m, hm⟩ : ∃ m, n / 8 = m := ⟨_, rfl⟩
  have hq : (n : Int).tdiv 8 = (m : Int) := by rw [Int.tdiv_eq_ediv_of_nonneg (by omega)]; omega
  have hqe : (n : Int) / 8 = (m : Int) := by omega
  by_cases hok : okF n k
  case neg =>
    have HF : Hid (∀ n k s, ¬ IsF S n k s) := HNO.out (.inr (.inr (.inl hok)))
    have HSN : Hid (∀ u, Calls Tryd.prog 33 #[.int .i64 (n : Int), .int .i64 (k : Int)] u fun e w' => e = .returned (.bool false) ∧ w' = u) := fun u => (rsize_any n k u).mono fun e w' ⟨⟨b, h1, h3⟩, h2⟩ => by
      refine ⟨?_, h2⟩
      cases b with
      | false => exact h1
      | true =>
        obtain ⟨n', k', a, b, c⟩ := h3.1 rfl
        have : n = n' := by omega
        have : k = k' := by omega
        subst n' k'
        exact absurd c hok
    clear hok HNO HYE hm HSZ
    go_wp2_with fail
    refine (HSN.out _).mono ?_
    rintro e w3 ⟨rfl, hw⟩
    obtain rfl : w2 = w3 := hw.symm
    go_wp2
    go_ret2
    exact .inr ⟨HF.out, rfl, H2.out.bel⟩
  have hdv := okF_div hok
  have HSY : Hid (∀ u, Calls Tryd.prog 33 #[.int .i64 (n : Int), .int .i64 (k : Int)] u fun e w' => e = .returned (.bool true) ∧ w' = u) := fun u => (rsize_any n k u).mono fun e w' ⟨⟨b, h1, h3⟩, h2⟩ => ⟨by rw [h1, h3.2 ⟨n, k, rfl, rfl, hok⟩], h2⟩
  by_cases hl : U.size = m
  case neg =>
    have HF : Hid (∀ n k s, ¬ IsF S n k s) := HNO.out (.inr (.inr (.inr (by omega))))
    have hlb : ((U.size : Int) == (m : Int)) = false := by rw [beq_eq_false_iff_ne]; omega
    have hlc : ((U.size : Int) != (m : Int)) = true := by simp; omega
    clear hok HNO HYE hm HSZ hl hdv
    go_wp2_with fail
    refine (HSY.out _).mono ?_
    rintro e w3 ⟨rfl, hw⟩
    obtain rfl : w2 = w3 := hw.symm
    go_wp2
    go_ret2
    exact .inr ⟨HF.out, rfl, H2.out.bel⟩
  have HF : Hid (IsF S n k (bl U)) := HYE.out hok (by omega)
  have hlb : ((U.size : Int) == (m : Int)) = true := by rw [beq_iff_eq]; omega
  have hlc : ((U.size : Int) != (m : Int)) = false := by simp; omega
  have HNW : Hid (∀ u, Calls Tryd.prog 9 #[.int .i64 (n : Int), .int .i64 (k : Int)] u fun e w' => ∃ f g, NwR u e w' f g n k (zrR (n / 8))) := fun u => rnew_yes14 n k u hok
  have hmn : Hid (8 * m = n ∧ U.size = m) := by show _ ∧ _; omega
  clear hok HNO HYE hm HSZ hl hdv
  go_wp2_with fail
  refine (HSY.out _).mono ?_
  rintro e w3 ⟨rfl, hw⟩
  obtain rfl : w2 = w3 := hw.symm
  go_wp2_with fail
  refine (HNW.out _).mono ?_
  rintro e w3 ⟨f, g, h3⟩
  obtain rfl := h3.res
  have hgl : w.heap.size < g := Nat.lt_of_lt_of_le H2.out.lt h3.lg
  have hfl : w.heap.size ≤ f := by have := h3.lf; have := H2.out.lt; omega
  have H3 : Hid (RdS w U f g n k 0 w3) := ⟨h3.fil.congr (fun j _ => by rw [btR_zr]; simp [rdP]), by
    have hb := gr_of_below h3.bel none
    exact hb.cell H2.out.cell (by simp), by
    have := h3.bel.block w.heap.size H2.out.lt
    have hf := H2.out.frz
    simp only [World.frozen?] at hf ⊢
    rw [this]; exact hf, Nat.lt_of_lt_of_le H2.out.lt h3.bel.size, H2.out.bel.trans (h3.bel.mono H2.out.bel.size)⟩
  clear h3 H2 c2 HNW HSY
  go_wp2
  go_loopw [10] (fun v wr => ∃ i : Nat, i ≤ n ∧ v = .int .i64 i ∧ Hid (RdS w U f g n k i wr)) (fun v _ => n - (intOf v).toNat)
  case atStart => exact ⟨0, Nat.zero_le _, rfl, H3.out⟩
  case round =>
    clear H3
    obtain ⟨i, hi, rfl, HW⟩ := hrel
    obtain ⟨c0, _, cc, c2, hcc⟩ := HW.out.fil.cells
    by_cases hlt : i < n
    · have cr := HW.out.red.cell
      have cb := HW.out.fil.cell i hlt
      have fb := HW.out.fil.row.frozen i
      obtain ⟨ob, hob⟩ : ∃ ob, rdP U i i = ob := ⟨_, rfl⟩
      rw [hob] at cb
      have hil : i / 8 < U.size := by have := hmn.out; omega
      have HN : Hid (RdS w U f g n k (i + 1) (wr.setCell ⟨g, i, none⟩ (.bool (btR (bl U) i)))) := HW.out.next hgl hlt
      obtain ⟨Q, hQ⟩ : ∃ Q, i / 8 = Q := ⟨_, rfl⟩
      obtain ⟨X, hX⟩ : ∃ X, i % 8 = X := ⟨_, rfl⟩
      have hQl : Q < U.size := by omega
      have hQz : (Q : Int) < (U.size : Int) := by omega
      have q2 : (i : Int).tdiv 8 = (Q : Int) := by rw [Int.tdiv_eq_ediv_of_nonneg (by omega)]; omega
      have q2e : (i : Int) / 8 = (Q : Int) := by omega
      have q3 : (i : Int).tmod 8 = (X : Int) := by rw [Int.tmod_eq_emod_of_nonneg (by omega)]; omega
      have q3e : (i : Int) % 8 = (X : Int) := by omega
      have hX8 : X < 8 := by omega
      have eb : btR (bl U) i = decide ((U[Q]'hQl).toNat / 2 ^ X % 2 = 1) := by subst hQ hX; exact bit_of U i hil
      rw [eb, ← bit_int] at HN
      clear eb
      clear hQ hX hob hil
      go_wp2_with fail
      go_region
      go_wp2
      go_roundw
      case rel => exact ⟨i + 1, by omega, by go_num, HN.out.drew⟩
      case measure => simp [intOf]; omega
    · have hin : i = n := by omega
      have HE : Hid (RfS wr f g n k (bl U)) := HW.out.fil.congr (fun j hj => by rw [hin, rdP]; simp [hj])
      clear hin
      go_wp2
      go_ret2
      exact .inl ⟨n, k, bl U, f, g, HF.out, rfl, HE.out, HW.out.red.bel, hfl, by omega⟩
theorem rdec_any14 (S : ByteArray) (w : World) (hS : S.size ≤ maxLen) : Calls Tryd.prog 23 #[.string S] w fun e w' => DcR S w e w' := by
  by_cases h : S.size < 4
  · exact rdec_short S w h
  · by_cases hm : S.extract 0 4 = ⟨#[77, 66, 70, 49]⟩
    · exact rdec_long S w (by omega) hS hm
    · exact rdec_other S w (by omega) hS hm
end Go.Proofs.YtplfjfhpdfbpeaaDoor
/- A string's bytes as a row of the call's own, and back. -/
namespace Go.Proofs.YtplfjfhpdfbpeaaDoor
open Go.RowKit
set_option linter.unusedSimpArgs false
set_option linter.unusedVariables false
/-- A row that a conversion has made: its cells; the mark stands behind them. -/
abbrev Cvb (w : World) (g : Nat) (C : Array Value) : Prop := w.heap[g]? = some (.cells C 5 (C.size, C.size + 1))
theorem Cvb.cell {w : World} {g : Nat} {C : Array Value} (h : Cvb w g C) (j : Nat) : w.cell? ⟨g, j, none⟩ = C[j]? := cell_of_row w g j C _ _ h
theorem Cvb.frozen {w : World} {g : Nat} {C : Array Value} (h : Cvb w g C) (j : Nat) (hj : j < C.size) : w.frozen? ⟨g, j, none⟩ = false := by
  have h' : w.heap[g]? = some (.cells C 5 (C.size, C.size + 1)) := h
  simp only [World.frozen?, h']
  simp; omega
theorem Cvb.set {w : World} {g : Nat} {C : Array Value} (h : Cvb w g C) (i : Nat) (v : Value) : Cvb (w.setCell ⟨g, i, none⟩ v) g (C.setIfInBounds i v) := by
  have := Joins.block_setCell (i := i) h v
  unfold Cvb
  rw [this]; simp
theorem conv_bytes (s : ByteArray) (u : World) : ∃ (cap : Nat) (W : World) (C : Array Value), (convert 9 64 (.string s)).run Tryd.prog u = .ok (.slice (some ⟨u.heap.size, 0, none⟩) s.size cap) W ∧
    Below u.heap.size u W ∧ W.heap.size = u.heap.size + 1 ∧ Cvb W u.heap.size C ∧ s.size ≤ C.size ∧ s.size ≤ cap ∧ ∀ j (hj : j < s.size), C[j]? = some (.int .u8 (s[j].toNat : Int)) := by
  refine ⟨grownCap u s.size 0 5, Lib.bytesWorld u 5 s, Lib.bytesCells u 5 s, Lib.run_convert_string_bytes u _ _ _ s Tryd.underlying9 Tryd.underlying64 Tryd.underlying5, ?_, Lib.bytesWorld_size _ _ _, Lib.bytesWorld_at_new _ _ _, ?_, ?_, ?_⟩
  · refine ⟨?_, ?_, ?_, by rw [Lib.bytesWorld_size]; omega, fun k hk => Lib.bytesWorld_at_old _ _ _ _ hk⟩
    all_goals simp [Lib.bytesWorld, World.freeze, World.alloc, World.drew, -World.alloc_eq, -World.drew_eq]
  · simp [Lib.bytesCells]
  · exact grownCap_ge _ _ _ _
  · intro j hj
    have hj' : j < s.data.size := hj
    rw [Lib.bytesCells, Array.getElem?_append_left (by simpa using hj)]
    simp only [Array.getElem?_map, Array.getElem?_eq_getElem hj', Option.map_some]
    rfl
theorem conv_back (w : World) (g cap n : Nat) (C : Array Value) (l : List UInt8) (h : Cvb w g C) (hl : l.length = n) (hC : ∀ j (hj : j < l.length), C[j]? = some (.int .u8 (l[j].toNat : Int))) :
    (convert 64 9 (.slice (some ⟨g, 0, none⟩) n cap)).run Tryd.prog w = .ok (.string ⟨l.toArray⟩) w := by
  subst hl
  refine run_convert_bytes_back w 64 9 5 ⟨g, 0, none⟩ cap l Tryd.underlying64 Tryd.underlying5 Tryd.underlying9 (fun j hj => ?_)
  rw [WideShapes.add_plain, Nat.zero_add, h.cell, hC j hj]
/-- Bytes as numbers, one of them laid anew. -/
def setNums (s : ByteArray) (j : Nat) (X : Int) : List Int := ((bl s).map fun b : UInt8 => (b.toNat : Int)).set j X
theorem setNums_length (s : ByteArray) (j : Nat) (X : Int) : (setNums s j X).length = s.size := by simp [setNums, bl_length]
def trnS (s : ByteArray) (j : Nat) (X : Int) : ByteArray := strOfNums (setNums s j X)
theorem conv_set (s : ByteArray) (w : World) (g cap j : Nat) (C : Array Value) (h : Cvb w g C) (hj : j < s.size) (hz : s.size ≤ C.size) (hC : ∀ j (hj : j < s.size), C[j]? = some (.int .u8 (s[j].toNat : Int))) (X : Int) :
    (convert 64 9 (.slice (some ⟨g, 0, none⟩) s.size cap)).run Tryd.prog (w.setCell ⟨g, j, none⟩ (.int .u8 X)) = .ok (.string (trnS s j X)) (w.setCell ⟨g, j, none⟩ (.int .u8 X)) := by
  refine run_convert_bytes_arg _ 64 5 Tryd.underlying64 Tryd.underlying5 g 0 s.size cap _ (setNums_length s j X) (fun i hi => ?_) 9 Tryd.underlying9
  rw [Nat.zero_add, (h.set j _).cell, Array.getElem?_setIfInBounds, setNums, List.getD, List.getElem?_set]
  by_cases e : j = i
  · subst e
    rw [if_pos rfl, if_pos (by omega), if_pos rfl, if_pos (by simp [bl_length]; exact hj)]
    rfl
  · rw [if_neg e, if_neg e, hC i hi, List.getElem?_map, List.getElem?_eq_getElem (by rw [bl_length]; exact hi)]
    rfl
theorem bl_nums (l : List Int) : bl (strOfNums l) = l.map (fun x => UInt8.ofNat x.toNat) := rfl
theorem bl_trn (s : ByteArray) (j : Nat) (X : Int) : bl (trnS s j X) = (bl s).set j (UInt8.ofNat X.toNat) := by
  rw [trnS, bl_nums, setNums, List.map_set, List.map_map]
  congr 1
  have : ((fun x : Int => UInt8.ofNat x.toNat) ∘ fun b : UInt8 => (b.toNat : Int)) = id := by funext b; simp
  rw [this, List.map_id]
end Go.Proofs.YtplfjfhpdfbpeaaDoor
/- A row of bytes of the call's own whose cells are all free, whatever mark stands behind them (what a conversion of a string makes): append onto it. -/
namespace Go.Proofs.YtplfjfhpdfbpeaaDoor
open Go.RowKit
set_option linter.unusedSimpArgs false
set_option linter.unusedVariables false
theorem store_free (P : Program) (g o : Nat) (t : TypeId) (fz : Nat × Nat) : ∀ (vs : List Value) (i : Nat) (cur : Array Value) (w : World), w.heap[g]? = some (.cells cur t fz) → (∀ j, j < cur.size → ¬ (fz.1 ≤ j ∧ j < fz.2)) → o + i + vs.length ≤ cur.size → (∀ v ∈ vs, v.oneCell' = true) →
    (storeCells ⟨g, o, none⟩ vs i).run P w = .ok () (w.setRow g (cur.toList.take (o + i) ++ vs ++ cur.toList.drop (o + i + vs.length)).toArray)
  | [], i, cur, w, hg, _, _, _ => by
    have e : w.setRow g cur = w := setRow_self w g cur t fz hg
    simp [storeCells, e]
  | x :: xs, i, cur, w, hg, hfr, hl, h1 => by
    rw [List.length_cons] at hl
    have hin : o + i < cur.size := by omega
    have ha : (⟨g, o, none⟩ : Addr).add i = ⟨g, o + i, none⟩ := WideShapes.add_plain _ _ _
    have hc : w.cell? ⟨g, o + i, none⟩ = some cur[o + i] := by rw [cell_of_row w g (o + i) cur t fz hg, Array.getElem?_eq_getElem hin]
    have hf : w.frozen? ⟨g, o + i, none⟩ = false := by
      have h' := hfr (o + i) hin
      simp only [World.frozen?, hg]
      simp only [Bool.and_eq_false_iff, decide_eq_false_iff_not]
      omega
    have hs : (store ((⟨g, o, none⟩ : Addr).add i) x).run P w = .ok () (w.setRow g (cur.setIfInBounds (o + i) x)) := by
      rw [ha, run_store P w _ x _ (h1 x (List.mem_cons_self ..)), hc]
      simp [hf, setCell_eq_setRow w g (o + i) cur t fz x hg]
    have ih := store_free P g o t fz xs (i + 1) (cur.setIfInBounds (o + i) x) (w.setRow g (cur.setIfInBounds (o + i) x)) (setRow_heap w g cur _ t _ hg) (by simpa using hfr) (by simp; omega) (fun v hv => h1 v (List.mem_cons_of_mem _ hv))
    have e := list_seg_step cur.toList (o + i) x xs (by simp; omega)
    simp only [storeCells, Sem.run_bind, hs, Result.andThen_ok, ih, setRow_setRow]
    congr 3
    simpa [Array.toList_setIfInBounds, Nat.add_assoc] using e
/-- Bytes that the call owns, all its cells free. -/
def Fre (w : World) (B : Nat) (v : Value) (xs : List Value) : Prop :=
  ∃ g cap cur fz, v = .slice (some ⟨g, 0, none⟩) xs.length cap ∧ B ≤ g ∧ w.heap[g]? = some (.cells cur 5 fz) ∧ (∀ j, j < cap → ¬ (fz.1 ≤ j ∧ j < fz.2)) ∧ xs.length ≤ cap ∧ cap ≤ maxLen ∧ cur.size = cap ∧ cur.toList.take xs.length = xs
theorem Fre.kept {w w' : World} {B : Nat} {v : Value} {xs : List Value} {r : Option Nat} (h : Fre w B v xs) (hg : w.grownBy w' r) (hr : ∀ k, r = some k → k < B) : Fre w' B v xs := by
  obtain ⟨g, cap, cur, fz, rfl, h1, h2, h3⟩ := h
  refine ⟨g, cap, cur, fz, rfl, h1, ?_, h3⟩
  rw [hg.block g (blk_lt h2) (fun e => by have := hr g e.symm; omega)]
  exact h2
theorem Fre.cell {w : World} {B : Nat} {v : Value} {xs : List Value} (h : Fre w B v xs) : ∃ g cap, v = .slice (some ⟨g, 0, none⟩) xs.length cap ∧ B ≤ g ∧ xs.length ≤ cap ∧ cap ≤ maxLen ∧ ∀ j, j < xs.length → w.cell? ⟨g, j, none⟩ = xs[j]? := by
  obtain ⟨g, cap, cur, fz, rfl, h1, h2, h3, h4, h5, h6, h7⟩ := h
  refine ⟨g, cap, rfl, h1, h4, h5, fun j hj => ?_⟩
  rw [cell_of_row w g j cur _ fz h2, ← Array.getElem?_toList, ← List.getElem?_take_of_lt hj, h7]
theorem Fre.of_conv (s : ByteArray) (u : World) (hs : s.size ≤ 140737488351300) : ∃ (v : Value) (W : World), (convert 9 64 (.string s)).run Tryd.prog u = .ok v W ∧
    Below u.heap.size u W ∧ Fre W u.heap.size v (Lib.strCells s) := by
  refine ⟨_, _, Lib.run_convert_string_bytes u _ _ _ s Tryd.underlying9 Tryd.underlying64 Tryd.underlying5, ?_, ?_⟩
  · refine ⟨?_, ?_, ?_, by rw [Lib.bytesWorld_size]; omega, fun k hk => Lib.bytesWorld_at_old _ _ _ _ hk⟩
    all_goals simp [Lib.bytesWorld, World.freeze, World.alloc, World.drew, -World.alloc_eq, -World.drew_eq]
  · have hge := grownCap_ge u s.size 0 5
    have hC : (Lib.bytesCells u 5 s).size = grownCap u s.size 0 5 := by
      have : s.data.size = s.size := rfl
      simp [Lib.bytesCells]; omega
    refine ⟨u.heap.size, grownCap u s.size 0 5, _, _, by rw [Lib.strCells_length], Nat.le_refl _, Lib.bytesWorld_at_new _ _ _, ?_, by rw [Lib.strCells_length]; exact hge, grownCap_le_maxLen _ _ _ _ (by unfold maxLen; omega), hC, ?_⟩
    · intro j hj
      rw [hC]; omega
    · rw [Lib.strCells_length, Lib.bytesCells, Array.toList_append, List.take_left' (by simp)]
      simp [Lib.strCells]
theorem info_by : (Tryd.prog.info? 5).map (fun i => (i.zero, i.size, i.bytes)) = some (some (.int .u8 0), 1, 1) := by kernel_rfl
theorem Fre.push {w : World} {B : Nat} {v : Value} {xs : List Value} (h : Fre w B v xs) (hB : B ≤ w.heap.size) (ty : TypeId) (a : Addr) (c : Nat) (x : Int) (hx : w.cell? a = some (.int .u8 x)) (hl : xs.length ≤ 140737488355200) :
    ∃ v' w', (Builtin.append_ #[64, 64] ty #[v, .slice (some a) 1 c]).run Tryd.prog w = .ok v' w' ∧ Fre w' B v' (xs ++ [.int .u8 x]) ∧ w.grownBy w' v.ownBlock ∧ (∀ k, v.ownBlock = some k → B ≤ k) := by
  obtain ⟨i0, hi, hz0, hz1, hz2⟩ := info_parts info_by
  obtain ⟨g, cap, cur, fz, rfl, h1, h2, h3, h4, h5, h6, h7⟩ := h
  have hnews : ∀ (j : Nat) (u : Value), [Value.int .u8 x][j]? = some u → w.cell? (a.add j) = some u := by
    intro j u hj
    cases j with
    | zero => simp at hj; subst hj; exact hx
    | succ j => simp at hj
  have hone : ∀ u ∈ [Value.int .u8 x], u.oneCell' = true := by intro u hu; simp at hu; subst hu; rfl
  have hob : ∀ k, (Value.slice (some ⟨g, 0, none⟩) xs.length cap).ownBlock = some k → B ≤ k := by
    intro k hk; simp [Value.ownBlock] at hk; omega
  have holds : ∀ j u, xs[j]? = some u → w.cell? ((⟨g, 0, none⟩ : Addr).add j) = some u := by
    intro j u hj
    have hjl : j < xs.length := (List.getElem?_eq_some_iff.1 hj).1
    rw [WideShapes.add_plain, Nat.zero_add, cell_of_row w g j cur _ fz h2, ← Array.getElem?_toList, ← List.getElem?_take_of_lt hjl, h7, hj]
  by_cases hroom : xs.length + 1 ≤ cap
  · have hf := run_firstCells_some (P := Tryd.prog) w 1 1 a 1 c [.int .u8 x] rfl hnews
    have hst := store_free Tryd.prog g xs.length 5 fz [.int .u8 x] 0 cur w h2 (by rw [h6]; exact h3) (by simp; omega) hone
    simp only [Nat.add_zero, List.length_singleton] at hst
    refine ⟨.slice (some ⟨g, 0, none⟩) (xs.length + 1) cap, w.setRow g (cur.toList.take xs.length ++ [Value.int .u8 x] ++ cur.toList.drop (xs.length + 1)).toArray, ?_, ⟨g, cap, _, fz, by simp, h1, setRow_heap w g cur _ _ _ h2, h3, by simp; omega, h5, ?_, ?_⟩, ⟨rfl, rfl, rfl, by simp, fun k _ hk => setRow_other w g k _ (fun e => hk (by simp [Value.ownBlock, e]))⟩, hob⟩
    · simp [Builtin.append_, run_underlying Tryd.underlying64, sizeOf, typeInfo, hi, hz1, Builtin.lenOf, hroom, hf, Addr.add_lit, hst]
    · simp; omega
    · rw [h7]
      exact List.take_left' rfl
  · have hr := run_append_grow (P := Tryd.prog) w 64 ty 5 i0 (.int .u8 0) Tryd.underlying64 hi hz0 ⟨g, 0, none⟩ xs.length cap xs (by rw [hz1, Nat.mul_one]) holds a 1 c [.int .u8 x] (by rw [hz1]; rfl) hnews (by omega) (by omega) (by rw [hz2]; exact growslice_fits (by omega) (by omega))
    have hge := grownCap_ge w (xs.length + 1) cap 5
    have hcm2 := grownCap_le_maxLen w (xs.length + 1) cap 5 (by unfold maxLen; omega)
    refine ⟨_, _, hr, ⟨w.heap.size, _, _, (0, 0), by simp, hB, heap_alloc_new w.drew _, by simp, by simpa using hge, hcm2, ?_, ?_⟩, ⟨rfl, rfl, rfl, by simp, fun k hk _ => heap_alloc_old w.drew _ hk⟩, hob⟩
    · have hzz : (Value.int IntKind.u8 0).cells.size = 1 := rfl
      simp only [Array.size_append, List.size_toArray, size_zeroCells, hzz, List.length_singleton]
      omega
    · simp only [Array.toList_append, List.append_assoc]
      rw [← List.append_assoc]
      exact List.take_left' (by simp)
theorem Fre.pushS {w : World} {B : Nat} {v : Value} {xs : List Value} (h : Fre w B v xs) (hB : B ≤ w.heap.size) (ty : TypeId) (s : ByteArray) (hs : s.size ≤ 64) (hl : xs.length ≤ 140737488355200) :
    ∃ v' w', (Builtin.append_ #[64, 9] ty #[v, .string s]).run Tryd.prog w = .ok v' w' ∧ Fre w' B v' (xs ++ Lib.strCells s) ∧ w.grownBy w' v.ownBlock ∧ (∀ k, v.ownBlock = some k → B ≤ k) := by
  obtain ⟨i0, hi, hz0, hz1, hz2⟩ := info_parts info_by
  obtain ⟨g, cap, cur, fz, rfl, h1, h2, h3, h4, h5, h6, h7⟩ := h
  have hob : ∀ k, (Value.slice (some ⟨g, 0, none⟩) xs.length cap).ownBlock = some k → B ≤ k := by
    intro k hk; simp [Value.ownBlock] at hk; omega
  have hsl := Lib.strCells_length s
  have holds : ∀ j u, xs[j]? = some u → w.cell? ((⟨g, 0, none⟩ : Addr).add j) = some u := by
    intro j u hj
    have hjl : j < xs.length := (List.getElem?_eq_some_iff.1 hj).1
    rw [WideShapes.add_plain, Nat.zero_add, cell_of_row w g j cur _ fz h2, ← Array.getElem?_toList, ← List.getElem?_take_of_lt hjl, h7, hj]
  by_cases hroom : xs.length + s.size ≤ cap
  · have hf := Lib.run_firstCells_string (P := Tryd.prog) w 1 s
    have hst := store_free Tryd.prog g xs.length 5 fz (Lib.strCells s) 0 cur w h2 (by rw [h6]; exact h3) (by rw [hsl]; omega) (Lib.strCells_oneCell s)
    simp only [Nat.add_zero, hsl] at hst
    refine ⟨.slice (some ⟨g, 0, none⟩) (xs.length + s.size) cap, w.setRow g (cur.toList.take xs.length ++ Lib.strCells s ++ cur.toList.drop (xs.length + s.size)).toArray, ?_, ⟨g, cap, _, fz, by rw [List.length_append, hsl], h1, setRow_heap w g cur _ _ _ h2, h3, by rw [List.length_append, hsl]; omega, h5, ?_, ?_⟩, ⟨rfl, rfl, rfl, by simp, fun k _ hk => setRow_other w g k _ (fun e => hk (by simp [Value.ownBlock, e]))⟩, hob⟩
    · simp [Builtin.append_, run_underlying Tryd.underlying64, run_underlying Tryd.underlying9, sizeOf, typeInfo, hi, hz1, Builtin.lenOf, hroom, hf, Addr.add_lit, hst]
    · simp [hsl]; omega
    · rw [h7]
      exact List.take_left' rfl
  · have hr := Lib.run_append_grow_string (P := Tryd.prog) w 64 9 ty 5 i0 (.int .u8 0) Tryd.underlying64 Tryd.underlying9 hi hz0 ⟨g, 0, none⟩ xs.length cap xs (by rw [hz1, Nat.mul_one]) holds s (by omega) (by omega) (by rw [hz2]; exact growslice_fits (by omega) (by omega))
    have hge := grownCap_ge w (xs.length + s.size) cap 5
    have hcm2 := grownCap_le_maxLen w (xs.length + s.size) cap 5 (by unfold maxLen; omega)
    refine ⟨_, _, hr, ⟨w.heap.size, _, _, (0, 0), by rw [List.length_append, hsl], hB, heap_alloc_new w.drew _, by simp, by rw [List.length_append, hsl]; exact hge, hcm2, ?_, ?_⟩, ⟨rfl, rfl, rfl, by simp, fun k hk _ => heap_alloc_old w.drew _ hk⟩, hob⟩
    · have hzz : (Value.int IntKind.u8 0).cells.size = 1 := rfl
      simp only [Array.size_append, List.size_toArray, size_zeroCells, hzz, hsl]
      omega
    · simp only [Array.toList_append, List.append_assoc]
      rw [← List.append_assoc]
      exact List.take_left' (by simp)
/-- The operations, for a walk. -/
theorem wpList_free_byte {ops : Array Oper} {rest : List Oper} {o : Oper} {a : Act} {w : World} {Q : Exit → Act → World → Prop} (hgd : o.guard = none) (sl x : Operand)
    (ho : o.op = .call { callee := .builtin .append, args := #[sl, x], argTypes := #[64, 64] }) (B : Nat) (v : Value) (xs : List Value) (hs : a.eval sl = v) (hown : Fre w B v xs) (hB : B ≤ w.heap.size)
    (ad : Addr) (c : Nat) (n : Int) (hx : a.eval x = .slice (some ad) 1 c) (hn : w.cell? ad = some (.int .u8 n)) (hl : xs.length ≤ 140737488355200)
    (h : ∀ v' w', Fre w' B v' (xs ++ [.int .u8 n]) → w.grownBy w' v.ownBlock → (∀ k, v.ownBlock = some k → B ≤ k) → wpList Tryd.prog ops Q rest (a.put o.dst v') w') : wpList Tryd.prog ops Q (o :: rest) a w := by
  refine wpList_plain hgd fun K hK => ?_
  obtain ⟨v', w', hr, h2, h3, h4⟩ := hown.push hB o.type ad c n hn hl
  unfold Oper.wp execOp
  simp only [ho, resolve, invoke, builtin, Sem.run_bind, Sem.run_pure, Result.andThen_ok, List.map_toArray, List.map_cons, List.map_nil, hs, hx, hr]
  exact hK _ _ (h v' w' h2 h3 h4)
theorem wpList_free_text {ops : Array Oper} {rest : List Oper} {o : Oper} {a : Act} {w : World} {Q : Exit → Act → World → Prop} (hgd : o.guard = none) (sl x : Operand)
    (ho : o.op = .call { callee := .builtin .append, args := #[sl, x], argTypes := #[64, 9] }) (B : Nat) (v : Value) (xs : List Value) (hs : a.eval sl = v) (hown : Fre w B v xs) (hB : B ≤ w.heap.size)
    (s : ByteArray) (hx : a.eval x = .string s) (hss : s.size ≤ 64) (hl : xs.length ≤ 140737488355200)
    (h : ∀ v' w', Fre w' B v' (xs ++ Lib.strCells s) → w.grownBy w' v.ownBlock → (∀ k, v.ownBlock = some k → B ≤ k) → wpList Tryd.prog ops Q rest (a.put o.dst v') w') : wpList Tryd.prog ops Q (o :: rest) a w := by
  refine wpList_plain hgd fun K hK => ?_
  obtain ⟨v', w', hr, h2, h3, h4⟩ := hown.pushS hB o.type s hss hl
  unfold Oper.wp execOp
  simp only [ho, resolve, invoke, builtin, Sem.run_bind, Sem.run_pure, Result.andThen_ok, List.map_toArray, List.map_cons, List.map_nil, hs, hx, hr]
  exact hK _ _ (h v' w' h2 h3 h4)
end Go.Proofs.YtplfjfhpdfbpeaaDoor
/- A region that draws its order, over a class of worlds of one's own: each operation gives the same value in every world of the class. -/
namespace Go.Proofs.YtplfjfhpdfbpeaaDoor
open Go.RowKit
set_option linter.unusedSimpArgs false
set_option linter.unusedVariables false
theorem wp_region_class {P : Program} {id : Nat} {Q : Exit → Act → World → Prop} {a : Act} {w : World} {l : List Oper} (C : World → Prop) (hm : P.follows .mixedOrders = true) (hB : Region.lexB .any l.toArray = true) (hC : C w.drew)
    (h : wpQuiet P l.toArray C (fun a' => ∀ w', C w' → Q .normal a' w') l a) : (Code.region id l.toArray true).wp P Q a w :=
  wp_region_quiet (C := C) hm hB hC (by simpa using h)
theorem quiet_valE {P : Program} {o : Oper} {a : Act} {C : World → Prop} {K : Act → Prop} (v : Value) (h : ∀ w, C w → (execOp a.eval o).run P w = .ok (.value v) w) (hn : K (a.put o.dst v)) : o.quiet P a C K :=
  ⟨v, fun w hw => by unfold Oper.quietAt; rw [h w hw]; exact ⟨rfl, rfl⟩, hn⟩
theorem quiet_callE {P : Program} {o : Oper} {a : Act} {C : World → Prop} {K : Act → Prop} (v : Value) (f : FuncId) (args : Array Value) (h : ∀ w, C w → (execOp a.eval o).run P w = .ok (.enter f args) w)
    (hc : ∀ w, C w → Calls P f args w (fun e w'' => e = .returned v ∧ C w'')) (hn : K (a.put o.dst v)) : o.quiet P a C K :=
  ⟨v, fun w hw => by unfold Oper.quietAt; rw [h w hw]; exact ⟨rfl, hc w hw⟩, hn⟩
theorem quiet_str {o : Oper} {a : Act} {C : World → Prop} {K : Act → Prop} (x : Operand) (ho : o.op = .load 9 x) (g f : Nat) (s : ByteArray) (hx : a.eval x = .pointer (some ⟨g, f, none⟩))
    (hc : ∀ w, C w → w.cell? ⟨g, f, none⟩ = some (.string s)) (hn : K (a.put o.dst (.string s))) : o.quiet Tryd.prog a C K :=
  quiet_valE (.string s) (fun w hw => by
    have h := hc w hw
    have ha : (isAgg 9).run Tryd.prog w = .ok false w := by kernel_rfl
    unfold execOp
    simp [ho, hx, Instr.loadAt, Instr.sureAddr, loadVar, ha, h]) hn
end Go.Proofs.YtplfjfhpdfbpeaaDoor
/- A region that draws its order: its first operations quiet in a class of worlds, in whatever order; the last ones, which wait for all of these, one behind the other. -/
namespace Go.Proofs.YtplfjfhpdfbpeaaDoor
open Go.RowKit
set_option linter.unusedSimpArgs false
set_option linter.unusedVariables false
end Go.Proofs.YtplfjfhpdfbpeaaDoor
/- The document's own sum, cut into its loops; what lies in memory while a block's numbers are made. -/
namespace Go.Proofs.YtplfjfhpdfbpeaaDoor
open Go.RowKit
set_option linter.unusedSimpArgs false
set_option linter.unusedVariables false
/-- The bodies of a text's loops, the outer ones first. -/
def loopsOf : Code → List Code
  | .loop c => c :: loopsOf c
  | .seq a b => loopsOf a ++ loopsOf b
  | .block _ c => loopsOf c
  | .scope c => loopsOf c
  | .cond _ a b => loopsOf a ++ loopsOf b
  | _ => []
noncomputable def sumLoop (k : Nat) : Code := ((Tryd.f63.body.map loopsOf).getD []).getD k .skip
/-- k of a block's numbers are laid. -/
structure Sq (w : World) (X : Nat) (m : List Nat) (k : Nat) (C : Array Value) (wr : World) : Prop where
  blk : Blk wr X C 107
  grown : w.grownBy wr (some X)
  csz : C.size = 64
  got : ∀ j, j < k → C[j]? = some (c32 ((sch m 64).getD j 0))
  all : ∀ j, j < 64 → ∃ x : BitVec 32, C[j]? = some (c32 x)
theorem Sq.drew {w : World} {X : Nat} {m : List Nat} {k : Nat} {C : Array Value} {wr : World} (h : Sq w X m k C wr) : Sq w X m k C wr.drew :=
  ⟨h.blk, Lib.Hx.grownBy_drew h.grown, h.csz, h.got, h.all⟩
theorem Sq.drewN {w : World} {X : Nat} {m : List Nat} {k : Nat} {C : Array Value} {wr : World} (h : Sq w X m k C wr) (n : Nat) : Sq w X m k C (wr.drewN n) := by
  induction n with
  | zero => exact h
  | succ n ih => exact ih.drew
theorem Sq.put {w : World} {X : Nat} {m : List Nat} {k : Nat} {C : Array Value} {wr : World} (h : Sq w X m k C wr) (hk : k < 64) (x : BitVec 32) (hx : (sch m 64).getD k 0 = x) :
    Sq w X m (k + 1) (C.setIfInBounds k (c32 x)) (wr.setCell ⟨X, k, none⟩ (c32 x)) where
  blk := h.blk.set k _
  grown := Lib.grownBy_setB h.grown k _
  csz := by rw [Array.size_setIfInBounds]; exact h.csz
  got := fun j hj => by
    rw [Array.getElem?_setIfInBounds]
    split
    · rename_i e; subst e; rw [if_pos (by rw [h.csz]; exact hk), hx]
    · exact h.got j (by omega)
  all := fun j hj => by
    rw [Array.getElem?_setIfInBounds]
    split
    · exact ⟨x, by rw [if_pos (by rw [h.csz]; omega)]⟩
    · exact h.all j hj
theorem Sq.word {w : World} {X : Nat} {m : List Nat} {k : Nat} {C : Array Value} {wr : World} (h : Sq w X m k C wr) (j : Nat) (hj : j < k) :
    ∃ y : BitVec 32, wr.cell? ⟨X, j, none⟩ = some (c32 y) ∧ Hid (y = (sch m 64).getD j 0) := ⟨_, by rw [h.blk.cell, h.got j hj], rfl⟩
theorem Sq.whole {w : World} {X : Nat} {m : List Nat} {C : Array Value} {wr : World} (h : Sq w X m 64 C wr) : C = w64c m := by
  unfold w64c
  apply Array.ext_getElem?
  intro i
  by_cases hi : i < 64
  · rw [h.got i hi]
    simp only [List.getElem?_toArray, List.getElem?_map, List.getD]
    rw [List.getElem?_eq_getElem (by rw [sch_length]; exact hi)]
    rfl
  · rw [Array.getElem?_eq_none (by rw [h.csz]; omega), Array.getElem?_eq_none (by simp [sch_length]; omega)]
theorem Sq.start (w : World) (X : Nat) (m : List Nat) (Z : Array Value) (hZ : Z = Array.replicate 64 (c32 0)) (h : Blk w X Z 107) : Sq w X m 0 Z w :=
  ⟨h, World.grownBy.refl _ _, by rw [hZ]; simp, fun j hj => by omega, fun j hj => ⟨0, by rw [hZ]; simp [hj]⟩⟩
theorem drewN_more {w w' : World} {n : Nat} (h : ∃ m, w' = (w.drewN n).drewN m) : ∃ k, w' = w.drewN k := by
  obtain ⟨m, rfl⟩ := h
  refine ⟨n + m, ?_⟩
  simp [World.drewN, Nat.add_assoc]
theorem turn_int (x : BitVec 32) (k : Int) (w : World) (h0 : 1 ≤ k) (h1 : k ≤ 31) :
    Calls Tryd.prog 73 #[.int .u32 x.toNat, .int .i64 k] w fun e w' => e = .returned (.int .u32 (rr k.toNat x).toNat) ∧ ∃ nq, w' = w.drewN nq := by
  have h := turn_any x k.toNat w (by omega) (by omega)
  rwa [show ((k.toNat : Nat) : Int) = k from by omega] at h
/-- k of the numbers are added. -/
structure Aq (w : World) (HB : Nat) (h v : V8) (k : Nat) (g : V8) (wr : World) : Prop where
  st : Blk wr HB (v8c g) 98
  grown : w.grownBy wr (some HB)
  done : ∀ j, j < 8 → g.list.getD j 0 = if j < k then h.list.getD j 0 + v.list.getD j 0 else h.list.getD j 0
theorem Aq.drewN {w : World} {HB : Nat} {h v : V8} {k : Nat} {g : V8} {wr : World} (H : Aq w HB h v k g wr) (n : Nat) : Aq w HB h v k g (wr.drewN n) := ⟨H.st, H.grown.trans (grown_drewN wr n _), H.done⟩
theorem v8c_setk (g : V8) (k : Nat) (x : BitVec 32) (hk : k < 8) : (v8c g).setIfInBounds k (c32 x) = v8c (g.setk k x) := by
  apply Array.ext_getElem?
  intro i
  rw [Array.getElem?_setIfInBounds, v8c_size]
  by_cases hi : i < 8
  · rw [v8c_get _ _ hi, v8c_get _ _ hi, setk_get _ _ _ _ hi]
    split
    · rfl
    · rfl
  · rw [if_neg (by omega), Array.getElem?_eq_none (by rw [v8c_size]; omega), Array.getElem?_eq_none (by rw [v8c_size]; omega)]
theorem Aq.put {w : World} {HB : Nat} {h v : V8} {k : Nat} {g : V8} {wr : World} (H : Aq w HB h v k g wr) (hk : k < 8) :
    Aq w HB h v (k + 1) (g.setk k (g.list.getD k 0 + v.list.getD k 0)) (wr.setCell ⟨HB, k, none⟩ (c32 (g.list.getD k 0 + v.list.getD k 0))) where
  st := by rw [← v8c_setk _ _ _ hk]; exact H.st.set k _
  grown := Lib.grownBy_setB H.grown k _
  done := fun j hj => by
    rw [setk_get _ _ _ _ hj]
    split
    · rename_i e; subst e; rw [if_pos (by omega), H.done k hk, if_neg (by omega)]
    · rw [H.done j hj]
      by_cases e : j < k
      · rw [if_pos e, if_pos (by omega)]
      · rw [if_neg e, if_neg (by omega)]
theorem t1_raw (v : V8) (k x : BitVec 32) : ((((v.h.toNat : Int) + bits .xor .u32 (bits .xor .u32 ((rr 6 v.e).toNat : Int) ((rr 11 v.e).toNat : Int)) ((rr 25 v.e).toNat : Int) + bits .xor .u32 (bits .and .u32 (v.e.toNat : Int) (v.f.toNat : Int)) (bits .and .u32 (bits .xor .u32 IntKind.u32.max (v.e.toNat : Int)) (v.g.toNat : Int)) + (k.toNat : Int)) % 4294967296 + (x.toNat : Int)) % 4294967296) = ((v.t1 k x).toNat : Int) := by
  rw [ch_raw, xor32, xor32]
  simp only [V8.t1, bsE, BitVec.toNat_add]
  omega
theorem t2_raw (v : V8) : (bits .xor .u32 (bits .xor .u32 ((rr 2 v.a).toNat : Int) ((rr 13 v.a).toNat : Int)) ((rr 22 v.a).toNat : Int) + bits .xor .u32 (bits .xor .u32 (bits .and .u32 (v.a.toNat : Int) (v.b.toNat : Int)) (bits .and .u32 (v.a.toNat : Int) (v.c.toNat : Int))) (bits .and .u32 (v.b.toNat : Int) (v.c.toNat : Int))) % 4294967296 = (v.t2.toNat : Int) := by
  rw [mj_raw, xor32, xor32]
  simp only [V8.t2, bsA, BitVec.toNat_add]
  omega
theorem grown_setRow (w : World) (g : Nat) (C : Array Value) : w.grownBy (w.setRow g C) (some g) :=
  ⟨rfl, rfl, rfl, by simp, fun k _ hk => setRow_other w g k _ (fun e => hk (by rw [e]))⟩
theorem info_8v : (Tryd.prog.info? 98).map (·.size) = some 8 := by kernel_rfl
end Go.Proofs.YtplfjfhpdfbpeaaDoor
