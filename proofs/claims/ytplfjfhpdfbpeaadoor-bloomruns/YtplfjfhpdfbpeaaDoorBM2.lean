/- The mathematics of filters: how many bits are set; joining; bytes. No program is named here. -/
import Derived.Test.YtplfjfhpdfbpeaaDoorBM1
import Derived.Test.YtplfjfhpdfbpeaaDoorP4
import Derived.Test.YtplfjfhpdfbpeaaDoorP6
namespace Go.Proofs.YtplfjfhpdfbpeaaDoor
set_option linter.unusedSimpArgs false
set_option linter.unusedVariables false
open Go
/-- How many bits of a byte are set. -/
def popN (b : Nat) : Nat := (b.testBit 0).toNat + (b.testBit 1).toNat + (b.testBit 2).toNat + (b.testBit 3).toNat + (b.testBit 4).toNat + (b.testBit 5).toNat + (b.testBit 6).toNat + (b.testBit 7).toNat
theorem popN_le (b : Nat) : popN b ≤ 8 := by
  have h : ∀ k, (b.testBit k).toNat ≤ 1 := fun k => Bool.toNat_le _
  have := h 0; have := h 1; have := h 2; have := h 3; have := h 4; have := h 5; have := h 6; have := h 7
  unfold popN; omega
/-- How many bits of a row are set. -/
def onR (s : List UInt8) : Nat := (s.map fun b : UInt8 => popN b.toNat).sum
theorem onR_le : ∀ s : List UInt8, onR s ≤ 8 * s.length
  | [] => by simp [onR]
  | b :: s => by
    have h1 := onR_le s
    have h2 := popN_le b.toNat
    unfold onR at h1 ⊢
    simp only [List.map_cons, List.sum_cons, List.length_cons]
    omega
theorem onR_snoc (s : List UInt8) (b : UInt8) : onR (s ++ [b]) = onR s + popN b.toNat := by simp [onR]
theorem onR_take (s : List UInt8) (i : Nat) (h : i < s.length) : onR (s.take (i + 1)) = onR (s.take i) + popN (s.getD i 0).toNat := by
  rw [List.take_add_one, List.getElem?_eq_getElem h, Option.toList_some, onR_snoc, List.getD, List.getElem?_eq_getElem h]; rfl
/-- How often a thing holds below m. -/
def smB (f : Nat → Bool) : Nat → Nat
  | 0 => 0
  | m + 1 => smB f m + (f m).toNat
theorem smB_congr (f g : Nat → Bool) : ∀ m, (∀ q, q < m → f q = g q) → smB f m = smB g m
  | 0, _ => rfl
  | m + 1, h => by rw [smB, smB, smB_congr f g m (fun q hq => h q (by omega)), h m (by omega)]
theorem smB_add (f : Nat → Bool) (m : Nat) : ∀ n, smB f (m + n) = smB f m + smB (fun q => f (m + q)) n
  | 0 => rfl
  | n + 1 => by rw [← Nat.add_assoc, smB, smB_add f m n, smB, Nat.add_assoc]
theorem smB_or (f g : Nat → Bool) : ∀ m, smB (fun q => f q || g q) m ≤ smB f m + smB g m
  | 0 => by simp [smB]
  | m + 1 => by
    have := smB_or f g m
    simp only [smB]
    have h : (f m || g m).toNat ≤ (f m).toNat + (g m).toNat := by cases f m <;> cases g m <;> decide
    omega
theorem smB_one (p : Nat) : ∀ m, smB (fun q => decide (q = p)) m ≤ 1 ∧ (m ≤ p → smB (fun q => decide (q = p)) m = 0)
  | 0 => by simp [smB]
  | m + 1 => by
    have ⟨h1, h2⟩ := smB_one p m
    simp only [smB]
    by_cases e : m = p
    · subst e
      rw [h2 (Nat.le_refl _)]
      simp
    · simp only [e, decide_false, Bool.toNat_false, Nat.add_zero]
      exact ⟨h1, fun h => h2 (by omega)⟩
theorem smB_zero (f : Nat → Bool) : ∀ m, (smB f m = 0 ↔ ∀ q, q < m → f q = false)
  | 0 => by simp [smB]
  | m + 1 => by
    rw [smB, Nat.add_eq_zero_iff, smB_zero f m]
    constructor
    · rintro ⟨h1, h2⟩ q hq
      by_cases e : q = m
      · subst e; cases hf : f q <;> simp [hf] at h2 ⊢
      · exact h1 q (by omega)
    · intro h
      exact ⟨fun q hq => h q (by omega), by rw [h m (by omega)]; rfl⟩
theorem smB_all (f : Nat → Bool) : ∀ m, (∀ q, q < m → f q = true) → smB f m = m
  | 0, _ => rfl
  | m + 1, h => by rw [smB, smB_all f m (fun q hq => h q (by omega)), h m (by omega)]; rfl
theorem btR_cons_lo (b : UInt8) (s : List UInt8) (q : Nat) (h : q < 8) : btR (b :: s) q = b.toNat.testBit q := by
  unfold btR
  rw [Nat.div_eq_of_lt h, Nat.mod_eq_of_lt h]; rfl
theorem btR_cons_hi (b : UInt8) (s : List UInt8) (q : Nat) : btR (b :: s) (8 + q) = btR s q := by
  unfold btR
  rw [show (8 + q) / 8 = q / 8 + 1 from by omega, show (8 + q) % 8 = q % 8 from by omega]; rfl
theorem onR_eq : ∀ s : List UInt8, onR s = smB (btR s) (8 * s.length)
  | [] => rfl
  | b :: s => by
    have e : 8 * (b :: s).length = 8 + 8 * s.length := by simp only [List.length_cons]; omega
    rw [e, smB_add, smB_congr _ (btR s) _ (fun q _ => btR_cons_hi b s q), ← onR_eq s, smB_congr _ (fun q => b.toNat.testBit q) 8 (fun q hq => btR_cons_lo b s q hq)]
    simp only [onR, List.map_cons, List.sum_cons, smB, popN, Nat.zero_add]
theorem onR_st (s : List UInt8) (p : Nat) (h : p / 8 < s.length) : onR (stR s p) ≤ onR s + 1 := by
  rw [onR_eq, onR_eq, stR_len, smB_congr _ (fun q => btR s q || decide (q = p)) _ (fun q _ => btR_st s p q h)]
  have h1 := smB_or (btR s) (fun q => decide (q = p)) (8 * s.length)
  have h2 := (smB_one p (8 * s.length)).1
  omega
theorem onR_ad (n : Nat) (x : ByteArray) (s : List UInt8) (hn : 0 < n) (h : 8 * s.length = n) : ∀ k, onR (adK n x k s) ≤ onR s + k
  | 0 => Nat.le_refl _
  | k + 1 => by
    have h1 := onR_ad n x s hn h k
    have h2 := onR_st (adK n x k s) (plc n x k) (by rw [adK_len]; exact plc_in n x k s hn h)
    rw [adK]; omega
theorem onR_adL (n k : Nat) (hn : 0 < n) : ∀ (l : List ByteArray) (s : List UInt8), 8 * s.length = n → onR (adL n k l s) ≤ onR s + l.length * k
  | [], s, _ => by simp [adL]
  | x :: l, s, h => by
    show onR (adL n k l (adK n x k s)) ≤ _
    have h1 := onR_adL n k hn l (adK n x k s) (by rw [adK_len]; exact h)
    have h2 := onR_ad n x s hn h k
    rw [List.length_cons, Nat.succ_mul]; omega
theorem onR_zr (m : Nat) : onR (zrR m) = 0 := by
  rw [onR_eq, smB_zero]
  exact fun q _ => btR_zr m q
/-- So many bytes of another row joined to a row. -/
def jnK (s t : List UInt8) : Nat → List UInt8
  | 0 => s
  | i + 1 => (jnK s t i).set i (UInt8.ofNat (((jnK s t i).getD i 0).toNat ||| (t.getD i 0).toNat))
theorem jnK_len (s t : List UInt8) : ∀ i, (jnK s t i).length = s.length
  | 0 => rfl
  | i + 1 => by rw [jnK, List.length_set, jnK_len s t i]
theorem or_lt8 (a b : UInt8) : a.toNat ||| b.toNat < 256 := Nat.or_lt_two_pow (n := 8) a.toNat_lt b.toNat_lt
theorem or_toNat (a b : UInt8) : (UInt8.ofNat (a.toNat ||| b.toNat)).toNat = a.toNat ||| b.toNat := by
  rw [UInt8.toNat_ofNat']
  exact Nat.mod_eq_of_lt (or_lt8 a b)
theorem btR_jn (s t : List UInt8) (q : Nat) : ∀ i, i ≤ s.length → btR (jnK s t i) q = (btR s q || (decide (q / 8 < i) && btR t q))
  | 0, _ => by simp [jnK]
  | i + 1, h => by
    have ih := btR_jn s t q i (by omega)
    have hl := jnK_len s t i
    by_cases e : i = q / 8
    · have e1 : (jnK s t (i + 1)).getD (q / 8) 0 = UInt8.ofNat (((jnK s t i).getD i 0).toNat ||| (t.getD i 0).toNat) := by
        rw [jnK, ← e]
        have : i < (jnK s t i).length := by omega
        simp [List.getD, this]
      unfold btR at ih ⊢
      rw [e1, or_toNat, Nat.testBit_or]
      rw [← e] at ih ⊢
      rw [ih]
      simp
    · have e1 : (jnK s t (i + 1)).getD (q / 8) 0 = (jnK s t i).getD (q / 8) 0 := by
        rw [jnK]
        simp [List.getD, List.getElem?_set, e]
      unfold btR at ih ⊢
      rw [e1, ih]
      have : (q / 8 < i + 1) ↔ (q / 8 < i) := by omega
      simp [this]
/-- Two rows joined. -/
def jnR (s t : List UInt8) : List UInt8 := jnK s t t.length
theorem jnR_len (s t : List UInt8) : (jnR s t).length = s.length := jnK_len s t _
theorem btR_far (t : List UInt8) (q : Nat) (h : ¬ q / 8 < t.length) : btR t q = false := by
  unfold btR
  rw [List.getD, List.getElem?_eq_none (by omega)]; simp
theorem btR_jnR (s t : List UInt8) (q : Nat) (h : s.length = t.length) : btR (jnR s t) q = (btR s q || btR t q) := by
  rw [jnR, btR_jn s t q t.length (by omega)]
  by_cases e : q / 8 < t.length
  · simp [e]
  · rw [btR_far t q e]; simp
/-- A short number's bytes. -/
def e8f (n : Nat) : List UInt8 := bl (sb (encS n))
theorem num_split14 {s : ByteArray} (hk : shK s ≠ 0) : bl s = e8f (shN s) ++ bl (s.extract (shK s) s.size) := by
  have h := sh_again s hk
  have hl := shK_le s
  rw [e8f, h]
  show s.data.toList = _ ++ _
  have e1 : bl (s.extract 0 (shK s)) = (bl s).take (shK s) := extract_take s _ hl
  have e2 : bl (s.extract (shK s) s.size) = (bl s).drop (shK s) := by
    unfold bl
    rw [ByteArray.data_extract, Array.toList_extract]
    have : s.data.toList.length = s.size := by rw [Array.length_toList]; rfl
    simp only [List.extract_eq_take_drop]
    rw [List.take_of_length_le (by rw [List.length_drop]; omega)]
  rw [e1, e2, List.take_append_drop]; rfl
theorem num_front14 {s : ByteArray} {m : Nat} {r : List UInt8} (hm : m < 2 ^ 64) (h : bl s = e8f m ++ r) : shK s ≠ 0 ∧ shN s = m ∧ bl (s.extract (shK s) s.size) = r := by
  have e : s = sb (encS m) ++ ⟨r.toArray⟩ := by
    apply bl_inj
    rw [h, e8f]
    simp [bl]
  have h1 := sh_enc m s _ hm e
  have hk : shK s ≠ 0 := by
    rw [h1.2]
    have := slen_pos m
    omega
  refine ⟨hk, h1.1, ?_⟩
  have h2 := num_split14 hk
  rw [h1.1, h] at h2
  exact (List.append_cancel_left h2).symm
/-- A filter's bytes. -/
def IsF (S : ByteArray) (n k : Nat) (s : List UInt8) : Prop := okF n k ∧ 8 * s.length = n ∧ bl S = [77, 66, 70, 49] ++ (e8f n ++ (e8f k ++ s))
theorem bl_drop (S : ByteArray) (m : Nat) : bl (S.extract m S.size) = (bl S).drop m := by
  unfold bl
  rw [ByteArray.data_extract, Array.toList_extract]
  have : S.data.toList.length = S.size := by rw [Array.length_toList]; rfl
  simp only [List.extract_eq_take_drop]
  rw [List.take_of_length_le (by rw [List.length_drop]; omega)]
/-- What is read of a filter's bytes. -/
theorem IsF.read {S : ByteArray} {n k : Nat} {s : List UInt8} (h : IsF S n k s) (R T : ByteArray) (hR : R = S.extract 4 S.size) (hT : T = R.extract (shK R) R.size) :
    (bl S).take 4 = [77, 66, 70, 49] ∧ shK R ≠ 0 ∧ shN R = n ∧ shK T ≠ 0 ∧ shN T = k ∧ bl (T.extract (shK T) T.size) = s := by
  obtain ⟨h1, h2, h3⟩ := h
  have hn := okF_le h1
  have hk := h1.2.2
  have hb : bl R = e8f n ++ (e8f k ++ s) := by rw [hR, bl_drop, h3]; rfl
  obtain ⟨a1, a2, a3⟩ := num_front14 (by omega) hb
  rw [← hT] at a3
  obtain ⟨b1, b2, b3⟩ := num_front14 (by omega) a3
  exact ⟨by rw [h3]; rfl, a1, a2, b1, b2, b3⟩
theorem IsF.made {S R T : ByteArray} (hR : R = S.extract 4 S.size) (hT : T = R.extract (shK R) R.size) (h4 : (bl S).take 4 = [77, 66, 70, 49]) (a1 : shK R ≠ 0) (b1 : shK T ≠ 0) (ho : okF (shN R) (shN T)) (hl : 8 * (T.extract (shK T) T.size).size = shN R) :
    IsF S (shN R) (shN T) (bl (T.extract (shK T) T.size)) := by
  refine ⟨ho, by rw [bl_length]; exact hl, ?_⟩
  have e1 := num_split14 a1
  have e2 := num_split14 b1
  rw [← hT, e2, hR, bl_drop] at e1
  rw [← hR] at e1
  rw [← h4, ← e1, List.take_append_drop]
theorem IsF.one {S : ByteArray} {n k n' k' : Nat} {s s' : List UInt8} (h : IsF S n k s) (h' : IsF S n' k' s') : n = n' ∧ k = k' ∧ s = s' := by
  have a := h.read _ _ rfl rfl
  have b := h'.read _ _ rfl rfl
  exact ⟨a.2.2.1.symm.trans b.2.2.1, a.2.2.2.2.1.symm.trans b.2.2.2.2.1, a.2.2.2.2.2.symm.trans b.2.2.2.2.2⟩
theorem IsF.same {S S' : ByteArray} {n k : Nat} {s : List UInt8} (h : IsF S n k s) (h' : IsF S' n k s) : S = S' := bl_inj (h.2.2.trans h'.2.2.symm)
/-- A filter, as bytes. -/
def enF (n k : Nat) (s : List UInt8) : ByteArray := (⟨#[77, 66, 70, 49]⟩ ++ sb (encS n)) ++ sb (encS k) ++ ⟨s.toArray⟩
theorem enF_is {n k : Nat} {s : List UInt8} (h : okF n k) (hl : 8 * s.length = n) : IsF (enF n k s) n k s := ⟨h, hl, by simp [enF, bl, e8f]⟩
theorem IsF.eq {S : ByteArray} {n k : Nat} {s : List UInt8} (h : IsF S n k s) : S = enF n k s := h.same (enF_is h.1 h.2.1)
end Go.Proofs.YtplfjfhpdfbpeaaDoor
