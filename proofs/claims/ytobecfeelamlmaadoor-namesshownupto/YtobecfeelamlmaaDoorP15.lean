/- Runes written as bytes and read again. -/
import Derived.Test.YtobecfeelamlmaaDoorP13
namespace Go.Proofs.YtobecfeelamlmaaDoor
open Go.Lib
set_option linter.unusedSimpArgs false
set_option linter.unusedVariables false
/-- A number that is a rune's. -/
def scal (r : Nat) : Prop := r < 55296 ∨ (57344 ≤ r ∧ r ≤ 1114111)
theorem u8n (n : Nat) (h : n < 256) : (n.toUInt8).toNat = n := by simp [Nat.toUInt8, UInt8.toNat_ofNat]; omega
def encR (r : Nat) : List UInt8 := encodeRune (r : Int)
theorem encR_1 {r : Nat} (h : r < 128) : encR r = [r.toUInt8] := by
  unfold encR encodeRune
  rw [encodeRuneZ_one (by omega) (by omega)]
  simp
theorem encR_2 {r : Nat} (h0 : 128 ≤ r) (h : r < 2048) : encR r = [(192 + r / 64).toUInt8, (128 + r % 64).toUInt8] := by
  unfold encR encodeRune
  rw [encodeRuneZ_two (by omega) (by omega)]
  have e1 : (192 + (r : Int) / 64).toNat = 192 + r / 64 := by omega
  have e2 : (128 + (r : Int) % 64).toNat = 128 + r % 64 := by omega
  simp only [List.map_cons, List.map_nil, e1, e2]
theorem encR_3 {r : Nat} (h0 : 2048 ≤ r) (h : r < 65536) (hs : scal r) : encR r = [(224 + r / 4096).toUInt8, (128 + r / 64 % 64).toUInt8, (128 + r % 64).toUInt8] := by
  unfold encR encodeRune
  unfold scal at hs
  rw [encodeRuneZ_three (by omega)]
  have e1 : (224 + (r : Int) / 4096).toNat = 224 + r / 4096 := by omega
  have e2 : (128 + (r : Int) / 64 % 64).toNat = 128 + r / 64 % 64 := by omega
  have e3 : (128 + (r : Int) % 64).toNat = 128 + r % 64 := by omega
  simp only [List.map_cons, List.map_nil, e1, e2, e3]
theorem encR_4 {r : Nat} (h0 : 65536 ≤ r) (h : r ≤ 1114111) : encR r = [(240 + r / 262144).toUInt8, (128 + r / 4096 % 64).toUInt8, (128 + r / 64 % 64).toUInt8, (128 + r % 64).toUInt8] := by
  unfold encR encodeRune
  rw [encodeRuneZ_four (by omega) (by omega)]
  have e1 : (240 + (r : Int) / 262144).toNat = 240 + r / 262144 := by omega
  have e2 : (128 + (r : Int) / 4096 % 64).toNat = 128 + r / 4096 % 64 := by omega
  have e3 : (128 + (r : Int) / 64 % 64).toNat = 128 + r / 64 % 64 := by omega
  have e4 : (128 + (r : Int) % 64).toNat = 128 + r % 64 := by omega
  simp only [List.map_cons, List.map_nil, e1, e2, e3, e4]
/-- What was written is read. -/
theorem dec_enc (r : Nat) (hs : scal r) (t : List UInt8) : decodeL (encR r ++ t) = (r, (encR r).length) := by
  rw [decodeL_N]
  by_cases h1 : r < 128
  · rw [encR_1 h1]
    simp only [List.cons_append, List.nil_append, List.getD_cons_zero, u8n r (by omega)]
    rw [decodeN_ascii _ _ _ _ _ h1]; rfl
  by_cases h2 : r < 2048
  · rw [encR_2 (by omega) h2]
    simp only [List.cons_append, List.nil_append, List.getD_cons_zero, List.getD_cons_succ, List.length_cons, u8n (192 + r / 64) (by omega), u8n (128 + r % 64) (by omega)]
    unfold decodeN
    rw [if_neg (by omega), if_pos (by omega), if_pos (by omega)]
    refine Prod.ext ?_ rfl
    show (192 + r / 64) % 32 * 64 + (128 + r % 64) % 64 = r
    omega
  by_cases h3 : r < 65536
  · rw [encR_3 (by omega) h3 hs]
    unfold scal at hs
    simp only [List.cons_append, List.nil_append, List.getD_cons_zero, List.getD_cons_succ, List.length_cons, u8n (224 + r / 4096) (by omega), u8n (128 + r / 64 % 64) (by omega), u8n (128 + r % 64) (by omega)]
    unfold decodeN
    have e : (224 + r / 4096) % 16 * 4096 + (128 + r / 64 % 64) % 64 * 64 + (128 + r % 64) % 64 = r := by omega
    rw [if_neg (by omega), if_neg (by omega), if_pos (by omega), e, if_pos (by omega)]
    rfl
  · unfold scal at hs
    rw [encR_4 (by omega) (by omega)]
    simp only [List.cons_append, List.nil_append, List.getD_cons_zero, List.getD_cons_succ, List.length_cons, u8n (240 + r / 262144) (by omega), u8n (128 + r / 4096 % 64) (by omega), u8n (128 + r / 64 % 64) (by omega), u8n (128 + r % 64) (by omega)]
    unfold decodeN
    have e : (240 + r / 262144) % 8 * 262144 + (128 + r / 4096 % 64) % 64 * 4096 + (128 + r / 64 % 64) % 64 * 64 + (128 + r % 64) % 64 = r := by omega
    rw [if_neg (by omega), if_neg (by omega), if_neg (by omega), if_pos (by omega), e, if_pos (by omega)]
    rfl
theorem encR_ne (r : Nat) : encR r ≠ [] := by
  have := encodeRuneZ_length (r : Int)
  intro e
  have h := congrArg List.length e
  simp [encR, encodeRune] at h
  rw [h] at this
  simp at this
theorem encR_len (r : Nat) : 1 ≤ (encR r).length ∧ (encR r).length ≤ 4 := by
  have := encodeRuneZ_length (r : Int)
  simpa [encR, encodeRune] using this
/-- A whole rune that was read is a rune's number. -/
theorem dec_scal (l : List UInt8) : scal (decodeL l).1 := by
  rw [decodeL_N]
  have h0 := (l.getD 0 0).toNat_lt
  unfold decodeN scal
  repeat' split
  all_goals (simp only; omega)
theorem enc_dec (l : List UInt8) (hne : l ≠ []) (hv : ¬ ((decodeL l).1 = 65533 ∧ (decodeL l).2 = 1)) : encR (decodeL l).1 = l.take (decodeL l).2 := encode_decode l hne hv
/-- All the runes, written. -/
def encs (rs : List Nat) : List UInt8 := rs.flatMap encR
theorem encs_rn (l : List UInt8) : ∀ n, l.length ≤ n → validD l = true → encs (rn l) = l := by
  intro n
  induction n generalizing l with
  | zero => intro h _; obtain rfl : l = [] := List.eq_nil_of_length_eq_zero (by omega); rfl
  | succ n ih =>
    intro h hv
    by_cases hne : l = []
    · subst hne; rfl
    · have hw := decodeL_width l
      rw [validD_step l hne] at hv
      split at hv
      · cases hv
      · rename_i hbad
        rw [rn_step l hne]
        show encR (decodeL l).1 ++ encs (rn (l.drop (decodeL l).2)) = l
        rw [ih _ (by rw [List.length_drop]; omega) hv, enc_dec l hne hbad, List.take_append_drop]
theorem valid_encs : ∀ rs : List Nat, (∀ r ∈ rs, scal r) → validD (encs rs) = true ∧ rn (encs rs) = rs
  | [], _ => ⟨rfl, rfl⟩
  | r :: rs, h => by
    obtain ⟨h1, h2⟩ := valid_encs rs (fun x hx => h x (by simp [hx]))
    have hne : encR r ++ encs rs ≠ [] := by simp [encR_ne]
    have hd := dec_enc r (h r (by simp)) (encs rs)
    have hl := encR_len r
    constructor
    · show validD (encR r ++ encs rs) = true
      rw [validD_step _ hne, hd]
      simp only [List.drop_left, h1]
      split
      · rename_i hb
        obtain ⟨rfl, hb⟩ := hb
        exact absurd hb (by decide +kernel)
      · rfl
    · show rn (encR r ++ encs rs) = r :: rs
      rw [rn_step _ hne, hd]
      simp only [List.drop_left, h2]
theorem rn_scal (l : List UInt8) : ∀ n, l.length ≤ n → ∀ r ∈ rn l, scal r := by
  intro n
  induction n generalizing l with
  | zero => intro h; obtain rfl : l = [] := List.eq_nil_of_length_eq_zero (by omega); intro r hr; cases hr
  | succ n ih =>
    intro h r hr
    by_cases hne : l = []
    · subst hne; cases hr
    · have hw := decodeL_width l
      rw [rn_step l hne] at hr
      rcases List.mem_cons.1 hr with rfl | hr
      · exact dec_scal l
      · exact ih _ (by rw [List.length_drop]; omega) r hr
end Go.Proofs.YtobecfeelamlmaaDoor
