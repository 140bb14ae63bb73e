/- How a text that is shown begins. -/
import Derived.Test.YtobecfeelamlmaaDoorP17
namespace Go.Proofs.YtobecfeelamlmaaDoor
open Go.Lib
set_option linter.unusedSimpArgs false
set_option linter.unusedVariables false
theorem hx_2 (b : Nat) (h1 : 16 ≤ b) (h2 : b < 256) : hx b = [hxd (b / 16), hxd (b % 16)] := by
  rw [hx_big (by omega), hx_small (by omega)]; rfl
/-- How many bytes a text's front has. -/
def fwd (x : List UInt8) : Nat := (decodeL x).2
/-- The ways in which the text x, shown, begins. -/
inductive Beg (x : List UInt8) (s : List UInt8) : Prop
  | plain (c : UInt8) (h1 : c ≠ 92) (h2 : 32 ≤ c.toNat) (h3 : c.toNat ≤ 126) (h4 : x.take (fwd x) = [c]) (h5 : s = c :: sh (x.drop (fwd x)))
  | bs (h4 : x.take (fwd x) = [92]) (h5 : s = 92 :: 92 :: sh (x.drop (fwd x)))
  | byte (b : UInt8) (h1 : 128 ≤ b.toNat) (h4 : x.take (fwd x) = [b]) (h5 : s = 92 :: 120 :: hxd (b.toNat / 16) :: hxd (b.toNat % 16) :: sh (x.drop (fwd x)))
  | rune (r : Nat) (h1 : r ≤ 1114111) (h2 : scal r) (h4 : x.take (fwd x) = encR r) (h5 : s = 92 :: 117 :: (hx r ++ 59 :: sh (x.drop (fwd x))))
theorem sh_beg (x : List UInt8) (hne : x ≠ []) : Beg x (sh x) := by
  obtain ⟨c, t, rfl⟩ : ∃ c t, x = c :: t := by
    cases x with
    | nil => contradiction
    | cons c t => exact ⟨c, t, rfl⟩
  have hs := sh_step (c :: t) hne
  cases hb : badF (c :: t) with
  | true =>
    obtain ⟨hbig, h65⟩ := bad_big c t hb
    have hk : (decodeL (c :: t)).2 = 1 := by
      unfold badF at hb
      simp only [decide_eq_true_eq] at hb
      exact hb.2
    refine .byte c hbig (by unfold fwd; rw [hk]; rfl) ?_
    rw [hs]
    unfold shF fwd
    rw [hb]
    simp only [if_true, List.headD_cons]
    rw [hx_2 c.toNat (by omega) c.toNat_lt]
    rfl
  | false =>
    have he := enc_dec (c :: t) hne (by
      unfold badF at hb
      simpa only [decide_eq_false_iff_not] using hb)
    have hr := decodeL_rune (c :: t)
    have hsc := dec_scal (c :: t)
    have hF : shF (c :: t) = shR (decodeL (c :: t)).1 := by
      unfold shF; rw [hb]; rfl
    rw [hF] at hs
    have hs' : sh (c :: t) = shR (decodeL (c :: t)).1 ++ sh ((c :: t).drop (fwd (c :: t))) := hs
    have he' : encR (decodeL (c :: t)).1 = (c :: t).take (fwd (c :: t)) := he
    generalize (decodeL (c :: t)).1 = r at hs' he' hr hsc
    by_cases h92 : r = 92
    · refine .bs ?_ ?_
      · rw [← he', h92]; decide +kernel
      · rw [hs', h92]; rfl
    · by_cases hp : 32 ≤ r ∧ r ≤ 126
      · refine .plain r.toUInt8 ?_ ?_ ?_ ?_ ?_
        · intro e
          have := congrArg UInt8.toNat e
          rw [u8n r (by omega)] at this
          exact h92 (by simpa using this)
        · rw [u8n r (by omega)]; exact hp.1
        · rw [u8n r (by omega)]; exact hp.2
        · rw [← he', encR_1 (by omega)]
        · rw [hs', shR, if_neg h92, if_pos hp]; rfl
      · refine .rune r hr hsc he'.symm ?_
        rw [hs', shR, if_neg h92, if_neg hp]
        simp
theorem fwd_pos (x : List UInt8) (hne : x ≠ []) : 1 ≤ fwd x ∧ fwd x ≤ x.length := ⟨decodeL_width x, decodeL_le x hne⟩
theorem sh_ne (x : List UInt8) (hne : x ≠ []) : sh x ≠ [] := by
  intro e
  have := sh_beg x hne
  rw [e] at this
  cases this <;> contradiction
theorem sh_nil_iff (x : List UInt8) (h : sh x = []) : x = [] := by
  by_cases hne : x = []
  · exact hne
  · exact absurd h (sh_ne x hne)
/-- Under way: what was read, pre, and what is left, s, are so for every text that may be shown so. -/
def Way (S pre s : List UInt8) : Prop := ∀ x, S = sh x → ∃ x2, x = pre ++ x2 ∧ s = sh x2
theorem way_start (S : List UInt8) : Way S [] S := fun x h => ⟨x, rfl, h⟩
/-- One step: if a front is told, it is the right one. -/
def Tak (s p b : List UInt8) (ok : Bool) : Prop := ∀ x, x ≠ [] → s = sh x → ok = true ∧ p = x.take (fwd x) ∧ b = sh (x.drop (fwd x))
theorem way_step {S pre s p b : List UInt8} (hw : Way S pre s) (hs : s ≠ []) (ht : Tak s p b true) : Way S (pre ++ p) b := by
  intro x hx
  obtain ⟨x2, h1, h2⟩ := hw x hx
  have hne : x2 ≠ [] := by
    intro e; subst e; exact hs h2
  obtain ⟨_, h3, h4⟩ := ht x2 hne h2
  exact ⟨x2.drop (fwd x2), by rw [h1, h3, List.append_assoc, List.take_append_drop], h4⟩
theorem way_stop {S pre s p b : List UInt8} (hw : Way S pre s) (hs : s ≠ []) (ht : Tak s p b false) : ∀ x, S ≠ sh x := by
  intro x hx
  obtain ⟨x2, h1, h2⟩ := hw x hx
  have hne : x2 ≠ [] := by
    intro e; subst e; exact hs h2
  have := (ht x2 hne h2).1
  contradiction
theorem way_end {S pre : List UInt8} (hw : Way S pre []) : ∀ x, S = sh x → x = pre := by
  intro x hx
  obtain ⟨x2, h1, h2⟩ := hw x hx
  have := sh_nil_iff x2 h2.symm
  rw [h1, this, List.append_nil]
/-- What a reader answers: the text, or nothing. -/
def RdA (S : List UInt8) (t : List UInt8) (ok : Bool) : Prop := (ok = true ∧ S = sh t) ∨ (ok = false ∧ ∀ x, S ≠ sh x)
theorem way_same {S pre : List UInt8} (hw : Way S pre []) (h : sh pre = S) : RdA S pre true := .inl ⟨rfl, h.symm⟩
theorem way_unlike {S pre : List UInt8} (hw : Way S pre []) (h : sh pre ≠ S) : ∀ x, S ≠ sh x := by
  intro x hx
  have := way_end hw x hx
  subst this
  exact h hx.symm
end Go.Proofs.YtobecfeelamlmaaDoor
