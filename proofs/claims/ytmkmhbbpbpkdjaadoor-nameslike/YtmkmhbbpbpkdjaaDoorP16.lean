/- Patterns of a name's own runes; stars twice. -/
import Derived.Test.YtmkmhbbpbpkdjaaDoorP15
import Derived.Test.YtmkmhbbpbpkdjaaDoorN6
namespace Go.Proofs.YtmkmhbbpbpkdjaaDoor
open Go.Lib
set_option linter.unusedSimpArgs false
set_option linter.unusedVariables false
/-- Neither ? nor *. -/
def plainR (rs : List Nat) : Bool := rs.all fun r => r != 63 && r != 42
theorem like_set : ∀ (rs : List Nat) (i : Nat), (∀ r ∈ rs, r ≠ 42) → like (rs.set i 63) rs = true
  | [], _, _ => by simp [like_nil]
  | r :: rs, 0, h => by
    rw [List.set_cons_zero, like_one _ _ _ _ (by decide)]
    have : like rs rs = true := by
      have := like_set rs rs.length (fun x hx => h x (by simp [hx]))
      rwa [List.set_eq_of_length_le (Nat.le_refl _)] at this
    simp [this]
  | r :: rs, i + 1, h => by
    rw [List.set_cons_succ, like_one _ _ _ _ (h r (by simp)), like_set rs i (fun x hx => h x (by simp [hx]))]
    simp
theorem like_self (rs : List Nat) (h : ∀ r ∈ rs, r ≠ 42) : like rs rs = true := by
  have := like_set rs rs.length h
  rwa [List.set_eq_of_length_le (Nat.le_refl _)] at this
theorem like_any : ∀ n : List Nat, like [42] n = true
  | [] => by rw [like_star_nil, like_nil]; rfl
  | x :: t => by rw [like_star, like_any t]; simp
/-- Every star twice. -/
def dblR (p : List Nat) : List Nat := p.flatMap fun r => if r = 42 then [42, 42] else [r]
def dblB (l : List UInt8) : List UInt8 := l.flatMap fun b => if b = 42 then [42, 42] else [b]
theorem star_star (p : List Nat) : ∀ n : List Nat, like (42 :: 42 :: p) n = like (42 :: p) n
  | [] => by rw [like_star_nil]
  | x :: t => by
    rw [like_star (42 :: p) x t, star_star p t, like_star p x t]
    cases like p (x :: t) <;> cases like (42 :: p) t <;> rfl
theorem like_dbl : ∀ (k : Nat) (p n : List Nat), p.length + n.length ≤ k → like (dblR p) n = like p n
  | _, [], n, _ => rfl
  | 0, _ :: _, _, h => by simp at h
  | k + 1, c :: p, n, h => by
    simp only [List.length_cons] at h
    by_cases hc : c = 42
    · subst hc
      show like (42 :: 42 :: dblR p) n = like (42 :: p) n
      rw [star_star]
      have key : ∀ m : List Nat, p.length + m.length ≤ k → like (42 :: dblR p) m = like (42 :: p) m := by
        intro m
        induction m with
        | nil => intro hm; rw [like_star_nil, like_star_nil]; exact like_dbl k p [] hm
        | cons x t ih =>
          intro hm
          rw [like_star, like_star, like_dbl k p (x :: t) hm, ih (by simp at hm; omega)]
      exact key n (by omega)
    · have e : dblR (c :: p) = c :: dblR p := by simp [dblR, hc]
      rw [e]
      cases n with
      | nil => rw [like_one_nil _ _ hc, like_one_nil _ _ hc]
      | cons x t => rw [like_one _ _ _ _ hc, like_one _ _ _ _ hc, like_dbl k p t (by simp at h; omega)]
theorem dblB_app (a b : List UInt8) : dblB (a ++ b) = dblB a ++ dblB b := by simp [dblB]
theorem dblB_high : ∀ l : List UInt8, (∀ b ∈ l, 128 ≤ b.toNat) → dblB l = l
  | [], _ => rfl
  | b :: l, h => by
    have hb : b ≠ 42 := fun e => by have := h b (by simp); rw [e] at this; exact absurd this (by decide)
    show (if b = 42 then [42, 42] else [b]) ++ dblB l = b :: l
    rw [if_neg hb, dblB_high l (fun x hx => h x (by simp [hx]))]
    rfl
theorem encR_high (r : Nat) (h : 128 ≤ r) (hs : scal r) : ∀ b ∈ encR r, 128 ≤ b.toNat := by
  unfold scal at hs
  by_cases h2 : r < 2048
  · rw [encR_2 h h2]
    intro b hb
    simp only [List.mem_cons, List.mem_nil_iff, or_false] at hb
    rcases hb with rfl | rfl <;> rw [u8n _ (by omega)] <;> omega
  by_cases h3 : r < 65536
  · rw [encR_3 (by omega) h3 hs]
    intro b hb
    simp only [List.mem_cons, List.mem_nil_iff, or_false] at hb
    rcases hb with rfl | rfl | rfl <;> rw [u8n _ (by omega)] <;> omega
  · rw [encR_4 (by omega) (by omega)]
    intro b hb
    simp only [List.mem_cons, List.mem_nil_iff, or_false] at hb
    rcases hb with rfl | rfl | rfl | rfl <;> rw [u8n _ (by omega)] <;> omega
theorem dblB_enc (r : Nat) (hs : scal r) : dblB (encR r) = encs (if r = 42 then [42, 42] else [r]) := by
  by_cases h : r < 128
  · by_cases h42 : r = 42
    · subst h42; decide +kernel
    · rw [if_neg h42, encR_1 h]
      have hb : r.toUInt8 ≠ 42 := fun e => h42 (by have := congrArg UInt8.toNat e; rw [u8n r (by omega)] at this; exact this)
      show (if r.toUInt8 = 42 then [42, 42] else [r.toUInt8]) ++ [] = encR r ++ []
      rw [if_neg hb, encR_1 h]
  · rw [if_neg (by omega), dblB_high _ (encR_high r (by omega) hs)]
    show _ = encR r ++ []
    rw [List.append_nil]
theorem dblB_encs : ∀ rs : List Nat, (∀ r ∈ rs, scal r) → dblB (encs rs) = encs (dblR rs)
  | [], _ => rfl
  | r :: rs, h => by
    show dblB (encR r ++ encs rs) = encs ((if r = 42 then [42, 42] else [r]) ++ dblR rs)
    rw [dblB_app, dblB_enc r (h r (by simp)), dblB_encs rs (fun x hx => h x (by simp [hx]))]
    simp [encs]
theorem dblR_scal (rs : List Nat) (h : ∀ r ∈ rs, scal r) : ∀ r ∈ dblR rs, scal r := by
  intro r hr
  simp only [dblR, List.mem_flatMap] at hr
  obtain ⟨x, hx, hr⟩ := hr
  split at hr
  · simp at hr; subst hr; exact .inl (by decide)
  · simp at hr; subst hr; exact h r hx
theorem rn_dbl (l : List UInt8) (hv : validD l = true) : rn (dblB l) = dblR (rn l) := by
  have hs := rn_scal l l.length (Nat.le_refl _)
  have e := encs_rn l l.length (Nat.le_refl _) hv
  conv => lhs; rw [← e]
  rw [dblB_encs _ hs]
  exact (valid_encs _ (dblR_scal _ hs)).2
theorem encs_set (x : Nat) (hx : (encR x).length = 1) : ∀ (rs : List Nat) (i : Nat), (encs (rs.set i x)).length ≤ (encs rs).length
  | [], _ => by simp
  | r :: rs, 0 => by
    show (encR x ++ encs rs).length ≤ (encR r ++ encs rs).length
    have := encR_len r
    simp; omega
  | r :: rs, i + 1 => by
    show (encR r ++ encs (rs.set i x)).length ≤ (encR r ++ encs rs).length
    have := encs_set x hx rs i
    simp; omega
/-- What Match answers of a name that may be. -/
theorem mt_ok {p n : List UInt8} (hn : okN n = true) (hp : wholeB p = true) : mtE p n = 0 ∧ mtB p n = like (rn p) (rn n) := by
  unfold mtE mtB rnE
  rw [hn, hp]
  exact ⟨rfl, by simp⟩
theorem ok_whole {n : List UInt8} (hn : okN n = true) : wholeB n = true := by
  obtain ⟨h1, h2, _⟩ := okN_split hn
  unfold wholeB
  rw [decide_eq_true h1, h2]; rfl
theorem mt_star {n : List UInt8} (hn : okN n = true) : mtE [42] n = 0 ∧ mtB [42] n = true := by
  have h := mt_ok hn (p := [42]) (by decide +kernel)
  refine ⟨h.1, ?_⟩
  rw [h.2, show rn [42] = [42] from by decide +kernel, like_any]
theorem mt_star_bad {n : List UInt8} (hn : okN n = false) : mtE [42] n = 10 := by
  unfold mtE rnE
  rw [show wholeB [42] = true from by decide +kernel, hn]
  rfl
theorem plainR_ne {rs : List Nat} (h : plainR rs = true) : ∀ r ∈ rs, r ≠ 42 := by
  intro r hr
  have := List.all_eq_true.1 h r hr
  simp at this
  exact this.2
theorem mt_asked {n : List UInt8} (hn : okN n = true) (i : Nat) : mtE (encs ((rn n).set i 63)) n = 0 ∧ (plainR (rn n) = true → mtB (encs ((rn n).set i 63)) n = true) := by
  obtain ⟨h1, h2, _⟩ := okN_split hn
  have hs := rn_scal n n.length (Nat.le_refl _)
  have hs' : ∀ r ∈ (rn n).set i 63, scal r := fun r hr => by
    rcases List.mem_or_eq_of_mem_set hr with h | h
    · exact hs r h
    · subst h; exact .inl (by decide)
  obtain ⟨v1, v2⟩ := valid_encs _ hs'
  have hl := encs_set 63 (by decide +kernel) (rn n) i
  rw [encs_rn n n.length (Nat.le_refl _) h2] at hl
  have hw : wholeB (encs ((rn n).set i 63)) = true := by
    unfold wholeB
    rw [decide_eq_true (by omega), v1]; rfl
  have h := mt_ok hn hw
  refine ⟨h.1, fun hp => ?_⟩
  rw [h.2, v2]
  exact like_set _ _ (plainR_ne hp)
theorem mt_self {n : List UInt8} (hn : okN n = true) : mtE n n = 0 ∧ (plainR (rn n) = true → mtB n n = true) := by
  have h := mt_ok hn (ok_whole hn)
  exact ⟨h.1, fun hp => by rw [h.2]; exact like_self _ (plainR_ne hp)⟩
theorem mt_twice {p n : List UInt8} (hn : okN n = true) (h1 : mtE p n = 0) (h2 : mtE (dblB p) n = 0) : mtB p n = mtB (dblB p) n := by
  have w1 : wholeB p = true := by
    cases hw : wholeB p with
    | true => rfl
    | false => unfold mtE at h1; rw [hw] at h1; simp at h1
  have w2 : wholeB (dblB p) = true := by
    cases hw : wholeB (dblB p) with
    | true => rfl
    | false => unfold mtE at h2; rw [hw] at h2; simp at h2
  have hv : validD p = true := by unfold wholeB at w1; rw [Bool.and_eq_true] at w1; exact w1.2
  rw [(mt_ok hn w1).2, (mt_ok hn w2).2, rn_dbl p hv, like_dbl _ _ _ (Nat.le_refl _)]
end Go.Proofs.YtmkmhbbpbpkdjaaDoor
