/- Texts as runes: what a range over a text meets; names that may be; patterns. -/
import Derived.Lib.ValidLaws
import Derived.Lib.RuneBytes
import Derived.Lib.MapLaws
namespace Go.Proofs.YtjnijcmalnckcaaDoor
open Go.Lib
set_option linter.unusedSimpArgs false
set_option linter.unusedVariables false
def rnG : Nat → List UInt8 → List Nat
  | 0, _ => []
  | n + 1, l => if l = [] then [] else (decodeL l).1 :: rnG n (l.drop (decodeL l).2)
/-- The runes that a range over the text meets. -/
def rn (l : List UInt8) : List Nat := rnG l.length l
theorem rnG_nil : ∀ n, rnG n [] = []
  | 0 => rfl
  | _ + 1 => by simp [rnG]
theorem rnG_fuel : ∀ (n m : Nat) (l : List UInt8), l.length ≤ n → l.length ≤ m → rnG n l = rnG m l
  | 0, m, l, hn, _ => by
    obtain rfl : l = [] := List.eq_nil_of_length_eq_zero (by omega)
    rw [rnG_nil, rnG_nil]
  | n + 1, 0, l, _, hm => by
    obtain rfl : l = [] := List.eq_nil_of_length_eq_zero (by omega)
    rw [rnG_nil, rnG_nil]
  | n + 1, m + 1, l, hn, hm => by
    unfold rnG
    by_cases hne : l = []
    · simp [hne]
    · have hw := decodeL_width l
      have hl : 0 < l.length := List.length_pos_iff.2 hne
      rw [if_neg hne, if_neg hne, rnG_fuel n m (l.drop (decodeL l).2) (by rw [List.length_drop]; omega) (by rw [List.length_drop]; omega)]
theorem rn_nil : rn [] = [] := rfl
theorem rn_step (l : List UInt8) (hne : l ≠ []) : rn l = (decodeL l).1 :: rn (l.drop (decodeL l).2) := by
  have hl : 0 < l.length := List.length_pos_iff.2 hne
  have hw := decodeL_width l
  obtain ⟨n, hn⟩ : ∃ n, l.length = n + 1 := ⟨l.length - 1, by omega⟩
  unfold rn
  rw [hn]
  show (if l = [] then [] else _) = _
  rw [if_neg hne, rnG_fuel n (l.drop (decodeL l).2).length _ (by rw [List.length_drop]; omega) (Nat.le_refl _)]
theorem rn_ne (l : List UInt8) (hne : l ≠ []) : rn l ≠ [] := by rw [rn_step l hne]; simp
theorem rn_len (l : List UInt8) : ∀ n, l.length ≤ n → (rn l).length ≤ l.length := by
  intro n
  induction n generalizing l with
  | zero => intro h; obtain rfl : l = [] := List.eq_nil_of_length_eq_zero (by omega); exact Nat.le_refl _
  | succ n ih =>
    intro h
    by_cases hne : l = []
    · subst hne; exact Nat.le_refl _
    · have hw := decodeL_width l
      have hl := decodeL_le l hne
      rw [rn_step l hne, List.length_cons]
      have := ih (l.drop (decodeL l).2) (by rw [List.length_drop]; omega)
      rw [List.length_drop] at this
      omega
theorem rn_le (l : List UInt8) : (rn l).length ≤ l.length := rn_len l _ (Nat.le_refl _)
theorem rn_rune (l : List UInt8) : ∀ n, l.length ≤ n → ∀ r ∈ rn l, r ≤ 1114111 := by
  intro n
  induction n generalizing l with
  | zero => intro h; obtain rfl : l = [] := List.eq_nil_of_length_eq_zero (by omega); intro r hr; cases hr
  | succ n ih =>
    intro h r hr
    by_cases hne : l = []
    · subst hne; cases hr
    · have hw := decodeL_width l
      have hl := decodeL_le l hne
      rw [rn_step l hne] at hr
      rcases List.mem_cons.1 hr with rfl | hr
      · exact decodeL_rune l
      · exact ih (l.drop (decodeL l).2) (by rw [List.length_drop]; omega) r hr
/-- A rune that may stand in a name. -/
def goodR (r : Nat) : Bool := !(decide (r < 32)) && r != 127 && r != 47
/-- A name that may be. -/
def okN (l : List UInt8) : Bool := decide (l.length ≤ 255) && validD l && l != [46] && l != [46, 46] && (rn l).all goodR && decide (1 ≤ (rn l).length) && decide ((rn l).length ≤ 64)
/-- How many runes it has, and the error. -/
def rnN (l : List UInt8) : Nat := if okN l then (rn l).length else 0
def rnE (l : List UInt8) : Nat := if okN l then 0 else 10
theorem okN_split {l : List UInt8} (h : okN l = true) : l.length ≤ 255 ∧ validD l = true ∧ l ≠ [46] ∧ l ≠ [46, 46] ∧ (∀ r ∈ rn l, goodR r = true) ∧ 1 ≤ (rn l).length ∧ (rn l).length ≤ 64 := by
  simp only [okN, Bool.and_eq_true, decide_eq_true_eq, bne_iff_ne, ne_eq, List.all_eq_true] at h
  obtain ⟨⟨⟨⟨⟨⟨h1, h2⟩, h3⟩, h4⟩, h5⟩, h6⟩, h7⟩ := h
  exact ⟨h1, h2, h3, h4, h5, h6, h7⟩
theorem okN_mk {l : List UInt8} (h1 : l.length ≤ 255) (h2 : validD l = true) (h3 : l ≠ [46]) (h4 : l ≠ [46, 46]) (h5 : ∀ r ∈ rn l, goodR r = true) (h6 : 1 ≤ (rn l).length) (h7 : (rn l).length ≤ 64) : okN l = true := by
  simp only [okN, Bool.and_eq_true, decide_eq_true_eq, bne_iff_ne, ne_eq, List.all_eq_true]
  exact ⟨⟨⟨⟨⟨⟨h1, h2⟩, h3⟩, h4⟩, h5⟩, h6⟩, h7⟩
/-! ### Patterns -/
/-- A name's runes are like a pattern's. -/
def like : List Nat → List Nat → Bool
  | [], n => n.isEmpty
  | c :: p, n => if c = 42 then (match n with | [] => like p [] | x :: t => like p (x :: t) || like (c :: p) t) else (match n with | [] => false | x :: t => (c == 63 || c == x) && like p t)
termination_by p n => (p.length, n.length)
theorem like_nil (n : List Nat) : like [] n = n.isEmpty := by rw [like]
theorem like_star_nil (p : List Nat) : like (42 :: p) [] = like p [] := by rw [like]; simp
theorem like_star (p : List Nat) (x : Nat) (t : List Nat) : like (42 :: p) (x :: t) = (like p (x :: t) || like (42 :: p) t) := by rw [like]; simp
theorem like_one_nil (c : Nat) (p : List Nat) (h : c ≠ 42) : like (c :: p) [] = false := by rw [like]; simp [h]
theorem like_one (c : Nat) (p : List Nat) (x : Nat) (t : List Nat) (h : c ≠ 42) : like (c :: p) (x :: t) = ((c == 63 || c == x) && like p t) := by rw [like]; simp [h]
/-- One rune of a pattern without a star is like one rune. -/
def oneL (c x : Nat) : Bool := c == 63 || c == x
/-- A piece of a pattern without a star is like as many runes. -/
def plainL : List Nat → List Nat → Bool
  | [], [] => true
  | c :: p, x :: t => c != 42 && oneL c x && plainL p t
  | _, _ => false
theorem plainL_app : ∀ (p n q t : List Nat), plainL p n = true → like (p ++ q) (n ++ t) = like q t
  | [], [], q, t, _ => rfl
  | [], _ :: _, _, _, h => by simp [plainL] at h
  | _ :: _, [], _, _, h => by simp [plainL] at h
  | c :: p, x :: n, q, t, h => by
    simp only [plainL, Bool.and_eq_true, bne_iff_ne, ne_eq] at h
    obtain ⟨⟨h1, h2⟩, h3⟩ := h
    rw [List.cons_append, List.cons_append, like_one _ _ _ _ h1, plainL_app p n q t h3]
    unfold oneL at h2
    simp [h2]
theorem plainL_snoc : ∀ (p n : List Nat) (c x : Nat), plainL p n = true → c ≠ 42 → oneL c x = true → plainL (p ++ [c]) (n ++ [x]) = true
  | [], [], c, x, _, h1, h2 => by simp [plainL, h1, h2]
  | [], _ :: _, _, _, h, _, _ => by simp [plainL] at h
  | _ :: _, [], _, _, h, _, _ => by simp [plainL] at h
  | a :: p, b :: n, c, x, h, h1, h2 => by
    simp only [plainL, Bool.and_eq_true] at h
    simp only [List.cons_append, plainL, Bool.and_eq_true]
    exact ⟨h.1, plainL_snoc p n c x h.2 h1 h2⟩
theorem plainL_len : ∀ (p n : List Nat), plainL p n = true → p.length = n.length
  | [], [], _ => rfl
  | [], _ :: _, h => by simp [plainL] at h
  | _ :: _, [], h => by simp [plainL] at h
  | c :: p, x :: n, h => by
    simp only [plainL, Bool.and_eq_true] at h
    simp [plainL_len p n h.2]
/-- How many runes of a pattern are no stars. -/
def solid (p : List Nat) : Nat := (p.filter (· != 42)).length
theorem solid_cons (c : Nat) (p : List Nat) : solid (c :: p) = (if c = 42 then 0 else 1) + solid p := by
  unfold solid
  by_cases h : c = 42 <;> simp [h]; omega
theorem solid_app (p q : List Nat) : solid (p ++ q) = solid p + solid q := by simp [solid]
theorem like_solid : ∀ (k : Nat) (p n : List Nat), p.length + n.length ≤ k → like p n = true → solid p ≤ n.length
  | _, [], n, _, _ => by simp [solid]
  | 0, c :: p, n, h, _ => by simp at h
  | k + 1, c :: p, [], h, hl => by
    simp only [List.length_cons, List.length_nil] at h
    by_cases hc : c = 42
    · subst hc
      rw [like_star_nil] at hl
      have := like_solid k p [] (by simp; omega) hl
      rw [solid_cons, if_pos rfl]
      simpa using this
    · rw [like_one_nil c p hc] at hl; cases hl
  | k + 1, c :: p, x :: t, h, hl => by
    simp only [List.length_cons] at h
    by_cases hc : c = 42
    · subst hc
      rw [like_star, Bool.or_eq_true] at hl
      rw [solid_cons, if_pos rfl]
      rcases hl with hl | hl
      · have := like_solid k p (x :: t) (by simp; omega) hl
        omega
      · have := like_solid k (42 :: p) t (by simp; omega) hl
        rw [solid_cons, if_pos rfl] at this
        simp; omega
    · rw [like_one c p x t hc, Bool.and_eq_true] at hl
      have := like_solid k p t (by omega) hl.2
      rw [solid_cons, if_neg hc]
      simp; omega
theorem plainL_solid : ∀ (p n : List Nat), plainL p n = true → solid p = p.length
  | [], [], _ => rfl
  | [], _ :: _, h => by simp [plainL] at h
  | _ :: _, [], h => by simp [plainL] at h
  | c :: p, x :: n, h => by
    simp only [plainL, Bool.and_eq_true, bne_iff_ne, ne_eq] at h
    rw [solid_cons, if_neg h.1.1, plainL_solid p n h.2, List.length_cons]
    omega
/-- All stars. -/
def stars (p : List Nat) : Bool := p.all (· == 42)
theorem like_stars : ∀ p : List Nat, like p [] = stars p
  | [] => by simp [like_nil, stars]
  | c :: p => by
    by_cases hc : c = 42
    · subst hc; rw [like_star_nil, like_stars p]; simp [stars]
    · rw [like_one_nil c p hc]; simp [stars, hc]
theorem stars_solid : ∀ p : List Nat, stars p = false → 1 ≤ solid p
  | [], h => by simp [stars] at h
  | c :: p, h => by
    by_cases hc : c = 42
    · subst hc
      have := stars_solid p (by simpa [stars] using h)
      rw [solid_cons]; omega
    · rw [solid_cons, if_neg hc]; omega
/-- A star takes whatever stands ahead. -/
theorem star_ahead (p : List Nat) : ∀ (a t : List Nat), like (42 :: p) t = true → like (42 :: p) (a ++ t) = true
  | [], _, h => h
  | x :: a, t, h => by rw [List.cons_append, like_star, star_ahead p a t h]; simp
theorem star_some (p : List Nat) : ∀ n : List Nat, like (42 :: p) n = true → ∃ a t, n = a ++ t ∧ like p t = true
  | [], h => ⟨[], [], rfl, by rwa [like_star_nil] at h⟩
  | x :: t, h => by
    rw [like_star, Bool.or_eq_true] at h
    rcases h with h | h
    · exact ⟨[], x :: t, rfl, h⟩
    · obtain ⟨a, b, e, hl⟩ := star_some p t h
      exact ⟨x :: a, b, by rw [e]; rfl, hl⟩
theorem star_of (p : List Nat) (a t : List Nat) (h : like p t = true) : like (42 :: p) (a ++ t) = true := by
  refine star_ahead p a t ?_
  cases t with
  | nil => rw [like_star_nil]; exact h
  | cons x t => rw [like_star, h]; simp
/-- A piece without a star, taken off the front. -/
theorem like_plain_split : ∀ (p q n : List Nat), (∀ c ∈ p, c ≠ 42) → like (p ++ q) n = true → ∃ a t, n = a ++ t ∧ a.length = p.length ∧ like q t = true
  | [], q, n, _, h => ⟨[], n, rfl, rfl, h⟩
  | c :: p, q, [], hp, h => by rw [List.cons_append, like_one_nil _ _ (hp c (by simp))] at h; cases h
  | c :: p, q, x :: t, hp, h => by
    rw [List.cons_append, like_one _ _ _ _ (hp c (by simp)), Bool.and_eq_true] at h
    obtain ⟨a, b, e, hl, hq⟩ := like_plain_split p q t (fun c hc => hp c (by simp [hc])) h.2
    exact ⟨x :: a, b, by rw [e]; rfl, by simp [hl], hq⟩
theorem plainL_noStar : ∀ (p n : List Nat), plainL p n = true → ∀ c ∈ p, c ≠ 42
  | [], [], _ => by intro c hc; cases hc
  | [], _ :: _, h => by simp [plainL] at h
  | _ :: _, [], h => by simp [plainL] at h
  | c :: p, x :: n, h => by
    simp only [plainL, Bool.and_eq_true, bne_iff_ne, ne_eq] at h
    intro d hd
    rcases List.mem_cons.1 hd with rfl | hd
    · exact h.1.1
    · exact plainL_noStar p n h.2 d hd
/-- The star met anew: what stands ahead of it was found as early as can be. -/
theorem star_next (p q r1 r2 : List Nat) (h : plainL p r1 = true) : like (42 :: (p ++ 42 :: q)) (r1 ++ r2) = like (42 :: q) r2 := by
  rw [Bool.eq_iff_iff]
  constructor
  · intro hl
    obtain ⟨a, t, e, ht⟩ := star_some _ _ hl
    obtain ⟨b, u, e2, hb, hu⟩ := like_plain_split p (42 :: q) t (plainL_noStar p r1 h) ht
    have hlen := plainL_len p r1 h
    have e3 : r1 ++ r2 = (a ++ b) ++ u := by rw [e, e2, List.append_assoc]
    have hle : r1.length ≤ (a ++ b).length := by simp; omega
    have e4 : r2 = (a ++ b).drop r1.length ++ u := by
      have := congrArg (List.drop r1.length) e3
      rwa [List.drop_left, List.drop_append_of_le_length hle] at this
    rw [e4]
    exact star_ahead q _ u hu
  · intro hl
    refine star_of (p ++ 42 :: q) [] (r1 ++ r2) ?_
    rw [plainL_app p r1 (42 :: q) r2 h]
    exact hl
/-- The star begins one rune later, where what stands behind it is not like the front. -/
theorem star_later (p r1 : List Nat) (x : Nat) (r2 q : List Nat) (c : Nat) (h : plainL p r1 = true) (hc : c ≠ 42) (ho : oneL c x = false) (y : Nat) (t : List Nat) (e : r1 ++ x :: r2 = y :: t) : like (42 :: (p ++ c :: q)) (r1 ++ x :: r2) = like (42 :: (p ++ c :: q)) t := by
  have : like (p ++ c :: q) (r1 ++ x :: r2) = false := by
    rw [plainL_app p r1 _ _ h, like_one c q x r2 hc]
    unfold oneL at ho
    simp [ho]
  rw [e] at this ⊢
  rw [like_star, this]
  simp
/-- The name is at its end: what is left must be stars. -/
theorem star_end (p r q : List Nat) (h : plainL p r = true) : like (42 :: (p ++ q)) r = stars q := by
  cases hs : stars q with
  | true =>
    refine star_of (p ++ q) [] r ?_
    have := plainL_app p r q [] h
    rw [List.append_nil] at this
    rw [this, like_stars, hs]
  | false =>
    rw [Bool.eq_false_iff]
    intro hl
    have := like_solid _ _ _ (Nat.le_refl _) hl
    rw [solid_cons, if_pos rfl, solid_app, plainL_solid p r h, plainL_len p r h] at this
    have := stars_solid q hs
    omega
theorem star_past (p r1 : List Nat) (x : Nat) (r2 : List Nat) (h : plainL p r1 = true) (y : Nat) (t : List Nat) (e : r1 ++ x :: r2 = y :: t) : like (42 :: p) (r1 ++ x :: r2) = like (42 :: p) t := by
  have : like p (r1 ++ x :: r2) = false := by
    have := plainL_app p r1 [] (x :: r2) h
    rw [List.append_nil] at this
    rw [this, like_nil]
    rfl
  rw [e] at this ⊢
  rw [like_star, this]
  simp
end Go.Proofs.YtjnijcmalnckcaaDoor
