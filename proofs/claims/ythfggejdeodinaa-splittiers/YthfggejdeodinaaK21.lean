/- The mathematics of package split: a row cut into pieces as its own items tell. No program is named here. -/
import Derived.Test.YthfggejdeodinaaK20
namespace Go.Proofs.Ythfggejdeodinaa
open Go.RowKit
set_option linter.unusedSimpArgs false
set_option linter.unusedVariables false
section
variable {α β : Type}
/-- The pieces that end in a row, each with its cut's word; h is what is held of the piece under way. -/
def pcs (ct : List α → Option β) : List α → List α → List (List α × β)
  | _, [] => []
  | h, x :: r => match ct (h ++ [x]) with
    | some v => (h ++ [x], v) :: pcs ct [] r
    | none => pcs ct (h ++ [x]) r
/-- What is held behind a row. -/
def lft (ct : List α → Option β) : List α → List α → List α
  | h, [] => h
  | h, x :: r => match ct (h ++ [x]) with
    | some _ => lft ct [] r
    | none => lft ct (h ++ [x]) r
theorem pcs_app (ct : List α → Option β) : ∀ (a h b : List α), pcs ct h (a ++ b) = pcs ct h a ++ pcs ct (lft ct h a) b
  | [], h, b => rfl
  | x :: r, h, b => by
    rw [List.cons_append, pcs, pcs, lft]
    cases ct (h ++ [x]) with
    | some v => simp only; rw [pcs_app ct r [] b]; rfl
    | none => simp only; rw [pcs_app ct r _ b]
theorem lft_app (ct : List α → Option β) : ∀ (a h b : List α), lft ct h (a ++ b) = lft ct (lft ct h a) b
  | [], h, b => rfl
  | x :: r, h, b => by
    rw [List.cons_append, lft, lft]
    cases ct (h ++ [x]) with
    | some v => simp only; rw [lft_app ct r [] b]
    | none => simp only; rw [lft_app ct r _ b]
theorem pcs_yes {ct : List α → Option β} {h a : List α} {x : α} {v : β} (e : ct (lft ct h a ++ [x]) = some v) : pcs ct h (a ++ [x]) = pcs ct h a ++ [(lft ct h a ++ [x], v)] := by
  rw [pcs_app, pcs, e]; rfl
theorem lft_yes {ct : List α → Option β} {h a : List α} {x : α} {v : β} (e : ct (lft ct h a ++ [x]) = some v) : lft ct h (a ++ [x]) = [] := by
  rw [lft_app, lft, e]; rfl
theorem pcs_no {ct : List α → Option β} {h a : List α} {x : α} (e : ct (lft ct h a ++ [x]) = none) : pcs ct h (a ++ [x]) = pcs ct h a := by
  rw [pcs_app, pcs, e]; simp [pcs]
theorem lft_no {ct : List α → Option β} {h a : List α} {x : α} (e : ct (lft ct h a ++ [x]) = none) : lft ct h (a ++ [x]) = lft ct h a ++ [x] := by
  rw [lft_app, lft, e]; rfl
/-- All there is, in its order. -/
theorem pcs_flat (ct : List α → Option β) : ∀ (a h : List α), (pcs ct h a).flatMap (·.1) ++ lft ct h a = h ++ a
  | [], h => by simp [pcs, lft]
  | x :: r, h => by
    rw [pcs, lft]
    cases ct (h ++ [x]) with
    | some v => simp only; rw [List.flatMap_cons, List.append_assoc, pcs_flat ct r []]; simp
    | none => simp only; rw [pcs_flat ct r _]; simp
/-- Nothing of it ends a piece. -/
def Opn (ct : List α → Option β) (h : List α) : Prop := ∀ k, 1 ≤ k → k ≤ h.length → ct (h.take k) = none
theorem opn_nil (ct : List α → Option β) : Opn ct [] := fun k h1 h2 => by simp at h2; omega
theorem Opn.snoc {ct : List α → Option β} {h : List α} {x : α} (o : Opn ct h) (e : ct (h ++ [x]) = none) : Opn ct (h ++ [x]) := by
  intro k h1 h2
  rw [List.length_append, List.length_singleton] at h2
  by_cases c : k ≤ h.length
  · rw [List.take_append_of_le_length c]; exact o k h1 c
  · rw [List.take_of_length_le (by simp; omega)]; exact e
theorem lft_opn (ct : List α → Option β) : ∀ (a h : List α), Opn ct h → Opn ct (lft ct h a)
  | [], h, o => o
  | x :: r, h, o => by
    rw [lft]
    cases e : ct (h ++ [x]) with
    | some v => exact lft_opn ct r [] (opn_nil ct)
    | none => exact lft_opn ct r _ (o.snoc e)
theorem opn_pcs {ct : List α → Option β} {s : List α} : ∀ n, n ≤ s.length → (∀ k, 1 ≤ k → k ≤ n → ct (s.take k) = none) → pcs ct [] (s.take n) = [] ∧ lft ct [] (s.take n) = s.take n
  | 0, _, _ => by simp [pcs, lft]
  | n + 1, hn, o => by
    obtain ⟨h1, h2⟩ := opn_pcs n (by omega) (fun k a b => o k a (by omega))
    have e := o (n + 1) (by omega) (Nat.le_refl _)
    rw [List.take_succ_eq_append_getElem (show n < s.length by omega)] at e ⊢
    rw [pcs_no (by rw [h2]; exact e), lft_no (by rw [h2]; exact e), h1, h2]
    exact ⟨rfl, rfl⟩
theorem Opn.all {ct : List α → Option β} {h : List α} (o : Opn ct h) : pcs ct [] h = [] ∧ lft ct [] h = h := by
  have := opn_pcs (ct := ct) (s := h) h.length (Nat.le_refl _) o
  rwa [List.take_length] at this
/-- A splitter goes on as if it were handed all at once. -/
theorem Opn.on {ct : List α → Option β} {h : List α} (o : Opn ct h) (s : List α) : pcs ct [] (h ++ s) = Proofs.Ythfggejdeodinaa.pcs ct h s ∧ lft ct [] (h ++ s) = lft ct h s := by
  rw [pcs_app, lft_app, o.all.1, o.all.2]
  exact ⟨rfl, rfl⟩
/-- What a piece is. -/
theorem pcs_mem {ct : List α → Option β} : ∀ (a h : List α), Opn ct h → ∀ q v, (q, v) ∈ pcs ct h a → ct q = some v ∧ q ≠ [] ∧ ∀ k, 1 ≤ k → k < q.length → ct (q.take k) = none
  | [], h, o, q, v, hm => by simp [Proofs.Ythfggejdeodinaa.pcs] at hm
  | x :: r, h, o, q, v, hm => by
    rw [Proofs.Ythfggejdeodinaa.pcs] at hm
    cases e : ct (h ++ [x]) with
    | some u =>
      rw [e] at hm
      simp only [List.mem_cons, Prod.mk.injEq] at hm
      rcases hm with ⟨rfl, rfl⟩ | hm
      · refine ⟨e, by simp, fun k h1 h2 => ?_⟩
        rw [List.length_append, List.length_singleton] at h2
        rw [List.take_append_of_le_length (by omega)]; exact o k h1 (by omega)
      · exact pcs_mem r [] (opn_nil ct) q v hm
    | none =>
      rw [e] at hm
      exact pcs_mem r _ (o.snoc e) q v hm
/-- The first piece of a row. -/
structure Fi (ct : List α → Option Nat) (s : List α) (q v : Nat) : Prop where
  pos : 1 ≤ q
  le : q ≤ s.length
  no : ∀ k, 1 ≤ k → k < q → ct (s.take k) = none
  yes : ct (s.take q) = some v ∨ (q = s.length ∧ ct (s.take q) = none ∧ v = 0)
/-- The pieces' sizes and words, with the last one. -/
def chk (ct : List α → Option Nat) (s : List α) : List (Nat × Nat) := (pcs ct [] s).map (fun x => (x.1.length, x.2)) ++ if lft ct [] s = [] then [] else [((lft ct [] s).length, 0)]
theorem chk_nil (ct : List α → Option Nat) : chk ct [] = [] := by simp [chk, pcs, lft]
theorem fi_some {ct : List α → Option Nat} {s : List α} {q v : Nat} (h1 : 1 ≤ q) (h2 : q ≤ s.length) (no : ∀ k, 1 ≤ k → k < q → ct (s.take k) = none) (e : ct (s.take q) = some v) :
    pcs ct [] s = (s.take q, v) :: pcs ct [] (s.drop q) ∧ lft ct [] s = lft ct [] (s.drop q) := by
  obtain ⟨n, rfl⟩ : ∃ n, q = n + 1 := ⟨q - 1, by omega⟩
  obtain ⟨p1, p2⟩ := opn_pcs (ct := ct) (s := s) n (by omega) (fun k a b => no k a (by omega))
  have hs : s = s.take (n + 1) ++ s.drop (n + 1) := (List.take_append_drop _ _).symm
  have e2 := e
  rw [List.take_succ_eq_append_getElem (show n < s.length by omega)] at e2
  have q1 : pcs ct [] (s.take (n + 1)) = [(s.take (n + 1), v)] := by
    rw [List.take_succ_eq_append_getElem (show n < s.length by omega), pcs_yes (v := v) (by rw [p2]; exact e2), p1, p2]; rfl
  have q2 : lft ct [] (s.take (n + 1)) = [] := by
    rw [List.take_succ_eq_append_getElem (show n < s.length by omega), lft_yes (v := v) (by rw [p2]; exact e2)]
  constructor
  · conv => lhs; rw [hs]
    rw [pcs_app, q1, q2]; rfl
  · conv => lhs; rw [hs]
    rw [lft_app, q2]
theorem chk_fi {ct : List α → Option Nat} {s : List α} {q v : Nat} (h : Fi ct s q v) : chk ct s = (q, v) :: chk ct (s.drop q) := by
  rcases h.yes with e | ⟨e1, e2, e3⟩
  · obtain ⟨p1, p2⟩ := fi_some h.pos h.le h.no e
    unfold chk
    rw [p1, p2, List.map_cons]
    have := h.le
    simp only [List.length_take, List.cons_append, show min q s.length = q from by omega]
  · have o : Opn ct s := fun k a b => by
      rcases Nat.lt_or_ge k q with c | c
      · exact h.no k a c
      · rw [show k = q from by omega]; exact e2
    subst e3
    have hp := h.pos
    have hne : s ≠ [] := fun c => by rw [c] at e1; simp at e1; omega
    rw [e1, List.drop_length, chk_nil]
    unfold chk
    rw [o.all.1, o.all.2, if_neg hne]; rfl
theorem fi_ex (ct : List α → Option Nat) (s : List α) (hs : s ≠ []) : ∃ q v, Fi ct s q v := by
  have hl : 1 ≤ s.length := by cases s with | nil => exact absurd rfl hs | cons a r => simp
  have key : ∀ n, n ≤ s.length → (∃ q v, Fi ct s q v) ∨ ∀ k, 1 ≤ k → k ≤ n → ct (s.take k) = none := by
    intro n
    induction n with
    | zero => intro _; exact .inr (fun k a b => by omega)
    | succ n ih =>
      intro hn
      rcases ih (by omega) with h | h
      · exact .inl h
      · cases e : ct (s.take (n + 1)) with
        | some v => exact .inl ⟨n + 1, v, by omega, hn, fun k a b => h k a (by omega), .inl e⟩
        | none => exact .inr (fun k a b => by
            rcases Nat.lt_or_ge k (n + 1) with c | c
            · exact h k a (by omega)
            · rw [show k = n + 1 from by omega]; exact e)
  rcases key s.length (Nat.le_refl _) with h | h
  · exact h
  · exact ⟨s.length, 0, hl, Nat.le_refl _, fun k a b => h k a (by omega), .inr ⟨rfl, h _ hl (Nat.le_refl _), rfl⟩⟩
end
/-- A plan. -/
structure Pl where
  B : Nat
  F : Nat
  M : Nat
def Pl.ok (p : Pl) : Prop := 4 ≤ p.B ∧ p.B ≤ 16 ∧ 1 ≤ p.F ∧ p.F ≤ 8 ∧ 64 ≤ p.M ∧ p.M ≤ 65536
/-- How many of the digest's lowest bits are 1. -/
def one (l : List UInt8) : Nat := onN 32 (dgR l)
theorem one_le (l : List UInt8) : one l ≤ 32 := onN_le _ _
/-- The word of the cut behind a piece. -/
def ctA (p : Pl) (l : List UInt8) : Option Nat := if p.B ≤ one l then some ((one l - p.B) / p.F) else if l.length = p.M then some 0 else none
theorem ctA_ones {p : Pl} {l : List UInt8} (h : p.B ≤ one l) : ctA p l = some ((one l - p.B) / p.F) := if_pos h
theorem ctA_most {p : Pl} {l : List UInt8} (h : ¬ p.B ≤ one l) (e : l.length = p.M) : ctA p l = some 0 := by unfold ctA; rw [if_neg h, if_pos e]
theorem ctA_none {p : Pl} {l : List UInt8} (h : ¬ p.B ≤ one l) (e : ¬ l.length = p.M) : ctA p l = none := by unfold ctA; rw [if_neg h, if_neg e]
theorem ctA_full {p : Pl} {l : List UInt8} (e : l.length = p.M) : ctA p l ≠ none := by
  unfold ctA
  rw [if_pos e]
  split <;> simp
theorem ctA_lev {p : Pl} {l : List UInt8} {v : Nat} (h : ctA p l = some v) : v ≤ (32 - p.B) / p.F ∧ v ≤ 32 := by
  have h1 := one_le l
  unfold ctA at h
  split at h
  · cases h
    exact ⟨Nat.div_le_div_right (by omega), Nat.le_trans (Nat.div_le_self _ _) (by omega)⟩
  · split at h
    · cases h; exact ⟨Nat.zero_le _, Nat.zero_le _⟩
    · cases h
theorem Opn.lt {p : Pl} {h : List UInt8} (o : Opn (ctA p) h) (hp : 1 ≤ p.M) : h.length < p.M := by
  rcases Nat.lt_or_ge h.length p.M with c | c
  · exact c
  · exact absurd (o p.M hp c) (ctA_full (by rw [List.length_take]; omega))
theorem Fi.most {p : Pl} {s : List UInt8} {q v : Nat} (h : Fi (ctA p) s q v) (hp : 1 ≤ p.M) : q ≤ p.M := by
  rcases Nat.lt_or_ge p.M q with c | c
  · have hl := h.le
    exact absurd (h.no p.M hp c) (ctA_full (by rw [List.length_take]; omega))
  · exact c
theorem Fi.lev {p : Pl} {s : List UInt8} {q v : Nat} (h : Fi (ctA p) s q v) : v ≤ (32 - p.B) / p.F ∧ v ≤ 32 := by
  rcases h.yes with e | ⟨_, _, e⟩
  · exact ctA_lev e
  · subst e; exact ⟨Nat.zero_le _, Nat.zero_le _⟩
end Go.Proofs.Ythfggejdeodinaa
