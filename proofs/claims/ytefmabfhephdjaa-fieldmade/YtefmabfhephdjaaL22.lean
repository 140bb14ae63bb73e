/- The walk of FieldMade. -/
import Derived.Test.YtefmabfhephdjaaF15
import Derived.Test.YtefmabfhephdjaaF16
import Derived.Test.YtefmabfhephdjaaL19F
namespace Go.Proofs.Ytefmabfhephdjaa
open Go.RowKit
set_option linter.unusedSimpArgs false
set_option linter.unusedVariables false
/-- A list that the package made: nil, or a block of its own. -/
def Mad (w : World) (ao : Option Addr) (xs : List ByteArray) (w' : World) : Prop :=
  (ao = none ∧ xs.length = 0) ∨ ∃ g, ao = some ⟨g, 0, none⟩ ∧ w.heap.size ≤ g ∧ Bk w' g (txc xs) 9
theorem Mad.txl {w w' : World} {ao : Option Addr} {xs : List ByteArray} (h : Mad w ao xs w') : TxL w' ao xs := by
  rcases h with ⟨rfl, h0⟩ | ⟨g, rfl, _, hB⟩
  · have : xs = [] := List.eq_nil_of_length_eq_zero h0
    rw [this]; intro i x hx; simp at hx
  · exact hB.txl
theorem Mad.lo {w w' : World} {ao : Option Addr} {xs : List ByteArray} (h : Mad w ao xs w') (b o : Nat) (s : Option Nat) (e : ao = some ⟨b, o, s⟩) : w.heap.size ≤ b ∧ b < w'.heap.size := by
  rcases h with ⟨rfl, h0⟩ | ⟨g, rfl, h1, hB⟩
  · cases e
  · cases e; exact ⟨h1, hB.lt⟩
theorem Mad.grown {w w1 w2 : World} {ao : Option Addr} {xs : List ByteArray} {r : Option Nat} (h : Mad w ao xs w1) (hg : w1.grownBy w2 r) (hr : ∀ b o s, ao = some ⟨b, o, s⟩ → r ≠ some b) : Mad w ao xs w2 := by
  rcases h with h | ⟨g, h0, h1, hB⟩
  · exact .inl h
  · exact .inr ⟨g, h0, h1, hB.grown hg (hr g 0 none h0)⟩
theorem Mad.below {w w1 w2 : World} {ao : Option Addr} {xs : List ByteArray} (h : Mad w ao xs w1) (hb : Below w1.heap.size w1 w2) : Mad w ao xs w2 := h.grown (gr_of_below hb none) (by simp)
/-- The texts of a unit, of Cauchy's matrix; the errors. -/
def unX (n : Int) : List ByteArray := if 1 ≤ n ∧ n ≤ 64 then txtL n.toNat (unL n.toNat) else []
def unE (n : Int) : Nat := if 1 ≤ n ∧ n ≤ 64 then 0 else 1
def caX (r c : Int) : List ByteArray := if (1 ≤ r ∧ r ≤ 64) ∧ (1 ≤ c ∧ c ≤ 64) then txtL c.toNat (caL r.toNat c.toNat) else []
def caE (r c : Int) : Nat := if (1 ≤ r ∧ r ≤ 64) ∧ (1 ≤ c ∧ c ≤ 64) then 0 else 1
theorem unX_len (n : Int) : (unX n).length ≤ 64 := by
  unfold unX
  split
  · rw [txtL_len, unL_len]; omega
  · simp
theorem caX_len (r c : Int) : (caX r c).length ≤ 64 := by
  unfold caX
  split
  · rw [txtL_len, caL_len]; omega
  · simp
theorem fu_any (n : Int) (w : World) :
    Calls Try.prog 26 #[.int .i64 n] w fun e w' => ∃ ao, e = .returned (.tuple #[.slice ao (unX n).length (unX n).length, .int .i64 (unE n)]) ∧ Mad w ao (unX n) w' ∧ Below w.heap.size w w' := by
  by_cases h : 1 ≤ n ∧ n ≤ 64
  · obtain ⟨m, rfl⟩ : ∃ m : Nat, n = m := ⟨n.toNat, by omega⟩
    have e1 : unX (m : Int) = txtL m (unL m) := by unfold unX; rw [if_pos h, Int.toNat_natCast]
    have e2 : unE (m : Int) = 0 := if_pos h
    rw [e1, e2, txtL_len, unL_len]
    refine (unitP_yes m w (by omega) (by omega)).mono ?_
    rintro e w' ⟨g, rfl, hg, hB, hb⟩
    exact ⟨_, rfl, .inr ⟨g, rfl, hg, hB⟩, hb⟩
  · have e1 : unX n = [] := if_neg h
    have e2 : unE n = 1 := if_neg h
    rw [e1, e2]
    refine (unitP_no n w h).mono ?_
    rintro e w' ⟨rfl, rfl⟩
    exact ⟨none, rfl, .inl ⟨rfl, rfl⟩, Below.refl _ _⟩
theorem fc_any (r c : Int) (w : World) :
    Calls Try.prog 28 #[.int .i64 r, .int .i64 c] w fun e w' => ∃ ao, e = .returned (.tuple #[.slice ao (caX r c).length (caX r c).length, .int .i64 (caE r c)]) ∧ Mad w ao (caX r c) w' ∧ Below w.heap.size w w' := by
  by_cases h : (1 ≤ r ∧ r ≤ 64) ∧ (1 ≤ c ∧ c ≤ 64)
  · obtain ⟨m, rfl⟩ : ∃ m : Nat, r = m := ⟨r.toNat, by omega⟩
    obtain ⟨k, rfl⟩ : ∃ k : Nat, c = k := ⟨c.toNat, by omega⟩
    have e1 : caX (m : Int) (k : Int) = txtL k (caL m k) := by unfold caX; rw [if_pos h, Int.toNat_natCast, Int.toNat_natCast]
    have e2 : caE (m : Int) (k : Int) = 0 := if_pos h
    rw [e1, e2, txtL_len, caL_len]
    refine (cauchyP_yes m k w (by omega) (by omega) (by omega) (by omega)).mono ?_
    rintro e w' ⟨g, rfl, hg, hB, hb⟩
    exact ⟨_, rfl, .inr ⟨g, rfl, hg, hB⟩, hb⟩
  · have e1 : caX r c = [] := if_neg h
    have e2 : caE r c = 1 := if_neg h
    rw [e1, e2]
    refine (cauchyP_no r c w h).mono ?_
    rintro e w' ⟨rfl, rfl⟩
    exact ⟨none, rfl, .inl ⟨rfl, rfl⟩, Below.refl _ _⟩
/-- A list of the document's answer. -/
def Ans (w : World) (a : Option Addr) (xs : List ByteArray) (w' : World) : Prop := TxL w' a xs ∧ ∀ b o s, a = some ⟨b, o, s⟩ → w.heap.size ≤ b ∧ b < w'.heap.size
theorem ans_of {w w' : World} {v : Value} {xs : List ByteArray} (h : w'.ownsRow w.heap.size 9 1 v xs.length (sv xs)) : ∃ a c, v = .slice a xs.length c ∧ Ans w a xs w' := by
  have h0 := h
  obtain ⟨a, c, rfl, ht, hl⟩ := own_txl h
  refine ⟨a, c, rfl, ht, fun b o s e => ⟨hl b o s e, ?_⟩⟩
  rcases h0.2 with ⟨h1, _⟩ | ⟨g, cap, cur, h1, _, hg, _⟩
  · rw [e] at h1; cases h1
  · rw [e] at h1; cases h1; exact (Array.getElem?_eq_some_iff.1 hg).1
theorem Ans.below {w w1 w2 : World} {a : Option Addr} {xs : List ByteArray} (h : Ans w a xs w1) (hb : Below w1.heap.size w1 w2) : Ans w a xs w2 :=
  ⟨h.1.below hb, fun b o s e => ⟨(h.2 b o s e).1, Nat.lt_of_lt_of_le (h.2 b o s e).2 hb.size⟩⟩
theorem ru_any (n : Int) (w : World) :
    Calls Try.prog 25 #[.int .i64 n] w fun e w' => ∃ a c, e = .returned (.tuple #[.slice a (unX n).length c, .int .i64 (unE n)]) ∧ Ans w a (unX n) w' ∧ Below w.heap.size w w' := by
  by_cases h : 1 ≤ n ∧ n ≤ 64
  · obtain ⟨m, rfl⟩ : ∃ m : Nat, n = m := ⟨n.toNat, by omega⟩
    have e1 : unX (m : Int) = txtL m (unL m) := by unfold unX; rw [if_pos h, Int.toNat_natCast]
    have e2 : unE (m : Int) = 0 := if_pos h
    rw [e1, e2]
    refine (runit_yes m w (by omega) (by omega)).mono ?_
    rintro e w' ⟨v, rfl, ho, hb⟩
    obtain ⟨a, c, rfl, hA⟩ := ans_of (xs := txtL m (unL m)) (by rw [txtL_len, unL_len]; exact ho)
    exact ⟨a, c, rfl, hA, hb⟩
  · have e1 : unX n = [] := if_neg h
    have e2 : unE n = 1 := if_neg h
    rw [e1, e2]
    refine (runit_no n w h).mono ?_
    rintro e w' ⟨rfl, rfl⟩
    exact ⟨none, 0, rfl, ⟨fun i x hx => by simp at hx, fun b o s e => by cases e⟩, Below.refl _ _⟩
theorem rcy_any (r c : Int) (w : World) :
    Calls Try.prog 27 #[.int .i64 r, .int .i64 c] w fun e w' => ∃ a k, e = .returned (.tuple #[.slice a (caX r c).length k, .int .i64 (caE r c)]) ∧ Ans w a (caX r c) w' ∧ Below w.heap.size w w' := by
  by_cases h : (1 ≤ r ∧ r ≤ 64) ∧ (1 ≤ c ∧ c ≤ 64)
  · obtain ⟨m, rfl⟩ : ∃ m : Nat, r = m := ⟨r.toNat, by omega⟩
    obtain ⟨k, rfl⟩ : ∃ k : Nat, c = k := ⟨c.toNat, by omega⟩
    have e1 : caX (m : Int) (k : Int) = txtL k (caL m k) := by unfold caX; rw [if_pos h, Int.toNat_natCast, Int.toNat_natCast]
    have e2 : caE (m : Int) (k : Int) = 0 := if_pos h
    rw [e1, e2]
    refine (rcauchy_yes m k w (by omega) (by omega) (by omega) (by omega)).mono ?_
    rintro e w' ⟨v, rfl, ho, hb⟩
    obtain ⟨a, c, rfl, hA⟩ := ans_of (xs := txtL k (caL m k)) (by rw [txtL_len, caL_len]; exact ho)
    exact ⟨a, c, rfl, hA, hb⟩
  · have e1 : caX r c = [] := if_neg h
    have e2 : caE r c = 1 := if_neg h
    rw [e1, e2]
    refine (rcauchy_no r c w h).mono ?_
    rintro e w' ⟨rfl, rfl⟩
    exact ⟨none, 0, rfl, ⟨fun i x hx => by simp at hx, fun b o s e => by cases e⟩, Below.refl _ _⟩
theorem fresh_of {w0 w1 w2 w : World} {ao a2 a3 : Option Addr} {c2 c3 : Nat} {xs : List ByteArray} {n : Nat} (hl : xs.length = n) (hn : n ≤ 64) (h3 : Ans w0 a3 xs w) (h1 : Mad w1 ao xs w) (h2 : Mad w2 a2 xs w)
    (s3 : ∀ b o s, a3 = some ⟨b, o, s⟩ → b < w1.heap.size) (s1 : ∀ b o s, ao = some ⟨b, o, s⟩ → b < w2.heap.size) :
    Calls Try.prog 19 #[.slice ao n n, .slice a2 n c2, .slice a3 n c3] w fun e w' => e = .returned (.bool true) ∧ w.grownBy w' (ao.map (·.block)) := by
  refine fresh_any w ao a2 a3 c2 c3 n xs hl hn ?_ h2.txl h3.1 (fun b o s e e2 => ?_) (fun b o s e e2 => ?_)
  · rcases h1 with ⟨e, h0⟩ | ⟨g, e, _, hB⟩
    · exact .inl ⟨e, by omega⟩
    · exact .inr ⟨g, e, hB⟩
  · cases ao with
    | none => cases e2
    | some q =>
      obtain ⟨bb, oo, ss⟩ := q
      simp at e2
      have := s1 bb oo ss rfl
      have := (h2.lo b o s e).1
      omega
  · cases ao with
    | none => cases e2
    | some q =>
      obtain ⟨bb, oo, ss⟩ := q
      simp at e2
      have := s3 b o s e
      have := (h1.lo bb oo ss rfl).1
      omega
theorem map_block {ao : Option Addr} {g : Nat} (h : ao.map (·.block) = some g) : ∃ o s, ao = some ⟨g, o, s⟩ := by
  cases ao with
  | none => cases h
  | some q =>
    obtain ⟨b, o, s⟩ := q
    simp at h
    exact ⟨o, s, by rw [h]⟩
set_option maxHeartbeats 2000000 in
set_option maxRecDepth 100000 in
theorem made_walk (n r c : Int) (w0 : (Lit.int .i64 n).wf = true) (w1 : (Lit.int .i64 r).wf = true) (w2 : (Lit.int .i64 c).wf = true) (w : World) :
    Calls Try.prog 5 #[.int .i64 n, .int .i64 r, .int .i64 c] w fun e w' => e = .returned (.bool true) ∧ Below w.heap.size w w' := by
  have c1 := ru_any n
  have c2 := fu_any n
  have c3 := rcy_any r c
  have c4 := fc_any r c
  have l1 := unX_len n
  have l2 := caX_len r c
  obtain ⟨xs, hxs⟩ : ∃ xs, unX n = xs := ⟨_, rfl⟩
  obtain ⟨ys, hys⟩ : ∃ ys, caX r c = ys := ⟨_, rfl⟩
  obtain ⟨E1, hE1⟩ : ∃ E, unE n = E := ⟨_, rfl⟩
  obtain ⟨E2, hE2⟩ : ∃ E, caE r c = E := ⟨_, rfl⟩
  rw [hxs] at c1 c2 l1
  rw [hE1] at c1 c2
  rw [hys] at c3 c4 l2
  rw [hE2] at c3 c4
  obtain ⟨N, hN⟩ : ∃ N, xs.length = N := ⟨_, rfl⟩
  obtain ⟨M, hM⟩ : ∃ M, ys.length = M := ⟨_, rfl⟩
  rw [hN] at c1 c2 l1
  rw [hM] at c3 c4 l2
  have HN : Hid (xs.length = N) := hN
  have HM : Hid (ys.length = M) := hM
  have C1 : Hid _ := c1
  have C2 : Hid _ := c2
  have C3 : Hid _ := c3
  have C4 : Hid _ := c4
  clear c1 c2 c3 c4 hxs hys hE1 hE2 w0 w1 w2 hN hM
  go_enter Try.func5, Try.ntmps5
  go_wp2_with fail
  refine Calls.mono (C1.out _) ?_
  rintro e w1 ⟨a, ca, rfl, hA, hb1⟩
  have HA1 : Hid (Ans w a xs w1) := hA
  have B1 : Hid (Below w.heap.size w w1) := hb1
  clear hA hb1
  go_wp2_with fail
  refine Calls.mono (C2.out _) ?_
  rintro e w2 ⟨b, rfl, hA, hb⟩
  have HM2 : Hid (Mad w1 b xs w2) := hA
  have HA2 : Hid (Ans w a xs w2) := HA1.out.below hb
  have B2 : Hid (Below w.heap.size w w2) := B1.out.trans (hb.mono B1.out.size)
  have z2 : w1.heap.size ≤ w2.heap.size := hb.size
  clear hA hb
  go_wp2_with fail
  refine Calls.mono (C2.out _) ?_
  rintro e w3 ⟨d, rfl, hA, hb⟩
  have HM3 : Hid (Mad w2 d xs w3) := hA
  have HM23 : Hid (Mad w1 b xs w3) := HM2.out.below hb
  have HA3 : Hid (Ans w a xs w3) := HA2.out.below hb
  have B3 : Hid (Below w.heap.size w w3) := B2.out.trans (hb.mono B2.out.size)
  have z3 : w2.heap.size ≤ w3.heap.size := hb.size
  clear hA hb HA2
  go_wp2_with fail
  refine Calls.mono (C3.out _) ?_
  rintro e w4 ⟨x, cx, rfl, hA, hb⟩
  have HX4 : Hid (Ans w3 x ys w4) := hA
  have K4 : Hid (Below w3.heap.size w3 w4) := hb
  have z4 : w3.heap.size ≤ w4.heap.size := hb.size
  clear hA hb
  go_wp2_with fail
  refine Calls.mono (C4.out _) ?_
  rintro e w5 ⟨y, rfl, hA, hb⟩
  have HY5 : Hid (Mad w4 y ys w5) := hA
  have HX5 : Hid (Ans w3 x ys w5) := HX4.out.below hb
  have K5 : Hid (Below w3.heap.size w3 w5) := K4.out.trans (hb.mono z4)
  have z5 : w4.heap.size ≤ w5.heap.size := hb.size
  clear hA hb
  go_wp2_with fail
  refine Calls.mono (C4.out _) ?_
  rintro e w6 ⟨z, rfl, hA, hb⟩
  have HZ6 : Hid (Mad w5 z ys w6) := hA
  have HY6 : Hid (Mad w4 y ys w6) := HY5.out.below hb
  have HX6 : Hid (Ans w3 x ys w6) := HX5.out.below hb
  have K6 : Hid (Below w3.heap.size w3 w6) := K5.out.trans (hb.mono (by omega))
  have z6 : w5.heap.size ≤ w6.heap.size := hb.size
  clear hA hb K4 K5 C1 C2 C3 C4
  have f1 := fresh_of (c2 := N) (c3 := ca) HN.out l1 (HA3.out.below K6.out) (HM23.out.below K6.out) (HM3.out.below K6.out) (fun b o s e => (HA1.out.2 b o s e).2) (fun b o s e => (HM2.out.lo b o s e).2)
  have F1 : Hid _ := f1
  clear f1
  go_wp2_with fail
  refine Calls.mono F1.out ?_
  rintro e w7 ⟨rfl, hg7⟩
  have D : Hid (∀ g, b.map (·.block) = some g → w.heap.size ≤ g ∧ g < w3.heap.size) := fun g hg => by
    obtain ⟨o, s, e⟩ := map_block hg
    have h1 := HM2.out.lo g o s e
    have := B1.out.size
    omega
  have G7 : Hid (w6.grownBy w7 (b.map (·.block))) := hg7
  have HX7 : Hid (Ans w3 x ys w7) := ⟨HX6.out.1.grown G7.out (fun g o s e h => by have := (HX6.out.2 g o s e).1; have := (D.out g h).2; omega), fun g o s e => ⟨(HX6.out.2 g o s e).1, Nat.lt_of_lt_of_le (HX6.out.2 g o s e).2 G7.out.size⟩⟩
  have HY7 : Hid (Mad w4 y ys w7) := HY6.out.grown G7.out (fun g o s e h => by have := (HY6.out.lo g o s e).1; have := (D.out g h).2; omega)
  have HZ7 : Hid (Mad w5 z ys w7) := HZ6.out.grown G7.out (fun g o s e h => by have := (HZ6.out.lo g o s e).1; have := (D.out g h).2; omega)
  have B7 : Hid (Below w.heap.size w w7) := (B3.out.trans (K6.out.mono B3.out.size)).grown G7.out (by have := B3.out.size; omega) (fun g hg => (D.out g hg).1)
  clear hg7
  have f2 := fresh_of (c2 := M) (c3 := cx) HM.out l2 HX7.out HY7.out HZ7.out (fun b o s e => (HX4.out.2 b o s e).2) (fun b o s e => (HY5.out.lo b o s e).2)
  have F2 : Hid _ := f2
  clear f2
  go_wp2_with fail
  refine Calls.mono F2.out ?_
  rintro e w8 ⟨rfl, hg8⟩
  have B8 : Hid (Below w.heap.size w w8) := B7.out.grown hg8 B7.out.size (fun g hg => by
    obtain ⟨o, s, e⟩ := map_block hg
    have h1 := HY5.out.lo g o s e
    have := B3.out.size
    omega)
  clear hg8
  go_wp2
  go_ret
  exact ⟨rfl, B8.out⟩
end Go.Proofs.Ytefmabfhephdjaa
