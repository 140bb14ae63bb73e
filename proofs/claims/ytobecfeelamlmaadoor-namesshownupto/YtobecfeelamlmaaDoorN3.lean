/- names.Split, names.Join. -/
import Derived.Test.YtobecfeelamlmaaDoorP14
import Derived.Shelf.Strings.OnBuilder
namespace Go.Proofs.YtobecfeelamlmaaDoor
open Go.RowKit
set_option linter.unusedSimpArgs false
set_option linter.unusedVariables false
theorem cutPrefix_any (s : ByteArray) (w : World) :
    Calls Tryd.prog 33 #[.string s, .string ⟨#[47]⟩] w fun e w' => e = .returned (.tuple #[.string ⟨(Lib.trimPrefix s.data.toList [47]).toArray⟩, .bool (Lib.hasPrefix s.data.toList [47])]) ∧ w' = w :=
  Any.strings_CutPrefix lays103 s ⟨#[47]⟩ w
theorem Lib_splitB_mem (sep : ByteArray) (sv : Nat) : ∀ (k : Nat) (s : ByteArray), ∀ x ∈ Lib.splitB sep sv k s, x.size ≤ s.size
  | 0, s, x, hx => by rw [Lib.splitB_zero] at hx; simp at hx; subst hx; exact Nat.le_refl _
  | k + 1, s, x, hx => by
    rcases Lib.indexB_cases s sep with h | ⟨i, h, hr⟩
    · rw [Lib.splitB_miss _ _ _ _ h] at hx; simp at hx; subst hx; exact Nat.le_refl _
    · rw [Lib.splitB_hit _ _ _ _ _ h] at hx
      rcases List.mem_cons.1 hx with rfl | hx
      · rw [ByteArray.size_extract]; omega
      · have := Lib_splitB_mem sep sv k _ x hx
        rw [ByteArray.size_extract] at this
        omega
theorem splitB_ne (sep : ByteArray) (sv : Nat) : ∀ (k : Nat) (s : ByteArray), Lib.splitB sep sv k s ≠ []
  | 0, s => by rw [Lib.splitB_zero]; simp
  | k + 1, s => by
    rcases Lib.indexB_cases s sep with h | ⟨i, h, hr⟩
    · rw [Lib.splitB_miss _ _ _ _ h]; simp
    · rw [Lib.splitB_hit _ _ _ _ _ h]; simp
/-- What Split answers. -/
structure Spl (w : World) (xs : List ByteArray) (a : Option Addr) (c : Nat) (w' : World) : Prop where
  below : Below w.heap.size w w'
  nil : xs = [] → a = none ∧ c = 0
  row : xs ≠ [] → a = some ⟨w.heap.size, 0, none⟩ ∧ xs.length ≤ c ∧ w'.heap[w.heap.size]? = some (.cells (Lib.cellsOf xs c) 9 (0, 0))
set_option maxRecDepth 100000 in
theorem split_not (s x : ByteArray) (w : World) (hcut : Calls Tryd.prog 33 #[.string s, .string ⟨#[47]⟩] w fun e w' => e = .returned (.tuple #[.string x, .bool false]) ∧ w' = w) :
    Calls Tryd.prog 13 #[.string s] w fun e w' => e = .returned (.tuple #[.slice none 0 0, .int .i64 10]) ∧ w' = w := by
  go_enter Tryd.func13, Tryd.ntmps13
  go_wp2_with (go_at_call 33; refine hcut.mono ?_; rintro e w1 ⟨rfl, hw⟩; rw [hw])
  go_ret2
  exact ⟨rfl, rfl⟩
set_option maxRecDepth 100000 in
theorem split_root (s : ByteArray) (w : World) (hcut : Calls Tryd.prog 33 #[.string s, .string ⟨#[47]⟩] w fun e w' => e = .returned (.tuple #[.string ⟨#[]⟩, .bool true]) ∧ w' = w) :
    Calls Tryd.prog 13 #[.string s] w fun e w' => e = .returned (.tuple #[.slice none 0 0, .int .i64 0]) ∧ w' = w := by
  go_enter Tryd.func13, Tryd.ntmps13
  go_wp2_with (go_at_call 33; refine hcut.mono ?_; rintro e w1 ⟨rfl, hw⟩; rw [hw])
  go_ret2
  exact ⟨rfl, rfl⟩
set_option maxRecDepth 100000 in
theorem split_more (s u : ByteArray) (q : Bool) (n c : Nat) (W : World) (w : World) (hne : (u.toList == []) = false)
    (hcut : Calls Tryd.prog 33 #[.string s, .string ⟨#[47]⟩] w fun e w' => e = .returned (.tuple #[.string u, .bool true]) ∧ w' = w)
    (hsn : Calls Tryd.prog 34 #[.string u, .string ⟨#[47]⟩, .int .i64 17] w fun e w' => e = .returned (.slice (some ⟨w.heap.size, 0, none⟩) n c) ∧ w' = W)
    (hmk : Calls Tryd.prog 31 #[.slice (some ⟨w.heap.size, 0, none⟩) n c] W fun e w' => e = .returned (.bool q) ∧ Below W.heap.size W w') :
    Calls Tryd.prog 13 #[.string s] w fun e w' => e = .returned (.tuple #[if q then .slice (some ⟨w.heap.size, 0, none⟩) n c else .slice none 0 0, .int .i64 (if q then 0 else 10)]) ∧ Below W.heap.size W w' := by
  cases q
  all_goals
    go_enter Tryd.func13, Tryd.ntmps13
    go_wp2_with (first
      | (go_at_call 33; refine hcut.mono ?_; rintro e w1 ⟨rfl, hw⟩; rw [hw]; clear hw)
      | (go_at_call 34; refine hsn.mono ?_; rintro e w2 ⟨rfl, hw⟩; rw [hw]; clear hw)
      | (go_at_call 31; refine hmk.mono ?_; rintro e w3 ⟨rfl, hb⟩; have HB : Hid (Below W.heap.size W w3) := hb; clear hb))
    go_ret2
    exact ⟨rfl, HB.out⟩
theorem split_any (s : ByteArray) (w : World) (hs : s.size ≤ 9223372036854775806) (hT : U8 w) :
    Calls Tryd.prog 13 #[.string s] w fun e w' => ∃ a c, e = .returned (.tuple #[.slice a (pthX s.data.toList).length c, .int .i64 (pthE s.data.toList)]) ∧ Spl w (pthX s.data.toList) a c w' := by
  have hcut := cutPrefix_any s w
  cases hl : s.data.toList with
  | nil =>
    rw [hl] at hcut
    exact (split_not s _ w hcut).mono fun e w' ⟨he, hw⟩ => ⟨none, 0, he, ⟨hw ▸ Below.refl _ _, fun _ => ⟨rfl, rfl⟩, fun h => absurd rfl h⟩⟩
  | cons c t =>
    rw [hl] at hcut
    have hsz : s.size = t.length + 1 := by rw [← data_len, hl]; rfl
    by_cases hc : c = 47
    · subst hc
      have e1 : Lib.hasPrefix (47 :: t) [47] = true := by simp [Lib.hasPrefix]
      have e2 : Lib.trimPrefix (47 :: t) [47] = t := by simp [Lib.trimPrefix, Lib.hasPrefix]
      rw [e1, e2] at hcut
      by_cases ht : t = []
      · subst ht
        have hp : pthX [47] = [] := by simp [pthX, pth]
        have hpe : pthE [47] = 0 := by simp [pthE, pth]
        rw [hp, hpe]
        exact (split_root s w hcut).mono fun e w' ⟨he, hw⟩ => ⟨none, 0, he, ⟨hw ▸ Below.refl _ _, fun _ => ⟨rfl, rfl⟩, fun h => absurd rfl h⟩⟩
      · have hul : (mkB t).data.toList = t := rfl
        have husz : (mkB t).size ≤ 9223372036854775806 := by have := data_len (mkB t); rw [hul] at this; omega
        have hne : ((mkB t).toList == []) = false := by rw [Lib.toList_data, hul]; simpa using ht
        have hpo := pcs_ok (mkB t)
        rw [hul] at hpo
        have hpl := pcs_le (mkB t)
        have hmem : ∀ x ∈ pcs (mkB t), x.size ≤ (mkB t).size := fun x hx => Lib_splitB_mem _ _ _ _ x hx
        have hnn : pcs (mkB t) ≠ [] := splitB_ne _ _ _ _
        have hcp := cp_le (mkB t)
        have hsn := splitN_any (mkB t) w husz
        have hLie : LieL (w.alloc (.cells (Lib.cellsOf (pcs (mkB t)) (cp (mkB t))) 9)) (some ⟨w.heap.size, 0, none⟩) (pcs (mkB t)) := by
          intro i x hx
          refine ⟨w.heap.size, 0, rfl, by simp, ?_⟩
          have : (Lib.cellsOf (pcs (mkB t)) (cp (mkB t)))[i]? = some (.string x) := by
            have hi : i < (pcs (mkB t)).length := (List.getElem?_eq_some_iff.1 hx).1
            simp only [Lib.cellsOf, List.getElem?_toArray]
            rw [List.getElem?_append_left (by simpa using hi), List.getElem?_map, hx]
            rfl
          rw [Nat.zero_add, World.cell?_alloc_new]
          exact this
        have hmk := makePath_any (some ⟨w.heap.size, 0, none⟩) (cp (mkB t)) (pcs (mkB t)) _ hLie (fun x hx => by have := hmem x hx; omega) (by omega) (hT.below ((Below.refl _ w).alloc (Nat.le_refl _) _))
        rw [hpo.1] at hmk
        refine (split_more s (mkB t) (okQ (sp t)) _ _ _ w hne hcut hsn hmk).mono fun e w' ⟨he, hb⟩ => ?_
        have hbw : Below w.heap.size w w' := ((Below.refl _ w).alloc (Nat.le_refl _) _).trans (hb.mono (by simp))
        cases hf : okQ (sp t) with
        | false =>
          have hp : pthX (47 :: t) = [] := by simp [pthX, pth, ht, hf]
          have hpe : pthE (47 :: t) = 10 := by simp [pthE, pth, ht, hf]
          rw [hp, hpe]
          rw [hf] at he
          exact ⟨none, 0, he, ⟨hbw, fun _ => ⟨rfl, rfl⟩, fun h => absurd rfl h⟩⟩
        | true =>
          have hp : pthX (47 :: t) = pcs (mkB t) := by rw [hpo.2 hf]; simp [pthX, pth, ht, hf]
          have hpe : pthE (47 :: t) = 0 := by simp [pthE, pth, ht, hf]
          rw [hp, hpe]
          rw [hf] at he
          refine ⟨some ⟨w.heap.size, 0, none⟩, cp (mkB t), he, ⟨hbw, fun h => absurd h hnn, fun _ => ⟨rfl, hpl, ?_⟩⟩⟩
          rw [hb.block w.heap.size (by simp)]
          show (w.heap.push _)[w.heap.size]? = _
          simp
    · have e1 : Lib.hasPrefix (c :: t) [47] = false := by simp [Lib.hasPrefix, List.isPrefixOf]; exact fun h => hc h.symm
      have hp : pthX (c :: t) = [] := by simp [pthX, pth, hc]
      have hpe : pthE (c :: t) = 10 := by simp [pthE, pth, hc]
      rw [hp, hpe]
      rw [e1] at hcut
      exact (split_not s _ w hcut).mono fun e w' ⟨he, hw⟩ => ⟨none, 0, he, ⟨hw ▸ Below.refl _ _, fun _ => ⟨rfl, rfl⟩, fun h => absurd rfl h⟩⟩
set_option maxRecDepth 100000 in
theorem join_walk (a0 : Option Addr) (n cap : Nat) (q : Bool) (z : ByteArray) (w : World) (hz : q = true → ¬ 9223372036854775807 < 1 + z.size)
    (hmk : Calls Tryd.prog 31 #[.slice a0 n cap] w fun e w' => e = .returned (.bool q) ∧ Below w.heap.size w w')
    (hj : q = true → ∀ w1, Below w.heap.size w w1 → Calls Tryd.prog 32 #[.slice a0 n cap, .string ⟨#[47]⟩] w1 fun e w' => e = .returned (.string z) ∧ Below w1.heap.size w1 w') :
    Calls Tryd.prog 12 #[.slice a0 n cap] w fun e w' => e = .returned (.tuple #[.string (if q then ⟨#[47]⟩ ++ z else ⟨#[]⟩), .int .i64 (if q then 0 else 10)]) ∧ Below w.heap.size w w' := by
  cases q
  · clear hj hz
    go_enter Tryd.func12, Tryd.ntmps12
    go_wp2_with (go_at_call 31; refine hmk.mono ?_; rintro e w1 ⟨rfl, hb⟩; have HB : Hid (Below w.heap.size w w1) := hb; clear hb)
    go_ret2
    exact ⟨rfl, HB.out⟩
  · have hz' := hz rfl
    clear hz
    have HJ : Hid (∀ w1, Below w.heap.size w w1 → Calls Tryd.prog 32 #[.slice a0 n cap, .string ⟨#[47]⟩] w1 fun e w' => e = .returned (.string z) ∧ Below w1.heap.size w1 w') := hj rfl
    clear hj
    go_enter Tryd.func12, Tryd.ntmps12
    go_wp2_with (first
      | (go_at_call 31; refine hmk.mono ?_; rintro e w1 ⟨rfl, hb⟩; have HB : Hid (Below w.heap.size w w1) := hb; clear hb)
      | (go_at_call 32; refine (HJ.out w1 HB.out).mono ?_; rintro e w2 ⟨rfl, hb⟩; have HB2 : Hid (Below w1.heap.size w1 w2) := hb; clear hb))
    go_ret2
    exact ⟨rfl, HB.out.trans (HB2.out.mono HB.out.size)⟩
theorem join_len : ∀ (xs : List (List UInt8)), (∀ x ∈ xs, x.length ≤ 255) → (Lib.join xs [47]).length ≤ 256 * xs.length
  | [], _ => by simp [Lib.join_nil]
  | x :: r, h => by
    rw [Lib.join_length]
    have hl : ∀ (l : List (List UInt8)), (∀ x ∈ l, x.length ≤ 255) → Lib.lens l ≤ 255 * l.length := by
      intro l
      induction l with
      | nil => intro _; simp [Lib.lens]
      | cons a l ih =>
        intro h
        have h1 := h a (by simp)
        have h2 := ih (fun x hx => h x (by simp [hx]))
        simp only [Lib.lens, List.map_cons, List.sum_cons, List.length_cons] at h2 ⊢
        omega
    have := hl (x :: r) h
    simp only [List.length_cons, List.length_nil] at this ⊢
    omega
theorem join_any (a0 : Option Addr) (cap : Nat) (xs : List ByteArray) (w : World) (hL : LieL w a0 xs) (hc : xs.length ≤ cap) (hx : ∀ x ∈ xs, x.size ≤ 9223372036854775807) (hn : xs.length ≤ 9223372036854775807) (hT : U8 w) :
    Calls Tryd.prog 12 #[.slice a0 xs.length cap] w fun e w' => e = .returned (.tuple #[.string (jnS xs), .int .i64 (jnE xs)]) ∧ Below w.heap.size w w' := by
  have hlen : okP xs = true → (Lib.join (xs.map (·.data.toList)) [47]).length ≤ 140737488355328 := fun hq => by
    simp only [okP, Bool.and_eq_true, decide_eq_true_eq, List.all_eq_true] at hq
    have := join_len (xs.map (·.data.toList)) (fun l hl => by
      obtain ⟨x, hx, rfl⟩ := List.mem_map.1 hl
      exact (okN_split (hq.2 x hx)).1)
    rw [List.length_map] at this
    omega
  have hz : okP xs = true → ¬ 9223372036854775807 < 1 + (mkB (Lib.join (xs.map (·.data.toList)) [47])).size := fun hq => by
    have := hlen hq
    rw [← data_len, mkB_data]
    omega
  refine (join_walk a0 xs.length cap (okP xs) (mkB (Lib.join (xs.map (·.data.toList)) [47])) w hz (makePath_any a0 cap xs w hL hx hn hT) ?_).mono fun e w' ⟨he, hb⟩ => ⟨?_, hb⟩
  · intro hq w1 hb1
    simp only [okP, Bool.and_eq_true, decide_eq_true_eq, List.all_eq_true] at hq
    have hlen := hlen (by simp only [okP, Bool.and_eq_true, decide_eq_true_eq, List.all_eq_true]; exact hq)
    cases a0 with
    | none =>
      have hxs : xs = [] := by
        cases xs with
        | nil => rfl
        | cons x r =>
          obtain ⟨b, off, ha, _⟩ := hL 0 x rfl
          cases ha
      subst hxs
      exact (Any.strings_Join_none lays156 extra156 none cap ⟨#[47]⟩ w1).mono fun e w' ⟨he, hw⟩ => ⟨he, hw ▸ Below.refl _ _⟩
    | some a =>
      have hL1 := hL.below hb1
      cases xs with
      | nil => exact (Any.strings_Join_none lays156 extra156 (some a) cap ⟨#[47]⟩ w1).mono fun e w' ⟨he, hw⟩ => ⟨he, hw ▸ Below.refl _ _⟩
      | cons x r =>
        obtain ⟨b, off, ha, hlt, _⟩ := hL1 0 x rfl
        obtain rfl := Option.some.inj ha
        exact Any.strings_Join lays156 extra156 b off cap (x :: r) ⟨#[47]⟩ w1 (fun j y hy => by
          obtain ⟨b', off', ha', _, hcell⟩ := hL1 j y hy
          cases ha'
          exact hcell) hlt (by omega) hc hlen
  · rw [he]
    unfold jnS jnE
    cases okP xs with
    | false => rfl
    | true =>
      have : (⟨#[47]⟩ : ByteArray) ++ mkB (Lib.join (xs.map (·.data.toList)) [47]) = mkB (47 :: Lib.join (xs.map (·.data.toList)) [47]) := by
        apply ByteArray.ext
        apply Array.toList_inj.1
        simp [mkB]
      simp [this]
end Go.Proofs.YtobecfeelamlmaaDoor
