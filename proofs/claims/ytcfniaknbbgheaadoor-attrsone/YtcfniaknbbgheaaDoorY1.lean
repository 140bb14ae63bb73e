import Derived.Test.YtcfniaknbbgheaaDoorChecked
import Derived.Shelf.Strings.Builder1
import Derived.Shelf.Unicode.ValidAny
import Derived.Shelf.Unicode.DecodeAny
import Derived.Shelf.Small.Wraps
import Derived.Test.YtcfniaknbbgheaaDoorCards
import Derived.Test.YtcfniaknbbgheaaDoorTie
import Derived.Lib.LaidU8T
import Derived.ProofKit
import Derived.Deep.DeepHandedRow
import Derived.Lib.LaidTab
import Derived.Lib.ValidLaws
import Derived.Lib.RuneBytes
import Derived.Lib.MapLaws
import Derived.Lib.OthersKept
import Derived.WalkKit
import Derived.BigCall
import Derived.Lib.BitFns
import Derived.Laws.BytesArg
import Derived.Laws.BitsAllLaws
/- The layings of unicode/utf8.ValidString, DecodeRuneInString. -/
namespace Go.Proofs.YtcfniaknbbgheaaDoor
open Go.Shelf
def lays196_ren : Go.Shelf.Ren := ⟨fun | 196 => 71 | 259 => 73 | n => n, fun | 9 => 9 | 4 => 4 | 3 => 3 | 5 => 5 | 12 => 12 | 119 => 126 | 0 => 0 | 46 => 91 | 139 => 129 | 138 => 128 | 53 => 68 | n => n, fun | 3 => 2 | 4 => 3 | n => n⟩
theorem lays196 : Go.Proofs.Lays.n196 Tryd.prog lays196_ren := {
  mixed := by kernel_rfl
  f196 := Tryd.func71.trans (congrArg some (by kernel_rfl))
  f259 := Tryd.func73.trans (congrArg some (by kernel_rfl))
  t0 := Tryd.underlying0
  a0 := Tryd.isAgg0
  z0 := Tryd.sizeOf0
  v0 := Tryd.zeroValue0
  t3 := Tryd.underlying3
  a3 := Tryd.isAgg3
  z3 := Tryd.sizeOf3
  v3 := Tryd.zeroValue3
  t4 := Tryd.underlying4
  a4 := Tryd.isAgg4
  z4 := Tryd.sizeOf4
  v4 := Tryd.zeroValue4
  t5 := Tryd.underlying5
  a5 := Tryd.isAgg5
  z5 := Tryd.sizeOf5
  v5 := Tryd.zeroValue5
  t9 := Tryd.underlying9
  a9 := Tryd.isAgg9
  z9 := Tryd.sizeOf9
  v9 := Tryd.zeroValue9
  t12 := Tryd.underlying12
  a12 := Tryd.isAgg12
  z12 := Tryd.sizeOf12
  v12 := Tryd.zeroValue12
  t46 := Tryd.underlying91
  a46 := Tryd.isAgg91
  z46 := Tryd.sizeOf91
  v46 := Tryd.zeroValue91
  t53 := Tryd.underlying68
  a53 := Tryd.isAgg68
  z53 := Tryd.sizeOf68
  v53 := Tryd.zeroValue68
  t119 := Tryd.underlying126
  a119 := Tryd.isAgg126
  z119 := Tryd.sizeOf126
  t138 := Tryd.underlying128
  a138 := Tryd.isAgg128
  z138 := Tryd.sizeOf128
  v138 := Tryd.zeroValue128
  t139 := Tryd.underlying129
  a139 := Tryd.isAgg129
  z139 := Tryd.sizeOf129
  v139 := Tryd.zeroValue129
  g3 := by kernel_rfl
  g4 := by kernel_rfl }
def lays197_ren : Go.Shelf.Ren := ⟨fun | 197 => 70 | 260 => 72 | n => n, fun | 9 => 9 | 21 => 21 | 3 => 3 | 4 => 4 | 5 => 5 | 105 => 122 | 119 => 126 | 0 => 0 | 46 => 91 | 139 => 129 | 138 => 128 | n => n, fun | 3 => 2 | 4 => 3 | n => n⟩
theorem lays197 : Go.Proofs.Lays.n197 Tryd.prog lays197_ren := {
  mixed := by kernel_rfl
  f197 := Tryd.func70.trans (congrArg some (by kernel_rfl))
  f260 := Tryd.func72.trans (congrArg some (by kernel_rfl))
  t0 := Tryd.underlying0
  a0 := Tryd.isAgg0
  z0 := Tryd.sizeOf0
  v0 := Tryd.zeroValue0
  t3 := Tryd.underlying3
  a3 := Tryd.isAgg3
  z3 := Tryd.sizeOf3
  v3 := Tryd.zeroValue3
  t4 := Tryd.underlying4
  a4 := Tryd.isAgg4
  z4 := Tryd.sizeOf4
  v4 := Tryd.zeroValue4
  t5 := Tryd.underlying5
  a5 := Tryd.isAgg5
  z5 := Tryd.sizeOf5
  v5 := Tryd.zeroValue5
  t9 := Tryd.underlying9
  a9 := Tryd.isAgg9
  z9 := Tryd.sizeOf9
  v9 := Tryd.zeroValue9
  t21 := Tryd.underlying21
  a21 := Tryd.isAgg21
  z21 := Tryd.sizeOf21
  v21 := Tryd.zeroValue21
  t46 := Tryd.underlying91
  a46 := Tryd.isAgg91
  z46 := Tryd.sizeOf91
  v46 := Tryd.zeroValue91
  t105 := Tryd.underlying122
  a105 := Tryd.isAgg122
  z105 := Tryd.sizeOf122
  v105 := Tryd.zeroValue122
  t119 := Tryd.underlying126
  a119 := Tryd.isAgg126
  z119 := Tryd.sizeOf126
  t138 := Tryd.underlying128
  a138 := Tryd.isAgg128
  z138 := Tryd.sizeOf128
  v138 := Tryd.zeroValue128
  t139 := Tryd.underlying129
  a139 := Tryd.isAgg129
  z139 := Tryd.sizeOf129
  v139 := Tryd.zeroValue129
  g3 := by kernel_rfl
  g4 := by kernel_rfl }
end Go.Proofs.YtcfniaknbbgheaaDoor
/- Of the Go library: unicode/utf8.ValidString, DecodeRuneInString. -/
namespace Go.Proofs.YtcfniaknbbgheaaDoor
open Go.Shelf Go.RowKit
/-- The two tables of unicode/utf8. -/
abbrev U8 (w : World) : Prop := Lib.Utf8Tabs 2 3 w
theorem U8.below {w w' : World} (h : U8 w) (hb : Below w.heap.size w w') : U8 w' := Utf8Tabs_below h hb
theorem valid_any (s : ByteArray) (w : World) (hs : s.size ≤ 9223372036854775807) (hT : U8 w) :
    Calls Tryd.prog 71 #[.string s] w fun e w' => e = .returned (.bool (Lib.validD s.data.toList)) ∧ Below w.heap.size w w' :=
  Any.utf8_ValidString lays196 s w hs hT
theorem decode_any (s : ByteArray) (w : World) (hT : U8 w) :
    Calls Tryd.prog 70 #[.string s] w fun e w' => e = .returned (.tuple #[.int .i32 (Lib.decodeGo s).1, .int .i64 (Lib.decodeGo s).2]) ∧ Below w.heap.size w w' :=
  Any.utf8_DecodeRuneInString lays197 s w hT
end Go.Proofs.YtcfniaknbbgheaaDoor
/- The listed tables of the Go library: what the lists of stage 10's rows give, and a world for the witnesses that holds them. -/
namespace Go.Proofs.YtcfniaknbbgheaaDoor
open Go.ChangeShapes Go.WideShapes Go.ChangeAt Go.RowKit
set_option linter.unusedSimpArgs false
set_option linter.unusedVariables false
theorem own : ownKnob Tryd.prog.godebug = none := by kernel_rfl
theorem laidOut : laidOutB Tryd.prog = true := by kernel_rfl
theorem first_eq : Rows.laid_unicode_utf8_first = Lib.firstData := by kernel_rfl
theorem accept_eq : (Rows.laid_unicode_utf8_acceptRanges : DataW Unit) = Lib.acceptData := by kernel_rfl
theorem u8_extra : U8Extra Tryd.prog lays196_ren := ⟨by kernel_rfl, by kernel_rfl, by kernel_rfl, by kernel_rfl, by kernel_rfl, by kernel_rfl, by kernel_rfl⟩
/-- A table's cells. -/
def cell0 : DataW Unit → List Value
  | .lit (.int k z) => [.int k z]
  | _ => []
def cell1 : DataW Unit → List Value
  | .lit (.int k z) => [.int k z]
  | .agg ps => ps.flatMap cell0
  | _ => []
def cells2 : DataW Unit → Array Value
  | .agg ps => (ps.flatMap cell1).toArray
  | _ => #[]
def layC (cs : Array Value) (o : Obj) : Obj := match o with
  | .cells _ t frozen => .cells cs t frozen
  | o => o
/-- Worlds for the witnesses. -/
noncomputable def laidW2 (os : Os) : World := { World.holding Tryd.prog os ⟨#[], #[], []⟩ with heap := ((World.holding Tryd.prog os ⟨#[], #[], []⟩).heap.modify 2 (layC (cells2 Rows.laid_unicode_utf8_first))).modify 3 (layC (cells2 Rows.laid_unicode_utf8_acceptRanges)) }
theorem u8_back {W : World} (h : laidMet Tryd.prog Rows.attrsBackRow.laid W) : U8 W := by
  have h3 := Lib.laidMet.reads h (.tail _ (.head _))
  have h4 := Lib.laidMet.reads h (.head _)
  rw [first_eq] at h3
  rw [accept_eq] at h4
  exact utf8Tabs_of_readsT (U8Types.of196 lays196) u8_extra h3 h4
theorem met10 (os : Os) (args : Array Value) : laidMet Tryd.prog Rows.attrsBackRow.laid ((laidW2 os).forCall (fun _ _ => 0) ⟨#[], args, []⟩).memory :=
  laidMet_of_run' 8 (by kernel_rfl) (by kernel_rfl)
end Go.Proofs.YtcfniaknbbgheaaDoor
/- Texts as runes: what a range over a text meets; names that may be; patterns. -/
namespace Go.Proofs.YtcfniaknbbgheaaDoor
open Go.Lib
set_option linter.unusedSimpArgs false
set_option linter.unusedVariables false
def rnG : Nat → List UInt8 → List Nat
  | 0, _ => []
  | n + 1, l => if l = [] then [] else (decodeL l).1 :: rnG n (l.drop (decodeL l).2)
/-- The runes that a range over the text meets. -/
def rn (l : List UInt8) : List Nat := rnG l.length l
theorem rnG_nil : ∀ n, rnG n [] = []
  | 0 => rfl
  | _ + 1 => by simp [rnG]
theorem rnG_fuel : ∀ (n m : Nat) (l : List UInt8), l.length ≤ n → l.length ≤ m → rnG n l = rnG m l
  | 0, m, l, hn, _ => by
    obtain rfl : l = [] := List.eq_nil_of_length_eq_zero (by omega)
    rw [rnG_nil, rnG_nil]
  | n + 1, 0, l, _, hm => by
    obtain rfl : l = [] := List.eq_nil_of_length_eq_zero (by omega)
    rw [rnG_nil, rnG_nil]
  | n + 1, m + 1, l, hn, hm => by
    unfold rnG
    by_cases hne : l = []
    · simp [hne]
    · have hw := decodeL_width l
      have hl : 0 < l.length := List.length_pos_iff.2 hne
      rw [if_neg hne, if_neg hne, rnG_fuel n m (l.drop (decodeL l).2) (by rw [List.length_drop]; omega) (by rw [List.length_drop]; omega)]
theorem rn_nil : rn [] = [] := rfl
theorem rn_step (l : List UInt8) (hne : l ≠ []) : rn l = (decodeL l).1 :: rn (l.drop (decodeL l).2) := by
  have hl : 0 < l.length := List.length_pos_iff.2 hne
  have hw := decodeL_width l
  obtain ⟨n, hn⟩ : ∃ n, l.length = n + 1 := ⟨l.length - 1, by omega⟩
  unfold rn
  rw [hn]
  show (if l = [] then [] else _) = _
  rw [if_neg hne, rnG_fuel n (l.drop (decodeL l).2).length _ (by rw [List.length_drop]; omega) (Nat.le_refl _)]
theorem rn_ne (l : List UInt8) (hne : l ≠ []) : rn l ≠ [] := by rw [rn_step l hne]; simp
theorem rn_len (l : List UInt8) : ∀ n, l.length ≤ n → (rn l).length ≤ l.length := by
  intro n
  induction n generalizing l with
  | zero => intro h; obtain rfl : l = [] := List.eq_nil_of_length_eq_zero (by omega); exact Nat.le_refl _
  | succ n ih =>
    intro h
    by_cases hne : l = []
    · subst hne; exact Nat.le_refl _
    · have hw := decodeL_width l
      have hl := decodeL_le l hne
      rw [rn_step l hne, List.length_cons]
      have := ih (l.drop (decodeL l).2) (by rw [List.length_drop]; omega)
      rw [List.length_drop] at this
      omega
theorem rn_le (l : List UInt8) : (rn l).length ≤ l.length := rn_len l _ (Nat.le_refl _)
theorem rn_rune (l : List UInt8) : ∀ n, l.length ≤ n → ∀ r ∈ rn l, r ≤ 1114111 := by
  intro n
  induction n generalizing l with
  | zero => intro h; obtain rfl : l = [] := List.eq_nil_of_length_eq_zero (by omega); intro r hr; cases hr
  | succ n ih =>
    intro h r hr
    by_cases hne : l = []
    · subst hne; cases hr
    · have hw := decodeL_width l
      have hl := decodeL_le l hne
      rw [rn_step l hne] at hr
      rcases List.mem_cons.1 hr with rfl | hr
      · exact decodeL_rune l
      · exact ih (l.drop (decodeL l).2) (by rw [List.length_drop]; omega) r hr
/-- A rune that may stand in a name. -/
def goodR (r : Nat) : Bool := !(decide (r < 32)) && r != 127 && r != 47
/-- A name that may be. -/
def okN (l : List UInt8) : Bool := decide (l.length ≤ 255) && validD l && l != [46] && l != [46, 46] && (rn l).all goodR && decide (1 ≤ (rn l).length) && decide ((rn l).length ≤ 64)
/-- How many runes it has, and the error. -/
def rnN (l : List UInt8) : Nat := if okN l then (rn l).length else 0
def rnE (l : List UInt8) : Nat := if okN l then 0 else 10
theorem okN_split {l : List UInt8} (h : okN l = true) : l.length ≤ 255 ∧ validD l = true ∧ l ≠ [46] ∧ l ≠ [46, 46] ∧ (∀ r ∈ rn l, goodR r = true) ∧ 1 ≤ (rn l).length ∧ (rn l).length ≤ 64 := by
  simp only [okN, Bool.and_eq_true, decide_eq_true_eq, bne_iff_ne, ne_eq, List.all_eq_true] at h
  obtain ⟨⟨⟨⟨⟨⟨h1, h2⟩, h3⟩, h4⟩, h5⟩, h6⟩, h7⟩ := h
  exact ⟨h1, h2, h3, h4, h5, h6, h7⟩
theorem okN_mk {l : List UInt8} (h1 : l.length ≤ 255) (h2 : validD l = true) (h3 : l ≠ [46]) (h4 : l ≠ [46, 46]) (h5 : ∀ r ∈ rn l, goodR r = true) (h6 : 1 ≤ (rn l).length) (h7 : (rn l).length ≤ 64) : okN l = true := by
  simp only [okN, Bool.and_eq_true, decide_eq_true_eq, bne_iff_ne, ne_eq, List.all_eq_true]
  exact ⟨⟨⟨⟨⟨⟨h1, h2⟩, h3⟩, h4⟩, h5⟩, h6⟩, h7⟩
/-! ### Patterns -/
/-- A name's runes are like a pattern's. -/
def like : List Nat → List Nat → Bool
  | [], n => n.isEmpty
  | c :: p, n => if c = 42 then (match n with | [] => like p [] | x :: t => like p (x :: t) || like (c :: p) t) else (match n with | [] => false | x :: t => (c == 63 || c == x) && like p t)
termination_by p n => (p.length, n.length)
theorem like_nil (n : List Nat) : like [] n = n.isEmpty := by rw [like]
theorem like_star_nil (p : List Nat) : like (42 :: p) [] = like p [] := by rw [like]; simp
theorem like_star (p : List Nat) (x : Nat) (t : List Nat) : like (42 :: p) (x :: t) = (like p (x :: t) || like (42 :: p) t) := by rw [like]; simp
theorem like_one_nil (c : Nat) (p : List Nat) (h : c ≠ 42) : like (c :: p) [] = false := by rw [like]; simp [h]
theorem like_one (c : Nat) (p : List Nat) (x : Nat) (t : List Nat) (h : c ≠ 42) : like (c :: p) (x :: t) = ((c == 63 || c == x) && like p t) := by rw [like]; simp [h]
/-- One rune of a pattern without a star is like one rune. -/
def oneL (c x : Nat) : Bool := c == 63 || c == x
/-- A piece of a pattern without a star is like as many runes. -/
def plainL : List Nat → List Nat → Bool
  | [], [] => true
  | c :: p, x :: t => c != 42 && oneL c x && plainL p t
  | _, _ => false
theorem plainL_app : ∀ (p n q t : List Nat), plainL p n = true → like (p ++ q) (n ++ t) = like q t
  | [], [], q, t, _ => rfl
  | [], _ :: _, _, _, h => by simp [plainL] at h
  | _ :: _, [], _, _, h => by simp [plainL] at h
  | c :: p, x :: n, q, t, h => by
    simp only [plainL, Bool.and_eq_true, bne_iff_ne, ne_eq] at h
    obtain ⟨⟨h1, h2⟩, h3⟩ := h
    rw [List.cons_append, List.cons_append, like_one _ _ _ _ h1, plainL_app p n q t h3]
    unfold oneL at h2
    simp [h2]
theorem plainL_snoc : ∀ (p n : List Nat) (c x : Nat), plainL p n = true → c ≠ 42 → oneL c x = true → plainL (p ++ [c]) (n ++ [x]) = true
  | [], [], c, x, _, h1, h2 => by simp [plainL, h1, h2]
  | [], _ :: _, _, _, h, _, _ => by simp [plainL] at h
  | _ :: _, [], _, _, h, _, _ => by simp [plainL] at h
  | a :: p, b :: n, c, x, h, h1, h2 => by
    simp only [plainL, Bool.and_eq_true] at h
    simp only [List.cons_append, plainL, Bool.and_eq_true]
    exact ⟨h.1, plainL_snoc p n c x h.2 h1 h2⟩
theorem plainL_len : ∀ (p n : List Nat), plainL p n = true → p.length = n.length
  | [], [], _ => rfl
  | [], _ :: _, h => by simp [plainL] at h
  | _ :: _, [], h => by simp [plainL] at h
  | c :: p, x :: n, h => by
    simp only [plainL, Bool.and_eq_true] at h
    simp [plainL_len p n h.2]
/-- How many runes of a pattern are no stars. -/
def solid (p : List Nat) : Nat := (p.filter (· != 42)).length
theorem solid_cons (c : Nat) (p : List Nat) : solid (c :: p) = (if c = 42 then 0 else 1) + solid p := by
  unfold solid
  by_cases h : c = 42 <;> simp [h]; omega
theorem solid_app (p q : List Nat) : solid (p ++ q) = solid p + solid q := by simp [solid]
theorem like_solid : ∀ (k : Nat) (p n : List Nat), p.length + n.length ≤ k → like p n = true → solid p ≤ n.length
  | _, [], n, _, _ => by simp [solid]
  | 0, c :: p, n, h, _ => by simp at h
  | k + 1, c :: p, [], h, hl => by
    simp only [List.length_cons, List.length_nil] at h
    by_cases hc : c = 42
    · subst hc
      rw [like_star_nil] at hl
      have := like_solid k p [] (by simp; omega) hl
      rw [solid_cons, if_pos rfl]
      simpa using this
    · rw [like_one_nil c p hc] at hl; cases hl
  | k + 1, c :: p, x :: t, h, hl => by
    simp only [List.length_cons] at h
    by_cases hc : c = 42
    · subst hc
      rw [like_star, Bool.or_eq_true] at hl
      rw [solid_cons, if_pos rfl]
      rcases hl with hl | hl
      · have := like_solid k p (x :: t) (by simp; omega) hl
        omega
      · have := like_solid k (42 :: p) t (by simp; omega) hl
        rw [solid_cons, if_pos rfl] at this
        simp; omega
    · rw [like_one c p x t hc, Bool.and_eq_true] at hl
      have := like_solid k p t (by omega) hl.2
      rw [solid_cons, if_neg hc]
      simp; omega
theorem plainL_solid : ∀ (p n : List Nat), plainL p n = true → solid p = p.length
  | [], [], _ => rfl
  | [], _ :: _, h => by simp [plainL] at h
  | _ :: _, [], h => by simp [plainL] at h
  | c :: p, x :: n, h => by
    simp only [plainL, Bool.and_eq_true, bne_iff_ne, ne_eq] at h
    rw [solid_cons, if_neg h.1.1, plainL_solid p n h.2, List.length_cons]
    omega
/-- All stars. -/
def stars (p : List Nat) : Bool := p.all (· == 42)
theorem like_stars : ∀ p : List Nat, like p [] = stars p
  | [] => by simp [like_nil, stars]
  | c :: p => by
    by_cases hc : c = 42
    · subst hc; rw [like_star_nil, like_stars p]; simp [stars]
    · rw [like_one_nil c p hc]; simp [stars, hc]
theorem stars_solid : ∀ p : List Nat, stars p = false → 1 ≤ solid p
  | [], h => by simp [stars] at h
  | c :: p, h => by
    by_cases hc : c = 42
    · subst hc
      have := stars_solid p (by simpa [stars] using h)
      rw [solid_cons]; omega
    · rw [solid_cons, if_neg hc]; omega
/-- A star takes whatever stands ahead. -/
theorem star_ahead (p : List Nat) : ∀ (a t : List Nat), like (42 :: p) t = true → like (42 :: p) (a ++ t) = true
  | [], _, h => h
  | x :: a, t, h => by rw [List.cons_append, like_star, star_ahead p a t h]; simp
theorem star_some (p : List Nat) : ∀ n : List Nat, like (42 :: p) n = true → ∃ a t, n = a ++ t ∧ like p t = true
  | [], h => ⟨[], [], rfl, by rwa [like_star_nil] at h⟩
  | x :: t, h => by
    rw [like_star, Bool.or_eq_true] at h
    rcases h with h | h
    · exact ⟨[], x :: t, rfl, h⟩
    · obtain ⟨a, b, e, hl⟩ := star_some p t h
      exact ⟨x :: a, b, by rw [e]; rfl, hl⟩
theorem star_of (p : List Nat) (a t : List Nat) (h : like p t = true) : like (42 :: p) (a ++ t) = true := by
  refine star_ahead p a t ?_
  cases t with
  | nil => rw [like_star_nil]; exact h
  | cons x t => rw [like_star, h]; simp
/-- A piece without a star, taken off the front. -/
theorem like_plain_split : ∀ (p q n : List Nat), (∀ c ∈ p, c ≠ 42) → like (p ++ q) n = true → ∃ a t, n = a ++ t ∧ a.length = p.length ∧ like q t = true
  | [], q, n, _, h => ⟨[], n, rfl, rfl, h⟩
  | c :: p, q, [], hp, h => by rw [List.cons_append, like_one_nil _ _ (hp c (by simp))] at h; cases h
  | c :: p, q, x :: t, hp, h => by
    rw [List.cons_append, like_one _ _ _ _ (hp c (by simp)), Bool.and_eq_true] at h
    obtain ⟨a, b, e, hl, hq⟩ := like_plain_split p q t (fun c hc => hp c (by simp [hc])) h.2
    exact ⟨x :: a, b, by rw [e]; rfl, by simp [hl], hq⟩
theorem plainL_noStar : ∀ (p n : List Nat), plainL p n = true → ∀ c ∈ p, c ≠ 42
  | [], [], _ => by intro c hc; cases hc
  | [], _ :: _, h => by simp [plainL] at h
  | _ :: _, [], h => by simp [plainL] at h
  | c :: p, x :: n, h => by
    simp only [plainL, Bool.and_eq_true, bne_iff_ne, ne_eq] at h
    intro d hd
    rcases List.mem_cons.1 hd with rfl | hd
    · exact h.1.1
    · exact plainL_noStar p n h.2 d hd
/-- The star met anew: what stands ahead of it was found as early as can be. -/
theorem star_next (p q r1 r2 : List Nat) (h : plainL p r1 = true) : like (42 :: (p ++ 42 :: q)) (r1 ++ r2) = like (42 :: q) r2 := by
  rw [Bool.eq_iff_iff]
  constructor
  · intro hl
    obtain ⟨a, t, e, ht⟩ := star_some _ _ hl
    obtain ⟨b, u, e2, hb, hu⟩ := like_plain_split p (42 :: q) t (plainL_noStar p r1 h) ht
    have hlen := plainL_len p r1 h
    have e3 : r1 ++ r2 = (a ++ b) ++ u := by rw [e, e2, List.append_assoc]
    have hle : r1.length ≤ (a ++ b).length := by simp; omega
    have e4 : r2 = (a ++ b).drop r1.length ++ u := by
      have := congrArg (List.drop r1.length) e3
      rwa [List.drop_left, List.drop_append_of_le_length hle] at this
    rw [e4]
    exact star_ahead q _ u hu
  · intro hl
    refine star_of (p ++ 42 :: q) [] (r1 ++ r2) ?_
    rw [plainL_app p r1 (42 :: q) r2 h]
    exact hl
/-- The star begins one rune later, where what stands behind it is not like the front. -/
theorem star_later (p r1 : List Nat) (x : Nat) (r2 q : List Nat) (c : Nat) (h : plainL p r1 = true) (hc : c ≠ 42) (ho : oneL c x = false) (y : Nat) (t : List Nat) (e : r1 ++ x :: r2 = y :: t) : like (42 :: (p ++ c :: q)) (r1 ++ x :: r2) = like (42 :: (p ++ c :: q)) t := by
  have : like (p ++ c :: q) (r1 ++ x :: r2) = false := by
    rw [plainL_app p r1 _ _ h, like_one c q x r2 hc]
    unfold oneL at ho
    simp [ho]
  rw [e] at this ⊢
  rw [like_star, this]
  simp
/-- The name is at its end: what is left must be stars. -/
theorem star_end (p r q : List Nat) (h : plainL p r = true) : like (42 :: (p ++ q)) r = stars q := by
  cases hs : stars q with
  | true =>
    refine star_of (p ++ q) [] r ?_
    have := plainL_app p r q [] h
    rw [List.append_nil] at this
    rw [this, like_stars, hs]
  | false =>
    rw [Bool.eq_false_iff]
    intro hl
    have := like_solid _ _ _ (Nat.le_refl _) hl
    rw [solid_cons, if_pos rfl, solid_app, plainL_solid p r h, plainL_len p r h] at this
    have := stars_solid q hs
    omega
theorem star_past (p r1 : List Nat) (x : Nat) (r2 : List Nat) (h : plainL p r1 = true) (y : Nat) (t : List Nat) (e : r1 ++ x :: r2 = y :: t) : like (42 :: p) (r1 ++ x :: r2) = like (42 :: p) t := by
  have : like p (r1 ++ x :: r2) = false := by
    have := plainL_app p r1 [] (x :: r2) h
    rw [List.append_nil] at this
    rw [this, like_nil]
    rfl
  rw [e] at this ⊢
  rw [like_star, this]
  simp
end Go.Proofs.YtcfniaknbbgheaaDoor
/- names.isWhole, Runes, Check. -/
namespace Go.Proofs.YtcfniaknbbgheaaDoor
open Go.RowKit
set_option linter.unusedSimpArgs false
set_option linter.unusedVariables false
theorem data_len (s : ByteArray) : s.data.toList.length = s.size := Array.length_toList
set_option maxRecDepth 100000 in
theorem whole_anyN (s : ByteArray) (w : World) (hs : s.size ≤ 9223372036854775807) (hT : U8 w) :
    Calls Tryd.prog 69 #[.string s] w fun e w' => e = .returned (.bool (decide (s.data.toList.length ≤ 255) && Lib.validD s.data.toList)) ∧ Below w.heap.size w w' := by
  rw [data_len]
  by_cases h : s.size ≤ 255
  · have hz : (s.size : Int) ≤ 255 := by omega
    go_enter Tryd.func69, Tryd.ntmps69
    go_wp2_with (go_at_call 71; refine (valid_any s w hs hT).mono ?_; rintro e w1 ⟨rfl, hb⟩)
    go_ret
    exact ⟨by simp [h], hb⟩
  · have hz : ¬ (s.size : Int) ≤ 255 := by omega
    go_enter Tryd.func69, Tryd.ntmps69
    go_wp2
    go_ret
    exact ⟨by simp [h], Below.refl _ _⟩
/-- A rune more of a text, at a place. -/
theorem rn_at (s : ByteArray) (pos : Nat) (h : pos < s.size) : rn (s.data.toList.drop pos) = (Utf8.decode s pos).1 :: rn (s.data.toList.drop (pos + (Utf8.decode s pos).2)) := by
  have hne : s.data.toList.drop pos ≠ [] := by
    intro e
    have := congrArg List.length e
    rw [List.length_drop, data_len] at this
    simp at this
    omega
  rw [rn_step _ hne, Lib.decodeL_drop, List.drop_drop]
theorem dec_le (s : ByteArray) (pos : Nat) (h : pos < s.size) : 1 ≤ (Utf8.decode s pos).2 ∧ pos + (Utf8.decode s pos).2 ≤ s.size := by
  refine ⟨Lib.width_pos s pos, ?_⟩
  have hne : s.data.toList.drop pos ≠ [] := by
    intro e
    have := congrArg List.length e
    rw [List.length_drop, data_len] at this
    simp at this
    omega
  have := Lib.decodeL_le _ hne
  rw [Lib.decodeL_drop, List.length_drop, data_len] at this
  omega
theorem rn_end (s : ByteArray) (pos : Nat) (h : ¬ pos < s.size) : rn (s.data.toList.drop pos) = [] := by
  rw [List.drop_eq_nil_of_le (by rw [data_len]; omega)]; rfl
theorem str_ne (s : ByteArray) (l : List UInt8) : (s.data.toList = l) = (s = ⟨l.toArray⟩) := by
  apply propext
  constructor
  · intro h; cases s; subst h; rfl
  · intro h; subst h; rfl
set_option maxHeartbeats 1000000 in
set_option maxRecDepth 100000 in
theorem runes_any (s : ByteArray) (w : World) (hs : s.size ≤ 9223372036854775807) (hT : U8 w) :
    Calls Tryd.prog 64 #[.string s] w fun e w' => e = .returned (.tuple #[.int .i64 (rnN s.data.toList), .int .i64 (rnE s.data.toList)]) ∧ Below w.heap.size w w' := by
  obtain ⟨q, hq⟩ : ∃ q, q = (decide (s.data.toList.length ≤ 255) && Lib.validD s.data.toList) := ⟨_, rfl⟩
  have hwh := whole_anyN s w hs hT
  rw [← hq] at hwh
  have HQ : Hid (q = (decide (s.data.toList.length ≤ 255) && Lib.validD s.data.toList)) := hq
  clear hq hT
  have bad : okN s.data.toList = false → (Ending.returned (.tuple #[.int .i64 (0 : Int), .int .i64 (10 : Int)]) : Ending) = .returned (.tuple #[.int .i64 (rnN s.data.toList), .int .i64 (rnE s.data.toList)]) := fun h => by simp [rnN, rnE, h]
  have HBAD : Hid (okN s.data.toList = false → (Ending.returned (.tuple #[.int .i64 (0 : Int), .int .i64 (10 : Int)]) : Ending) = .returned (.tuple #[.int .i64 (rnN s.data.toList), .int .i64 (rnE s.data.toList)])) := bad
  clear bad
  obtain ⟨b1, hb1⟩ : ∃ b1, (s.toList == [46]) = b1 := ⟨_, rfl⟩
  obtain ⟨b2, hb2⟩ : ∃ b2, (s.toList == [46, 46]) = b2 := ⟨_, rfl⟩
  have HP : Hid (okN s.data.toList = true → q = true ∧ b1 = false ∧ b2 = false) := fun h => by
    obtain ⟨h1, h2, h3, h4, _⟩ := okN_split h
    refine ⟨by rw [HQ.out, decide_eq_true h1, h2]; rfl, ?_, ?_⟩
    · rw [← hb1, Lib.toList_data]; simpa using h3
    · rw [← hb2, Lib.toList_data]; simpa using h4
  have HN : Hid (b1 = false → b2 = false → s.data.toList ≠ [46] ∧ s.data.toList ≠ [46, 46]) := fun h1 h2 => by
    rw [h1, Lib.toList_data] at hb1
    rw [h2, Lib.toList_data] at hb2
    exact ⟨by simpa using hb1, by simpa using hb2⟩
  cases q with
  | false =>
    go_enter Tryd.func64, Tryd.ntmps64
    go_wp2_with (go_at_call 69; refine hwh.mono ?_; rintro e w1 ⟨rfl, hb⟩)
    go_ret2
    exact ⟨HBAD.out (Bool.eq_false_iff.2 fun h => by have := (HP.out h).1; cases this), hb⟩
  | true =>
    cases b1 with
    | true =>
      go_enter Tryd.func64, Tryd.ntmps64
      go_wp2_with (go_at_call 69; refine hwh.mono ?_; rintro e w1 ⟨rfl, hb⟩)
      go_ret2
      exact ⟨HBAD.out (Bool.eq_false_iff.2 fun h => by have := (HP.out h).2.1; cases this), hb⟩
    | false =>
    cases b2 with
    | true =>
      go_enter Tryd.func64, Tryd.ntmps64
      go_wp2_with (go_at_call 69; refine hwh.mono ?_; rintro e w1 ⟨rfl, hb⟩)
      go_ret2
      exact ⟨HBAD.out (Bool.eq_false_iff.2 fun h => by have := (HP.out h).2.2; cases this), hb⟩
    | false =>
    have HN' := HN.out rfl rfl
    clear HP HN
    have HNE : Hid (s.data.toList ≠ [46] ∧ s.data.toList ≠ [46, 46]) := HN'
    clear HN'
    go_enter Tryd.func64, Tryd.ntmps64
    go_wp2_with (go_at_call 69; refine hwh.mono ?_; rintro e w1 ⟨rfl, hb⟩)
    clear hwh
    have HB : Hid (Below w.heap.size w w1) := hb
    have hz1 : w.heap.size ≤ w1.heap.size := hb.size
    clear hb
    go_loopw [4] (fun v wr => ∃ (pos : Nat) (pre : List Nat), v = .int .i64 (pre.length : Nat) ∧ wr.heap[w1.heap.size]? = some (.stringIter s pos) ∧ Hid (Below w1.heap.size w1 wr) ∧ pos ≤ s.size ∧ pre.length ≤ pos ∧ Hid (rn s.data.toList = pre ++ rn (s.data.toList.drop pos)) ∧ Hid (∀ r ∈ pre, goodR r = true)) (fun _ wr => s.size - wr.iterPos w1.heap.size)
    case atStart =>
      refine ⟨0, [], rfl, World.iter_heap w1 s 0, ((Below.refl _ w1).alloc (Nat.le_refl _) _), by omega, by simp, rfl, ?_⟩
      intro r hr; cases hr
    case round =>
      obtain ⟨pos, pre, rfl, hit, HBr, hp0, hpl, HR, HG⟩ := hrel
      have hsz : w1.heap.size < wr.heap.size := (Array.getElem?_eq_some_iff.1 hit).1
      have HW : Hid (Below w.heap.size w wr) := HB.out.trans (HBr.out.mono hz1)
      by_cases hp : pos < s.size
      · have hnx : ∀ ty, (Instr.next (.pointer (some ⟨w1.heap.size, 0, none⟩)) true ty).run Tryd.prog wr = _ := fun ty => Lib.run_next_any_at wr w1.heap.size s pos ty hit hp
        have hd := dec_le s pos hp
        have hra := rn_at s pos hp
        have hit2 := Lib.iterAt_heap wr w1.heap.size s pos (pos + (Utf8.decode s pos).2) hit
        have hb2 := Lib.below_iterAt HBr.out (k := w1.heap.size) (Nat.le_refl _) s (pos + (Utf8.decode s pos).2)
        obtain ⟨r, hr⟩ : ∃ r, (Utf8.decode s pos).1 = r := ⟨_, rfl⟩
        obtain ⟨k, hk⟩ : ∃ k, (Utf8.decode s pos).2 = k := ⟨_, rfl⟩
        obtain ⟨wn, hwn⟩ : ∃ wn, wr.iterAt w1.heap.size s (pos + k) = wn := ⟨_, rfl⟩
        simp only [hr, hk, hwn] at hnx hd hra hit2 hb2
        have HB2 : Hid (Below w1.heap.size w1 wn) := hb2
        have HRA : Hid (rn (s.data.toList.drop pos) = r :: rn (s.data.toList.drop (pos + k))) := hra
        have hpos : wr.iterPos w1.heap.size = pos := by simp only [World.iterPos, hit]
        have hpos2 : wn.iterPos w1.heap.size = pos + k := by simp only [World.iterPos, hit2]
        have HM : Hid (wr.iterPos w1.heap.size = pos ∧ wn.iterPos w1.heap.size = pos + k) := ⟨hpos, hpos2⟩
        clear hra hb2 hwn hr hk hpos hpos2
        have hz2 : w1.heap.size ≤ wn.heap.size := HB2.out.size
        have nb : goodR r = false → okN s.data.toList = false := fun hg => Bool.eq_false_iff.2 fun h => by
          have := (okN_split h).2.2.2.2.1 r (by rw [HR.out, HRA.out]; simp)
          rw [hg] at this; cases this
        have HNB : Hid (goodR r = false → okN s.data.toList = false) := nb
        clear nb
        by_cases c1 : (r : Int) < 32
        · go_wp2
          go_ret2
          exact ⟨HBAD.out (HNB.out (by unfold goodR; simp; omega)), HB.out.trans (HB2.out.mono hz1)⟩
        by_cases c2 : (r : Int) = 127
        · have c2' : ((r : Int) == 127) = true := by simp [c2]
          go_wp2
          go_ret2
          exact ⟨HBAD.out (HNB.out (by unfold goodR; simp; omega)), HB.out.trans (HB2.out.mono hz1)⟩
        by_cases c3 : (r : Int) = 47
        · go_wp2
          go_ret2
          exact ⟨HBAD.out (HNB.out (by unfold goodR; simp; omega)), HB.out.trans (HB2.out.mono hz1)⟩
        have c2' : ((r : Int) == 127) = false := by simp [c2]
        have c3' : ((r : Int) == 47) = false := by simp [c3]
        go_wp2
        go_roundw
        case rel =>
          refine ⟨pos + k, pre ++ [r], by simp, hit2, HB2.out, hd.2, by simp; omega, ?_, ?_⟩
          · have : rn s.data.toList = (pre ++ [r]) ++ rn (s.data.toList.drop (pos + k)) := by rw [HR.out, HRA.out]; simp
            exact this
          · intro x hx
            rcases List.mem_append.1 hx with hx | hx
            · exact HG.out x hx
            · simp at hx; subst hx; unfold goodR; simp; omega
        case measure => rw [HM.out.1, HM.out.2]; omega
      · have hnx : ∀ ty, (Instr.next (.pointer (some ⟨w1.heap.size, 0, none⟩)) true ty).run Tryd.prog wr = _ := fun ty => Lib.run_next_end_at wr w1.heap.size s pos ty hit hp
        have HE : Hid (rn s.data.toList = pre) := by rw [HR.out, rn_end s pos hp, List.append_nil]; rfl
        clear HR
        by_cases z0 : pre.length = 0
        · have z0' : ((pre.length : Int) == 0) = true := by simp [z0]
          go_wp2
          go_ret2
          exact ⟨HBAD.out (Bool.eq_false_iff.2 fun h => by have := (okN_split h).2.2.2.2.2.1; rw [HE.out] at this; omega), HW.out⟩
        have z0' : ((pre.length : Int) == 0) = false := beq_eq_false_iff_ne.2 (by omega)
        by_cases z64 : (64 : Int) < (pre.length : Nat)
        · go_wp2
          go_ret2
          exact ⟨HBAD.out (Bool.eq_false_iff.2 fun h => by have := (okN_split h).2.2.2.2.2.2; rw [HE.out] at this; omega), HW.out⟩
        go_wp2
        go_ret2
        have hq2 := HQ.out.symm
        rw [Bool.and_eq_true, decide_eq_true_eq] at hq2
        have hok : okN s.data.toList = true := okN_mk hq2.1 hq2.2 HNE.out.1 HNE.out.2 (by rw [HE.out]; exact HG.out) (by rw [HE.out]; omega) (by rw [HE.out]; omega)
        refine ⟨?_, HW.out⟩
        simp [rnN, rnE, hok, HE.out]
set_option maxRecDepth 100000 in
theorem check_any (s : ByteArray) (w : World) (hs : s.size ≤ 9223372036854775807) (hT : U8 w) :
    Calls Tryd.prog 55 #[.string s] w fun e w' => e = .returned (.int .i64 (rnE s.data.toList)) ∧ Below w.heap.size w w' := by
  go_enter Tryd.func55, Tryd.ntmps55
  go_wp2_with (go_at_call 64; refine (runes_any s w hs hT).mono ?_; rintro e w1 ⟨rfl, hb⟩)
  go_ret
  exact ⟨rfl, hb⟩
end Go.Proofs.YtcfniaknbbgheaaDoor
/- Plain facts on short numbers and fixed numbers in bytes: no program is named here. -/
namespace Go.Proofs.YtcfniaknbbgheaaDoor
set_option linter.unusedSimpArgs false
set_option linter.unusedVariables false
open Go
theorem bitLen_zero : Lib.bitLen 0 = 0 := by decide
theorem bitLen_bounds : ∀ (k n : Nat), n < 2 ^ k → k ≤ 64 → n < 2 ^ Lib.bitLen n ∧ (0 < n → 1 ≤ Lib.bitLen n ∧ 2 ^ (Lib.bitLen n - 1) ≤ n)
  | 0, n, h, _ => by
    have : n = 0 := by simpa using h
    subst this
    rw [bitLen_zero]; simp
  | k + 1, n, h, hk => by
    by_cases hn : n = 0
    · subst hn; rw [bitLen_zero]; simp
    · have hlt : n < 2 ^ 64 := Nat.lt_of_lt_of_le h (Nat.pow_le_pow_right (by omega) hk)
      have e := Lib.bitLen_half n hn hlt
      obtain ⟨a, b⟩ := bitLen_bounds k (n / 2) (by rw [Nat.pow_succ] at h; omega) (by omega)
      rw [e]
      have e2 : 2 ^ (1 + Lib.bitLen (n / 2)) = 2 * 2 ^ Lib.bitLen (n / 2) := by rw [Nat.add_comm, Nat.pow_succ, Nat.mul_comm]
      refine ⟨by omega, fun _ => ⟨by omega, ?_⟩⟩
      have e3 : 1 + Lib.bitLen (n / 2) - 1 = Lib.bitLen (n / 2) := by omega
      rw [e3]
      by_cases h2 : n / 2 = 0
      · rw [h2, bitLen_zero]; omega
      · obtain ⟨c, d⟩ := b (by omega)
        have e4 : 2 ^ Lib.bitLen (n / 2) = 2 * 2 ^ (Lib.bitLen (n / 2) - 1) := by
          rw [show Lib.bitLen (n / 2) = (Lib.bitLen (n / 2) - 1) + 1 from by omega, Nat.pow_succ, Nat.mul_comm]; rfl
        omega
/-- How many bytes a short number has. -/
def slen (n : Nat) : Nat := max 1 ((Lib.bitLen n + 6) / 7)
theorem bitLen_le64 (n : Nat) (h : n < 2 ^ 64) : Lib.bitLen n ≤ 64 := Lib.bitLen_le n 64 (by omega) h
theorem slen_pos (n : Nat) : 1 ≤ slen n := by unfold slen; omega
theorem slen_le (n : Nat) (h : n < 2 ^ 64) : slen n ≤ 10 := by have := bitLen_le64 n h; unfold slen; omega
theorem pow128 (k : Nat) : 128 ^ k = 2 ^ (7 * k) := by rw [Nat.pow_mul]
theorem slen_hi (n : Nat) (h : n < 2 ^ 64) : n < 128 ^ slen n := by
  rw [pow128]
  refine Nat.lt_of_lt_of_le (bitLen_bounds 64 n h (Nat.le_refl _)).1 (Nat.pow_le_pow_right (by omega) ?_)
  unfold slen; omega
theorem slen_lo (n : Nat) (h : n < 2 ^ 64) (h1 : 1 < slen n) : 128 ^ (slen n - 1) ≤ n := by
  have hb : 7 < Lib.bitLen n := by unfold slen at h1; omega
  have hn : 0 < n := by
    rcases Nat.eq_zero_or_pos n with e | e
    · subst e; rw [bitLen_zero] at hb; omega
    · exact e
  rw [pow128]
  refine Nat.le_trans (Nat.pow_le_pow_right (by omega) ?_) ((bitLen_bounds 64 n h (Nat.le_refl _)).2 hn).2
  unfold slen; omega
/-- A short number's bytes: k that say that more follow, then the last. -/
def encN : Nat → Nat → List Nat
  | 0, n => [n]
  | k + 1, n => (n % 128 + 128) :: encN k (n / 128)
def encS (n : Nat) : List Nat := encN (slen n - 1) n
/-- Bytes as a string. -/
def sb (l : List Nat) : ByteArray := ⟨(l.map UInt8.ofNat).toArray⟩
theorem encN_length : ∀ k n, (encN k n).length = k + 1
  | 0, _ => rfl
  | k + 1, n => by rw [encN, List.length_cons, encN_length k]
theorem encS_length (n : Nat) : (encS n).length = slen n := by have := slen_pos n; rw [encS, encN_length]; omega
theorem encN_get : ∀ k n j, j < k → (encN k n)[j]? = some (n / 128 ^ j % 128 + 128)
  | 0, _, _, h => by omega
  | k + 1, n, 0, _ => by simp [encN]
  | k + 1, n, j + 1, h => by
    rw [encN, List.getElem?_cons_succ, encN_get k (n / 128) j (by omega), Nat.div_div_eq_div_mul, Nat.pow_succ, Nat.mul_comm]
theorem encN_last : ∀ k n, (encN k n)[k]? = some (n / 128 ^ k)
  | 0, n => by simp [encN]
  | k + 1, n => by rw [encN, List.getElem?_cons_succ, encN_last k, Nat.div_div_eq_div_mul, Nat.pow_succ, Nat.mul_comm]
theorem sb_size (l : List Nat) : (sb l).size = l.length := by simp [sb, ByteArray.size]
theorem sb_nums (l : List Nat) : strOfNums (l.map Int.ofNat) = sb l := by
  unfold strOfNums sb; rw [List.map_map]; rfl
theorem u8_or_128 (y : Nat) : bits .or .u8 ((y : Int) % 256) 128 = ((y % 128 + 128 : Nat) : Int) := by
  have h : ∀ a : Fin 256, bits .or .u8 (a.val : Int) 128 = ((a.val % 128 + 128 : Nat) : Int) := by decide +kernel
  have e := h ⟨y % 256, Nat.mod_lt _ (by omega)⟩
  simp only at e
  rw [show ((y : Int) % 256) = ((y % 256 : Nat) : Int) from by omega, e]
  omega
/-- A number of k bytes, the highest first. -/
def fixN : Nat → Nat → List Nat
  | 0, _ => []
  | k + 1, n => fixN k (n / 256) ++ [n % 256]
theorem fixN_length : ∀ k n, (fixN k n).length = k
  | 0, _ => rfl
  | k + 1, n => by rw [fixN, List.length_append, fixN_length k]; rfl
theorem fixN_get : ∀ k n j, j < k → (fixN k n)[k - 1 - j]? = some (n / 256 ^ j % 256)
  | 0, _, _, h => by omega
  | k + 1, n, 0, _ => by
    rw [fixN, List.getElem?_append_right (by rw [fixN_length]; omega), fixN_length]; simp
  | k + 1, n, j + 1, h => by
    rw [fixN, List.getElem?_append_left (by rw [fixN_length]; omega), show k + 1 - 1 - (j + 1) = k - 1 - j from by omega, fixN_get k (n / 256) j (by omega),
      Nat.div_div_eq_div_mul, Nat.pow_succ, Nat.mul_comm]
theorem pow256 (k : Nat) : 256 ^ k = 2 ^ (8 * k) := by rw [Nat.pow_mul]
theorem bitLen_fits (n k : Nat) (h : n < 2 ^ 64) : Lib.bitLen n ≤ 8 * k ↔ n < 256 ^ k := by
  have b := bitLen_bounds 64 n h (Nat.le_refl _)
  rw [pow256]
  constructor
  · intro hk
    exact Nat.lt_of_lt_of_le b.1 (Nat.pow_le_pow_right (by omega) hk)
  · intro hk
    rcases Nat.eq_zero_or_pos n with e | e
    · subst e; rw [bitLen_zero]; omega
    · obtain ⟨c, d⟩ := b.2 e
      rcases Nat.lt_or_ge (8 * k) (Lib.bitLen n) with g | g
      · have := Nat.pow_le_pow_right (n := 2) (by omega) (show 8 * k ≤ Lib.bitLen n - 1 by omega)
        omega
      · exact g
end Go.Proofs.YtcfniaknbbgheaaDoor
/- Plain facts on reading a short number from the front of bytes. -/
namespace Go.Proofs.YtcfniaknbbgheaaDoor
set_option linter.unusedSimpArgs false
set_option linter.unusedVariables false
open Go
/-- The short number at the front of bytes, and how many bytes it has; i bytes have been read, they say acc. -/
def dec : Nat → Nat → List UInt8 → Option (Nat × Nat)
  | _, _, [] => none
  | i, acc, b :: r => if 10 ≤ i then none else if 128 ≤ b.toNat then dec (i + 1) (acc + b.toNat % 128 * 128 ^ i) r
      else if (b.toNat = 0 ∧ 0 < i) ∨ (1 < b.toNat ∧ i = 9) then none else some (acc + b.toNat * 128 ^ i, i + 1)
def decS (l : List UInt8) : Option (Nat × Nat) := dec 0 0 l
def bl (s : ByteArray) : List UInt8 := s.data.toList
theorem bl_length (s : ByteArray) : (bl s).length = s.size := Array.length_toList
theorem dec_ten (i acc : Nat) (l : List UInt8) (h : 10 ≤ i) : dec i acc l = none := by
  cases l with
  | nil => rfl
  | cons b r => rw [dec, if_pos h]
theorem drop_at (s : ByteArray) (k : Nat) (h : k < s.size) : (bl s).drop k = s[k] :: (bl s).drop (k + 1) := by
  rw [List.drop_eq_getElem_cons (by rw [bl_length]; exact h)]; rfl
theorem or_add (acc v k : Nat) (h : acc < 2 ^ k) : acc ||| v * 2 ^ k = acc + v * 2 ^ k := by
  rw [Nat.or_comm, Nat.mul_comm, ← Nat.two_pow_add_eq_or_of_lt h, Nat.add_comm]
theorem u8_and_127 (b : Nat) (hb : b < 256) : bits .and .u8 (b : Int) 127 = ((b % 128 : Nat) : Int) := by
  have h : ∀ a : Fin 256, bits .and .u8 (a.val : Int) 127 = ((a.val % 128 : Nat) : Int) := by decide +kernel
  exact h ⟨b, hb⟩
/-- What the program makes of one more byte. -/
theorem accStep (acc b k : Nat) (hb : b < 256) (hacc : acc < 128 ^ k) (hk : k ≤ 8 ∨ (k = 9 ∧ b % 128 ≤ 1)) :
    bits .or .u64 (acc : Int) (IntKind.u64.wrap (IntKind.u64.wrap (bits .and .u8 (b : Int) 127) * 2 ^ (7 * k))) = ((acc + b % 128 * 128 ^ k : Nat) : Int) ∧ acc + b % 128 * 128 ^ k < 2 ^ 64 := by
  have hb2 : b % 128 < 128 := Nat.mod_lt _ (by omega)
  have hp : b % 128 * 2 ^ (7 * k) + 2 ^ (7 * k) ≤ 2 ^ 64 := by
    rcases hk with h | ⟨h, h2⟩
    · have e1 : 2 ^ (7 * k) ≤ 2 ^ 56 := Nat.pow_le_pow_right (by omega) (by omega)
      have e2 : b % 128 * 2 ^ (7 * k) ≤ 127 * 2 ^ (7 * k) := Nat.mul_le_mul_right _ (by omega)
      omega
    · have e0 : 7 * k = 63 := by omega
      rw [e0]
      omega
  rw [pow128] at hacc ⊢
  rw [u8_and_127 b hb, IntKind.wrap_u64, IntKind.wrap_u64]
  have e1 : ((b % 128 : Nat) : Int) % 18446744073709551616 = ((b % 128 : Nat) : Int) := by omega
  rw [e1]
  have e2 : ((b % 128 : Nat) : Int) * 2 ^ (7 * k) = ((b % 128 * 2 ^ (7 * k) : Nat) : Int) := by rw [Int.natCast_mul, Int.natCast_pow]; rfl
  rw [e2]
  have e3 : ((b % 128 * 2 ^ (7 * k) : Nat) : Int) % 18446744073709551616 = ((b % 128 * 2 ^ (7 * k) : Nat) : Int) := by
    have : 0 < 2 ^ (7 * k) := Nat.two_pow_pos _
    omega
  rw [e3, u64_or_nat _ _ (by omega) (by have : 0 < 2 ^ (7 * k) := Nat.two_pow_pos _; omega), or_add _ _ _ hacc]
  exact ⟨rfl, by omega⟩
theorem accNext (acc b k : Nat) (hacc : acc < 128 ^ k) : acc + b % 128 * 128 ^ k < 128 ^ (k + 1) := by
  have : b % 128 * 128 ^ k ≤ 127 * 128 ^ k := Nat.mul_le_mul_right _ (by omega)
  rw [Nat.pow_succ]; omega
theorem bits_or_lt (x y : Int) : ∃ m : Nat, bits .or .u64 x y = (m : Int) ∧ m < 2 ^ 64 := by
  have h : 0 ≤ bits .or .u64 x y ∧ bits .or .u64 x y < 18446744073709551616 := by
    unfold bits
    simp only [IntKind.wrap_u64]
    omega
  exact ⟨(bits .or .u64 x y).toNat, by omega, by omega⟩
theorem dec_more (s : ByteArray) (k acc : Nat) (h : k < s.size) (hk : k < 10) (hb : 128 ≤ s[k].toNat) :
    dec k acc ((bl s).drop k) = dec (k + 1) (acc + s[k].toNat % 128 * 128 ^ k) ((bl s).drop (k + 1)) := by
  rw [drop_at s k h, dec, if_neg (by omega), if_pos hb]
theorem dec_bad (s : ByteArray) (k acc : Nat) (h : k < s.size) (hk : k < 10) (hb : s[k].toNat < 128) (hc : (s[k].toNat = 0 ∧ 0 < k) ∨ (1 < s[k].toNat ∧ k = 9)) :
    dec k acc ((bl s).drop k) = none := by
  rw [drop_at s k h, dec, if_neg (by omega), if_neg (by omega), if_pos hc]
theorem dec_good (s : ByteArray) (k acc : Nat) (h : k < s.size) (hk : k < 10) (hb : s[k].toNat < 128) (hc : ¬ ((s[k].toNat = 0 ∧ 0 < k) ∨ (1 < s[k].toNat ∧ k = 9))) :
    dec k acc ((bl s).drop k) = some (acc + s[k].toNat * 128 ^ k, k + 1) := by
  rw [drop_at s k h, dec, if_neg (by omega), if_neg (by omega), if_neg hc]
def shN (s : ByteArray) : Nat := ((decS (bl s)).getD (0, 0)).1
def shK (s : ByteArray) : Nat := ((decS (bl s)).getD (0, 0)).2
end Go.Proofs.YtcfniaknbbgheaaDoor
