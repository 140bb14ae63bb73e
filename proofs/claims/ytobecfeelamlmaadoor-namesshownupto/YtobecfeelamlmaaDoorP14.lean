/- Paths: a text cut at its strokes. -/
import Derived.Test.YtobecfeelamlmaaDoorN2
import Derived.Lib.Join
namespace Go.Proofs.YtobecfeelamlmaaDoor
open Go.Lib
set_option linter.unusedSimpArgs false
set_option linter.unusedVariables false
def consH (c : UInt8) : List (List UInt8) → List (List UInt8)
  | [] => [[c]]
  | h :: r => (c :: h) :: r
/-- The pieces between the strokes. -/
def sp : List UInt8 → List (List UInt8)
  | [] => [[]]
  | c :: t => if c = 47 then [] :: sp t else consH c (sp t)
theorem sp_ne : ∀ l, sp l ≠ []
  | [] => by simp [sp]
  | c :: t => by
    unfold sp
    split
    · simp
    · cases h : sp t <;> simp [consH]
theorem consH_len (c : UInt8) {x : List (List UInt8)} (h : x ≠ []) : (consH c x).length = x.length := by
  cases x with
  | nil => exact absurd rfl h
  | cons _ _ => rfl
theorem sp_len : ∀ l, (sp l).length ≤ l.length + 1
  | [] => by simp [sp]
  | c :: t => by
    have := sp_len t
    unfold sp
    split
    · simp; omega
    · rw [consH_len c (sp_ne t)]; simp; omega
theorem sp_index : ∀ l : List UInt8, (indexByte l 47 = -1 ∧ sp l = [l]) ∨ ∃ i : Nat, indexByte l 47 = i ∧ i < l.length ∧ sp l = l.take i :: sp (l.drop (i + 1))
  | [] => .inl ⟨rfl, rfl⟩
  | c :: t => by
    by_cases h : c = 47
    · subst h
      exact .inr ⟨0, by simp [indexByte], by simp, by simp [sp]⟩
    · have hb : (c == 47) = false := by simpa using h
      rcases sp_index t with ⟨h1, h2⟩ | ⟨i, h1, h2, h3⟩
      · left
        refine ⟨by simp [indexByte, hb, h1], ?_⟩
        rw [sp, if_neg h, h2]; rfl
      · right
        refine ⟨i + 1, ?_, by simp; omega, ?_⟩
        · have : ((i : Int) == -1) = false := beq_eq_false_iff_ne.2 (by omega)
          simp [indexByte, hb, h1, this]
        · rw [sp, if_neg h, h3]; simp [consH]
theorem splitK_sp : ∀ (k : Nat) (l : List UInt8), (sp l).length ≤ k + 1 → splitK [47] 0 k l = sp l
  | 0, l, h => by
    rcases sp_index l with ⟨h1, h2⟩ | ⟨i, h1, h2, h3⟩
    · rw [h2]; rfl
    · rw [h3] at h
      have := sp_ne (l.drop (i + 1))
      cases hh : sp (l.drop (i + 1)) with
      | nil => exact absurd hh this
      | cons a b => rw [hh] at h; simp at h
  | k + 1, l, h => by
    unfold splitK
    rw [Lib.index_one]
    rcases sp_index l with ⟨h1, h2⟩ | ⟨i, h1, h2, h3⟩
    · rw [h1, h2]; rfl
    · have : ((i : Int) == -1) = false := beq_eq_false_iff_ne.2 (by omega)
      rw [h1, this, h3]
      rw [h3, List.length_cons] at h
      simp only [Bool.false_eq_true, if_false, Int.toNat_natCast, Nat.add_zero]
      rw [show ([47] : List UInt8).length = 1 from rfl, splitK_sp k (l.drop (i + 1)) (by omega)]
theorem splitK_long : ∀ (k : Nat) (l : List UInt8), k + 1 < (sp l).length → (splitK [47] 0 k l).length = k + 1
  | 0, l, _ => rfl
  | k + 1, l, h => by
    unfold splitK
    rw [Lib.index_one]
    rcases sp_index l with ⟨h1, h2⟩ | ⟨i, h1, h2, h3⟩
    · rw [h2] at h; simp at h
    · have : ((i : Int) == -1) = false := beq_eq_false_iff_ne.2 (by omega)
      rw [h1, this]
      rw [h3, List.length_cons] at h
      simp only [Bool.false_eq_true, if_false, Int.toNat_natCast, Nat.add_zero, List.length_cons]
      rw [show i + (([] : List UInt8).length + 1) = i + 1 from rfl, splitK_long k (l.drop (i + 1)) (by omega)]
def mkB (l : List UInt8) : ByteArray := ⟨l.toArray⟩
theorem mkB_data (l : List UInt8) : (mkB l).data.toList = l := rfl
theorem mkB_of (s : ByteArray) : mkB s.data.toList = s := by cases s; rfl
theorem mkB_map (xs : List ByteArray) : (xs.map (·.data.toList)).map mkB = xs := by
  rw [List.map_map]
  have : (mkB ∘ fun x : ByteArray => x.data.toList) = id := by funext x; exact mkB_of x
  rw [this, List.map_id]
/-- There is a path of these names. -/
def okQ (xs : List (List UInt8)) : Bool := decide (xs.length ≤ 16) && xs.all okN
theorem okP_okQ (xs : List ByteArray) : okP xs = okQ (xs.map (·.data.toList)) := by
  unfold okP okQ
  rw [List.length_map, List.all_map]
  rfl
theorem pcs_map (s : ByteArray) : (pcs s).map (·.data.toList) = splitK [47] 0 (cp s - 1) s.data.toList := Lib.splitB_data _ _ _ _
/-- What SplitN's pieces tell of the path. -/
theorem pcs_ok (s : ByteArray) : okP (pcs s) = okQ (sp s.data.toList) ∧ (okQ (sp s.data.toList) = true → pcs s = (sp s.data.toList).map mkB) := by
  have hl := sp_len s.data.toList
  rw [data_len] at hl
  rw [okP_okQ, pcs_map]
  by_cases h : (sp s.data.toList).length ≤ 17
  · have e : splitK [47] 0 (cp s - 1) s.data.toList = sp s.data.toList := splitK_sp _ _ (by unfold cp; omega)
    rw [e]
    refine ⟨rfl, fun _ => ?_⟩
    rw [← e, ← pcs_map, mkB_map]
  · have e : (splitK [47] 0 (cp s - 1) s.data.toList).length = 17 := by
      have : cp s - 1 = 16 := by unfold cp; omega
      rw [this]
      exact splitK_long 16 _ (by omega)
    have f1 : okQ (splitK [47] 0 (cp s - 1) s.data.toList) = false := by simp [okQ, e]
    have f2 : okQ (sp s.data.toList) = false := by simp [okQ]; omega
    exact ⟨by rw [f1, f2], fun h => by rw [f2] at h; cases h⟩
/-- A path's names; nothing: it is none. -/
def pth (p : List UInt8) : Option (List (List UInt8)) := match p with
  | [] => none
  | c :: t => if c = 47 then (if t = [] then some [] else if okQ (sp t) then some (sp t) else none) else none
def pthE (p : List UInt8) : Nat := if (pth p).isSome then 0 else 10
def pthX (p : List UInt8) : List ByteArray := ((pth p).getD []).map mkB
/-- The path of names. -/
def jnE (xs : List ByteArray) : Nat := if okP xs then 0 else 10
def jnS (xs : List ByteArray) : ByteArray := if okP xs then mkB (47 :: join (xs.map (·.data.toList)) [47]) else ⟨#[]⟩
end Go.Proofs.YtobecfeelamlmaaDoor
