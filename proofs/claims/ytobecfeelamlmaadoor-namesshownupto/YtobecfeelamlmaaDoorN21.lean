/- strings.Cut at a semicolon. -/
import Derived.Test.YtobecfeelamlmaaDoorN2
import Derived.OwnWalk
namespace Go.Proofs.YtobecfeelamlmaaDoor
open Go.RowKit
set_option linter.unusedSimpArgs false
set_option linter.unusedVariables false
theorem idx_cases : ∀ (l : List UInt8) (c : UInt8), (Lib.indexByte l c = -1 ∧ c ∉ l) ∨ ∃ i : Nat, Lib.indexByte l c = i ∧ i < l.length ∧ c ∉ l.take i ∧ l[i]? = some c
  | [], c => .inl ⟨rfl, by simp⟩
  | b :: l, c => by
    by_cases hb : b = c
    · subst hb; exact .inr ⟨0, by simp [Lib.indexByte], by simp, by simp, by simp⟩
    · have hb' : (b == c) = false := by simpa using hb
      rcases idx_cases l c with ⟨h1, h2⟩ | ⟨i, h1, h2, h3, h4⟩
      · exact .inl ⟨by simp [Lib.indexByte, hb', h1], by simp only [List.mem_cons, not_or]; exact ⟨fun e => hb e.symm, h2⟩⟩
      · refine .inr ⟨i + 1, ?_, by simp; omega, ?_, by simpa using h4⟩
        · have : ((i : Int) == -1) = false := by first | (simp; done) | (simp; omega)
          simp [Lib.indexByte, hb', h1, this]
        · simp only [List.take_succ_cons, List.mem_cons, not_or]; exact ⟨fun e => hb e.symm, h3⟩
theorem sindex (s : ByteArray) (w : World) :
    Calls Tryd.prog 70 #[.string s, .string ⟨#[59]⟩] w fun e w' => e = .returned (.int .i64 (Lib.indexByte s.data.toList 59)) ∧ w' = w :=
  Any.stringslite_Index_one (P := Tryd.prog) { lays147 with } s 59 w
/-- What Cut answers. -/
def CutA (s : ByteArray) (e : Ending) : Prop := (e = .returned (.tuple #[.string s, .string ⟨#[]⟩, .bool false]) ∧ (59 : UInt8) ∉ s.data.toList) ∨
  ∃ i : Nat, i < s.size ∧ e = .returned (.tuple #[.string (s.extract 0 i), .string (s.extract (i + 1) s.size), .bool true]) ∧ (59 : UInt8) ∉ s.data.toList.take i ∧ s.data.toList[i]? = some 59
theorem scut (s : ByteArray) (w : World) (hs : s.size ≤ 4398046511104) :
    Calls Tryd.prog 52 #[.string s, .string ⟨#[59]⟩] w fun e w' => CutA s e ∧ Below w.heap.size w w' := by
  have hix := sindex s w
  rcases idx_cases s.data.toList 59 with ⟨h1, h2⟩ | ⟨i, h1, h2, h3, h4⟩
  · rw [h1] at hix
    have H2 : Hid ((59 : UInt8) ∉ s.data.toList) := h2
    clear h1 h2
    go_enter Tryd.func52, Tryd.ntmps52
    go_wp2_with fail
    refine hix.mono ?_
    rintro e w1 ⟨rfl, hw⟩
    subst hw
    go_wp2
    go_ret3
    exact ⟨.inl ⟨rfl, H2.out⟩, Below.refl _ _⟩
  · rw [h1] at hix
    rw [data_len] at h2
    have H2 : Hid ((59 : UInt8) ∉ s.data.toList.take i ∧ s.data.toList[i]? = some 59) := ⟨h3, h4⟩
    have a1 : (i : Int) + 1 ≤ (s.size : Nat) := by omega
    have a0 : (i : Int) ≤ (s.size : Nat) := by omega
    have a2 : (0 : Int) ≤ i := by omega
    have a3 : wrap64 ((i : Int) + 1) = ((i + 1 : Nat) : Int) := by unfold wrap64; omega
    clear h1 h3 h4
    go_enter Tryd.func52, Tryd.ntmps52
    go_wp2_with fail
    refine hix.mono ?_
    rintro e w1 ⟨rfl, hw⟩
    subst hw
    go_wp2
    go_region
    all_goals go_wp2
    all_goals go_ret3
    all_goals exact ⟨.inr ⟨i, h2, rfl, H2.out⟩, (Below.refl _ _).drew⟩
theorem cut_any (s : ByteArray) (w : World) (hs : s.size ≤ 4398046511104) :
    Calls Tryd.prog 36 #[.string s, .string ⟨#[59]⟩] w fun e w' => CutA s e ∧ Below w.heap.size w w' := by
  go_enter Tryd.func36, Tryd.ntmps36
  go_wp2_with fail
  refine (scut s w hs).mono ?_
  rintro e w1 ⟨hA, hw⟩
  have HW : Hid (Below w.heap.size w w1) := hw
  clear hw
  rcases hA with ⟨rfl, h2⟩ | ⟨i, h1, rfl, h2⟩
  · have H2 : Hid ((59 : UInt8) ∉ s.data.toList) := h2
    clear h2
    go_wp2
    go_ret3
    exact ⟨.inl ⟨rfl, H2.out⟩, HW.out⟩
  · have H2 : Hid ((59 : UInt8) ∉ s.data.toList.take i ∧ s.data.toList[i]? = some 59) := h2
    clear h2
    go_wp2
    go_ret3
    exact ⟨.inr ⟨i, h1, rfl, H2.out⟩, HW.out⟩
end Go.Proofs.YtobecfeelamlmaaDoor
