/- The walk of the law's same: two lists of texts. -/
import Derived.Test.YtbfdggkoildfkaaE5
import Derived.RegionTactic
import Derived.Deep.QuietTactic
import Derived.BigQuiet
namespace Go.Proofs.Ytbfdggkoildfkaa
open Go.RowKit
set_option linter.unusedSimpArgs false
set_option linter.unusedVariables false
/-- A list of texts that lies in memory. -/
def Txt (w : World) (a : Option Addr) (n : Nat) (xs : List ByteArray) : Prop := xs.length = n ∧ ∀ i (h : i < xs.length), ∃ g o, a = some ⟨g, o, none⟩ ∧ w.cell? ⟨g, o + i, none⟩ = some (.string xs[i])
theorem Txt.of_own {w : World} {B n : Nat} {v : Value} {e : TypeId} {xs : List ByteArray} (h : w.ownsRow B e 1 v n (sv xs)) : ∃ a c, v = .slice a n c ∧ Txt w a n xs := by
  obtain ⟨hl, h⟩ := h
  have hxl : xs.length = n := by rw [sv_length] at hl; omega
  rcases h with ⟨rfl, rfl⟩ | ⟨g, cap, cur, rfl, _, hg, hn, _, hc, ht⟩
  · exact ⟨none, 0, rfl, hxl, fun i hi => by omega⟩
  · refine ⟨some ⟨g, 0, none⟩, cap, rfl, hxl, fun i hi => ⟨g, 0, rfl, ?_⟩⟩
    rw [Nat.zero_add, cell_of_row w g i cur _ (0, 0) hg]
    have e : (cur.toList.take (n * 1))[i]? = (sv xs)[i]? := by rw [ht]
    rw [List.getElem?_take_of_lt (by omega), Array.getElem?_toList, sv, List.getElem?_map, List.getElem?_eq_getElem hi] at e
    exact e
theorem Txt.drew {w : World} {a : Option Addr} {n : Nat} {xs : List ByteArray} (h : Txt w a n xs) (k : Nat) : Txt (w.drewN k) a n xs := h
set_option maxHeartbeats 400000 in
set_option maxRecDepth 100000 in
theorem same_yes (a b : Option Addr) (n c d : Nat) (xs : List ByteArray) (w : World) (hn : n ≤ 140737488351232) (ha : Txt w a n xs) (hb : Txt w b n xs) :
    Calls Try.prog 15 #[.slice a n c, .slice b n d] w fun e w' => e = .returned (.bool true) ∧ Below w.heap.size w w' := by
  have HA : Hid (Txt w a n xs) := ha
  have HB : Hid (Txt w b n xs) := hb
  have hl : xs.length = n := ha.1
  have HL : Hid (xs.length = n) := hl
  clear ha hb hl
  go_enter Try.func15, Try.ntmps15
  go_wp2
  go_loopw [5] (fun i wr => ∃ (k : Nat), k ≤ n ∧ i = .int .i64 k ∧ Hid (w.grownBy wr none)) (fun i _ => n - (intOf i).toNat)
  case atStart => exact ⟨0, by omega, rfl, World.grownBy.refl _ _⟩
  case round =>
    obtain ⟨k, hk, rfl, HG⟩ := hrel
    by_cases hlt : k < n
    · have hkx : k < xs.length := by rw [HL.out]; exact hlt
      obtain ⟨g1, o1, rfl, c1⟩ := HA.out.2 k hkx
      obtain ⟨g2, o2, rfl, c2⟩ := HB.out.2 k hkx
      obtain ⟨x, hx⟩ : ∃ x, x = xs[k]'hkx := ⟨_, rfl⟩
      rw [← hx] at c1 c2
      clear hx
      have c1' : wr.cell? ⟨g1, o1 + k, none⟩ = some (.string x) := HG.out.cell c1 (by simp)
      have c2' : wr.cell? ⟨g2, o2 + k, none⟩ = some (.string x) := HG.out.cell c2 (by simp)
      clear hkx c1 c2
      go_wp2
      go_quiet (fail)
      go_wp2
      go_roundw
      case rel => exact ⟨k + 1, by omega, by go_num, HG.out.trans (grown_drewN _ _ _)⟩
      case measure => simp [intOf]; omega
    · go_wp2
      go_ret
      exact ⟨rfl, below_of_grown HG.out⟩
end Go.Proofs.Ytbfdggkoildfkaa
