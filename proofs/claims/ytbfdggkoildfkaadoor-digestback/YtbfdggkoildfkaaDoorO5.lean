/- A name that came in, opened: 32 bytes. -/
import Derived.Test.YtbfdggkoildfkaaDoorD10
import Derived.ProofKit
import Derived.OpenShut
import Derived.Deep.Slices
namespace Go.Proofs.YtbfdggkoildfkaaDoor
open Go.ChangeShapes Go.WideShapes Go.ChangeAt Go.RowKit
set_option linter.unusedSimpArgs false
set_option linter.unusedVariables false
theorem u8_bds {n : Int} (h : (Lit.int .u8 n).wf = true) : 0 ≤ n ∧ n ≤ 255 := by
  simpa [Lit.wf, IntKind.min, IntKind.max, IntKind.signed, IntKind.bits] using h
theorem cells_id (cs : Array Value) (hsz : cs.size = 32) (h : ∀ i, i < 32 → ∃ n : Nat, cs[i]? = some (.int .u8 (n : Int)) ∧ n < 256) : ∃ s : ByteArray, s.size = 32 ∧ cs = idc s := by
  obtain ⟨f, hf⟩ := Go.Deep.choose_lt h
  have hl : ∀ x ∈ (List.range 32).map f, x < 256 := by
    intro x hx
    simp only [List.mem_map, List.mem_range] at hx
    obtain ⟨i, hi, rfl⟩ := hx
    exact (hf i hi).2
  refine ⟨sb ((List.range 32).map f), by rw [sb_size]; simp, ?_⟩
  unfold idc
  rw [byl_sb _ hl]
  apply Array.ext_getElem?
  intro i
  by_cases hi : i < 32
  · rw [(hf i hi).1, List.getElem?_toArray]
    simp [bvc, hi]
  · rw [Array.getElem?_eq_none (by omega), Array.getElem?_eq_none (by simp [bvc]; omega)]
theorem open_id {H : Type} {enc : TypeId × Value → H} {w : World} {r : Reach} {b0 base : Nat} {spare : Nat → Bool} {held : Bool} {v : Value} {d : DataW H} {ps : List MemPlace}
    (hv : Value.okWide Tryd.prog w r b0 23 v) (h : DataW.Trod enc Tryd.prog w base spare held 23 v d ps) : ∃ s : ByteArray, s.size = 32 ∧ v = .agg (idc s) := by
  have hu : Tryd.prog.underlying 23 = some (.array 32 5) := Tryd.underlying23
  have hc : Tryd.prog.cellsOf 5 = 1 := by kernel_rfl
  have hct : Tryd.prog.cellsOf 23 = 32 := by kernel_rfl
  unfold Value.okWide at hv
  rw [hu] at hv
  obtain ⟨cs, rfl, hsz, _⟩ := hv
  rw [hct] at hsz
  obtain ⟨fuel, hf⟩ := h
  have hcs : (Value.agg cs).cells.toList = cs.toList := by simp [Value.cells]
  rw [hcs] at hf
  obtain ⟨xs, m, _, _, hl, hn, hi⟩ := DataW.trod_array hu hf
  obtain ⟨s, hs, rfl⟩ := cells_id cs hsz (fun i hlt => by
    have := hi i hlt
    rw [hc, Nat.mul_one, List.getElem?_eq_getElem (by omega)] at this
    have e1 : (cs.toList.drop i).take 1 = [cs[i]'(by omega)] := by
      rw [List.drop_eq_getElem_cons (by rw [Array.length_toList]; omega)]
      simp
    rw [e1] at this
    obtain ⟨n, e, _, wn⟩ := DataW.trod_int Tryd.underlying5 this
    have hb := u8_bds wn
    simp at e
    refine ⟨n.toNat, ?_, by omega⟩
    rw [Array.getElem?_eq_getElem (by omega), e, show ((n.toNat : Nat) : Int) = n from by omega])
  exact ⟨s, hs, rfl⟩
end Go.Proofs.YtbfdggkoildfkaaDoor
