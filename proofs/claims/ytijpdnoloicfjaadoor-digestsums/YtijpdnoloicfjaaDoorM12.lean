import Derived.Test.YtijpdnoloicfjaaDoorM5
import Derived.Test.YtijpdnoloicfjaaDoorM11
import Derived.Deep.Strs
import Derived.SizedLaws
/- Two names and a text that came in, opened. -/
namespace Go.Proofs.YtijpdnoloicfjaaDoor
open Go.ChangeShapes Go.WideShapes Go.ChangeAt Go.RowKit
set_option linter.unusedSimpArgs false
set_option linter.unusedVariables false
theorem trod_id {H : Type} {enc : TypeId × Value → H} {w : World} {base : Nat} {spare : Nat → Bool} {held : Bool} {fuel : Nat} {l : List Value} {x : DataW H × List MemPlace}
    (hf : DataW.trod enc Tryd.prog w base spare held fuel 23 l = some x) : ∃ s : ByteArray, s.size = 32 ∧ l = (idc s).toList := by
  have hu : Tryd.prog.underlying 23 = some (.array 32 5) := Tryd.underlying23
  have hc : Tryd.prog.cellsOf 5 = 1 := by kernel_rfl
  have hct : Tryd.prog.cellsOf 23 = 32 := by kernel_rfl
  obtain ⟨xs, m, _, _, hl, hn, hi⟩ := DataW.trod_array hu hf
  rw [hct] at hl
  obtain ⟨s, hs, e⟩ := cells_id l.toArray (by simpa using hl) (fun i hlt => by
    have := hi i hlt
    rw [hc, Nat.mul_one, List.getElem?_eq_getElem (by omega)] at this
    have e1 : (l.drop i).take 1 = [l[i]'(by omega)] := by
      rw [List.drop_eq_getElem_cons (by omega)]
      rfl
    rw [e1] at this
    obtain ⟨n, e, _, wn⟩ := DataW.trod_int Tryd.underlying5 this
    have hb := u8_bds wn
    simp at e
    refine ⟨n.toNat, ?_, by omega⟩
    rw [List.getElem?_toArray, List.getElem?_eq_getElem (by omega), e, show ((n.toNat : Nat) : Int) = n from by omega])
  exact ⟨s, hs, by rw [← e]⟩
theorem open_names {H : Type} {enc : TypeId × Value → H} {w : World} {r : Reach} {b0 base : Nat} {spare : Nat → Bool} {held : Bool} {v : Value} {d : DataW H} {ps : List MemPlace}
    (hv : Value.okWide Tryd.prog w r b0 25 v) (h : DataW.Trod enc Tryd.prog w base spare held 25 v d ps) (hsz : ∀ q ∈ d.weights Tryd.prog 25, q ≤ reachBytes) :
    ∃ a b t : ByteArray, a.size = 32 ∧ b.size = 32 ∧ t.size ≤ 140737488351232 ∧ v = .agg (nmc a b t) := by
  have hu := Tryd.underlying25
  have hct : Tryd.prog.cellsOf 25 = 65 := by kernel_rfl
  have hci : Tryd.prog.cellsOf 23 = 32 := by kernel_rfl
  have hcs : Tryd.prog.cellsOf 9 = 1 := by kernel_rfl
  unfold Value.okWide at hv
  rw [hu] at hv
  obtain ⟨cs, rfl, hsz2, _⟩ := hv
  obtain ⟨fuel, hf⟩ := h
  have hcl : (Value.agg cs).cells.toList = cs.toList := by simp [Value.cells]
  rw [hcl] at hf
  obtain ⟨y0, y1, y2, n, hx, hl, h0, h1, h2⟩ := Go.Deep.trod_struct3 hu hf
  rw [hct] at hl
  simp only [hci, hcs] at h0 h1 h2
  obtain ⟨a, ha, ea⟩ := trod_id h0
  obtain ⟨b, hb, eb⟩ := trod_id h1
  obtain ⟨tv, e3, hy3, wt⟩ := DataW.trod_string Tryd.underlying9 h2
  simp at hx
  refine ⟨a, b, tv, ha, hb, ?_, ?_⟩
  · have hm := hsz tv.data.toList.length (by
      rw [hx.1]
      simp only [DataW.weights, hu, List.map_cons, List.map_nil]
      refine DataW.weights_mem_each (j := 2) rfl rfl _ ?_
      rw [hy3]
      simp [DataW.weights])
    have : tv.data.toList.length = tv.size := Array.length_toList
    unfold reachBytes at hm
    omega
  · congr 1
    apply Array.toList_inj.1
    have e1 : cs.toList = cs.toList.take 32 ++ ((cs.toList.drop 32).take 32 ++ (cs.toList.drop 64)) := by
      rw [show cs.toList.drop 64 = (cs.toList.drop 32).drop 32 from by rw [List.drop_drop], List.take_append_drop, List.take_append_drop]
    have e2 : (cs.toList.drop 64) = (cs.toList.drop 64).take 1 := by rw [List.take_of_length_le]; rw [List.length_drop]; omega
    rw [e1, e2]
    simp only [List.drop_zero] at ea
    rw [ea, eb, e3]
    simp [nmc]
end Go.Proofs.YtijpdnoloicfjaaDoor
