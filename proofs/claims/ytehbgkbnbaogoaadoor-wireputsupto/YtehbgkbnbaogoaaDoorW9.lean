/- The walk of awake: it returns true. -/
import Derived.Test.YtehbgkbnbaogoaaDoorW8
import Derived.Test.YtehbgkbnbaogoaaDoorP4
namespace Go.Proofs.YtehbgkbnbaogoaaDoor
open Go.RowKit
set_option linter.unusedSimpArgs false
set_option linter.unusedVariables false
/-- Behind a call that has turned the reader in block b alone, which the callers own blocks end below. -/
theorem Step.below {b B : Nat} {w w' : World} {s : ByteArray} (h : Step b w w' s) (hB : B ≤ b) (hB2 : B ≤ w.heap.size) : Below B w w' :=
  ⟨h.os, h.tape, h.output, h.size, fun k hk => h.block k (by omega) (by omega)⟩
theorem sb_lit (l : List Nat) (m : ByteArray) (h : by8 l = bl m) : sb l = m := bl_inj h
theorem e300 : sb (encS 300) = ⟨#[172, 2]⟩ := by
  apply sb_lit; decide +kernel
theorem e300s : shN ⟨#[172, 2]⟩ = 300 := by decide +kernel
theorem e300k : shK ⟨#[172, 2]⟩ = 2 := by decide +kernel
set_option maxHeartbeats 400000 in
theorem awake_any (w : World) : Calls Tryd.prog 17 #[] w fun e w' => e = .returned (.bool true) ∧ Below w.heap.size w w' := by
  go_enter Tryd.func17, Tryd.ntmps17
  go_wp2_with fail
  refine (put_any ⟨#[]⟩ 300 w (by omega) (by omega) (by decide)).mono ?_
  rintro e w1 ⟨rfl, h1⟩
  rw [show ((⟨#[]⟩ : ByteArray) ++ sb (encS (300 : Int).toNat)) = ⟨#[172, 2]⟩ from by rw [show (300 : Int).toNat = 300 from rfl, e300]; rfl]
  go_wp2_with fail
  refine (new_any _ w1).mono ?_
  rintro e w2 ⟨rfl, rfl⟩
  go_wp2_with fail
  refine (uint_ok ⟨#[172, 2]⟩ w1.heap.size _ (by decide) (al_ptr _ _ _) (by simp) (by simp) (by rw [e300k]; decide)).mono ?_
  rintro e w2 ⟨rfl, h2⟩
  rw [e300s]
  go_wp2_with fail
  refine (put_any ⟨#[120]⟩ 300 w2 (by omega) (by omega) (by decide)).mono ?_
  rintro e w3 ⟨rfl, h3⟩
  rw [show ((⟨#[120]⟩ : ByteArray) ++ sb (encS (300 : Int).toNat)) = ⟨#[120, 172, 2]⟩ from by rw [show (300 : Int).toNat = 300 from rfl, e300]; rfl]
  go_wp2_with fail
  have hz2 : w1.heap.size < w2.heap.size := by have := h2.size; simp at this; omega
  have hc3 := h3.cell (p := ⟨w1.heap.size, 0, none⟩) hz2
  rw [h2.cell, e300k, show (⟨#[172, 2]⟩ : ByteArray).extract 2 (⟨#[172, 2]⟩ : ByteArray).size = ⟨#[]⟩ from by decide +kernel] at hc3
  refine (end_any ⟨#[]⟩ w1.heap.size w3 (by decide) hc3).mono ?_
  rintro e w4 ⟨rfl, rfl⟩
  rw [show endE ⟨#[]⟩ = 0 from by decide]
  have hfin : Below w.heap.size w w4 := by
    have hz := h1.size
    exact ((h1.alloc hz _).trans (h2.below hz (by simp; omega))).trans (h3.mono (by omega))
  clear hc3 h3 h2 h1 hz2
  go_wp2
  go_ret
  exact ⟨rfl, hfin⟩
end Go.Proofs.YtehbgkbnbaogoaaDoor
