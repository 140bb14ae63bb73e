/- The walk of FieldNames. -/
import Derived.Test.YtefmabfhephdjaaF20
namespace Go.Proofs.Ytefmabfhephdjaa
open Go.RowKit
set_option linter.unusedSimpArgs false
set_option linter.unusedVariables false
def nm1 : List ByteArray := [⟨#[]⟩]
def nm2 : List ByteArray := [⟨#[1, 1]⟩, ⟨#[1, 1]⟩]
theorem nm2_s : sng (redP (arrL nm2)) = true := by decide +kernel
theorem nm2_e : ivE nm2 = 60 ∧ ivX nm2 = [] := by
  have h1 : isM nm2 = true := by decide +kernel
  have h2 : wid nm2 = nm2.length := by decide +kernel
  exact ⟨by unfold ivE; rw [h1, decide_eq_true h2, nm2_s]; rfl, by unfold ivX; rw [nm2_s]; simp⟩
theorem txl_one {w : World} {g : Nat} {T : TypeId} (x : ByteArray) (h : Bk w g #[.string x] T) : TxL w (some ⟨g, 0, none⟩) [x] := by
  have e : #[Value.string x] = txc [x] := rfl
  rw [e] at h
  exact h.txl
theorem txl_pair {w : World} {g : Nat} {T : TypeId} (x y : ByteArray) (h : Bk w g #[.string x, .string y] T) : TxL w (some ⟨g, 0, none⟩) [x, y] := by
  have e : #[Value.string x, Value.string y] = txc [x, y] := rfl
  rw [e] at h
  exact h.txl
set_option maxHeartbeats 1000000 in
set_option maxRecDepth 100000 in
theorem fnames_walk (w : World) :
    Calls Try.prog 6 #[] w fun e w' => e = .returned (.bool true) ∧ Below w.heap.size w w' := by
  have o1 := over_any 1 0
  rw [show ovV 1 0 = 0 from by decide, show ovE 0 = 1 from by decide] at o1
  have p1 := fun W => powerP_any 0 (-1) W (by omega) (by omega)
  rw [show poV 0 (-1) = 0 from by decide, show poE 0 (-1) = 1 from by decide] at p1
  have p2 := fun W => powerP_any 0 0 W (by omega) (by omega)
  rw [show poV 0 0 = 1 from by decide, show poE 0 0 = 0 from by decide] at p2
  have k1 := fun W => check_any none 0 [] W (fun i x hx => by simp at hx) (by simp) (fun x hx => by simp at hx)
  rw [show ckR [] = 0 from by decide, show ckC [] = 0 from by decide, show ckE [] = 1 from by decide] at k1
  have k2 := fun W a h => check_any a 1 nm1 W h (by decide) (fun x hx => by simp [nm1] at hx; rw [hx]; decide)
  rw [show ckR nm1 = 0 from by decide +kernel, show ckC nm1 = 0 from by decide +kernel, show ckE nm1 = 1 from by decide +kernel] at k2
  have v1 := fun W a h => invert_any a 2 nm2 W h (by decide) (fun x hx => by simp [nm2] at hx; rw [hx]; decide)
  rw [nm2_e.1, nm2_e.2] at v1
  have O1 : Hid _ := o1
  have P1 : Hid _ := p1
  have P2 : Hid _ := p2
  have K1 : Hid _ := k1
  have K2 : Hid _ := k2
  have V1 : Hid _ := v1
  clear o1 p1 p2 k1 k2 v1
  go_enter Try.func6, Try.ntmps6
  go_wp2_with fail
  refine Calls.mono (O1.out _) ?_
  rintro e w1 ⟨rfl, hw1⟩
  subst hw1
  go_wp2_with fail
  refine Calls.mono (P1.out _) ?_
  rintro e w1 ⟨rfl, hw1⟩
  subst hw1
  go_wp2_with fail
  refine Calls.mono (P2.out _) ?_
  rintro e w1 ⟨rfl, hw1⟩
  subst hw1
  go_wp2_with fail
  refine Calls.mono (K1.out _) ?_
  rintro e w2 ⟨rfl, q1, hw2⟩
  have B2 : Hid (Below w1.heap.size w1 w2) := by show Below _ _ _; rw [hw2]; exact below_drewN (Below.refl _ _) _
  clear hw2
  go_wp2_with fail
  refine Calls.mono (K2.out _ _ (txl_one _ (bk_new w2 _ _))) ?_
  rintro e w3 ⟨rfl, q2, hw3⟩
  have B3 : Hid (Below w1.heap.size w1 w3) := by show Below _ _ _; rw [hw3]; exact below_drewN (B2.out.alloc B2.out.size _) _
  clear hw3 B2
  go_wp2_with fail
  refine Calls.mono (V1.out _ _ (txl_pair _ _ (bk_new w3 _ _))) ?_
  rintro e w4 ⟨ao, rfl, _, hb4⟩
  have B4 : Hid (Below w1.heap.size w1 w4) := (B3.out.alloc B3.out.size _).trans (hb4.mono (by have := B3.out.size; rw [al_size]; omega))
  clear hb4 B3
  go_wp2
  go_ret
  exact ⟨rfl, B4.out⟩
end Go.Proofs.Ytefmabfhephdjaa
