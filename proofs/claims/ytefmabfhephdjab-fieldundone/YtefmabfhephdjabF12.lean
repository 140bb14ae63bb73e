/- The law's own awake. -/
import Derived.Test.YtefmabfhephdjabF11
namespace Go.Proofs.Ytefmabfhephdjab
open Go.RowKit
set_option linter.unusedSimpArgs false
set_option linter.unusedVariables false
/-- The two factors of awake, their product. -/
def aw1 : List ByteArray := [⟨#[1, 2]⟩, ⟨#[0, 1]⟩]
def aw2 : List ByteArray := [⟨#[3]⟩, ⟨#[4]⟩]
def aw3 : List ByteArray := [⟨#[11]⟩, ⟨#[4]⟩]
theorem aw_eq : txtL (wid aw2) (prodL (arrL aw1) (arrL aw2)) = aw3 := by
  have h : (txtL (wid aw2) (prodL (arrL aw1) (arrL aw2))).map (fun x => x.data.toList) = aw3.map (fun x => x.data.toList) := by decide +kernel
  have inj : ∀ (x y : ByteArray), x.data.toList = y.data.toList → x = y := fun x y e => by cases x; cases y; simp at e; simp [e]
  apply List.ext_getElem?
  intro i
  have hi := congrArg (fun l => l[i]?) h
  simp only [List.getElem?_map] at hi
  cases e1 : (txtL (wid aw2) (prodL (arrL aw1) (arrL aw2)))[i]? with
  | none =>
    rw [e1] at hi
    cases e2 : aw3[i]? with
    | none => rfl
    | some y => rw [e2] at hi; cases hi
  | some x =>
    rw [e1] at hi
    cases e2 : aw3[i]? with
    | none => rw [e2] at hi; cases hi
    | some y =>
      rw [e2] at hi
      simp only [Option.map_some, Option.some.injEq] at hi
      rw [inj x y hi]
theorem txl_two {w : World} {g : Nat} {T : TypeId} (x y : ByteArray) (h : Bk w g #[.string x, .string y] T) : TxL w (some ⟨g, 0, none⟩) [x, y] := by
  have e : #[Value.string x, Value.string y] = txc [x, y] := rfl
  rw [e] at h
  exact h.txl
set_option maxHeartbeats 1000000 in
set_option maxRecDepth 100000 in
theorem awake_any (w : World) :
    Calls Try.prog 6 #[] w fun e w' => e = .returned (.bool true) ∧ Below w.heap.size w w' := by
  have o1 := over_any 1 2
  rw [show ovV 1 2 = 142 from by decide +kernel, show ovE 2 = 0 from by decide] at o1
  have t1 := times_any 2 128
  rw [show mul 2 128 = 29 from by decide +kernel] at t1
  have O1 : Hid _ := o1
  have T1 : Hid _ := t1
  clear o1 t1
  go_enter Try.func6, Try.ntmps6
  go_wp2_with fail
  refine Calls.mono (O1.out _) ?_
  rintro e w1 ⟨rfl, hw1⟩
  subst hw1
  go_wp2_with fail
  obtain ⟨W, hW⟩ : ∃ W, (w1.alloc (Obj.cells #[Value.string ⟨#[1, 2]⟩, Value.string ⟨#[0, 1]⟩] 9)).alloc (Obj.cells #[Value.string ⟨#[3]⟩, Value.string ⟨#[4]⟩] 9) = W := ⟨_, rfl⟩
  have x1 : TxL W (some ⟨w1.heap.size, 0, none⟩) aw1 := by
    rw [← hW]
    exact (txl_two _ _ (bk_new w1 _ _)).alloc _
  have x2 : TxL W (some ⟨w1.heap.size + 1, 0, none⟩) aw2 := by
    rw [← hW]
    have := bk_new (w1.alloc (Obj.cells #[Value.string ⟨#[1, 2]⟩, Value.string ⟨#[0, 1]⟩] 9)) #[Value.string ⟨#[3]⟩, Value.string ⟨#[4]⟩] 9
    rw [al_size] at this
    exact txl_two _ _ this
  have HBW : Hid (Below w1.heap.size w1 W) := by
    show Below _ _ _
    rw [← hW]
    exact ((Below.refl _ _).alloc (Nat.le_refl _) _).alloc (by simp) _
  have hsW : w1.heap.size + 2 = W.heap.size := by rw [← hW, al_size, al_size]
  have hpr := product_yes _ _ 2 2 aw1 aw2 W x1 x2 (by decide +kernel) (by decide +kernel) (by decide +kernel)
  rw [aw_eq] at hpr
  rw [hW]
  clear hW x1 x2
  refine Calls.mono hpr ?_
  rintro e w2 ⟨g, rfl, hg, hb2, hl2⟩
  have HB2 : Hid (Bk w2 g (txc aw3) 9) := hb2
  have HL2 : Hid (Below W.heap.size W w2) := hl2
  have hgl : g < w2.heap.size := hb2.lt
  clear hb2 hl2 hpr
  go_wp2_with fail
  refine Calls.mono (T1.out _) ?_
  rintro e w3 ⟨rfl, hw3⟩
  subst hw3
  go_wp2_with fail
  have hsm := rsame_any (some ⟨g, 0, none⟩) (some ⟨w3.heap.size, 0, none⟩) 2 2 aw3 aw3 (w3.alloc (Obj.cells #[Value.string ⟨#[11]⟩, Value.string ⟨#[4]⟩] 9)) (HB2.out.txl.alloc _) (txl_two _ _ (bk_new w3 _ _)) (by decide) (by decide)
  rw [decide_eq_true rfl] at hsm
  refine Calls.mono hsm ?_
  rintro e w4 ⟨rfl, hl4⟩
  clear hsm
  go_wp2
  go_ret
  exact ⟨rfl, (HBW.out.trans (HL2.out.mono (by omega))).alloc (by omega) _ |>.trans (hl4.mono (by rw [al_size]; omega))⟩
end Go.Proofs.Ytefmabfhephdjab
