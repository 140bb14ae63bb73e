/- The walk of ShardsNames. -/
import Derived.Test.YtblmblbkfdcbjaaJ15
import Derived.Test.YtblmblbkfdcbjaaJ6
import Derived.Test.YtblmblbkfdcbjaaJ8
import Derived.Test.YtblmblbkfdcbjaaF7
namespace Go.Proofs.Ytblmblbkfdcbjaa
open Go.RowKit
set_option linter.unusedSimpArgs false
set_option linter.unusedVariables false
theorem nm1 : cuX ⟨#[97, 98, 99, 100, 101]⟩ 2 = [⟨#[97, 98, 99]⟩, ⟨#[100, 101, 0]⟩] := by decide +kernel
theorem nm2 : rbE [mkT [], mkT [], mkT [], mkT []] [true, false, false, false] 2 = 70 := by decide +kernel
theorem nm3 : rbX [mkT [], mkT [], mkT [], mkT []] [true, false, false, false] 2 = [] := by
  unfold rbX
  rw [if_neg (by decide +kernel)]
set_option maxHeartbeats 1000000 in
set_option maxRecDepth 100000 in
theorem names_walk (w : World) : Calls Try.prog 6 #[] w fun e w' => e = .returned (.bool true) ∧ Below w.heap.size w w' := by
  have c1 := fun W => cut_any ⟨#[97, 98, 99, 100, 101]⟩ 2 W (by decide) (by decide) (by decide)
  have c2 := fun W => cut_any ⟨#[97]⟩ 33 W (by decide) (by decide) (by decide)
  have c3 := fun W => encode_any none 0 0 [] 1 W (fun i x hx => by simp at hx) rfl (by omega) (fun x hx => by cases hx) (by omega) (by omega)
  have c4 := fun b g W hx hb => rebuild_any (some ⟨g, 0, none⟩) b 4 4 4 4 2 [mkT [], mkT [], mkT [], mkT []] [true, false, false, false] W hx hb rfl rfl (by omega) (by omega) (fun x hx => by
    have : x = mkT [] := by simpa using hx
    rw [this]; decide) (by omega) (by omega)
  rw [nm1, show cuE 2 = 0 from rfl] at c1
  rw [show cuX ⟨#[97]⟩ 33 = [] from rfl, show cuE 33 = 1 from rfl] at c2
  rw [show enX [] 1 = [] from rfl, show enE [] 1 = 1 from rfl] at c3
  rw [nm2, nm3] at c4
  have c5 := fun a b W hx hy => rsame_any a b 2 2 [⟨#[97, 98, 99]⟩, ⟨#[100, 101, 0]⟩] [⟨#[97, 98, 99]⟩, ⟨#[100, 101, 0]⟩] W hx hy (by decide) (by decide)
  rw [decide_eq_true rfl] at c5
  have C1 : Hid _ := c1
  have C2 : Hid _ := c2
  have C3 : Hid _ := c3
  have C4 : Hid _ := c4
  have C5 : Hid _ := c5
  have hmk : ∀ u : World, (Instr.makeSlice 22 (.int .i64 4) (.int .i64 4)).run Try.prog u = .ok (.slice (some ⟨u.heap.size, 0, none⟩) 4 4) (u.alloc (.cells (txc (List.replicate 4 (mkT []))) 9)) := make_txts 4 (by omega)
  clear c1 c2 c3 c4 c5
  go_enter Try.func6, Try.ntmps6
  go_wp2_with fail
  refine Calls.mono (C1.out _) ?_
  rintro e w1 ⟨a1, rfl, hM, hb⟩
  have T1 : Hid (TxL w1 a1 [⟨#[97, 98, 99]⟩, ⟨#[100, 101, 0]⟩]) := hM.txl
  have B1 : Hid (Below w.heap.size w w1) := hb
  clear hM hb
  go_wp2_with fail
  refine Calls.mono (C2.out _) ?_
  rintro e w2 ⟨a2, rfl, hM, hb⟩
  have B2 : Hid (Below w.heap.size w w2) := B1.out.trans (hb.mono B1.out.size)
  have T2 : Hid (TxL w2 a1 [⟨#[97, 98, 99]⟩, ⟨#[100, 101, 0]⟩]) := T1.out.below hb
  clear hM hb T1 B1
  go_wp2_with fail
  refine Calls.mono (C3.out _) ?_
  rintro e w3 ⟨a3, rfl, hM, hb⟩
  have B3 : Hid (Below w.heap.size w w3) := B2.out.trans (hb.mono B2.out.size)
  have T3 : Hid (TxL w3 a1 [⟨#[97, 98, 99]⟩, ⟨#[100, 101, 0]⟩]) := T2.out.below hb
  clear hM hb T2 B2
  have TX : Hid (TxL ((w3.alloc (.cells (txc (List.replicate 4 (mkT []))) 9)).alloc (.cells #[.bool true, .bool false, .bool false, .bool false] 4)) (some ⟨w3.heap.size, 0, none⟩) [mkT [], mkT [], mkT [], mkT []]) := (bk_new w3 _ _).txl.alloc _
  have TB : Hid (BoL ((w3.alloc (.cells (txc (List.replicate 4 (mkT []))) 9)).alloc (.cells #[.bool true, .bool false, .bool false, .bool false] 4)) (some ⟨w3.heap.size + 1, 0, none⟩) [true, false, false, false]) := by
    have hB := bk_new (w3.alloc (.cells (txc (List.replicate 4 (mkT []))) 9)) #[.bool true, .bool false, .bool false, .bool false] 4
    rw [al_size] at hB
    intro i x hx
    refine ⟨_, 0, rfl, hB.lt, ?_⟩
    rw [Nat.zero_add, hB.cell]
    have hi : i < 4 := (List.getElem?_eq_some_iff.1 hx).1
    match i, hi, hx with
    | 0, _, hx => simp at hx; subst hx; rfl
    | 1, _, hx => simp at hx; subst hx; rfl
    | 2, _, hx => simp at hx; subst hx; rfl
    | 3, _, hx => simp at hx; subst hx; rfl
  have B4 : Hid (Below w.heap.size w ((w3.alloc (.cells (txc (List.replicate 4 (mkT []))) 9)).alloc (.cells #[.bool true, .bool false, .bool false, .bool false] 4))) := (B3.out.alloc B3.out.size _).alloc (by rw [al_size]; have := B3.out.size; omega) _
  have T4 : Hid (TxL ((w3.alloc (.cells (txc (List.replicate 4 (mkT []))) 9)).alloc (.cells #[.bool true, .bool false, .bool false, .bool false] 4)) a1 [⟨#[97, 98, 99]⟩, ⟨#[100, 101, 0]⟩]) := (T3.out.alloc _).alloc _
  go_wp2_with fail
  refine Calls.mono (C4.out _ _ _ TX.out TB.out) ?_
  rintro e w5 ⟨a5, rfl, hM, hb⟩
  have B5 : Hid (Below w.heap.size w w5) := B4.out.trans (hb.mono B4.out.size)
  have T5 : Hid (TxL w5 a1 [⟨#[97, 98, 99]⟩, ⟨#[100, 101, 0]⟩]) := T4.out.below hb
  clear hM hb TX TB B4 T4 T3 B3
  have T6 : Hid (TxL (w5.alloc (.cells #[.string ⟨#[97, 98, 99]⟩, .string ⟨#[100, 101, 0]⟩] 9)) a1 [⟨#[97, 98, 99]⟩, ⟨#[100, 101, 0]⟩]) := T5.out.alloc _
  have T7 : Hid (TxL (w5.alloc (.cells #[.string ⟨#[97, 98, 99]⟩, .string ⟨#[100, 101, 0]⟩] 9)) (some ⟨w5.heap.size, 0, none⟩) [⟨#[97, 98, 99]⟩, ⟨#[100, 101, 0]⟩]) := by
    have h := bk_new w5 (txc [⟨#[97, 98, 99]⟩, ⟨#[100, 101, 0]⟩]) 9
    exact h.txl
  have B6 : Hid (Below w.heap.size w (w5.alloc (.cells #[.string ⟨#[97, 98, 99]⟩, .string ⟨#[100, 101, 0]⟩] 9))) := B5.out.alloc B5.out.size _
  go_wp2_with fail
  refine Calls.mono (C5.out _ _ _ T6.out T7.out) ?_
  rintro e w7 ⟨rfl, hb⟩
  have B7 : Hid (Below w.heap.size w w7) := B6.out.trans (hb.mono B6.out.size)
  clear hb
  go_wp2
  go_ret
  exact ⟨rfl, B7.out⟩
end Go.Proofs.Ytblmblbkfdcbjaa
