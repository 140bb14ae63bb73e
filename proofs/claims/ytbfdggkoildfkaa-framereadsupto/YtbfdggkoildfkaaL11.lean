/- The walk of munimentlaw03.FrameReads, for texts of at most 1048576 bytes. -/
import Derived.Test.YtbfdggkoildfkaaG4
import Derived.Test.YtbfdggkoildfkaaG5
namespace Go.Proofs.Ytbfdggkoildfkaa
open Go.RowKit
set_option linter.unusedSimpArgs false
set_option linter.unusedVariables false
theorem allP_len (n : Nat) : ∀ s : ByteArray, s.size ≤ n → 8 * (allP s).length ≤ s.size := by
  induction n using Nat.strongRecOn with
  | ind n ih =>
    intro s hs
    cases h : ufB s with
    | false => rw [(all_no h).1]; simp
    | true =>
      have hz := ufR_size h
      rw [(all_yes h).1, List.length_cons]
      have := ih (ufR s).size (by omega) (ufR s) (Nat.le_refl _)
      omega
set_option maxRecDepth 100000 in
set_option maxHeartbeats 2000000 in
theorem reads_walk (s t : ByteArray) (c : BitVec 32) (w : World) (hs : s.size ≤ 1048576) (ht : t.size ≤ 1048576) :
    Calls Try.prog 3 #[.string s, .string t, c32 c] w fun e w' => e = .returned (.bool true) ∧ Below w.heap.size w w' := by
  have HAL : Hid (8 * (allP t).length ≤ t.size) := allP_len _ t (Nat.le_refl _)
  have ms : s.size ≤ maxLen := by unfold maxLen; omega
  have mt : t.size ≤ maxLen := by unfold maxLen; omega
  go_enter Try.func3, Try.ntmps3
  go_wp2_with fail
  refine (frame_ok s _ (by omega)).mono ?_
  rintro e w1 ⟨rfl, h1⟩
  obtain ⟨f, hf⟩ : ∃ f, f = frm s := ⟨_, rfl⟩
  have HF : Hid (frm s = f) := hf.symm
  rw [← hf]
  have H1 : Hid (Below w.heap.size w w1) := h1
  have z1 := h1.size
  clear h1 hf
  go_wp2_with fail
  refine (rframe_ok s _ (by omega)).mono ?_
  rintro e w2 ⟨rfl, h2⟩
  rw [HF.out]
  have H2 : Hid (Below w.heap.size w w2) := H1.out.trans (h2.mono z1)
  have z2 : w.heap.size ≤ w2.heap.size := H2.out.size
  clear h2 H1 z1
  obtain ⟨p, hp⟩ : ∃ p, p = ufP t := ⟨_, rfl⟩
  obtain ⟨r, hr⟩ : ∃ r, r = ufR t := ⟨_, rfl⟩
  obtain ⟨x, hx⟩ : ∃ x, x = ufE t := ⟨_, rfl⟩
  have HP : Hid (ufP t = p) := hp.symm
  have HR : Hid (ufR t = r) := hr.symm
  have HX : Hid (ufE t = x) := hx.symm
  clear hp hr hx
  go_wp2_with fail
  refine (unframe_any t _ mt).mono ?_
  rintro e w3 ⟨rfl, h3⟩
  rw [HP.out, HR.out, HX.out]
  have H3 : Hid (Below w.heap.size w w3) := H2.out.trans (h3.mono z2)
  have z3 : w.heap.size ≤ w3.heap.size := H3.out.size
  clear h3 H2 z2
  go_wp2_with fail
  refine (runframe_any t _ mt).mono ?_
  rintro e w4 ⟨rfl, h4⟩
  rw [HP.out, HR.out, HX.out]
  have H4 : Hid (Below w.heap.size w w4) := H3.out.trans (h4.mono z3)
  have z4 : w.heap.size ≤ w4.heap.size := H4.out.size
  clear h4 H3 z3 HP HR HX
  go_wp2_with fail
  refine (all_any t _ mt (by have := HAL.out; omega)).mono ?_
  rintro e w5 ⟨v5, rfl, o5, h5⟩
  have H5 : Hid (Below w.heap.size w w5) := H4.out.trans (h5.mono z4)
  have z5 : w.heap.size ≤ w5.heap.size := H5.out.size
  have O5 : Hid (w5.ownsRow w4.heap.size 9 1 v5 (allP t).length (sv (allP t))) := o5
  clear h5 H4 o5
  obtain ⟨y, hy⟩ : ∃ y : Int, y = (t.size : Int) - (allR t).size := ⟨_, rfl⟩
  have HY : Hid ((t.size : Int) - (allR t).size = y) := hy.symm
  rw [← hy]
  clear hy
  go_wp2_with fail
  refine (rall_any t _ mt (by have := HAL.out; omega)).mono ?_
  rintro e w6 ⟨v6, rfl, o6, h6⟩
  rw [HY.out]
  have H6 : Hid (Below w.heap.size w w6) := H5.out.trans (h6.mono z5)
  have z6 : w.heap.size ≤ w6.heap.size := H6.out.size
  have O6 : Hid (w6.ownsRow w5.heap.size 9 1 v6 (allP t).length (sv (allP t))) := o6
  have O56 : Hid (w6.ownsRow w4.heap.size 9 1 v5 (allP t).length (sv (allP t))) := own_below O5.out h6
  clear h6 o6 H5 z5 O5
  go_wp2_with fail
  refine (crc_any s _ ms).mono ?_
  rintro e w7 ⟨rfl, h7⟩
  obtain ⟨q, hq⟩ : ∃ q : BitVec 32, q = crcC (bl s) := ⟨_, rfl⟩
  have HQ : Hid (crcC (bl s) = q) := hq.symm
  rw [← hq]
  clear hq
  have H7 : Hid (Below w.heap.size w w7) := H6.out.trans (h7.mono z6)
  have z7 : w.heap.size ≤ w7.heap.size := H7.out.size
  have O7 : Hid (w7.ownsRow w5.heap.size 9 1 v6 (allP t).length (sv (allP t))) := own_below O6.out h7
  have O57 : Hid (w7.ownsRow w4.heap.size 9 1 v5 (allP t).length (sv (allP t))) := own_below O56.out h7
  clear h7 H6 z6 O6 O56
  go_wp2_with fail
  refine (rcrc_any s _ ms).mono ?_
  rintro e w8 ⟨rfl, hw8⟩
  subst hw8
  rw [HQ.out]
  go_wp2_with fail
  refine (on_any c s _ ms).mono ?_
  rintro e w9 ⟨rfl, h9⟩
  obtain ⟨d, hd⟩ : ∃ d : BitVec 32, d = onC c (bl s) := ⟨_, rfl⟩
  have HD : Hid (onC c (bl s) = d) := hd.symm
  rw [← hd]
  clear hd
  have z8 : w.heap.size ≤ w8.heap.size := H7.out.size
  have H9 : Hid (Below w.heap.size w w9) := H7.out.trans (h9.mono z8)
  have z9 : w.heap.size ≤ w9.heap.size := H9.out.size
  have O9 : Hid (w9.ownsRow w5.heap.size 9 1 v6 (allP t).length (sv (allP t))) := own_below O7.out h9
  have O59 : Hid (w9.ownsRow w4.heap.size 9 1 v5 (allP t).length (sv (allP t))) := own_below O57.out h9
  clear h9 H7 O7 O57 z8
  go_wp2_with fail
  refine (ron_any c s _ ms).mono ?_
  rintro e w10 ⟨rfl, hw10⟩
  subst hw10
  rw [HD.out]
  obtain ⟨a5, c5, rfl, t5⟩ := Txt.of_own O59.out
  obtain ⟨a6, c6, rfl, t6⟩ := Txt.of_own O9.out
  have T5 : Hid (Txt w10 a5 (allP t).length (allP t)) := t5
  have T6 : Hid (Txt w10 a6 (allP t).length (allP t)) := t6
  clear t5 t6 O59 O9
  go_wp2_with fail
  refine (same_yes a5 a6 _ c5 c6 (allP t) w10 (by have := HAL.out; omega) T5.out T6.out).mono ?_
  rintro e w11 ⟨rfl, h11⟩
  have z10 : w.heap.size ≤ w10.heap.size := H9.out.size
  have H11 : Hid (Below w.heap.size w w11) := H9.out.trans (h11.mono z10)
  have z11 : w.heap.size ≤ w11.heap.size := H11.out.size
  clear h11 T5 T6
  go_wp2_with fail
  refine (awake_any w11).mono ?_
  rintro e w12 ⟨rfl, h12⟩
  have H12 : Hid (Below w.heap.size w w12) := H11.out.trans (h12.mono z11)
  clear h12
  go_wp2
  go_ret
  exact ⟨rfl, H12.out⟩
end Go.Proofs.Ytbfdggkoildfkaa
