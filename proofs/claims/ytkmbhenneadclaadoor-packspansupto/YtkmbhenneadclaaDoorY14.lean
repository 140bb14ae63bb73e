import Derived.Test.YtkmbhenneadclaaDoorY12
import Derived.Test.YtkmbhenneadclaaDoorY13
import Derived.Test.YtkmbhenneadclaaDoorRows
import Derived.ProofKit
import Derived.Deep.Slices
import Derived.Lib.SmallJoins
import Derived.SizedLaws
import Derived.Test.YtkmbhenneadclaaDoorY10
import Derived.Deep.Strs
/- The walk of munimentlaw11.PackSpans. -/
namespace Go.Proofs.YtkmbhenneadclaaDoor
open Go.RowKit
set_option linter.unusedSimpArgs false
set_option linter.unusedVariables false
/-- Build of one list appended to the copy of another. -/
def Two2 (w : World) (l more : List Ob) (n1 n2 g1 cp1 g2 cp2 : Nat) (w2 : World) : Prop :=
  ∃ a c w3, (Builtin.append_ #[23, 23] 23 #[.slice (some ⟨g1, 0, none⟩) n1 cp1, .slice (some ⟨g2, 0, none⟩) n2 cp2]).run Tryd.prog w2 = .ok (.slice a (n1 + n2) c) w3 ∧
    Hid (Calls Tryd.prog 8 #[.slice a (n1 + n2) c] w3 fun e w4 => e = .returned (.tuple #[.string (buS (l ++ more)), .int .i64 (buE (l ++ more))]) ∧ Below w.heap.size w w4)
def Two1 (w : World) (l more : List Ob) (a2 : Option Addr) (n1 n2 c2 g1 cp1 : Nat) (w1 : World) : Prop :=
  Calls Tryd.prog 7 #[.slice a2 n2 c2] w1 fun e w2 => ∃ g2 cp2, e = .returned (.slice (some ⟨g2, 0, none⟩) n2 cp2) ∧ Two2 w l more n1 n2 g1 cp1 g2 cp2 w2
theorem own_two (l more : List Ob) (a1 a2 : Option Addr) (n1 n2 c1 c2 : Nat) (w : World) (h1 : ObL w a1 l) (h2 : ObL w a2 more) (hl : l.length = n1) (hm : more.length = n2) (hn : (n1 + n2 + 1) * 24 ≤ 140737488355328) (hL : Lst w) :
    Calls Tryd.prog 7 #[.slice a1 n1 c1] w fun e w1 => ∃ g1 cp1, e = .returned (.slice (some ⟨g1, 0, none⟩) n1 cp1) ∧ Two1 w l more a2 n1 n2 c2 g1 cp1 w1 := by
  have k1 : (n1 + 1) * 24 ≤ 140737488355328 := Nat.le_trans (Nat.mul_le_mul_right 24 (by omega)) hn
  have k2 : (n2 + 1) * 24 ≤ 140737488355328 := Nat.le_trans (Nat.mul_le_mul_right 24 (by omega)) hn
  have k3 : (n1 + n2) * 24 ≤ 140737488355328 := Nat.le_trans (Nat.mul_le_mul_right 24 (by omega)) hn
  have k4 : n1 + n2 ≤ 140737488355328 := by omega
  have z1 := own11 l a1 n1 c1 w h1 hl k1
  refine z1.mono ?_
  rintro e w1 ⟨g1, cp1, rfl, q1, b1⟩
  refine ⟨g1, cp1, rfl, ?_⟩
  unfold Two1
  have z2 := own11 more a2 n2 c2 w1 (h2.below b1) hm k2
  refine z2.mono ?_
  rintro e w2 ⟨g2, cp2, rfl, q2, b2⟩
  have hz : ObZ (l ++ more) := fun o ho => by
    rcases List.mem_append.1 ho with h | h
    · exact h1.sz o h
    · exact h2.sz o h
  obtain ⟨a, c, w3, hrun, H3⟩ := app_two q1 b1 q2 b2 hl hm k3 hz
  refine ⟨g2, cp2, rfl, a, c, w3, hrun, ?_⟩
  have hq := build_any (l ++ more) a (n1 + n2) c w3 H3.out.1 (by rw [List.length_append, hl, hm]) k4 (hL.below H3.out.2)
  have hq2 : Calls Tryd.prog 8 #[.slice a (n1 + n2) c] w3 fun e w4 => e = .returned (.tuple #[.string (buS (l ++ more)), .int .i64 (buE (l ++ more))]) ∧ Below w.heap.size w w4 :=
    hq.mono fun e w4 h => ⟨h.1, H3.out.2.trans (h.2.mono H3.out.2.size)⟩
  exact hq2
end Go.Proofs.YtkmbhenneadclaaDoor
/- The walk of munimentlaw11.PackSpans, where a pack is refused. -/
namespace Go.Proofs.YtkmbhenneadclaaDoor
open Go.RowKit
set_option linter.unusedSimpArgs false
set_option linter.unusedVariables false
set_option maxHeartbeats 4000000 in
set_option maxRecDepth 100000 in
theorem spans_no (l more : List Ob) (a1 a2 : Option Addr) (n1 n2 c1 c2 : Nat) (w : World) (h1 : ObL w a1 l) (h2 : ObL w a2 more) (hl : l.length = n1) (hm : more.length = n2) (hn : (n1 + n2 + 1) * 24 ≤ 140737488355328) (hL : Lst w) (hE : ¬ (buE l = 0 ∧ buE (l ++ more) = 0)) :
    Calls Tryd.prog 6 #[.slice a1 n1 c1, .slice a2 n2 c2] w fun e w' => e = .returned (.bool true) ∧ Below w.heap.size w w' := by
  have k1 : (n1 + 1) * 24 ≤ 140737488355328 := Nat.le_trans (Nat.mul_le_mul_right 24 (by omega)) hn
  have HL : Hid (Lst w) := hL
  have HOB := own_build l a1 n1 c1 w h1 hl k1 hL
  have HTW : Hid (∀ W, Below w.heap.size w W → Calls Tryd.prog 7 #[.slice a1 n1 c1] W fun e w1 => ∃ g1 cp1, e = .returned (.slice (some ⟨g1, 0, none⟩) n1 cp1) ∧ Two1 W l more a2 n1 n2 c2 g1 cp1 w1) := fun W hW =>
    own_two l more a1 a2 n1 n2 c1 c2 W (h1.below hW) (h2.below hW) hl hm hn (hL.below hW)
  obtain ⟨A, hA⟩ : ∃ A, A = buS l := ⟨_, rfl⟩
  obtain ⟨B, hB⟩ : ∃ B, B = buS (l ++ more) := ⟨_, rfl⟩
  obtain ⟨e1, he1⟩ : ∃ e, e = buE l := ⟨_, rfl⟩
  obtain ⟨e2, he2⟩ : ∃ e, e = buE (l ++ more) := ⟨_, rfl⟩
  have hA0 : e1 ≠ 0 → A = ⟨#[]⟩ := fun h => by rw [hA]; exact buS_no (by rw [← he1]; exact h)
  have hB0 : e2 ≠ 0 → B = ⟨#[]⟩ := fun h => by rw [hB]; exact buS_no (by rw [← he2]; exact h)
  rw [← he1, ← he2] at hE
  rw [← hA, ← he1] at HOB
  have HBB : Hid (B = buS (l ++ more) ∧ e2 = buE (l ++ more)) := ⟨hB, he2⟩
  have HOB' : Hid (Calls Tryd.prog 7 #[.slice a1 n1 c1] w fun e w' => ∃ v, e = .returned v ∧ Hid (Below w.heap.size w w' ∧ Calls Tryd.prog 8 #[v] w' fun e w'' => e = .returned (.tuple #[.string A, .int .i64 e1]) ∧ Below w.heap.size w w'')) := HOB
  clear h1 h2 hl hm hn hL HOB hA hB he1 he2 k1
  by_cases hx : e1 = 0
  · have hy : e2 ≠ 0 := fun h => hE ⟨hx, h⟩
    obtain rfl := hB0 hy
    have z1 : (e2 == 0) = false := by rw [beq_eq_false_iff_ne]; exact hy
    have z2 : (e2 != 0) = true := by rw [bne_iff_ne]; exact hy
    subst hx
    clear hA0 hB0 hE hy
    go_enter Tryd.func6, Tryd.ntmps6
    go_wp2_with fail
    refine HOB'.out.mono ?_
    rintro e w1 ⟨v, rfl, H1⟩
    go_wp2_with fail
    refine H1.out.2.mono ?_
    rintro e w2 ⟨rfl, b2⟩
    have HB2 : Hid (Below w.heap.size w w2) := b2
    clear b2 H1 HOB'
    go_wp2_with fail
    refine (HTW.out w2 HB2.out).mono ?_
    rintro e w3 ⟨g1, cp1, rfl, H3⟩
    unfold Two1 at H3
    have H3' : Hid (Calls Tryd.prog 7 #[.slice a2 n2 c2] w3 fun e w4 => ∃ g2 cp2, e = .returned (.slice (some ⟨g2, 0, none⟩) n2 cp2) ∧ Two2 w2 l more n1 n2 g1 cp1 g2 cp2 w4) := H3
    clear H3 HTW
    go_wp2_with fail
    refine H3'.out.mono ?_
    rintro e w4 ⟨g2, cp2, rfl, H4⟩
    obtain ⟨a, c, w5, hrun, H5⟩ := H4
    rw [← HBB.out.1, ← HBB.out.2] at H5
    clear H3'
    go_wp2_with (first
      | (refine wpList_appR rfl (.tmp 23) (.tmp 25) 23 23 rfl (.slice (some ⟨g1, 0, none⟩) n1 cp1) (.slice (some ⟨g2, 0, none⟩) n2 cp2) (.slice a (n1 + n2) c) w5 rfl rfl hrun ?_)
      | fail)
    refine H5.out.mono ?_
    rintro e w6 ⟨rfl, b6⟩
    have HB6 : Hid (Below w.heap.size w w6) := HB2.out.trans (b6.mono HB2.out.size)
    clear b6 H5 hrun
    go_wp2_with fail
    refine (awake11 _ (HL.out.below HB6.out)).mono ?_
    rintro e w7 ⟨rfl, b7⟩
    have HB7 : Hid (Below w.heap.size w w7) := HB6.out.trans (b7.mono HB6.out.size)
    clear b7
    go_wp2
    go_ret
    exact ⟨rfl, HB7.out⟩
  · obtain rfl := hA0 hx
    have z1 : (e1 == 0) = false := by rw [beq_eq_false_iff_ne]; exact hx
    have z2 : (e1 != 0) = true := by rw [bne_iff_ne]; exact hx
    clear hA0 hE hx
    by_cases hy : e2 = 0
    · subst hy
      clear hB0
      go_enter Tryd.func6, Tryd.ntmps6
      go_wp2_with fail
      refine HOB'.out.mono ?_
      rintro e w1 ⟨v, rfl, H1⟩
      go_wp2_with fail
      refine H1.out.2.mono ?_
      rintro e w2 ⟨rfl, b2⟩
      have HB2 : Hid (Below w.heap.size w w2) := b2
      clear b2 H1 HOB'
      go_wp2_with fail
      refine (HTW.out w2 HB2.out).mono ?_
      rintro e w3 ⟨g1, cp1, rfl, H3⟩
      unfold Two1 at H3
      have H3' : Hid (Calls Tryd.prog 7 #[.slice a2 n2 c2] w3 fun e w4 => ∃ g2 cp2, e = .returned (.slice (some ⟨g2, 0, none⟩) n2 cp2) ∧ Two2 w2 l more n1 n2 g1 cp1 g2 cp2 w4) := H3
      clear H3 HTW
      go_wp2_with fail
      refine H3'.out.mono ?_
      rintro e w4 ⟨g2, cp2, rfl, H4⟩
      obtain ⟨a, c, w5, hrun, H5⟩ := H4
      rw [← HBB.out.1, ← HBB.out.2] at H5
      clear H3'
      go_wp2_with (first
        | (refine wpList_appR rfl (.tmp 23) (.tmp 25) 23 23 rfl (.slice (some ⟨g1, 0, none⟩) n1 cp1) (.slice (some ⟨g2, 0, none⟩) n2 cp2) (.slice a (n1 + n2) c) w5 rfl rfl hrun ?_)
        | fail)
      refine H5.out.mono ?_
      rintro e w6 ⟨rfl, b6⟩
      have HB6 : Hid (Below w.heap.size w w6) := HB2.out.trans (b6.mono HB2.out.size)
      clear b6 H5 hrun
      go_wp2_with fail
      refine (awake11 _ (HL.out.below HB6.out)).mono ?_
      rintro e w7 ⟨rfl, b7⟩
      have HB7 : Hid (Below w.heap.size w w7) := HB6.out.trans (b7.mono HB6.out.size)
      clear b7
      go_wp2
      go_ret
      exact ⟨rfl, HB7.out⟩
    · obtain rfl := hB0 hy
      have y1 : (e2 == 0) = false := by rw [beq_eq_false_iff_ne]; exact hy
      have y2 : (e2 != 0) = true := by rw [bne_iff_ne]; exact hy
      clear hB0 hy
      go_enter Tryd.func6, Tryd.ntmps6
      go_wp2_with fail
      refine HOB'.out.mono ?_
      rintro e w1 ⟨v, rfl, H1⟩
      go_wp2_with fail
      refine H1.out.2.mono ?_
      rintro e w2 ⟨rfl, b2⟩
      have HB2 : Hid (Below w.heap.size w w2) := b2
      clear b2 H1 HOB'
      go_wp2_with fail
      refine (HTW.out w2 HB2.out).mono ?_
      rintro e w3 ⟨g1, cp1, rfl, H3⟩
      unfold Two1 at H3
      have H3' : Hid (Calls Tryd.prog 7 #[.slice a2 n2 c2] w3 fun e w4 => ∃ g2 cp2, e = .returned (.slice (some ⟨g2, 0, none⟩) n2 cp2) ∧ Two2 w2 l more n1 n2 g1 cp1 g2 cp2 w4) := H3
      clear H3 HTW
      go_wp2_with fail
      refine H3'.out.mono ?_
      rintro e w4 ⟨g2, cp2, rfl, H4⟩
      obtain ⟨a, c, w5, hrun, H5⟩ := H4
      rw [← HBB.out.1, ← HBB.out.2] at H5
      clear H3'
      go_wp2_with (first
        | (refine wpList_appR rfl (.tmp 23) (.tmp 25) 23 23 rfl (.slice (some ⟨g1, 0, none⟩) n1 cp1) (.slice (some ⟨g2, 0, none⟩) n2 cp2) (.slice a (n1 + n2) c) w5 rfl rfl hrun ?_)
        | fail)
      refine H5.out.mono ?_
      rintro e w6 ⟨rfl, b6⟩
      have HB6 : Hid (Below w.heap.size w w6) := HB2.out.trans (b6.mono HB2.out.size)
      clear b6 H5 hrun
      go_wp2_with fail
      refine (awake11 _ (HL.out.below HB6.out)).mono ?_
      rintro e w7 ⟨rfl, b7⟩
      have HB7 : Hid (Below w.heap.size w w7) := HB6.out.trans (b7.mono HB6.out.size)
      clear b7
      go_wp2
      go_ret
      exact ⟨rfl, HB7.out⟩
end Go.Proofs.YtkmbhenneadclaaDoor
/- The walk of munimentlaw11.PackSpans, where both packs are made. -/
namespace Go.Proofs.YtkmbhenneadclaaDoor
open Go.RowKit
set_option linter.unusedSimpArgs false
set_option linter.unusedVariables false
set_option maxHeartbeats 4000000 in
set_option maxRecDepth 100000 in
theorem spans_yes (l more : List Ob) (a1 a2 : Option Addr) (n1 n2 c1 c2 : Nat) (w : World) (h1 : ObL w a1 l) (h2 : ObL w a2 more) (hl : l.length = n1) (hm : more.length = n2) (hn : (n1 + n2 + 1) * 24 ≤ 140737488355328) (hL : Lst w) (hE1 : buE l = 0) (hE2 : buE (l ++ more) = 0) :
    Calls Tryd.prog 6 #[.slice a1 n1 c1, .slice a2 n2 c2] w fun e w' => e = .returned (.bool true) ∧ Below w.heap.size w w' := by
  have k1 : (n1 + 1) * 24 ≤ 140737488355328 := Nat.le_trans (Nat.mul_le_mul_right 24 (by omega)) hn
  have HL : Hid (Lst w) := hL
  have HOB := own_build l a1 n1 c1 w h1 hl k1 hL
  have HTW : Hid (∀ W, Below w.heap.size w W → Calls Tryd.prog 7 #[.slice a1 n1 c1] W fun e w1 => ∃ g1 cp1, e = .returned (.slice (some ⟨g1, 0, none⟩) n1 cp1) ∧ Two1 W l more a2 n1 n2 c2 g1 cp1 w1) := fun W hW =>
    own_two l more a1 a2 n1 n2 c1 c2 W (h1.below hW) (h2.below hW) hl hm hn (hL.below hW)
  obtain ⟨A, hA⟩ : ∃ A, A = buS l := ⟨_, rfl⟩
  obtain ⟨B, hB⟩ : ∃ B, B = buS (l ++ more) := ⟨_, rfl⟩
  have hAz : A.size ≤ 67108864 := by rw [hA]; exact (pkO_bu hE1).1
  have hBz : B.size ≤ 67108864 := by rw [hB]; exact (pkO_bu hE2).1
  have hfr := front_same hE1 hE2
  have hAl := buS_size hE1
  rw [← hA] at hfr hAl
  rw [← hB] at hfr
  rw [← hA, hE1] at HOB
  have HBB : Hid (B = buS (l ++ more) ∧ 0 = buE (l ++ more)) := ⟨hB, hE2.symm⟩
  have HOB' : Hid (Calls Tryd.prog 7 #[.slice a1 n1 c1] w fun e w' => ∃ v, e = .returned v ∧ Hid (Below w.heap.size w w' ∧ Calls Tryd.prog 8 #[v] w' fun e w'' => e = .returned (.tuple #[.string A, .int .i64 0]) ∧ Below w.heap.size w w'')) := HOB
  obtain ⟨LL, hLL⟩ : ∃ LL, LL = l ++ more := ⟨_, rfl⟩
  obtain ⟨N, hN⟩ : ∃ N, N = LL.length := ⟨_, rfl⟩
  have hNs : N = n1 + n2 := by rw [hN, hLL, List.length_append, hl, hm]
  have hNz : (n1 : Int) + (n2 : Int) = (N : Int) := by omega
  have hN16 : N ≤ 65536 := by rw [hN, hLL]; exact (buE_ok hE2).len
  have HE2 : Hid (buE LL = 0) := by show _ = _; rw [hLL]; exact hE2
  have HB : Hid (B = buS LL) := by show _ = _; rw [hLL]; exact hB
  have HN : Hid (N = LL.length) := hN
  have HF : Hid (∀ a, a = 4 + lenL (LL.take n1) → A.extract 0 a = B.extract 0 a ∧ a ≤ A.size) := fun a ha => by
    have : LL.take n1 = l := by rw [hLL, ← hl, List.take_left]
    rw [this] at ha
    subst ha
    exact ⟨hfr, by omega⟩
  have HSC : Hid (∀ W, Lst W → Calls Tryd.prog 13 #[.string B] W fun e w' => ∃ a c, e = .returned (.tuple #[.slice a N c, .int .i64 0]) ∧ Hid (EnL w' a (ens 4 LL) ∧ Below W.heap.size W w')) := fun W hW => by
    have := scan_bu LL HE2.out W hW
    rwa [← HB.out, ← hN] at this
  clear h1 h2 hl hm hn hL HOB hA hB hE1 hE2 k1 hfr hAl hLL hN hNs
  go_enter Tryd.func6, Tryd.ntmps6
  go_wp2_with fail
  refine HOB'.out.mono ?_
  rintro e w1 ⟨v, rfl, H1⟩
  go_wp2_with fail
  refine H1.out.2.mono ?_
  rintro e w2 ⟨rfl, b2⟩
  have HB2 : Hid (Below w.heap.size w w2) := b2
  clear b2 H1 HOB'
  go_wp2_with fail
  refine (HTW.out w2 HB2.out).mono ?_
  rintro e w3 ⟨g1, cp1, rfl, H3⟩
  unfold Two1 at H3
  have H3' : Hid (Calls Tryd.prog 7 #[.slice a2 n2 c2] w3 fun e w4 => ∃ g2 cp2, e = .returned (.slice (some ⟨g2, 0, none⟩) n2 cp2) ∧ Two2 w2 l more n1 n2 g1 cp1 g2 cp2 w4) := H3
  clear H3 HTW
  go_wp2_with fail
  refine H3'.out.mono ?_
  rintro e w4 ⟨g2, cp2, rfl, H4⟩
  obtain ⟨a, c, w5, hrun, H5⟩ := H4
  rw [← HBB.out.1, ← HBB.out.2] at H5
  clear H3'
  go_wp2_with (first
    | (refine wpList_appR rfl (.tmp 23) (.tmp 25) 23 23 rfl (.slice (some ⟨g1, 0, none⟩) n1 cp1) (.slice (some ⟨g2, 0, none⟩) n2 cp2) (.slice a (n1 + n2) c) w5 rfl rfl hrun ?_)
    | fail)
  refine H5.out.mono ?_
  rintro e w6 ⟨rfl, b6⟩
  have HB6 : Hid (Below w.heap.size w w6) := HB2.out.trans (b6.mono HB2.out.size)
  clear b6 H5 hrun
  go_wp2_with fail
  refine (HSC.out _ (HL.out.below HB6.out)).mono ?_
  rintro e w7 ⟨am, cm, rfl, H7⟩
  have HB7 : Hid (Below w.heap.size w w7) := HB6.out.trans (H7.out.2.mono HB6.out.size)
  have HEL : Hid (EnL w7 am (ens 4 LL)) := H7.out.1
  clear H7 HSC HB6 HB2
  go_wp2
  go_loopw [11, 12] (fun x v wr => ∃ (k a : Nat), x = .int .i64 a ∧ v = .int .i64 k ∧ k ≤ N ∧ a ≤ 67108864 ∧ Hid (a = 4 + lenL (LL.take k) ∧ Below w7.heap.size w7 wr)) (fun x v _ => N - (intOf v).toNat)
  case atStart => exact ⟨0, 4, rfl, rfl, Nat.zero_le _, by omega, by rw [List.take_zero]; rfl, Below.refl _ _⟩
  case round =>
    obtain ⟨k, a, rfl, rfl, hk, haz, HR⟩ := hrel
    by_cases hlt : k < N
    · have hkz : (k : Int) < (N : Int) := by omega
      obtain ⟨o, ho⟩ : ∃ o, LL[k]? = some o := ⟨LL[k]'(by rw [← HN.out]; exact hlt), List.getElem?_eq_getElem _⟩
      have hle := rec_le HE2.out k o ho
      have hens := ens_get LL 4 k o ho
      have hnx := lenL_take_succ LL k o ho
      rw [← HB.out, ← HR.out.1] at hle
      rw [← HR.out.1] at hens
      obtain ⟨g, z, C, rfl, hBk, hC⟩ := HEL.out.below HR.out.2 k _ hens
      obtain ⟨x, hx⟩ : ∃ x, x = nmO o := ⟨_, rfl⟩
      have hxz : x.size = 32 := by rw [hx]; exact nmO_size _
      have hen : enO a o = ⟨x, o.k, a, o.p.size⟩ := by rw [enO, hx]
      rw [hen] at hC
      clear hens hen hx ho
      obtain ⟨kk, p⟩ := o
      simp only at hle hC hnx
      obtain ⟨b, hb⟩ : ∃ b, b = a + (9 + p.size) := ⟨_, rfl⟩
      have hab : (a : Int) + (9 + (p.size : Int)) = (b : Int) := by omega
      have hbz : b ≤ 67108864 := by omega
      have HNX : Hid (b = 4 + lenL (LL.take (k + 1))) := by show _ = _; rw [hnx, hb, HR.out.1]; omega
      have hp1 : ¬ (9 + (p.size : Int) < 1) := by omega
      have hp2 : decide (9 + (p.size : Int) < 1) = false := decide_eq_false hp1
      have HSP : Hid (∀ W, Calls Tryd.prog 22 #[.agg (enC ⟨x, kk, a, p.size⟩)] W fun e w' => e = .returned (.tuple #[.int .i64 (a : Int), .int .i64 (9 + (p.size : Int))]) ∧ Below W.heap.size W w') := fun W => span_any ⟨x, kk, a, p.size⟩ W hxz (by simp only; omega) (by simp only; omega)
      have hi35 := info_en (enC_size ⟨x, kk, a, p.size⟩ hxz)
      have HBk : Hid (Bk wr g C 56) := hBk
      have HC : Hid (∀ j v, (enC ⟨x, kk, a, p.size⟩)[j]? = some v → C[z + k * 35 + j]? = some v) := hC
      have HFa : Hid (k = n1 → A.extract 0 a = B.extract 0 a ∧ a ≤ A.size) := fun h => HF.out a (by rw [← h]; exact HR.out.1)
      have haB : a ≤ B.size := by omega
      clear hBk hC hnx hb hle
      by_cases hkn : k = n1
      · obtain ⟨hx1, hx2⟩ := HFa.out hkn
        obtain ⟨X, hX⟩ : ∃ X, X = B.extract 0 a := ⟨_, rfl⟩
        have s1 : A.extract 0 a = X := by rw [hX, hx1]
        have s2 : B.extract 0 a = X := hX.symm
        have q1 : ¬ ((A.size : Int) < (a : Int)) := by omega
        have q2 : ¬ ((B.size : Int) < (a : Int)) := by omega
        have q3 : decide ((A.size : Int) < (a : Int)) = false := decide_eq_false q1
        have q4 : decide ((B.size : Int) < (a : Int)) = false := decide_eq_false q2
        have q5 : (a : Int) ≤ (A.size : Int) := by omega
        have q6 : (a : Int) ≤ (B.size : Int) := by omega
        have q7 : ((k : Int) == (n1 : Int)) = true := by rw [beq_iff_eq]; omega
        clear hkn hx1 hX HFa
        go_wp2_with fail
        refine region_class10 (fun W => Below wr.heap.size wr W) (by kernel_rfl) (by kernel_rfl) (Below.refl _ _).drew ?_
        repeat (first
          | go_big_quiet_skip
          | (go_big_quiet_want
             first
               | (refine quiet_val10 (.bool false) ?_ ?_; (focus (intro W hW; go_simp; done)); go_big_quiet_on; simp only [Act.put, List.setIfInBounds_toArray, List.set_cons_zero, List.set_cons_succ])
               | (refine quiet_val10 (.bool true) ?_ ?_; (focus (intro W hW; go_simp; done)); go_big_quiet_on; simp only [Act.put, List.setIfInBounds_toArray, List.set_cons_zero, List.set_cons_succ])
               | (refine quiet_val10 (.string X) ?_ ?_; (focus (intro W hW; go_simp; done)); go_big_quiet_on; simp only [Act.put, List.setIfInBounds_toArray, List.set_cons_zero, List.set_cons_succ])
               | (refine quiet_val10 (.int .i64 (n1 : Int)) ?_ ?_; (focus (intro W hW; go_simp; done)); go_big_quiet_on; simp only [Act.put, List.setIfInBounds_toArray, List.set_cons_zero, List.set_cons_succ])
               | (refine quiet_val10 (.int .i64 (A.size : Int)) ?_ ?_; (focus (intro W hW; go_simp; done)); go_big_quiet_on; simp only [Act.put, List.setIfInBounds_toArray, List.set_cons_zero, List.set_cons_succ])
               | (refine quiet_val10 (.int .i64 (B.size : Int)) ?_ ?_; (focus (intro W hW; go_simp; done)); go_big_quiet_on; simp only [Act.put, List.setIfInBounds_toArray, List.set_cons_zero, List.set_cons_succ])
               | (go_big_quiet_op; go_big_quiet_on)))
        refine wpQuiet_nil ?_
        intro w8 hw8
        have HB8 : Hid (Below wr.heap.size wr w8) := hw8
        have HK8 : Hid (Bk w8 g C 56) := HBk.out.below hw8 HBk.out.lt
        clear hw8 s1 s2 q1 q2 q3 q4 q5 q6 q7
        go_wp2_with (first
          | (refine wpList_get rfl 56 (.tmp 104) rfl g (z + k * 35) C (enC ⟨x, kk, a, p.size⟩) 56 _ rfl HK8.out HC.out Tryd.underlying56 rfl hi35 ?_)
          | fail)
        refine (HSP.out _).mono ?_
        rintro e w9 ⟨rfl, hb9⟩
        have HB9 : Hid (Below w7.heap.size w7 w9) := HR.out.2.trans ((HB8.out.trans (hb9.mono HB8.out.size)).mono HR.out.2.size)
        clear hb9 HSP
        go_wp2
        go_roundw
        case rel => exact ⟨k + 1, b, rfl, by go_num, by omega, hbz, HNX.out, HB9.out⟩
        case measure => simp [intOf]; omega
      · have q7 : ((k : Int) == (n1 : Int)) = false := by rw [beq_eq_false_iff_ne]; omega
        clear hkn HFa
        go_wp2_with fail
        refine region_class10 (fun W => Below wr.heap.size wr W) (by kernel_rfl) (by kernel_rfl) (Below.refl _ _).drew ?_
        repeat (first
          | go_big_quiet_skip
          | (go_big_quiet_want
             first
               | (refine quiet_val10 (.bool false) ?_ ?_; (focus (intro W hW; go_simp; done)); go_big_quiet_on; simp only [Act.put, List.setIfInBounds_toArray, List.set_cons_zero, List.set_cons_succ])
               | (refine quiet_val10 (.int .i64 (n1 : Int)) ?_ ?_; (focus (intro W hW; go_simp; done)); go_big_quiet_on; simp only [Act.put, List.setIfInBounds_toArray, List.set_cons_zero, List.set_cons_succ])
               | (go_big_quiet_op; go_big_quiet_on)))
        refine wpQuiet_nil ?_
        intro w8 hw8
        have HB8 : Hid (Below wr.heap.size wr w8) := hw8
        have HK8 : Hid (Bk w8 g C 56) := HBk.out.below hw8 HBk.out.lt
        clear hw8 q7
        go_wp2_with (first
          | (refine wpList_get rfl 56 (.tmp 104) rfl g (z + k * 35) C (enC ⟨x, kk, a, p.size⟩) 56 _ rfl HK8.out HC.out Tryd.underlying56 rfl hi35 ?_)
          | fail)
        refine (HSP.out _).mono ?_
        rintro e w9 ⟨rfl, hb9⟩
        have HB9 : Hid (Below w7.heap.size w7 w9) := HR.out.2.trans ((HB8.out.trans (hb9.mono HB8.out.size)).mono HR.out.2.size)
        clear hb9 HSP
        go_wp2
        go_roundw
        case rel => exact ⟨k + 1, b, rfl, by go_num, by omega, hbz, HNX.out, HB9.out⟩
        case measure => simp [intOf]; omega
    · have hkz : ¬ (k : Int) < (N : Int) := by omega
      obtain rfl : k = N := by omega
      have htk : LL.take k = LL := List.take_of_length_le (by rw [← HN.out]; exact Nat.le_refl _)
      have ha : a = 4 + lenL LL := by rw [HR.out.1, htk]
      have hBl := buS_size HE2.out
      rw [← HB.out, trl_size] at hBl
      have haB : a < B.size := by omega
      have q1 : (a : Int) < (B.size : Int) := by omega
      have q2 : (a : Int) ≤ (B.size : Int) := by omega
      obtain ⟨cs, hcs⟩ : ∃ cs, B.extract 0 a = cs := ⟨_, rfl⟩
      have hcz : cs.size ≤ 67108864 := by rw [← hcs, cut_size B a (by omega)]; omega
      have HSv : Hid (∀ W, Lst W → Calls Tryd.prog 15 #[.string cs] W fun e w' => ∃ b c, e = .returned (.slice b k c) ∧ Below W.heap.size W w') := fun W hW => by
        refine (salvage_any cs W (by omega) hW).mono ?_
        rintro e w' ⟨m, v, rfl, h3, h4, h5⟩
        rw [← hcs, HB.out] at h3
        have hm := cut_sv HE2.out (by rw [← HB.out]; exact haB) h3
        rw [cwN_all LL 4 a (by omega), List.take_length] at hm
        subst hm
        rw [ens_length, ← HN.out] at h4
        obtain ⟨b, c, rfl⟩ := row_slice h4
        exact ⟨b, c, rfl, h5⟩
      have HLr : Hid (Lst wr) := HL.out.below (HB7.out.trans (HR.out.2.mono HB7.out.size))
      have HBr : Hid (Below w.heap.size w wr) := HB7.out.trans (HR.out.2.mono HB7.out.size)
      clear htk ha hBl
      go_wp2_with fail
      refine (HSv.out _ HLr.out).mono ?_
      rintro e w8 ⟨b8, c8, rfl, b8'⟩
      have HL8 : Hid (Lst w8) := HLr.out.below b8'
      have HB8 : Hid (Below w.heap.size w w8) := HBr.out.trans (b8'.mono HBr.out.size)
      clear b8'
      go_wp2_with fail
      refine (awake11 _ HL8.out).mono ?_
      rintro e w9 ⟨rfl, b9⟩
      have HB9 : Hid (Below w.heap.size w w9) := HB8.out.trans (b9.mono HB8.out.size)
      clear b9
      go_wp2
      go_ret
      exact ⟨rfl, HB9.out⟩
end Go.Proofs.YtkmbhenneadclaaDoor
/- A slice of structs that came in, opened at an index: plain laws on readings, over any program. -/
namespace Go.Proofs.YtkmbhenneadclaaDoor
open Go.ChangeShapes Go.WideShapes Go.ChangeAt Go.RowKit
set_option linter.unusedSimpArgs false
set_option linter.unusedVariables false
theorem weightsAll_mem {H : Type} {P : Program} {e : TypeId} : ∀ {l : List (DataW H)} {d : DataW H}, d ∈ l → ∀ n ∈ d.weights P e, n ∈ DataW.weightsAll P e l
  | [], _, h, _, _ => by simp at h
  | x :: l, d, hd, n, hn => by
    simp only [DataW.weightsAll, List.mem_append]
    rcases List.mem_cons.1 hd with rfl | h
    · exact Or.inl hn
    · exact Or.inr (weightsAll_mem h n hn)
theorem open_elem {H : Type} {enc : TypeId × Value → H} {P : Program} {w : World} {t e : TypeId} {d : DataW H} {ps : List MemPlace} {a0 : Option Addr} {len cap : Nat}
    (ht : P.underlying t = some (.slice e)) (hce : 0 < P.cellsOf e) (h : DataW.Trod enc P w 0 (fun _ => true) true t (.slice a0 len cap) d ps) :
    len ≤ maxLen ∧ ∀ i, i < len → ∃ (b off : Nat) (cs : List Value) (D : DataW H) (Pl : List MemPlace) (n : Nat), a0 = some ⟨b, off, none⟩ ∧ b < w.heap.size ∧ cs.length = P.cellsOf e ∧
      (∀ j, j < P.cellsOf e → w.cell? ⟨b, off + i * P.cellsOf e + j, none⟩ = cs[j]?) ∧ DataW.trod enc P w 0 (fun _ => true) true n e cs = some (D, Pl) ∧ ∀ q ∈ D.weights P e, q ∈ d.weights P t := by
  obtain ⟨fuel, hf⟩ := h
  have hcs : (Value.slice a0 len cap).cells.toList = [.slice a0 len cap] := by simp [Value.cells]
  rw [hcs] at hf
  rcases Go.Deep.open_slice ht hf with ⟨h1, _⟩ | ⟨a, l, c, m, n, D, Pl, h1, _, hl, hm, hmm, hx, hi⟩
  · simp only [List.cons.injEq, Value.slice.injEq, and_true] at h1
    obtain ⟨rfl, rfl, rfl⟩ := h1
    exact ⟨by unfold maxLen; omega, fun i hi => by omega⟩
  · simp only [List.cons.injEq, Value.slice.injEq, and_true] at h1
    obtain ⟨rfl, rfl, rfl⟩ := h1
    have hmc : m = cap := by simpa using hmm
    refine ⟨by omega, fun i hil => ?_⟩
    obtain ⟨cs, h2, h3⟩ := hi i (by omega)
    obtain ⟨_, hlen, hcell⟩ := World.cells?_some h2
    obtain ⟨b, off, spot⟩ := a
    have hsp : spot = none := by
      obtain ⟨cs0, k2, _⟩ := hi 0 (by omega)
      obtain ⟨_, klen, kcell⟩ := World.cells?_some k2
      have kc := kcell 0 hce
      rw [Go.Deep.add_add, Nat.zero_mul, Nat.zero_add, show (⟨b, off, spot⟩ : Addr).add 0 = ⟨b, off, spot⟩ from rfl, List.getElem?_eq_getElem (by omega)] at kc
      exact World.cell?_spot kc
    subst hsp
    have hc0 := hcell 0 hce
    rw [Go.Deep.add_add, add_plain, List.getElem?_eq_getElem (by omega)] at hc0
    refine ⟨b, off, cs, D i, Pl i, n, rfl, block_lt_of_cell hc0, hlen, fun j hj => ?_, h3, fun q hq => ?_⟩
    · have := hcell j hj
      rw [Go.Deep.add_add, add_plain, ← Nat.add_assoc] at this
      exact this
    · simp only [Prod.mk.injEq] at hx
      rw [hx.1]
      simp only [DataW.weights, ht, List.mem_cons, List.mem_append]
      exact Or.inr (Or.inl (weightsAll_mem (List.mem_map.2 ⟨i, by simpa using hil, rfl⟩) q hq))
theorem open_cap {H : Type} {enc : TypeId × Value → H} {P : Program} {w : World} {t e : TypeId} {d : DataW H} {ps : List MemPlace} {a0 : Option Addr} {len cap : Nat}
    (ht : P.underlying t = some (.slice e)) (h : DataW.Trod enc P w 0 (fun _ => true) true t (.slice a0 len cap) d ps) : len ≤ cap ∧ cap ≤ maxLen := by
  obtain ⟨fuel, hf⟩ := h
  have hcs : (Value.slice a0 len cap).cells.toList = [.slice a0 len cap] := by simp [Value.cells]
  rw [hcs] at hf
  rcases Go.Deep.open_slice ht hf with ⟨h1, _⟩ | ⟨a, l, c, m, n, D, Pl, h1, _, hl, hm, hmm, hx, hi⟩
  · simp only [List.cons.injEq, Value.slice.injEq, and_true] at h1
    obtain ⟨rfl, rfl, rfl⟩ := h1
    exact ⟨Nat.le_refl _, by unfold maxLen; omega⟩
  · simp only [List.cons.injEq, Value.slice.injEq, and_true] at h1
    obtain ⟨rfl, rfl, rfl⟩ := h1
    have hmc : m = cap := by simpa using hmm
    omega
end Go.Proofs.YtkmbhenneadclaaDoor
/- Lists of the document's objects that came in, opened. -/
namespace Go.Proofs.YtkmbhenneadclaaDoor
open Go.ChangeShapes Go.WideShapes Go.ChangeAt Go.RowKit Go.Joins
set_option linter.unusedSimpArgs false
set_option linter.unusedVariables false
section
variable {H : Type} {enc : TypeId × Value → H} {P : Program} {w : World} {base : Nat} {spare : Nat → Bool} {held : Bool}
theorem trod2p {t : TypeId} {f0 f1 : Field} {fuel : Nat} {cs : List Value} {x : DataW H × List MemPlace} (ht : P.underlying t = some (.struct #[f0, f1])) (h : DataW.trod enc P w base spare held fuel t cs = some x) :
    ∃ y0 y1 n, x.1 = .agg [y0.1, y1.1] ∧ cs.length = P.cellsOf t ∧ DataW.trod enc P w base spare held n f0.type ((cs.drop f0.offset).take (P.cellsOf f0.type)) = some y0 ∧
      DataW.trod enc P w base spare held n f1.type ((cs.drop f1.offset).take (P.cellsOf f1.type)) = some y1 := by
  obtain ⟨xs, n, _, rfl, hl, hlen, hf⟩ := DataW.trod_struct ht h
  match xs, hlen with
  | [y0, y1], _ => exact ⟨y0, y1, n, by simp, hl, by simpa using hf 0 f0 rfl, by simpa using hf 1 f1 rfl⟩
theorem open_lenp {t e : TypeId} {d : DataW H} {ps : List MemPlace} {a0 : Option Addr} {len cap : Nat} (ht : P.underlying t = some (.slice e)) (h : DataW.Trod enc P w 0 (fun _ => true) true t (.slice a0 len cap) d ps)
    (hsz : ∀ q ∈ d.weights P t, q ≤ reachBytes) : len * P.bytesOf e ≤ reachBytes := by
  obtain ⟨fuel, hf⟩ := h
  have hcs : (Value.slice a0 len cap).cells.toList = [.slice a0 len cap] := by simp [Value.cells]
  rw [hcs] at hf
  rcases Go.Deep.open_slice ht hf with ⟨h1, _⟩ | ⟨a, l, c, m, n, D, Pl, h1, _, hl, hm, hmm, hx, hi⟩
  · simp only [List.cons.injEq, Value.slice.injEq, and_true] at h1
    obtain ⟨rfl, rfl, rfl⟩ := h1
    simp
  · simp only [List.cons.injEq, Value.slice.injEq, and_true] at h1
    obtain ⟨rfl, rfl, rfl⟩ := h1
    simp only [Prod.mk.injEq] at hx
    have := hsz _ (by rw [hx.1]; simp only [DataW.weights, ht]; exact List.mem_cons_self ..)
    refine Nat.le_trans ?_ this
    simp only [List.length_map, List.length_range]
    exact Nat.mul_le_mul_right _ (by omega)
end
theorem len2p {α : Type} : ∀ {l : List α}, l.length = 2 → ∃ a b, l = [a, b]
  | [a, b], _ => ⟨a, b, rfl⟩
  | [], h => by simp at h
  | [_], h => by simp at h
  | _ :: _ :: _ :: _, h => by simp at h
theorem u8_valp (a : Int) (h : (Lit.int .u8 a).wf = true) : ∃ x : UInt8, a = (x.toNat : Int) := by
  have h' : 0 ≤ a ∧ a ≤ 255 := by simpa [Lit.wf, IntKind.min, IntKind.max, IntKind.signed, IntKind.bits] using h
  refine ⟨UInt8.ofNat a.toNat, ?_⟩
  simp
  omega
theorem open_obs {H : Type} {enc : TypeId × Value → H} {w : World} {d : DataW H} {ps : List MemPlace} {a0 : Option Addr} {len cap : Nat}
    (h : DataW.Trod enc Tryd.prog w 0 (fun _ => true) true 22 (.slice a0 len cap) d ps) (hsz : ∀ q ∈ d.weights Tryd.prog 22, q ≤ reachBytes) :
    ∃ l, l.length = len ∧ ObL w a0 l ∧ (len + 1) * 24 ≤ 140737488355328 := by
  have ce : Tryd.prog.cellsOf 31 = 2 := by kernel_rfl
  have be : Tryd.prog.bytesOf 31 = 24 := by kernel_rfl
  have c9 : Tryd.prog.cellsOf 9 = 1 := by kernel_rfl
  have c5 : Tryd.prog.cellsOf 5 = 1 := by kernel_rfl
  have hl := open_lenp Tryd.underlying22 h hsz
  rw [be] at hl
  unfold reachBytes at hl
  obtain ⟨_, hall⟩ := open_elem Tryd.underlying22 (by rw [ce]; omega) h
  have one : ∀ i, i < len → ∃ x : Ob, ∃ g o, a0 = some ⟨g, o, none⟩ ∧ g < w.heap.size ∧ w.cell? ⟨g, o + i * 2, none⟩ = some (.int .u8 (x.k.toNat : Int)) ∧ w.cell? ⟨g, o + i * 2 + 1, none⟩ = some (.string x.p) ∧ x.p.size ≤ 140737488351232 := by
    intro i hi
    obtain ⟨b, off, cs, D, Pl, n, ha, hb, hlen, hcell, htrod, hw⟩ := hall i hi
    rw [ce] at hlen hcell
    obtain ⟨y0, y1, m, hx, _, t0, t1⟩ := trod2p Tryd.underlying31 htrod
    obtain ⟨v0, v1, rfl⟩ := len2p hlen
    simp only [c9, c5] at t0 t1
    obtain ⟨n0, e0, _, w0⟩ := DataW.trod_int Tryd.underlying5 t0
    obtain ⟨s1, e1, hy1, w1⟩ := DataW.trod_string Tryd.underlying9 t1
    simp at e0 e1
    subst e0 e1
    obtain ⟨kk, rfl⟩ := u8_valp n0 w0
    simp only at hx
    have hm1 := hsz s1.data.toList.length (hw _ (by rw [hx, hy1]; simp [DataW.weights, Tryd.underlying31, DataW.weightsEach]))
    have e : s1.data.toList.length = s1.size := Array.length_toList
    rw [e] at hm1
    unfold reachBytes at hm1
    exact ⟨⟨kk, s1⟩, b, off, ha, hb, by simpa using hcell 0 (by omega), by simpa using hcell 1 (by omega), by simp only; omega⟩
  haveI : Inhabited Ob := ⟨⟨0, ⟨#[]⟩⟩⟩
  obtain ⟨q, hq⟩ := Go.Deep.choose_lt one
  refine ⟨(List.range len).map q, by simp, fun i x hx => ?_, by omega⟩
  rw [List.getElem?_map] at hx
  obtain ⟨j, hj, rfl⟩ := Option.map_eq_some_iff.1 hx
  have hi : i < len := by have := (List.getElem?_eq_some_iff.1 hj).1; simpa using this
  have : j = i := by rw [List.getElem?_range hi] at hj; cases hj; rfl
  subst this
  exact hq j hi
end Go.Proofs.YtkmbhenneadclaaDoor
