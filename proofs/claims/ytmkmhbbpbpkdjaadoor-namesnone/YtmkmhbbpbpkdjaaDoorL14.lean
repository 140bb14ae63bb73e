/- The walk of munimentlaw04.NamesNone. -/
import Derived.Test.YtmkmhbbpbpkdjaaDoorN7
import Derived.Test.YtmkmhbbpbpkdjaaDoorN8
import Derived.Test.YtmkmhbbpbpkdjaaDoorE7
import Derived.BigQuiet
namespace Go.Proofs.YtmkmhbbpbpkdjaaDoor
open Go.RowKit
set_option linter.unusedSimpArgs false
set_option linter.unusedVariables false
/-- A text so often. -/
def rep (x : ByteArray) : Nat → ByteArray
  | 0 => ⟨#[]⟩
  | n + 1 => rep x n ++ x
theorem rep_size (x : ByteArray) : ∀ n, (rep x n).size = n * x.size
  | 0 => by rw [rep, Nat.zero_mul]; rfl
  | n + 1 => by rw [rep, ByteArray.size_append, rep_size x n, Nat.succ_mul]
def lg : ByteArray := rep ⟨#[195, 169]⟩ 64
def dp : ByteArray := rep ⟨#[47, 97]⟩ 16
def wd : ByteArray := rep ⟨#[240, 159, 152, 128]⟩ 64
def lga : ByteArray := lg ++ ⟨#[97]⟩
def wd2 : ByteArray := wd.extract 0 252
theorem lga_of (l : ByteArray) (h : l = lg) : l ++ ⟨#[97]⟩ = lga := by rw [h, lga]
theorem wd2_of (l : ByteArray) (h : l = wd) : l.extract 0 252 = wd2 := by rw [h, wd2]
theorem ck_long : rnE lg.data.toList = 0 := by decide +kernel
theorem ck_longa : rnE lga.data.toList = 10 := by decide +kernel
theorem ck_wide : rnE wd.data.toList = 10 := by decide +kernel
theorem ck_wide2 : rnE wd2.data.toList = 0 := by decide +kernel
theorem ck_nil : rnE (⟨#[]⟩ : ByteArray).data.toList = 10 := by decide +kernel
theorem ck_ff : rnE (⟨#[255]⟩ : ByteArray).data.toList = 10 := by decide +kernel
theorem ck_fffd : rnE (⟨#[239, 191, 189]⟩ : ByteArray).data.toList = 0 := by decide +kernel
theorem ck_7f : rnE (⟨#[97, 127]⟩ : ByteArray).data.toList = 10 := by decide +kernel
theorem sp_deep : pthE dp.data.toList = 0 := by decide +kernel
theorem sp_deeper : pthE (dp ++ ⟨#[47, 97]⟩).data.toList = 10 := by decide +kernel
theorem jn_17 : jnE (List.replicate 17 ⟨#[]⟩) = 10 := by decide +kernel
theorem jn_0 : jnE [] = 0 ∧ jnS [] = ⟨#[47]⟩ := by decide +kernel
theorem make17 (w2 : World) : ∃ w3, (Instr.makeSlice 35 (.int .i64 17) (.int .i64 17)).run Tryd.prog w2 = .ok (.slice (some ⟨w2.heap.size, 0, none⟩) 17 17) w3 ∧ LieL w3 (some ⟨w2.heap.size, 0, none⟩) (List.replicate 17 ⟨#[]⟩) ∧ Below w2.heap.size w2 w3 := by
  refine ⟨_, run_make_row' (P := Tryd.prog) 35 9 (.string ByteArray.empty) 16 Tryd.underlying35 info_str rfl .i64 .i64 17 (by omega) (by omega) w2, ?_, (Below.refl _ w2).alloc (Nat.le_refl _) _⟩
  intro i x hx
  refine ⟨w2.heap.size, 0, rfl, by simp, ?_⟩
  rw [Nat.zero_add, World.cell?_alloc_new, ← Lib.cellsOf_nil]
  obtain ⟨hi, e⟩ := List.getElem?_eq_some_iff.1 hx
  rw [List.getElem_replicate] at e
  rw [List.length_replicate] at hi
  subst e
  simp only [Lib.cellsOf, List.map_nil, List.nil_append, List.length_nil, List.getElem?_toArray]
  rw [List.getElem?_replicate, if_pos (by omega)]
  rfl
/-- What the last line asks of the world. -/
structure SN (w W : World) : Prop where
  below : Below w.heap.size w W
  u8 : U8 W
theorem SN.next {w W W' : World} (h : SN w W) (hb : Below W.heap.size W W') : SN w W' := ⟨h.below.trans (hb.mono h.below.size), h.u8.below hb⟩
theorem SN.cls {w : World} {f : FuncId} {args : Array Value} {v : Value} (h : ∀ W, U8 W → Calls Tryd.prog f args W fun e w' => e = .returned v ∧ Below W.heap.size W w') : ∀ W, SN w W → Calls Tryd.prog f args W fun e w'' => e = .returned v ∧ SN w w'' :=
  fun W hW => (h W hW.u8).mono fun _ _ h => ⟨h.1, hW.next h.2⟩
theorem c_ck (s l : ByteArray) (k : Int) (w : World) (hs : s.size ≤ 9223372036854775807) (hk : ((rnE s.data.toList : Nat) : Int) = k) (hl : l = s) : ∀ W, SN w W → Calls Tryd.prog 30 #[.string l] W fun e w'' => e = .returned (.int .i64 k) ∧ SN w w'' := by
  subst hl
  rw [← hk]
  exact SN.cls fun W hW => check_any l W hs hW
theorem z_l1 (l : ByteArray) (h : l = lg) : ¬ 9223372036854775807 < l.size + 1 := by subst h; decide +kernel
theorem z_l3 (l : ByteArray) (h : l = wd) : (252 : Int) ≤ (l.size : Nat) := by subst h; decide +kernel
theorem z_long : lg.size ≤ 9223372036854775807 := by decide +kernel
theorem z_longa : lga.size ≤ 9223372036854775807 := by decide +kernel
theorem z_wide : wd.size ≤ 9223372036854775807 := by decide +kernel
theorem z_wide2 : wd2.size ≤ 9223372036854775807 := by decide +kernel
theorem i_long : ((rnE lg.data.toList : Nat) : Int) = 0 := by rw [ck_long]; rfl
theorem i_longa : ((rnE lga.data.toList : Nat) : Int) = 10 := by rw [ck_longa]; rfl
theorem i_wide : ((rnE wd.data.toList : Nat) : Int) = 10 := by rw [ck_wide]; rfl
theorem i_wide2 : ((rnE wd2.data.toList : Nat) : Int) = 0 := by rw [ck_wide2]; rfl
theorem i_nil : ((rnE (⟨#[]⟩ : ByteArray).data.toList : Nat) : Int) = 10 := by rw [ck_nil]; rfl
theorem i_ff : ((rnE (⟨#[255]⟩ : ByteArray).data.toList : Nat) : Int) = 10 := by rw [ck_ff]; rfl
theorem i_fffd : ((rnE (⟨#[239, 191, 189]⟩ : ByteArray).data.toList : Nat) : Int) = 0 := by rw [ck_fffd]; rfl
theorem i_7f : ((rnE (⟨#[97, 127]⟩ : ByteArray).data.toList : Nat) : Int) = 10 := by rw [ck_7f]; rfl
set_option maxHeartbeats 4000000 in
set_option maxRecDepth 100000 in
theorem none_walk (w : World) (hT : U8 w) : Calls Tryd.prog 8 #[] w fun e w' => e = .returned (.bool true) ∧ Below w.heap.size w w' := by
  have HT : Hid (U8 w) := hT
  clear hT
  go_enter Tryd.func8, Tryd.ntmps8
  go_wp2
  go_loopw [1, 2] (fun v i wr => ∃ k : Nat, k ≤ 64 ∧ v = .string (rep ⟨#[195, 169]⟩ k) ∧ i = .int .i64 k ∧ w = wr) (fun _ i _ => 64 - (intOf i).toNat)
  case atStart => exact ⟨0, by omega, rfl, rfl, rfl⟩
  case round =>
  obtain ⟨k, hk, rfl, rfl, hw⟩ := hrel
  subst hw
  have hsz := rep_size ⟨#[195, 169]⟩ k
  rw [show (⟨#[195, 169]⟩ : ByteArray).size = 2 from rfl] at hsz
  have hb : ¬ 9223372036854775807 < (rep ⟨#[195, 169]⟩ k).size + 2 := by omega
  by_cases hlt : k < 64
  · clear hsz
    go_wp2
    go_roundw
    case rel => exact ⟨k + 1, by omega, rfl, by go_num, by first | rfl | trivial⟩
    case measure => simp [intOf]; omega
  obtain rfl : k = 64 := by omega
  clear hsz hb hk hlt
  obtain ⟨l1, hl1⟩ : ∃ x, x = rep ⟨#[195, 169]⟩ 64 := ⟨_, rfl⟩
  rw [← hl1, show ((64 : Nat) : Int) = (64 : Int) from rfl]
  have Hl1 : Hid (l1 = lg) := hl1
  clear hl1
  go_wp2
  go_loopw [3, 4] (fun v i wr => ∃ k : Nat, k ≤ 16 ∧ v = .string (rep ⟨#[47, 97]⟩ k) ∧ i = .int .i64 k ∧ w = wr) (fun _ i _ => 16 - (intOf i).toNat)
  case atStart => exact ⟨0, by omega, rfl, rfl, rfl⟩
  case round =>
  obtain ⟨k, hk, rfl, rfl, hw⟩ := hrel
  subst hw
  have hsz := rep_size ⟨#[47, 97]⟩ k
  rw [show (⟨#[47, 97]⟩ : ByteArray).size = 2 from rfl] at hsz
  have hb : ¬ 9223372036854775807 < (rep ⟨#[47, 97]⟩ k).size + 2 := by omega
  by_cases hlt : k < 16
  · clear hsz
    go_wp2
    go_roundw
    case rel => exact ⟨k + 1, by omega, rfl, by go_num, by first | rfl | trivial⟩
    case measure => simp [intOf]; omega
  obtain rfl : k = 16 := by omega
  clear hsz hb hk hlt
  obtain ⟨l2, hl2⟩ : ∃ x, x = rep ⟨#[47, 97]⟩ 16 := ⟨_, rfl⟩
  rw [← hl2, show ((16 : Nat) : Int) = (16 : Int) from rfl]
  have Hl2 : Hid (l2 = dp) := hl2
  clear hl2
  have hdz : ¬ 9223372036854775807 < l2.size + 2 := by rw [Hl2.out]; decide +kernel
  have hs1 : Calls Tryd.prog 23 #[.string l2] w fun e w' => ∃ a n c, e = .returned (.tuple #[.slice a n c, .int .i64 0]) ∧ Below w.heap.size w w' := by
    rw [Hl2.out]
    have := split_any dp w (by decide +kernel) HT.out
    rw [sp_deep] at this
    exact this.mono fun e w' ⟨a, c, he, h⟩ => ⟨a, _, c, he, h.below⟩
  have HS2 : Hid (∀ W, U8 W → Calls Tryd.prog 23 #[.string (l2 ++ ⟨#[47, 97]⟩)] W fun e w' => ∃ a n c, e = .returned (.tuple #[.slice a n c, .int .i64 10]) ∧ Below W.heap.size W w') := fun W hW => by
    rw [Hl2.out]
    have := split_any (dp ++ ⟨#[47, 97]⟩) W (by decide +kernel) hW
    rw [sp_deeper] at this
    exact this.mono fun e w' ⟨a, c, he, h⟩ => ⟨a, _, c, he, h.below⟩
  go_wp2_with fail
  refine hs1.mono ?_
  rintro e w1 ⟨a1, n1, c1, rfl, h1⟩
  have H1 : Hid (SN w w1) := ⟨h1, HT.out.below h1⟩
  clear h1 hs1
  go_wp2_with fail
  refine (HS2.out w1 H1.out.u8).mono ?_
  rintro e w2 ⟨a2, n2, c2, rfl, h2⟩
  have H2 : Hid (SN w w2) := H1.out.next h2
  clear h2 HS2 H1
  obtain ⟨w3, hmk, hL3, hb3⟩ := make17 w2
  have HB3 : Hid (Below w2.heap.size w2 w3) := hb3
  have hj17 := join_any (some ⟨w2.heap.size, 0, none⟩) 17 (List.replicate 17 ⟨#[]⟩) w3 hL3 (by decide) (by intro x hx; rw [List.eq_of_mem_replicate hx]; decide) (by decide) (H2.out.u8.below hb3)
  rw [jn_17, List.length_replicate] at hj17
  clear hL3 hb3
  go_wp2_with fail
  refine hj17.mono ?_
  rintro e w4 ⟨rfl, hb4⟩
  have H4 : Hid (SN w w4) := (H2.out.next HB3.out).next hb4
  clear hj17 hb4 H2 HB3 hmk
  have hj0 := join_any none 0 [] w4 (fun i x hx => by simp at hx) (by decide) (by intro x hx; cases hx) (by decide) H4.out.u8
  rw [jn_0.1, jn_0.2] at hj0
  go_wp2_with fail
  refine hj0.mono ?_
  rintro e w5 ⟨rfl, hb5⟩
  have H5 : Hid (SN w w5) := H4.out.next hb5
  clear hj0 hb5 H4
  go_wp2_with fail
  refine (read_bs w5).mono ?_
  rintro e w6 ⟨rfl, hb6⟩
  have H6 : Hid (SN w w6) := H5.out.next hb6
  clear hb6 H5
  go_wp2_with fail
  refine (read_nil w6).mono ?_
  rintro e w7 ⟨rfl, hb7⟩
  have H7 : Hid (SN w w7) := H6.out.next hb7
  clear hb7 H6
  go_wp2
  go_loopw [17, 18] (fun v i wr => ∃ k : Nat, k ≤ 64 ∧ v = .string (rep ⟨#[240, 159, 152, 128]⟩ k) ∧ i = .int .i64 k ∧ w7 = wr) (fun _ i _ => 64 - (intOf i).toNat)
  case atStart => exact ⟨0, by omega, rfl, rfl, rfl⟩
  case round =>
  obtain ⟨k, hk, rfl, rfl, hw⟩ := hrel
  subst hw
  have hsz := rep_size ⟨#[240, 159, 152, 128]⟩ k
  rw [show (⟨#[240, 159, 152, 128]⟩ : ByteArray).size = 4 from rfl] at hsz
  have hb : ¬ 9223372036854775807 < (rep ⟨#[240, 159, 152, 128]⟩ k).size + 4 := by omega
  by_cases hlt : k < 64
  · clear hsz
    go_wp2
    go_roundw
    case rel => exact ⟨k + 1, by omega, rfl, by go_num, by first | rfl | trivial⟩
    case measure => simp [intOf]; omega
  obtain rfl : k = 64 := by omega
  clear hsz hb hk hlt
  obtain ⟨l3, hl3⟩ : ∃ x, x = rep ⟨#[240, 159, 152, 128]⟩ 64 := ⟨_, rfl⟩
  rw [← hl3, show ((64 : Nat) : Int) = (64 : Int) from rfl]
  have Hl3 : Hid (l3 = wd) := hl3
  clear hl3
  have C1 : Hid (∀ W, SN w W → Calls Tryd.prog 30 #[.string l1] W fun e w'' => e = .returned (.int .i64 0) ∧ SN w w'') := c_ck lg l1 0 w z_long i_long Hl1.out
  have C2 : Hid (∀ W, SN w W → Calls Tryd.prog 30 #[.string (l1 ++ ⟨#[97]⟩)] W fun e w'' => e = .returned (.int .i64 10) ∧ SN w w'') := c_ck lga _ 10 w z_longa i_longa (lga_of l1 Hl1.out)
  have C3 : Hid (∀ W, SN w W → Calls Tryd.prog 30 #[.string l3] W fun e w'' => e = .returned (.int .i64 10) ∧ SN w w'') := c_ck wd l3 10 w z_wide i_wide Hl3.out
  have C4 : Hid (∀ W, SN w W → Calls Tryd.prog 30 #[.string (l3.extract 0 252)] W fun e w'' => e = .returned (.int .i64 0) ∧ SN w w'') := c_ck wd2 _ 0 w z_wide2 i_wide2 (wd2_of l3 Hl3.out)
  have C5 : Hid (∀ W, SN w W → Calls Tryd.prog 30 #[.string ⟨#[]⟩] W fun e w'' => e = .returned (.int .i64 10) ∧ SN w w'') := c_ck ⟨#[]⟩ ⟨#[]⟩ 10 w (by decide) i_nil rfl
  have C6 : Hid (∀ W, SN w W → Calls Tryd.prog 30 #[.string ⟨#[255]⟩] W fun e w'' => e = .returned (.int .i64 10) ∧ SN w w'') := c_ck ⟨#[255]⟩ ⟨#[255]⟩ 10 w (by decide) i_ff rfl
  have C7 : Hid (∀ W, SN w W → Calls Tryd.prog 30 #[.string ⟨#[239, 191, 189]⟩] W fun e w'' => e = .returned (.int .i64 0) ∧ SN w w'') := c_ck ⟨#[239, 191, 189]⟩ ⟨#[239, 191, 189]⟩ 0 w (by decide) i_fffd rfl
  have C8 : Hid (∀ W, SN w W → Calls Tryd.prog 30 #[.string ⟨#[97, 127]⟩] W fun e w'' => e = .returned (.int .i64 10) ∧ SN w w'') := c_ck ⟨#[97, 127]⟩ ⟨#[97, 127]⟩ 10 w (by decide) i_7f rfl
  have C9 : Hid (∀ W, SN w W → Calls Tryd.prog 39 #[.string ⟨#[]⟩] W fun e w'' => e = .returned (.string ⟨#[]⟩) ∧ SN w w'') := SN.cls fun W _ => show_nil W
  have C10 : Hid (∀ W, SN w W → Calls Tryd.prog 34 #[] W fun e w'' => e = .returned (.bool true) ∧ SN w w'') := SN.cls fun W hW => awake4 W hW
  have z1 : ¬ 9223372036854775807 < l1.size + 1 := z_l1 l1 Hl1.out
  have z2 : (252 : Int) ≤ (l3.size : Nat) := z_l3 l3 Hl3.out
  go_wp2_with fail
  refine (C1.out w7 H7.out).mono ?_
  rintro e w8 ⟨rfl, h8⟩
  have H8 : Hid (SN w w8) := h8
  clear h8 H7 C1
  go_wp2_with fail
  refine (C2.out w8 H8.out).mono ?_
  rintro e w9 ⟨rfl, h9⟩
  have H9 : Hid (SN w w9) := h9
  clear h9 H8 C2
  go_wp2_with fail
  refine (C3.out w9 H9.out).mono ?_
  rintro e w10 ⟨rfl, h10⟩
  have H10 : Hid (SN w w10) := h10
  clear h10 H9 C3
  go_wp2_with fail
  refine (C4.out w10 H10.out).mono ?_
  rintro e w11 ⟨rfl, h11⟩
  have H11 : Hid (SN w w11) := h11
  clear h11 H10 C4
  go_wp2_with fail
  refine (C5.out w11 H11.out).mono ?_
  rintro e w12 ⟨rfl, h12⟩
  have H12 : Hid (SN w w12) := h12
  clear h12 H11 C5
  go_wp2_with fail
  refine (C6.out w12 H12.out).mono ?_
  rintro e w13 ⟨rfl, h13⟩
  have H13 : Hid (SN w w13) := h13
  clear h13 H12 C6
  go_wp2_with fail
  refine (C7.out w13 H13.out).mono ?_
  rintro e w14 ⟨rfl, h14⟩
  have H14 : Hid (SN w w14) := h14
  clear h14 H13 C7
  go_wp2_with fail
  refine (C8.out w14 H14.out).mono ?_
  rintro e w15 ⟨rfl, h15⟩
  have H15 : Hid (SN w w15) := h15
  clear h15 H14 C8
  go_wp2_with fail
  refine (C9.out w15 H15.out).mono ?_
  rintro e w16 ⟨rfl, h16⟩
  have H16 : Hid (SN w w16) := h16
  clear h16 H15 C9
  go_wp2_with fail
  refine (C10.out w16 H16.out).mono ?_
  rintro e w17 ⟨rfl, h17⟩
  have H17 : Hid (SN w w17) := h17
  clear h17 H16 C10
  go_wp2
  go_ret
  exact ⟨rfl, H17.out.below⟩
end Go.Proofs.YtmkmhbbpbpkdjaaDoor
