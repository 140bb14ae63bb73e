import Derived.Test.YteccnnpialaalaaDoorY6
import Derived.Deep.Cut
import Derived.Test.YteccnnpialaalaaDoorY3
import Derived.Test.YteccnnpialaalaaDoorY2
/- parity: Encode. -/
namespace Go.Proofs.YteccnnpialaalaaDoor
open Go.RowKit
set_option linter.unusedSimpArgs false
set_option linter.unusedVariables false
/-- A short number's bytes; a table's. -/
def eN (n : Nat) : List UInt8 := bl (sb (encS n))
def nmsP (d p z : Nat) : List Nat := [1, d, p, z]
def tbP (d p z : Nat) (l : List ByteArray) : List UInt8 := (nmsP d p z).flatMap eN ++ l.flatMap bl
theorem flat_bl_len : ∀ (m : List ByteArray), (∀ x ∈ m, x.size = 32) → (m.flatMap bl).length = 32 * m.length
  | [], _ => rfl
  | x :: m, h => by
    rw [List.flatMap_cons, List.length_append, flat_bl_len m (fun y hy => h y (List.mem_cons_of_mem _ hy)), bl_length, h x (List.mem_cons_self ..), List.length_cons]
    omega
theorem eN_put (n : Nat) : bl ((⟨#[]⟩ : ByteArray) ++ sb (encS n)) = eN n := by rw [bl_append]; rfl
theorem eN_len (n : Nat) (h : n < 18446744073709551616) : (eN n).length ≤ 10 := by
  have := slen_le n h
  unfold eN
  rw [bl_length, sb_size]
  first | exact this | (have h2 := encS_length n; omega)
theorem bc_idc17 (s : ByteArray) : Lib.byteCells (bl s) = (idc s).toList := by
  simp only [Lib.byteCells, idc, bvc, byl, bl, List.map_map]
  rfl
theorem grn_keep17 {w w' : World} (h : Below w.heap.size w w') : w.grownBy w' none := ⟨h.os, h.tape, h.output, h.size, fun i hi _ => h.block i hi⟩
theorem bldAt_keep17 {B b : Nat} {p : Value} {l : List Value} {w w' : World} (h : Lib.BuilderAtF 52 5 B b p l w) (hb : Below w.heap.size w w') : Lib.BuilderAtF 52 5 B b p l w' := by
  obtain ⟨h1, v, h2, h3, h4⟩ := h
  have hlt : b < w.heap.size := (Array.getElem?_eq_some_iff.1 h2).1
  exact ⟨h1, v, (hb.block b hlt).trans h2, h3.kept (grn_keep17 hb) (by cases v.ownBlock <;> simp), h4⟩
theorem bld_keep17 {B b : Nat} {l : List UInt8} {w w' : World} (h : Bld B b l w) (hb : Below w.heap.size w w') : Bld B b l w' := by
  rcases h with h | h
  · exact .inl (bldAt_keep17 h hb)
  · exact .inr (bldAt_keep17 h hb)
/-- While it is written. -/
structure EnS (w2 : World) (m : List UInt8) (W : World) : Prop where
  bld : Bld w2.heap.size w2.heap.size m W
  bel : Below w2.heap.size w2 W
theorem EnS.keep {w2 W W' : World} {m : List UInt8} (h : EnS w2 m W) (hb : Below W.heap.size W W') : EnS w2 m W' := ⟨bld_keep17 h.bld hb, h.bel.trans (hb.mono h.bel.size)⟩
theorem EnS.str {w2 W : World} {m : List UInt8} (h : EnS w2 m W) (s : ByteArray) (hs : m.length + s.size ≤ 140737488355328) :
    Calls Tryd.prog 20 #[.pointer (some ⟨w2.heap.size, 0, none⟩), .string s] W fun e w' => e = .returned (.tuple #[.int .i64 s.size, .nilIface]) ∧ EnS w2 (m ++ bl s) w' :=
  (writeS w2.heap.size w2.heap.size m s W h.bld hs h.bel.size).mono fun e w' ⟨a, b, c, _⟩ => ⟨a, b, h.bel.trans c⟩
theorem EnS.row {w2 W : World} {m : List UInt8} (h : EnS w2 m W) (g : Nat) (s : ByteArray) (hs : s.size = 32) (hg : Bk W g (idc s) 27) (hgb : g ≠ w2.heap.size) (hl : m.length ≤ 100000000) :
    Calls Tryd.prog 22 #[.pointer (some ⟨w2.heap.size, 0, none⟩), .slice (some ⟨g, 0, none⟩) 32 32] W fun e w' => e = .returned (.tuple #[.int .i64 32, .nilIface]) ∧ EnS w2 (m ++ bl s) w' :=
  (writeV w2.heap.size w2.heap.size m (bl s) g 0 32 32 (idc s) 27 W h.bld hg (by decide) hgb (by rw [bl_length, hs]) (fun j u hu => by rwa [bc_idc17, Array.getElem?_toList, ← Nat.zero_add j] at hu) (by omega) h.bel.size).mono fun e w' ⟨a, b, c, _⟩ => ⟨a, b, h.bel.trans c⟩
theorem nix0 (d p z : Int) (w : World) : (Instr.index 53 (.agg #[.int .i64 1, .int .i64 d, .int .i64 p, .int .i64 z]) (.int .i64 0)).run Tryd.prog w = .ok (.int .i64 1) w := by kernel_rfl
theorem nix1 (d p z : Int) (w : World) : (Instr.index 53 (.agg #[.int .i64 1, .int .i64 d, .int .i64 p, .int .i64 z]) (.int .i64 1)).run Tryd.prog w = .ok (.int .i64 d) w := by kernel_rfl
theorem nix2 (d p z : Int) (w : World) : (Instr.index 53 (.agg #[.int .i64 1, .int .i64 d, .int .i64 p, .int .i64 z]) (.int .i64 2)).run Tryd.prog w = .ok (.int .i64 p) w := by kernel_rfl
theorem nix3 (d p z : Int) (w : World) : (Instr.index 53 (.agg #[.int .i64 1, .int .i64 d, .int .i64 p, .int .i64 z]) (.int .i64 3)).run Tryd.prog w = .ok (.int .i64 z) w := by kernel_rfl
def encE17 (d p z : Int) (l : List ByteArray) : Ending := if okT d p z l.length = true then .returned (.tuple #[.string (frm ⟨(tbP d.toNat p.toNat z.toNat l).toArray⟩), .int .i64 0]) else .returned (.tuple #[.string ⟨#[]⟩, .int .i64 1])
set_option maxHeartbeats 8000000 in
set_option maxRecDepth 100000 in
theorem encode17 (d p z : Int) (a : Option Addr) (n c : Nat) (l : List ByteArray) (w : World) (hl : NmL w a l) (hn : l.length = n) :
    Calls Tryd.prog 6 #[.agg #[.int .i64 d, .int .i64 p, .int .i64 z, .slice a n c]] w fun e w' => e = encE17 d p z l ∧ Below w.heap.size w w' := by
  have hb := box17 d p z a n c w
  obtain ⟨w1, hw1⟩ : ∃ W, w.alloc (.cells #[.int .i64 d, .int .i64 p, .int .i64 z, .slice a n c] 29) = W := ⟨_, rfl⟩
  have HB0 : Hid (Bk w1 w.heap.size #[.int .i64 d, .int .i64 p, .int .i64 z, .slice a n c] 29 ∧ Below w.heap.size w w1) := by
    rw [← hw1]; exact ⟨hb, (Below.refl _ _).alloc (Nat.le_refl _) _⟩
  have HW1 : Hid (w.alloc (.cells #[.int .i64 d, .int .i64 p, .int .i64 z, .slice a n c] 29) = w1) := hw1
  have HL : Hid (NmL w a l ∧ l.length = n) := ⟨hl, hn⟩
  have BC : Hid (∀ W, Below w1.heap.size w1 W → W.cell? ⟨w.heap.size, 0, none⟩ = some (.int .i64 d) ∧ W.cell? ⟨w.heap.size, 1, none⟩ = some (.int .i64 p) ∧ W.cell? ⟨w.heap.size, 2, none⟩ = some (.int .i64 z) ∧ W.cell? ⟨w.heap.size, 3, none⟩ = some (.slice a n c)) := fun W hW => by
    have := HB0.out.1.below hW HB0.out.1.lt
    refine ⟨?_, ?_, ?_, ?_⟩ <;> rw [this.cell] <;> rfl
  have c0 := (BC.out w1 (Below.refl _ _)).1
  have c1 := (BC.out w1 (Below.refl _ _)).2.1
  have c2 := (BC.out w1 (Below.refl _ _)).2.2.1
  have c3 := (BC.out w1 (Below.refl _ _)).2.2.2
  have HCK : Hid (Calls Tryd.prog 8 #[.agg #[.int .i64 d, .int .i64 p, .int .i64 z, .slice a n c]] w1 fun e w' => e = .returned (.int .i64 (ckE17 d p z n)) ∧ Below w1.heap.size w1 w') := check17 d p z a n c w1
  clear hb hw1 hl hn
  cases hok : okT d p z n with
  | false =>
    have hce : ckE17 d p z n = 1 := by rw [ckE17, hok]; rfl
    rw [hce] at HCK
    have HE : Hid (encE17 d p z l = .returned (.tuple #[.string ⟨#[]⟩, .int .i64 1])) := by show _ = _; rw [encE17, HL.out.2, hok]; rfl
    clear hok hce
    go_enter Tryd.func6, Tryd.ntmps6
    go_upto_region 1 with fail
    rw [HW1.out]
    go_wp2_with fail
    refine HCK.out.mono ?_
    rintro e w2 ⟨rfl, b2⟩
    have H2 : Hid (Below w.heap.size w w2) := HB0.out.2.trans (b2.mono HB0.out.2.size)
    clear b2
    go_wp2
    go_ret2
    exact ⟨by rw [HE.out]; rfl, H2.out⟩
  | true =>
    have hce : ckE17 d p z n = 0 := by rw [ckE17, hok]; rfl
    rw [hce] at HCK
    obtain ⟨hmy, hnd⟩ : mayN d p z = true ∧ (n : Int) = d + p := by
      have := hok
      simp only [okT, Bool.and_eq_true, decide_eq_true_eq] at this
      exact this
    obtain ⟨q1, q2, q3, q4, q5, q6⟩ := (mayN_iff d p z).1 hmy
    obtain ⟨D, rfl⟩ : ∃ D : Nat, d = (D : Int) := ⟨d.toNat, by omega⟩
    obtain ⟨P, rfl⟩ : ∃ D : Nat, p = (D : Int) := ⟨p.toNat, by omega⟩
    obtain ⟨Z, rfl⟩ : ∃ D : Nat, z = (D : Int) := ⟨z.toNat, by omega⟩
    have hn64 : n ≤ 64 := by omega
    have HE : Hid (encE17 D P Z l = .returned (.tuple #[.string (frm ⟨(tbP D P Z l).toArray⟩), .int .i64 0])) := by show _ = _; rw [encE17, HL.out.2, hok]; rfl
    have wD : IntKind.u64.wrap (D : Int) = (D : Int) := by rw [IntKind.wrap_u64]; omega
    have wP : IntKind.u64.wrap (P : Int) = (P : Int) := by rw [IntKind.wrap_u64]; omega
    have wZ : IntKind.u64.wrap (Z : Int) = (Z : Int) := by rw [IntKind.wrap_u64]; omega
    have HNZ : Hid (∀ i x, (nmsP D P Z)[i]? = some x → x ≤ 67108864) := fun i x hx => by
      have := List.mem_of_getElem? hx
      simp [nmsP] at this
      omega
    clear hok hce hmy hnd
    go_enter Tryd.func6, Tryd.ntmps6
    go_upto_region 1 with fail
    rw [HW1.out]
    go_wp2_with fail
    refine HCK.out.mono ?_
    rintro e w2 ⟨rfl, b2⟩
    have H2 : Hid (Below w1.heap.size w1 w2 ∧ EnS w2 [] (w2.alloc (.cells #[.pointer none, .slice none 0 0] 52))) := ⟨b2, fresh_bld w2, (Below.refl _ _).alloc (Nat.le_refl _) _⟩
    have HN2 : Hid (NmL w2 a l) := HL.out.1.below (HB0.out.2.trans (b2.mono HB0.out.2.size))
    have BC2 : Hid (∀ W, Below w2.heap.size w2 W → W.cell? ⟨w.heap.size, 0, none⟩ = some (.int .i64 (D : Int)) ∧ W.cell? ⟨w.heap.size, 1, none⟩ = some (.int .i64 (P : Int)) ∧ W.cell? ⟨w.heap.size, 2, none⟩ = some (.int .i64 (Z : Int)) ∧ W.cell? ⟨w.heap.size, 3, none⟩ = some (.slice a n c)) := fun W hW => BC.out W (H2.out.1.trans (hW.mono H2.out.1.size))
    obtain ⟨w3, hw3⟩ : ∃ W, w2.alloc (.cells #[.pointer none, .slice none 0 0] 52) = W := ⟨_, rfl⟩
    have HW3 : Hid (w2.alloc (.cells #[.pointer none, .slice none 0 0] 52) = w3) := hw3
    rw [hw3] at H2
    clear b2 c0 c1 c2 c3 hw3
    have c0 := (BC2.out w3 H2.out.2.bel).1
    have c1 := (BC2.out w3 H2.out.2.bel).2.1
    have c2 := (BC2.out w3 H2.out.2.bel).2.2.1
    go_upto_region 5 with fail
    rw [HW3.out]
    go_wp2_with fail
    refine (numbers17 _ _ _ w3).mono ?_
    rintro e w4 ⟨rfl, b4⟩
    have H4 : Hid (EnS w2 ((nmsP D P Z).take 0 |>.flatMap eN) w4) := H2.out.2.keep b4
    clear b4 c0 c1 c2
    go_wp2
    go_loopw [22] (fun v W => ∃ i : Nat, v = .int .i64 i ∧ i ≤ 4 ∧ Hid (EnS w2 (((nmsP D P Z).take i).flatMap eN) W)) (fun v _ => 4 - (intOf v).toNat)
    case atStart => exact ⟨0, rfl, Nat.zero_le _, H4.out⟩
    case round =>
      clear H4
      obtain ⟨i, rfl, hi, HS⟩ := hrel
      by_cases h4 : i < 4
      · obtain rfl | rfl | rfl | rfl : i = 0 ∨ i = 1 ∨ i = 2 ∨ i = 3 := by omega
        · have HPL : Hid ((((nmsP D P Z).take 0).flatMap eN).length ≤ 1000) := by
            have h1 := eN_len 1 (by omega)
            have h2 := eN_len D (by omega)
            have h3 := eN_len P (by omega)
            show _ ≤ _
            simp [nmsP]
            try omega
          have HNX : Hid (((nmsP D P Z).take 0).flatMap eN ++ eN 1 = ((nmsP D P Z).take 1).flatMap eN) := by show _ = _; simp [nmsP]
          have hix := nix0 D P Z wr
          go_wp2_with fail
          refine (put_any ⟨#[]⟩ 1 wr (by omega) (by omega) (by show 0 ≤ _; omega)).mono ?_
          rintro e w5 ⟨rfl, b5⟩
          have H5 := HS.out.keep b5
          obtain ⟨t, ht⟩ : ∃ t, (⟨#[]⟩ : ByteArray) ++ sb (encS (1 : Int).toNat) = t := ⟨_, rfl⟩
          have hbt : bl t = eN 1 := by rw [← ht]; exact eN_put _
          have htz : t.size ≤ 10 := by rw [← bl_length, hbt]; exact eN_len _ (by omega)
          rw [ht]
          have HS5 : Hid (EnS w2 (((nmsP D P Z).take 0).flatMap eN) w5 ∧ bl t = eN 1) := ⟨H5, hbt⟩
          clear b5 H5 ht hbt HS
          go_wp2_with fail
          refine (HS5.out.1.str t (by have := HPL.out; omega)).mono ?_
          rintro e w6 ⟨rfl, h6⟩
          have H6 : Hid (EnS w2 (((nmsP D P Z).take (0 + 1)).flatMap eN) w6) := by
            show EnS _ _ _
            rw [← HNX.out, ← HS5.out.2]
            exact h6
          clear h6 HS5
          try go_wp2
          go_roundw
          case rel => exact ⟨0 + 1, by go_num, by omega, H6.out⟩
          case measure => simp [intOf]
        · have HPL : Hid ((((nmsP D P Z).take 1).flatMap eN).length ≤ 1000) := by
            have h1 := eN_len 1 (by omega)
            have h2 := eN_len D (by omega)
            have h3 := eN_len P (by omega)
            show _ ≤ _
            simp [nmsP]
            try omega
          have HNX : Hid (((nmsP D P Z).take 1).flatMap eN ++ eN D = ((nmsP D P Z).take 2).flatMap eN) := by show _ = _; simp [nmsP]
          have hix := nix1 D P Z wr
          go_wp2_with fail
          refine (put_any ⟨#[]⟩ (D : Int) wr (by omega) (by omega) (by show 0 ≤ _; omega)).mono ?_
          rintro e w5 ⟨rfl, b5⟩
          have H5 := HS.out.keep b5
          obtain ⟨t, ht⟩ : ∃ t, (⟨#[]⟩ : ByteArray) ++ sb (encS (D : Int).toNat) = t := ⟨_, rfl⟩
          have hbt : bl t = eN D := by rw [← ht]; exact eN_put _
          have htz : t.size ≤ 10 := by rw [← bl_length, hbt]; exact eN_len _ (by omega)
          rw [ht]
          have HS5 : Hid (EnS w2 (((nmsP D P Z).take 1).flatMap eN) w5 ∧ bl t = eN D) := ⟨H5, hbt⟩
          clear b5 H5 ht hbt HS
          go_wp2_with fail
          refine (HS5.out.1.str t (by have := HPL.out; omega)).mono ?_
          rintro e w6 ⟨rfl, h6⟩
          have H6 : Hid (EnS w2 (((nmsP D P Z).take (1 + 1)).flatMap eN) w6) := by
            show EnS _ _ _
            rw [← HNX.out, ← HS5.out.2]
            exact h6
          clear h6 HS5
          try go_wp2
          go_roundw
          case rel => exact ⟨1 + 1, by go_num, by omega, H6.out⟩
          case measure => simp [intOf]
        · have HPL : Hid ((((nmsP D P Z).take 2).flatMap eN).length ≤ 1000) := by
            have h1 := eN_len 1 (by omega)
            have h2 := eN_len D (by omega)
            have h3 := eN_len P (by omega)
            show _ ≤ _
            simp [nmsP]
            try omega
          have HNX : Hid (((nmsP D P Z).take 2).flatMap eN ++ eN P = ((nmsP D P Z).take 3).flatMap eN) := by show _ = _; simp [nmsP]
          have hix := nix2 D P Z wr
          go_wp2_with fail
          refine (put_any ⟨#[]⟩ (P : Int) wr (by omega) (by omega) (by show 0 ≤ _; omega)).mono ?_
          rintro e w5 ⟨rfl, b5⟩
          have H5 := HS.out.keep b5
          obtain ⟨t, ht⟩ : ∃ t, (⟨#[]⟩ : ByteArray) ++ sb (encS (P : Int).toNat) = t := ⟨_, rfl⟩
          have hbt : bl t = eN P := by rw [← ht]; exact eN_put _
          have htz : t.size ≤ 10 := by rw [← bl_length, hbt]; exact eN_len _ (by omega)
          rw [ht]
          have HS5 : Hid (EnS w2 (((nmsP D P Z).take 2).flatMap eN) w5 ∧ bl t = eN P) := ⟨H5, hbt⟩
          clear b5 H5 ht hbt HS
          go_wp2_with fail
          refine (HS5.out.1.str t (by have := HPL.out; omega)).mono ?_
          rintro e w6 ⟨rfl, h6⟩
          have H6 : Hid (EnS w2 (((nmsP D P Z).take (2 + 1)).flatMap eN) w6) := by
            show EnS _ _ _
            rw [← HNX.out, ← HS5.out.2]
            exact h6
          clear h6 HS5
          try go_wp2
          go_roundw
          case rel => exact ⟨2 + 1, by go_num, by omega, H6.out⟩
          case measure => simp [intOf]
        · have HPL : Hid ((((nmsP D P Z).take 3).flatMap eN).length ≤ 1000) := by
            have h1 := eN_len 1 (by omega)
            have h2 := eN_len D (by omega)
            have h3 := eN_len P (by omega)
            show _ ≤ _
            simp [nmsP]
            try omega
          have HNX : Hid (((nmsP D P Z).take 3).flatMap eN ++ eN Z = ((nmsP D P Z).take 4).flatMap eN) := by show _ = _; simp [nmsP]
          have hix := nix3 D P Z wr
          go_wp2_with fail
          refine (put_any ⟨#[]⟩ (Z : Int) wr (by omega) (by omega) (by show 0 ≤ _; omega)).mono ?_
          rintro e w5 ⟨rfl, b5⟩
          have H5 := HS.out.keep b5
          obtain ⟨t, ht⟩ : ∃ t, (⟨#[]⟩ : ByteArray) ++ sb (encS (Z : Int).toNat) = t := ⟨_, rfl⟩
          have hbt : bl t = eN Z := by rw [← ht]; exact eN_put _
          have htz : t.size ≤ 10 := by rw [← bl_length, hbt]; exact eN_len _ (by omega)
          rw [ht]
          have HS5 : Hid (EnS w2 (((nmsP D P Z).take 3).flatMap eN) w5 ∧ bl t = eN Z) := ⟨H5, hbt⟩
          clear b5 H5 ht hbt HS
          go_wp2_with fail
          refine (HS5.out.1.str t (by have := HPL.out; omega)).mono ?_
          rintro e w6 ⟨rfl, h6⟩
          have H6 : Hid (EnS w2 (((nmsP D P Z).take (3 + 1)).flatMap eN) w6) := by
            show EnS _ _ _
            rw [← HNX.out, ← HS5.out.2]
            exact h6
          clear h6 HS5
          try go_wp2
          go_roundw
          case rel => exact ⟨3 + 1, by go_num, by omega, H6.out⟩
          case measure => simp [intOf]
      · have hi4 : i = 4 := by omega
        subst hi4
        rw [show ((4 : Nat) : Int) = (4 : Int) from rfl]
        have HS5 : Hid (EnS w2 ((nmsP D P Z).flatMap eN ++ (l.take 0).flatMap bl) wr) := by
          show EnS _ _ _
          rw [List.take_zero, List.flatMap_nil, List.append_nil]
          exact HS.out
        have c3 := (BC2.out wr HS.out.bel).2.2.2
        clear HS h4 hi
        go_wp2
        clear c3
        go_loopw [33] (fun v W => ∃ i : Nat, v = .int .i64 i ∧ i ≤ n ∧ Hid (EnS w2 ((nmsP D P Z).flatMap eN ++ (l.take i).flatMap bl) W)) (fun v _ => n - (intOf v).toNat)
        case atStart => exact ⟨0, rfl, Nat.zero_le _, HS5.out⟩
        case round =>
          clear HS5
          obtain ⟨i, rfl, hi, HS⟩ := hrel
          by_cases hin : i < n
          · have hiz : (i : Int) < (n : Nat) := by omega
            obtain ⟨s, hs⟩ : ∃ s, l[i]? = some s := ⟨_, List.getElem?_eq_getElem (by rw [HL.out.2]; exact hin)⟩
            obtain ⟨hs32, g, o, rfl, hg, hc⟩ := HN2.out i s hs
            have HTK : Hid ((l.take (i + 1)).flatMap bl = (l.take i).flatMap bl ++ bl s) := by
              show _ = _
              rw [List.take_add_one, hs, Option.toList_some, List.flatMap_append]
              simp
            have HPL : Hid (((nmsP D P Z).flatMap eN ++ (l.take i).flatMap bl).length ≤ 100000) := by
              have h1 := eN_len 1 (by omega)
              have h2 := eN_len D (by omega)
              have h3 := eN_len P (by omega)
              have h4 := eN_len Z (by omega)
              have h5 := flat_bl_len (l.take i) (fun x hx => by
                obtain ⟨j, hj⟩ := List.getElem?_of_mem (List.mem_of_mem_take hx)
                exact (HN2.out j x hj).1)
              show _ ≤ _
              rw [List.length_append, h5, List.length_take]
              simp [nmsP]
              omega
            have HSX : Hid (s.size = 32) := hs32
            have HI : Hid ((Tryd.prog.info? 27).map (·.size) = some (idc s).size ∧ (idc s).all (·.oneCell') = true ∧ (idc s).size = 32) := ⟨info_32 (by rw [idc_size, hs32]), by rw [Array.all_eq_true_iff_forall_mem]; intro v hv; simp only [idc, bvc, List.mem_toArray, List.mem_map] at hv; obtain ⟨x, _, rfl⟩ := hv; rfl, by rw [idc_size, hs32]⟩
            have HCL : Hid (∀ (j : Nat) (v : Value), (idc s).toList[j]? = some v → wr.cell? ⟨g, o + i * 32 + j, none⟩ = some v) := fun j v hv => by
              rw [HS.out.bel.cell (p := ⟨g, o + i * 32 + j, none⟩) hg]
              exact hc j v (by rwa [Array.getElem?_toList] at hv)
            have hgw : w2.heap.size < wr.heap.size := by
              rcases HS.out.bld with h | h
              · obtain ⟨_, v, h2, _⟩ := h; exact (Array.getElem?_eq_some_iff.1 h2).1
              · obtain ⟨_, v, h2, _⟩ := h; exact (Array.getElem?_eq_some_iff.1 h2).1
            obtain ⟨X, hX⟩ : ∃ X, idc s = X := ⟨_, rfl⟩
            have HX : Hid (idc s = X) := hX
            rw [hX] at HI HCL
            have HIL : Hid ((Tryd.prog.info? 27).map (·.size) = some X.toList.length) := by show _ = _; rw [Array.length_toList]; exact HI.out.1
            have H5 : Hid (EnS w2 ((nmsP D P Z).flatMap eN ++ (l.take i).flatMap bl) (wr.alloc (.cells X 27)) ∧ Bk (wr.alloc (.cells X 27)) wr.heap.size X 27) := ⟨HS.out.keep ((Below.refl _ _).alloc (Nat.le_refl _) _), bk_new _ _ _⟩
            have hsl := slice32 wr.heap.size
            clear hs hs32 hg hc hX HS
            go_wp2_with (first
              | (refine wpList_load_mid rfl 27 (.tmp 35) rfl g (o + i * 32) rfl X.toList _ HCL.out Tryd.underlying27 rfl HIL.out ?_)
              | (refine wpList_store_new rfl 27 (.tmp 9) (.tmp 36) rfl X _ 27 wr.heap.size rfl rfl rfl HI.out.1 (by rw [HI.out.2.2]; rfl) HI.out.2.1 ?_)
              | fail)
            refine (H5.out.1.row wr.heap.size s HSX.out (by rw [HX.out]; exact H5.out.2) (by omega) (by have := HPL.out; omega)).mono ?_
            rintro e w6 ⟨rfl, h6⟩
            have H6 : Hid (EnS w2 ((nmsP D P Z).flatMap eN ++ (l.take (i + 1)).flatMap bl) w6) := by
              show EnS _ _ _
              rw [HTK.out, ← List.append_assoc]
              exact h6
            clear h6 H5 hsl
            go_wp2
            go_roundw
            case rel => exact ⟨i + 1, by go_num, by omega, H6.out⟩
            case measure => simp [intOf]; omega
          · have hiz : ¬ (i : Int) < (n : Nat) := by omega
            have HS6 : Hid (EnS w2 (tbP D P Z l) wr) := by
              have := HS.out
              rw [List.take_of_length_le (by rw [HL.out.2]; omega)] at this
              exact this
            have HTL : Hid ((tbP D P Z l).length ≤ 67108864) := by
              have h1 := eN_len 1 (by omega)
              have h2 := eN_len D (by omega)
              have h3 := eN_len P (by omega)
              have h4 := eN_len Z (by omega)
              have h5 := flat_bl_len l (fun x hx => by
                obtain ⟨j, hj⟩ := List.getElem?_of_mem hx
                exact (HN2.out j x hj).1)
              have h6 := HL.out.2
              show _ ≤ _
              rw [tbP, List.length_append, h5]
              simp [nmsP]
              omega
            clear HS
            go_wp2_with fail
            refine (buildS w2.heap.size w2.heap.size (tbP D P Z l) wr HS6.out.bld HS6.out.bel.size).mono ?_
            rintro e w7 ⟨rfl, _, b7, _⟩
            have H7 : Hid (Below w2.heap.size w2 w7) := HS6.out.bel.trans b7
            clear b7
            go_wp2_with fail
            refine (frame_ok ⟨(tbP D P Z l).toArray⟩ w7 (by show (tbP D P Z l).toArray.size ≤ _; rw [List.size_toArray]; exact HTL.out)).mono ?_
            rintro e w8 ⟨rfl, b8⟩
            have H8 : Hid (Below w.heap.size w w8) := HB0.out.2.trans ((H2.out.1.trans ((H7.out.trans (b8.mono H7.out.size)).mono H2.out.1.size)).mono HB0.out.2.size)
            clear b8
            go_wp2
            go_ret2
            exact ⟨by rw [HE.out]; rfl, H8.out⟩
end Go.Proofs.YteccnnpialaalaaDoor
/- The document's own Put, PutText, Len. -/
namespace Go.Proofs.YteccnnpialaalaaDoor
open Go.RowKit
set_option linter.unusedSimpArgs false
set_option linter.unusedVariables false
/-- One byte, as a slice of its own, as a string. -/
theorem put_more (s a : ByteArray) (n y : Nat) (v : Int) (h : a ++ sb (encS y) = s ++ sb (encS n)) (hy : 128 ≤ y) (hy2 : y < 2 ^ 64) (hv : v = (y % 128 + 128 : Nat)) :
    (a ++ strOfNums [v]) ++ sb (encS (y / 128)) = s ++ sb (encS n) := by
  rw [← h, encS_step y hy hy2, one_is _ v hv]
  apply bl_inj
  simp [bl_append, bl_sb, by8]
theorem put_done (s a : ByteArray) (n y : Nat) (v : Int) (h : a ++ sb (encS y) = s ++ sb (encS n)) (hy : y < 128) (hv : v = (y : Nat)) : a ++ strOfNums [v] = s ++ sb (encS n) := by
  rw [← h, encS_small y hy, one_is _ v hv]
theorem slen_step (y : Nat) (h : 128 ≤ y) (hy : y < 2 ^ 64) : slen y = slen (y / 128) + 1 := by
  rw [← encS_length y, ← encS_length (y / 128), encS_step y h hy]; rfl
set_option maxHeartbeats 400000 in
set_option maxRecDepth 100000 in
theorem rput_any (s : ByteArray) (x : Int) (w : World) (h0 : 0 ≤ x) (h1 : x ≤ 18446744073709551615) (hs : s.size ≤ 4611686018427387904) :
    Calls Tryd.prog 17 #[.string s, .int .u64 x] w fun e w' => e = .returned (.string (s ++ sb (encS x.toNat))) ∧ Below w.heap.size w w' := by
  obtain ⟨n, rfl⟩ := Int.eq_ofNat_of_zero_le h0
  rw [Int.toNat_natCast]
  have hc1 := conv1
  have hz1 := one_size
  have hn : n < 18446744073709551616 := by omega
  go_enter Tryd.func17, Tryd.ntmps17
  go_wp2
  go_loopw [0, 1] (fun v i wr => ∃ (y : Nat) (a : ByteArray), i = .int .u64 y ∧ y < 18446744073709551616 ∧ v = .string a ∧ a.size + slen y = s.size + slen n ∧ Hid (a ++ sb (encS y) = s ++ sb (encS n)) ∧ Below w.heap.size w wr) (fun _ i _ => (intOf i).toNat)
  case atStart => exact ⟨n, s, rfl, hn, rfl, rfl, rfl, Below.refl _ _⟩
  case round =>
    obtain ⟨y, a, rfl, hy, rfl, haz, HE, hbel⟩ := hrel
    have hb0 := hbel.size
    have l1 := slen_le n (by omega)
    have hab : a.size ≤ 4611686018427387914 := by omega
    have HZ : Hid (a.size + slen y = s.size + slen n) := haz
    clear haz
    by_cases hy1 : 128 ≤ y
    · go_wp2
      go_roundw
      case rel => exact ⟨y / 128, _, by go_num, by omega, rfl, by rw [append_size, one_size]; have := slen_step y hy1 (by omega); have := HZ.out; omega, put_more s a n y _ HE.out hy1 (by omega) (by omega), hbel.alloc hb0 _⟩
      case measure => simp [intOf]; omega
    · go_wp2
      go_ret
      exact ⟨ret_str (put_done s a n y _ HE.out (by omega) rfl), hbel.alloc hb0 _⟩
end Go.Proofs.YteccnnpialaalaaDoor
/- The walks of the document's own step, On, Crc (munimentref03). -/
namespace Go.Proofs.YteccnnpialaalaaDoor
open Go.RowKit
set_option linter.unusedSimpArgs false
set_option linter.unusedVariables false
theorem half_raw (m : BitVec 32) : (m.toNat : Int) / (2 : Int) = ((m >>> 1).toNat : Int) := by rw [BitVec.toNat_ushiftRight, Nat.shiftRight_eq_div_pow]; omega
theorem lsb_mod (m : BitVec 32) : m.getLsbD 0 = decide (m.toNat % 2 = 1) := by
  rw [BitVec.getLsbD, Nat.testBit_zero]
theorem sh1_odd (m : BitVec 32) (h : m.toNat % 2 = 1) : bits .xor .u32 ((m.toNat : Int) / 2) 3988292384 = ((sh1 m).toNat : Int) := by
  rw [half_raw, poly32, xor32, sh1, lsb_mod, decide_eq_true h, if_pos rfl]
theorem sh1_even (m : BitVec 32) (h : ¬ m.toNat % 2 = 1) : (m.toNat : Int) / 2 = ((sh1 m).toNat : Int) := by
  rw [half_raw, sh1, lsb_mod, decide_eq_false h]
  simp
set_option maxHeartbeats 400000 in
set_option maxRecDepth 100000 in
theorem rstep_any (n : BitVec 32) (b : Nat) (w : World) (hb : b < 256) :
    Calls Tryd.prog 74 #[c32 n, .int .u8 b] w fun e w' => e = .returned (c32 (cst n (UInt8.ofNat b))) ∧ w' = w := by
  obtain ⟨m0, hm0⟩ : ∃ m0, m0 = n ^^^ BitVec.ofNat 32 (UInt8.ofNat b).toNat := ⟨_, rfl⟩
  have HX : Hid (bits .xor .u32 (n.toNat : Int) (b : Int) = (m0.toNat : Int)) := by rw [hm0, ← xor32, ← ofByte b hb]; rfl
  have HM : Hid (m0 = n ^^^ BitVec.ofNat 32 (UInt8.ofNat b).toNat) := hm0
  clear hm0
  go_enter Tryd.func74, Tryd.ntmps74
  go_wp2
  rw [HX.out]
  go_loop [0, 5] (fun v i => ∃ (k : Nat) (m : BitVec 32), k ≤ 8 ∧ i = .int .i64 k ∧ v = c32 m ∧ Hid (m = shN32 k m0)) (fun _ i => 8 - (intOf i).toNat)
  case atStart => exact ⟨0, m0, by omega, rfl, rfl, rfl⟩
  case round =>
    obtain ⟨k, m, hk, rfl, rfl, HR⟩ := hrel
    have hlt32 := m.isLt
    by_cases hlt : k < 8
    · by_cases ho : m.toNat % 2 = 1
      · have h1 : (((m.toNat : Int) % 2) == 1) = true := by rw [beq_iff_eq]; omega
        have HO : Hid (m.toNat % 2 = 1) := ho
        clear ho
        go_wp2
        go_round
        case rel => exact ⟨k + 1, sh1 m, by omega, by go_num, by rw [sh1_odd m HO.out], by show sh1 m = _; rw [HR.out]; rfl⟩
        case measure => simp [intOf]; omega
      · have h1 : (((m.toNat : Int) % 2) == 1) = false := by rw [beq_eq_false_iff_ne]; omega
        have HO : Hid (¬ m.toNat % 2 = 1) := ho
        clear ho
        go_wp2
        go_round
        case rel => exact ⟨k + 1, sh1 m, by omega, by go_num, by rw [sh1_even m HO.out], by show sh1 m = _; rw [HR.out]; rfl⟩
        case measure => simp [intOf]; omega
    · go_wp2
      go_ret
      have e : k = 8 := by omega
      refine ⟨ret_i32 ?_, rfl⟩
      rw [HR.out, e, HM.out]; rfl
set_option maxHeartbeats 400000 in
set_option maxRecDepth 100000 in
theorem ron_any (c : BitVec 32) (s : ByteArray) (w : World) (hs : s.size ≤ maxLen) :
    Calls Tryd.prog 61 #[c32 c, .string s] w fun e w' => e = .returned (c32 (onC c (bl s))) ∧ w' = w := by
  unfold maxLen at hs
  have hsg : IntKind.u32.signed = false := rfl
  have hmx := max32
  obtain ⟨d, hd⟩ : ∃ d, d = ~~~ c := ⟨_, rfl⟩
  have HD : Hid (d = ~~~ c) := hd
  clear hd
  go_enter Tryd.func61, Tryd.ntmps61
  go_wp2
  rw [not32, ← HD.out]
  go_loop [5, 6] (fun v i => ∃ (k : Nat) (m : BitVec 32), k ≤ s.size ∧ i = .int .i64 k ∧ v = c32 m ∧ Hid (m = crcR d ((bl s).take k))) (fun _ i => s.size - (intOf i).toNat)
  case atStart => exact ⟨0, d, by omega, rfl, rfl, rfl⟩
  case round =>
    obtain ⟨k, m, hk, rfl, rfl, HM⟩ := hrel
    by_cases hlt : k < s.size
    · go_wp2_with fail
      refine (rstep_any m s[k].toNat _ s[k].toNat_lt).mono ?_
      rintro e w1 ⟨rfl, hw1⟩
      subst hw1
      rw [UInt8.ofNat_toNat]
      go_wp2
      go_round
      case rel => exact ⟨k + 1, cst m s[k], by omega, by go_num, rfl, by show cst m s[k] = _; rw [HM.out, take_snoc s k hlt, crcR_snoc]⟩
      case measure => simp [intOf]; omega
    · go_wp2
      go_ret
      have e : k = s.size := by omega
      refine ⟨ret_i32 ?_, rfl⟩
      rw [not32, HM.out, e, HD.out, List.take_of_length_le (by rw [bl_length]; exact Nat.le_refl _)]
      rfl
set_option maxHeartbeats 400000 in
theorem rcrc_any (s : ByteArray) (w : World) (hs : s.size ≤ maxLen) :
    Calls Tryd.prog 43 #[.string s] w fun e w' => e = .returned (c32 (crcC (bl s))) ∧ w' = w := by
  go_enter Tryd.func43, Tryd.ntmps43
  go_wp2_with fail
  refine (ron_any 0#32 s _ hs).mono ?_
  rintro e w1 ⟨rfl, hb⟩
  subst hb
  go_wp2
  go_ret
  exact ⟨rfl, rfl⟩
end Go.Proofs.YteccnnpialaalaaDoor
/- The walks of the document's own reader (munimentref01): Fixed. -/
namespace Go.Proofs.YteccnnpialaalaaDoor
open Go.RowKit
set_option linter.unusedSimpArgs false
set_option linter.unusedVariables false
theorem set_step {w : World} {b : Nat} {s s' : ByteArray} (hb : b < w.heap.size) (hc : w.cell? ⟨b, 0, none⟩ = some (.string s)) (hf : w.frozen? ⟨b, 0, none⟩ = false) :
    Step b w (w.setCell ⟨b, 0, none⟩ (.string s')) s' := Step.of_set (Below.refl _ _) hb hc hf
set_option maxHeartbeats 400000 in
theorem rfixed_arg (s : ByteArray) (b : Nat) (w : World) (hs : s.size ≤ maxLen) (hc : w.cell? ⟨b, 0, none⟩ = some (.string s)) (hf : w.frozen? ⟨b, 0, none⟩ = false) (hb : b < w.heap.size) (m : Int) (hm : isW m = false) :
    Calls Tryd.prog 42 #[.pointer (some ⟨b, 0, none⟩), .int .i64 m] w fun e w' => e = .returned (.tuple #[.int .u64 0, .int .i64 1]) ∧ Step b w w' s := by
  have HS := still hb hc hf
  have hm' : m < 1 ∨ ¬ m < 1 ∧ 8 < m := by
    rcases Int.lt_or_le m 1 with h | h
    · exact Or.inl h
    · rcases Int.lt_or_le 8 m with g | g
      · exact Or.inr ⟨by omega, g⟩
      · rw [isW_yes h g] at hm; cases hm
  clear hm
  rcases hm' with h | ⟨h, g⟩
  · go_enter Tryd.func42, Tryd.ntmps42
    go_wp2
    go_ret2
    exact ⟨rfl, HS⟩
  · go_enter Tryd.func42, Tryd.ntmps42
    go_wp2
    go_ret2
    exact ⟨rfl, HS⟩
set_option maxHeartbeats 400000 in
theorem rfixed_no (s : ByteArray) (b : Nat) (w : World) (hs : s.size ≤ maxLen) (hc : w.cell? ⟨b, 0, none⟩ = some (.string s)) (hf : w.frozen? ⟨b, 0, none⟩ = false) (hb : b < w.heap.size) (d : Nat) (hd1 : 1 ≤ d) (hd2 : d ≤ 8) (hl : s.size < d) :
    Calls Tryd.prog 42 #[.pointer (some ⟨b, 0, none⟩), .int .i64 d] w fun e w' => e = .returned (.tuple #[.int .u64 0, .int .i64 4]) ∧ Step b w w' s := by
  have HS := still hb hc hf
  go_enter Tryd.func42, Tryd.ntmps42
  go_wp2
  go_ret2
  exact ⟨rfl, HS⟩
theorem rfixStep (acc c k : Nat) (hc : c < 256) (hk : k ≤ 7) (ha : acc < 256 ^ k) :
    IntKind.u64.wrap (IntKind.u64.wrap ((acc : Int) * 256) + IntKind.u64.wrap (c : Int)) = ((acc * 256 + c : Nat) : Int) := by
  have h7 : 256 ^ k ≤ 256 ^ 7 := Nat.pow_le_pow_right (by omega) hk
  rw [IntKind.wrap_u64, IntKind.wrap_u64, IntKind.wrap_u64]
  omega
set_option maxHeartbeats 400000 in
set_option maxRecDepth 100000 in
theorem rfixed_ok (s : ByteArray) (b : Nat) (w : World) (hs : s.size ≤ maxLen) (hc : w.cell? ⟨b, 0, none⟩ = some (.string s)) (hf : w.frozen? ⟨b, 0, none⟩ = false) (hb : b < w.heap.size) (d : Nat) (hd1 : 1 ≤ d) (hd2 : d ≤ 8) (hl : d ≤ s.size) :
    Calls Tryd.prog 42 #[.pointer (some ⟨b, 0, none⟩), .int .i64 d] w fun e w' => e = .returned (.tuple #[.int .u64 (fixV ((bl s).take d)), .int .i64 0]) ∧ Step b w w' (s.extract d s.size) := by
  have hs' := hs
  unfold maxLen at hs'
  have HS : Hid (Step b w (w.setCell ⟨b, 0, none⟩ (.string (s.extract d s.size))) (s.extract d s.size)) := set_step hb hc hf
  go_enter Tryd.func42, Tryd.ntmps42
  go_wp2
  go_loop [6, 7] (fun v i => ∃ (k acc : Nat), k ≤ d ∧ acc < 2 ^ 64 ∧ i = .int .i64 k ∧ v = .int .u64 acc ∧ Hid (acc = fixV ((bl s).take k))) (fun _ i => 10 - (intOf i).toNat)
  case atStart => exact ⟨0, 0, by omega, by omega, rfl, rfl, rfl⟩
  case round =>
    obtain ⟨k, acc, hk1, hacc, rfl, rfl, HR⟩ := hrel
    by_cases hlt : k < d
    · have hkt : k < s.size := by omega
      go_wp2
      go_round
      case rel =>
        have hlt256 := s[k].toNat_lt
        have hl : acc < 256 ^ k := by
          have := fixV_lt ((bl s).take k)
          rw [← HR.out, List.length_take, bl_length, Nat.min_eq_left (by omega)] at this
          exact this
        have e1 := rfixStep acc s[k].toNat k hlt256 (by omega) hl
        have e2 := (fixStep acc s[k].toNat k hlt256 (by omega) hl).2
        refine ⟨k + 1, _, by omega, e2, by go_num, ?_, ?_⟩
        · rw [← e1]
        · rw [take_snoc s k hkt, fixV_snoc, ← HR.out]; rfl
      case measure => simp [intOf]; omega
    · go_wp2
      go_ret2
      refine ⟨ret_ue ?_, HS.out⟩
      have e : k = d := by omega
      rw [HR.out, e]
end Go.Proofs.YteccnnpialaalaaDoor
/- The document's own Fixed, of any width. -/
namespace Go.Proofs.YteccnnpialaalaaDoor
open Go.RowKit
set_option linter.unusedSimpArgs false
set_option linter.unusedVariables false
set_option maxHeartbeats 400000 in
theorem rfix_any (n d : Nat) (w : World) (hn : n < 18446744073709551616) (hd1 : 1 ≤ d) (hd2 : d ≤ 8) (hfit : n < 256 ^ d) :
    Calls Tryd.prog 55 #[.int .u64 (n : Int), .int .i64 d] w fun e w' => e = .returned (.string ((⟨#[]⟩ : ByteArray) ++ sb (fixN d n))) ∧ Below w.heap.size w w' := by
  go_enter Tryd.func55, Tryd.ntmps55
  go_wp2_with (go_at_call 72; refine (rputFixed_ok ⟨#[]⟩ n d _ hn hd1 hd2 hfit (by decide)).mono ?_; rintro e w1 ⟨rfl, hb1⟩)
  go_ret
  exact ⟨rfl, hb1⟩
end Go.Proofs.YteccnnpialaalaaDoor
/- The walks of the document's own Laid, Frame, Unframe (munimentref03). -/
namespace Go.Proofs.YteccnnpialaalaaDoor
open Go.RowKit
set_option linter.unusedSimpArgs false
set_option linter.unusedVariables false
set_option maxHeartbeats 400000 in
theorem laid_any (p : ByteArray) (w : World) (hp : p.size ≤ 67108864) :
    Calls Tryd.prog 37 #[.string p] w fun e w' => e = .returned (.string (frm p)) ∧ Below w.heap.size w w' := by
  go_enter Tryd.func37, Tryd.ntmps37
  go_wp2_with fail
  refine (rfix_any p.size 4 _ (by omega) (by omega) (by omega) (by omega)).mono ?_
  rintro e w1 ⟨rfl, hb1⟩
  rw [emp_append]
  obtain ⟨a, ha⟩ : ∃ a, a = sb (fixN 4 p.size) := ⟨_, rfl⟩
  rw [← ha]
  have hal : a.size ≤ 4 := by rw [ha, sb4_size]; omega
  have HA : Hid (a = sb (fixN 4 p.size)) := ha
  clear ha
  go_wp2_with fail
  refine (rcrc_any (a ++ p) _ (by rw [append_size]; unfold maxLen; omega)).mono ?_
  rintro e w2 ⟨rfl, hw2⟩
  subst hw2
  obtain ⟨q, hq⟩ : ∃ q : BitVec 32, q = crcC (bl (a ++ p)) := ⟨_, rfl⟩
  rw [← hq]
  have HQ : Hid (q = crcC (bl a ++ bl p)) := by show q = _; rw [hq, bl_append]
  have hlt := q.isLt
  clear hq
  go_wp2_with fail
  refine (rfix_any q.toNat 4 _ (by omega) (by omega) (by omega) (by omega)).mono ?_
  rintro e w3 ⟨rfl, hb3⟩
  rw [emp_append]
  obtain ⟨h, hh⟩ : ∃ h, h = sb (fixN 4 q.toNat) := ⟨_, rfl⟩
  rw [← hh]
  have hhz : h.size ≤ 4 := by rw [hh, sb4_size]; omega
  have HH : Hid (h = sb (fixN 4 q.toNat)) := hh
  clear hh
  go_wp2
  go_ret
  refine ⟨ret_str ?_, ?_⟩
  · rw [HH.out, HQ.out, HA.out]; exact frm_eq p
  · exact hb1.trans (hb3.mono hb1.size)
end Go.Proofs.YteccnnpialaalaaDoor
/- The document's own Frame. -/
namespace Go.Proofs.YteccnnpialaalaaDoor
open Go.RowKit
set_option linter.unusedSimpArgs false
set_option linter.unusedVariables false
set_option maxHeartbeats 400000 in
theorem rframe_no (p : ByteArray) (w : World) (hs : p.size ≤ maxLen) (hp : 67108864 < p.size) :
    Calls Tryd.prog 18 #[.string p] w fun e w' => e = .returned (.tuple #[.string ⟨#[]⟩, .int .i64 1]) ∧ w' = w := by
  unfold maxLen at hs
  go_enter Tryd.func18, Tryd.ntmps18
  go_wp2
  go_ret2
  exact ⟨rfl, rfl⟩
set_option maxHeartbeats 400000 in
theorem rframe_ok (p : ByteArray) (w : World) (hp : p.size ≤ 67108864) :
    Calls Tryd.prog 18 #[.string p] w fun e w' => e = .returned (.tuple #[.string (frm p), .int .i64 0]) ∧ Below w.heap.size w w' := by
  go_enter Tryd.func18, Tryd.ntmps18
  go_wp2_with fail
  refine (laid_any p _ hp).mono ?_
  rintro e w1 ⟨rfl, hb1⟩
  go_wp2
  go_ret2
  exact ⟨rfl, hb1⟩
end Go.Proofs.YteccnnpialaalaaDoor
