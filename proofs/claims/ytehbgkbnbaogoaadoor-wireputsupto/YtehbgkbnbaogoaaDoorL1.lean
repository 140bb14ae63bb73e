/- The walk of munimentlaw01.WirePuts, for texts of at most 1048576 bytes: it returns true; nothing that was there has turned. -/
import Derived.Test.YtehbgkbnbaogoaaDoorR4
import Derived.Test.YtehbgkbnbaogoaaDoorR6
import Derived.Test.YtehbgkbnbaogoaaDoorW9
namespace Go.Proofs.YtehbgkbnbaogoaaDoor
open Go.RowKit
set_option linter.unusedSimpArgs false
set_option linter.unusedVariables false
theorem runhex_any (s : ByteArray) (w : World) (hs : s.size ≤ 1048576) :
    Calls Tryd.prog 8 #[.string s] w fun e w' => e = .returned (.tuple #[.string (uhS s), .int .i64 (uhE s)]) ∧ Below w.heap.size w w' := by
  by_cases h : s.size % 2 = 1
  · exact (runhex_odd s w hs h).mono fun e w' ⟨he, hw'⟩ => ⟨he, by subst hw'; exact Below.refl _ _⟩
  · exact runhex_even s w (s.size / 2) hs (by omega)
theorem wunhex_any (s : ByteArray) (w : World) (hs : s.size ≤ 281474976710656) (hT : TabIs w) (hw : 0 < w.heap.size) :
    Calls Tryd.prog 7 #[.string s] w fun e w' => e = .returned (.tuple #[.string (uhS s), .int .i64 (uhE s)]) ∧ Below w.heap.size w w' := by
  by_cases h : s.size % 2 = 1
  · exact (unhex_odd s w hs h).mono fun e w' ⟨he, hw'⟩ => ⟨he, by subst hw'; exact Below.refl _ _⟩
  · exact unhex_even s w (s.size / 2) hs (by omega) hT hw
/-- What is known of a world behind some calls. -/
def On (w w' : World) : Prop := Below w.heap.size w w' ∧ w.heap.size ≤ w'.heap.size ∧ TabIs w' ∧ 0 < w'.heap.size
theorem On.more {w w1 w2 : World} (h : On w w1) (k : Below w1.heap.size w1 w2) : On w w2 :=
  ⟨h.1.trans (k.mono h.2.1), by have := k.size; have := h.2.1; omega, h.2.2.1.below k h.2.2.2, by have := k.size; have := h.2.2.2; omega⟩
theorem On.alloc {w w1 : World} (h : On w w1) (o : Obj) : On w (w1.alloc o) := h.more ((Below.refl _ _).alloc (Nat.le_refl _) o)
theorem On.start {w : World} (h : TabIs w) (hz : 0 < w.heap.size) : On w w := ⟨Below.refl _ _, Nat.le_refl _, h, hz⟩
set_option maxHeartbeats 2000000 in
set_option maxRecDepth 100000 in
theorem puts_no (s t : ByteArray) (n : Nat) (w : World) (hs : s.size ≤ 1048576) (ht : t.size ≤ 1048576) (hn : n < 18446744073709551616) (hT : TabIs w) (hw : 0 < w.heap.size) (d : Int) (hno : isW d = true → 256 ^ d.toNat ≤ n) :
    Calls Tryd.prog 3 #[.string s, .string t, .agg #[.int .u64 n, .int .i64 d]] w fun e w' => e = .returned (.bool true) ∧ Below w.heap.size w w' := by
  have H0 : Hid (On w (w.alloc (.cells #[.int .u64 n, .int .i64 d] 24))) := (On.start hT hw).alloc _
  have HNO : Hid (isW d = true → 256 ^ d.toNat ≤ n) := hno
  clear hT hno
  go_enter Tryd.func3, Tryd.ntmps3
  go_wp2_with fail
  refine (putFixed_no s n d _ (by omega) (by omega) (by rw [Int.toNat_natCast]; exact HNO.out)).mono ?_
  rintro e w1 ⟨rfl, hw1⟩
  subst hw1
  go_wp2_with fail
  refine (rputFixed_no s n d _ (by omega) (by omega) (by rw [Int.toNat_natCast]; exact HNO.out)).mono ?_
  rintro e w1 ⟨rfl, hw1⟩
  subst hw1
  have H2 := H0
  clear H0 HNO
  go_wp2_with fail
  refine (wunhex_any t _ (by omega) H2.out.2.2.1 H2.out.2.2.2).mono ?_
  rintro e w3 ⟨rfl, h3⟩
  have H3 : Hid (On w w3) := H2.out.more h3
  clear h3 H2
  go_wp2_with fail
  refine (runhex_any t _ (by omega)).mono ?_
  rintro e w4 ⟨rfl, h4⟩
  have H4 : Hid (On w w4) := H3.out.more h4
  clear h4 H3
  go_wp2_with fail
  refine (put_any s n _ (by omega) (by omega) (by omega)).mono ?_
  rintro e w5 ⟨rfl, h5⟩
  have H5 : Hid (On w w5) := H4.out.more h5
  clear h5 H4
  rw [Int.toNat_natCast]
  go_wp2_with fail
  refine (rput_any s n _ (by omega) (by omega) (by omega)).mono ?_
  rintro e w6 ⟨rfl, h6⟩
  have H6 : Hid (On w w6) := H5.out.more h6
  clear h6 H5
  rw [Int.toNat_natCast]
  go_wp2_with fail
  refine (putText_any s t _ (by omega) (by omega)).mono ?_
  rintro e w7 ⟨rfl, h7⟩
  have H7 : Hid (On w w7) := H6.out.more h7
  clear h7 H6
  go_wp2_with fail
  refine (rputText_any s t _ (by omega) (by omega)).mono ?_
  rintro e w8 ⟨rfl, h8⟩
  have H8 : Hid (On w w8) := H7.out.more h8
  clear h8 H7
  go_wp2_with fail
  refine (len_any n _ (by omega) (by omega)).mono ?_
  rintro e w9 ⟨rfl, hw9⟩
  subst hw9
  rw [Int.toNat_natCast]
  go_wp2_with fail
  refine (rlen_any n _ (by omega) (by omega)).mono ?_
  rintro e w10 ⟨rfl, h10⟩
  have H10 : Hid (On w w10) := H8.out.more h10
  clear h10 H8
  rw [Int.toNat_natCast]
  go_wp2_with fail
  refine (hex_any s _ (by omega) H10.out.2.2.1 H10.out.2.2.2).mono ?_
  rintro e w11 ⟨rfl, h11⟩
  have H11 : Hid (On w w11) := H10.out.more h11
  clear h11 H10
  go_wp2_with fail
  refine (rhex_any s _ (by omega)).mono ?_
  rintro e w12 ⟨rfl, h12⟩
  have H12 : Hid (On w w12) := H11.out.more h12
  clear h12 H11
  go_wp2_with fail
  refine (awake_any _).mono ?_
  rintro e w13 ⟨rfl, h13⟩
  have H13 : Hid (On w w13) := H12.out.more h13
  clear h13 H12
  go_wp2
  go_ret
  exact ⟨rfl, H13.out.1⟩
set_option maxHeartbeats 2000000 in
set_option maxRecDepth 100000 in
theorem puts_ok (s t : ByteArray) (n : Nat) (w : World) (hs : s.size ≤ 1048576) (ht : t.size ≤ 1048576) (hn : n < 18446744073709551616) (hT : TabIs w) (hw : 0 < w.heap.size) (d : Nat) (hd1 : 1 ≤ d) (hd2 : d ≤ 8) (hfit : n < 256 ^ d) :
    Calls Tryd.prog 3 #[.string s, .string t, .agg #[.int .u64 n, .int .i64 d]] w fun e w' => e = .returned (.bool true) ∧ Below w.heap.size w w' := by
  have H0 : Hid (On w (w.alloc (.cells #[.int .u64 n, .int .i64 d] 24))) := (On.start hT hw).alloc _
  have HF : Hid (n < 256 ^ d) := hfit
  clear hT hfit
  go_enter Tryd.func3, Tryd.ntmps3
  go_wp2_with fail
  refine (putFixed_ok s n d _ (by omega) (by omega) hd1 hd2 (by rw [Int.toNat_natCast]; exact HF.out) (by omega)).mono ?_
  rintro e w1 ⟨rfl, h1⟩
  have H1 : Hid (On w w1) := H0.out.more h1
  clear h1 H0
  rw [Int.toNat_natCast]
  go_wp2_with fail
  refine (rputFixed_ok s n d _ hn hd1 hd2 HF.out (by omega)).mono ?_
  rintro e w2 ⟨rfl, h2⟩
  have H2 : Hid (On w w2) := H1.out.more h2
  clear h2 H1 HF
  go_wp2_with fail
  refine (wunhex_any t _ (by omega) H2.out.2.2.1 H2.out.2.2.2).mono ?_
  rintro e w3 ⟨rfl, h3⟩
  have H3 : Hid (On w w3) := H2.out.more h3
  clear h3 H2
  go_wp2_with fail
  refine (runhex_any t _ (by omega)).mono ?_
  rintro e w4 ⟨rfl, h4⟩
  have H4 : Hid (On w w4) := H3.out.more h4
  clear h4 H3
  go_wp2_with fail
  refine (put_any s n _ (by omega) (by omega) (by omega)).mono ?_
  rintro e w5 ⟨rfl, h5⟩
  have H5 : Hid (On w w5) := H4.out.more h5
  clear h5 H4
  rw [Int.toNat_natCast]
  go_wp2_with fail
  refine (rput_any s n _ (by omega) (by omega) (by omega)).mono ?_
  rintro e w6 ⟨rfl, h6⟩
  have H6 : Hid (On w w6) := H5.out.more h6
  clear h6 H5
  rw [Int.toNat_natCast]
  go_wp2_with fail
  refine (putText_any s t _ (by omega) (by omega)).mono ?_
  rintro e w7 ⟨rfl, h7⟩
  have H7 : Hid (On w w7) := H6.out.more h7
  clear h7 H6
  go_wp2_with fail
  refine (rputText_any s t _ (by omega) (by omega)).mono ?_
  rintro e w8 ⟨rfl, h8⟩
  have H8 : Hid (On w w8) := H7.out.more h8
  clear h8 H7
  go_wp2_with fail
  refine (len_any n _ (by omega) (by omega)).mono ?_
  rintro e w9 ⟨rfl, hw9⟩
  subst hw9
  rw [Int.toNat_natCast]
  go_wp2_with fail
  refine (rlen_any n _ (by omega) (by omega)).mono ?_
  rintro e w10 ⟨rfl, h10⟩
  have H10 : Hid (On w w10) := H8.out.more h10
  clear h10 H8
  rw [Int.toNat_natCast]
  go_wp2_with fail
  refine (hex_any s _ (by omega) H10.out.2.2.1 H10.out.2.2.2).mono ?_
  rintro e w11 ⟨rfl, h11⟩
  have H11 : Hid (On w w11) := H10.out.more h11
  clear h11 H10
  go_wp2_with fail
  refine (rhex_any s _ (by omega)).mono ?_
  rintro e w12 ⟨rfl, h12⟩
  have H12 : Hid (On w w12) := H11.out.more h12
  clear h12 H11
  go_wp2_with fail
  refine (awake_any _).mono ?_
  rintro e w13 ⟨rfl, h13⟩
  have H13 : Hid (On w w13) := H12.out.more h13
  clear h13 H12
  go_wp2
  go_ret
  exact ⟨rfl, H13.out.1⟩
theorem puts_walk (s t : ByteArray) (n : Nat) (w : World) (hs : s.size ≤ 1048576) (ht : t.size ≤ 1048576) (hn : n < 18446744073709551616) (hT : TabIs w) (hw : 0 < w.heap.size) (d : Int) (hd : d ≤ 9223372036854775807) :
    Calls Tryd.prog 3 #[.string s, .string t, .agg #[.int .u64 n, .int .i64 d]] w fun e w' => e = .returned (.bool true) ∧ Below w.heap.size w w' := by
  by_cases h : isW d = true ∧ n < 256 ^ d.toNat
  · obtain ⟨a, b⟩ := isW_iff.1 h.1
    obtain ⟨m, rfl⟩ := Int.eq_ofNat_of_zero_le (show 0 ≤ d by omega)
    exact puts_ok s t n w hs ht hn hT hw m (by omega) (by omega) (by simpa using h.2)
  · exact puts_no s t n w hs ht hn hT hw d (fun hi => by
      rcases Nat.lt_or_ge n (256 ^ d.toNat) with g | g
      · exact absurd ⟨hi, g⟩ h
      · exact g)
end Go.Proofs.YtehbgkbnbaogoaaDoor
