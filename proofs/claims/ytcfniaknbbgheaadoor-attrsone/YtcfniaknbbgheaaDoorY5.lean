import Derived.Test.YtcfniaknbbgheaaDoorY1
import Derived.Test.YtcfniaknbbgheaaDoorY4
import Derived.Test.YtcfniaknbbgheaaDoorY2
import Derived.RegionTactic
/- strings.Builder. -/
namespace Go.Proofs.YtcfniaknbbgheaaDoor
open Go.RowKit
set_option linter.unusedSimpArgs false
set_option linter.unusedVariables false
theorem writeB (B b : Nat) (l : List UInt8) (c : UInt8) (w : World) (h : Bld B b l w) (hlen : l.length + 1 ≤ 140737488355328) (hBw : B ≤ w.heap.size) :
    Calls Tryd.prog 22 #[.pointer (some ⟨b, 0, none⟩), .int .u8 (c.toNat : Int)] w fun e w' => e = .returned .nilIface ∧ Bld B b (l ++ [c]) w' ∧ Below B w w' ∧ Oth b w w' :=
  (Any.Builder_WriteByte_k lays167 extra167 B b (Lib.byteCells l) (c.toNat : Int) w h (by rw [Lib.byteCells_length]; exact hlen) hBw).mono fun e w' ⟨he, h1, h2, h3⟩ =>
    ⟨he, by rw [Bld, Lib.byteCells_append]; exact Or.inr h1, h2, h3⟩
end Go.Proofs.YtcfniaknbbgheaaDoor
/- wire.Len. -/
namespace Go.Proofs.YtcfniaknbbgheaaDoor
open Go.RowKit
set_option linter.unusedSimpArgs false
set_option linter.unusedVariables false
set_option maxHeartbeats 400000 in
theorem len_any (x : Int) (w : World) (h0 : 0 ≤ x) (h1 : x ≤ 18446744073709551615) :
    Calls Tryd.prog 58 #[.int .u64 x] w fun e w' => e = .returned (.int .i64 (slen x.toNat)) ∧ w' = w := by
  have hb := bitLen_le64 x.toNat (by omega)
  go_enter Tryd.func58, Tryd.ntmps58
  go_wp2_with (go_at_call 66; refine (len64_any x _ h0 h1).mono ?_; rintro e w' ⟨rfl, rfl⟩)
  all_goals go_ret
  all_goals refine ⟨ret_int ?_, rfl⟩
  all_goals unfold slen
  all_goals omega
end Go.Proofs.YtcfniaknbbgheaaDoor
/- The walks of wire.Put, PutText, PutFixed: what each returns; nothing that was there has turned. -/
namespace Go.Proofs.YtcfniaknbbgheaaDoor
open Go.RowKit
set_option linter.unusedSimpArgs false
set_option linter.unusedVariables false
theorem slice10 (a : Addr) (h : Int) (h0 : 0 ≤ h) (h2 : h ≤ 10) (w : World) :
    (Instr.sliceAt 113 (.pointer (some a)) none (some (.int .i64 h)) none).run Tryd.prog w = .ok (.slice (some a) h.toNat 10) w := by
  have e1 : Tryd.prog.elem 113 = 5 := by kernel_rfl
  have e2 : Tryd.prog.arrayLen 113 = 10 := by kernel_rfl
  have e0 : Tryd.prog.underlying 113 = some (.array (Tryd.prog.arrayLen 113) (Tryd.prog.elem 113)) := by kernel_rfl
  rw [run_sliceAt_array_h (P := Tryd.prog) w 113 a e0 .i64 h h0 (by rw [e2]; exact h2)]
  rw [e1, e2, sizeOf_u8]
  simp [slicedAt, Result.andThen, Addr.add]
theorem put_next (n k : Nat) (arr : Array Value) (b : Int) (hk : k < 9) (hsz : arr.size = 10) (hall : ∀ j, j < 10 → ∃ z, arr[j]? = some (.int .u8 z))
    (harr : ∀ j, j < k → arr[j]? = some (.int .u8 (n / 128 ^ j % 128 + 128 : Nat))) (hb : b = (n / 128 ^ k % 128 + 128 : Nat)) :
    (arr.setIfInBounds k (.int .u8 b)).size = 10 ∧ (∀ j, j < 10 → ∃ z, (arr.setIfInBounds k (.int .u8 b))[j]? = some (.int .u8 z)) ∧
      ∀ j, j < k + 1 → (arr.setIfInBounds k (.int .u8 b))[j]? = some (.int .u8 (n / 128 ^ j % 128 + 128 : Nat)) := by
  refine ⟨by simp [hsz], fun j hj => ?_, fun j hj => ?_⟩
  · rw [Array.getElem?_setIfInBounds]
    split
    · exact ⟨b, by simp [hsz]; omega⟩
    · exact hall j hj
  · rw [Array.getElem?_setIfInBounds]
    split
    · rename_i e; subst e; rw [if_pos (by omega), hb]
    · exact harr j (by omega)
theorem put_conv (n k : Nat) (arr : Array Value) (w : World) (T : TypeId) (hk : k ≤ 9) (hsz : arr.size = 10) (hsl : slen n = k + 1) (hn : n < 2 ^ 64)
    (harr : ∀ j, j < k → arr[j]? = some (.int .u8 (n / 128 ^ j % 128 + 128 : Nat))) :
    (convert 58 9 (.slice (some ⟨w.heap.size, 0, none⟩) (k + 1) 10)).run Tryd.prog (w.alloc (.cells (arr.setIfInBounds k (.int .u8 ((n / 128 ^ k : Nat) % 256))) T)) =
      .ok (.string (sb (encS n))) (w.alloc (.cells (arr.setIfInBounds k (.int .u8 ((n / 128 ^ k : Nat) % 256))) T)) := by
  have he : encS n = encN k n := by unfold encS; rw [hsl]; rfl
  rw [he, ← sb_nums]
  refine run_convert_bytes_arg _ 58 5 Tryd.underlying58 Tryd.underlying5 _ 0 (k + 1) 10 _ (by simp [encN_length]) (fun i hi => ?_) 9 Tryd.underlying9
  have hh := slen_hi n hn
  rw [hsl, Nat.pow_succ] at hh
  have hl : n / 128 ^ k < 128 := by rw [Nat.div_lt_iff_lt_mul (Nat.pow_pos (by omega))]; rw [Nat.mul_comm]; exact hh
  rw [Nat.zero_add]
  rw [World.cell?_alloc_new, Array.getElem?_setIfInBounds, List.getD, List.getElem?_map]
  by_cases e : k = i
  · subst e
    rw [if_pos rfl, if_pos (by omega), encN_last]
    simp only [Option.map_some, Option.getD_some]
    congr 2
    show ((n / 128 ^ k : Nat) : Int) % 256 = ((n / 128 ^ k : Nat) : Int)
    generalize n / 128 ^ k = q at hl
    omega
  · rw [if_neg e, encN_get k n i (by omega), harr i (by omega)]
    rfl
set_option maxHeartbeats 400000 in
theorem put_any (s : ByteArray) (x : Int) (w : World) (h0 : 0 ≤ x) (h1 : x ≤ 18446744073709551615) (hs : s.size ≤ 4611686018427387904) :
    Calls Tryd.prog 43 #[.string s, .int .u64 x] w fun e w' => e = .returned (.string (s ++ sb (encS x.toNat))) ∧ Below w.heap.size w w' := by
  have hl1 := slen_pos x.toNat
  have hl2 := slen_le x.toNat (by omega)
  obtain ⟨n, hn⟩ : ∃ n, n = x.toNat := ⟨_, rfl⟩
  have HN : Hid (n = x.toNat) := hn
  clear hn
  go_enter Tryd.func43, Tryd.ntmps43
  go_wp2_with (go_at_call 58; refine (len_any x _ h0 h1).mono ?_; rintro e w' ⟨rfl, rfl⟩)
  go_loopw [1, 12] (fun v i wr => ∃ (k y : Nat) (arr : Array Value), k ≤ slen x.toNat - 1 ∧ i = .int .i64 k ∧ v = .int .u64 y ∧ y < 2 ^ 64 ∧ wr = w.alloc (.cells arr 113) ∧ Hid (y = n / 128 ^ k ∧ arr.size = 10 ∧ (∀ j, j < 10 → ∃ z, arr[j]? = some (.int .u8 z)) ∧ ∀ j, j < k → arr[j]? = some (.int .u8 (n / 128 ^ j % 128 + 128 : Nat)))) (fun _ i _ => 10 - (intOf i).toNat)
  case atStart =>
    refine ⟨0, x.toNat, _, Nat.zero_le _, rfl, by go_num, by omega, rfl, ⟨by simp [HN.out], by simp, fun j hj => ?_, fun j hj => by omega⟩⟩
    refine ⟨0, ?_⟩
    rw [show (#[Value.int .u8 0, Value.int .u8 0, Value.int .u8 0, Value.int .u8 0, Value.int .u8 0, Value.int .u8 0, Value.int .u8 0, Value.int .u8 0, Value.int .u8 0, Value.int .u8 0] : Array Value) = Array.replicate 10 (Value.int .u8 0) from rfl]
    simp [hj]
  case round =>
    obtain ⟨k, y, arr, hk, rfl, rfl, hy, rfl, HR⟩ := hrel
    by_cases hlt : k < slen x.toNat - 1
    · obtain ⟨z, hz⟩ := HR.out.2.2.1 k (by omega)
      go_wp2
      go_roundw
      case rel => 
        obtain ⟨hy, a1, a2, a3⟩ := HR.out
        refine ⟨k + 1, y / 128, _, by omega, by go_num, by go_num, by omega, rfl, ⟨?_, ?_⟩⟩
        · rw [hy, Nat.div_div_eq_div_mul, Nat.pow_succ]
        · exact put_next n k arr _ (by omega) a1 a2 a3 (by rw [u8_or_128, hy])
      case measure => simp [intOf]; omega
    · obtain ⟨z, hz⟩ := HR.out.2.2.1 k (by omega)
      have hke : (slen x.toNat : Int) - 1 = k := by omega
      have hc := put_conv n k arr w 113 (by omega) HR.out.2.1 (by rw [HN.out]; omega) (by rw [HN.out]; omega) HR.out.2.2.2
      rw [← HR.out.1] at hc
      have hsl := slice10 ⟨w.heap.size, 0, none⟩ ((k : Int) + 1) (by omega) (by omega)
      have hsb : (sb (encS n)).size ≤ 10 := by rw [sb_size, encS_length, HN.out]; exact hl2
      go_wp2
      go_ret
      exact ⟨ret_str (by rw [HN.out]), by go_grown⟩
end Go.Proofs.YtcfniaknbbgheaaDoor
/- wire.PutText. -/
namespace Go.Proofs.YtcfniaknbbgheaaDoor
open Go.RowKit
set_option linter.unusedSimpArgs false
set_option linter.unusedVariables false
set_option maxHeartbeats 400000 in
theorem putText_any (s t : ByteArray) (w : World) (hs : s.size ≤ 4611686018427387000) (ht : t.size ≤ 140737488351232) :
    Calls Tryd.prog 45 #[.string s, .string t] w fun e w' => e = .returned (.string (s ++ sb (encS t.size) ++ t)) ∧ Below w.heap.size w w' := by
  have hsb : (sb (encS t.size)).size ≤ 10 := by rw [sb_size, encS_length]; exact slen_le _ (by omega)
  have hsz := append_size s (sb (encS t.size))
  go_enter Tryd.func45, Tryd.ntmps45
  go_wp2_with fail
  refine (put_any s t.size w (by omega) (by omega) (by omega)).mono ?_
  rintro e w1 ⟨rfl, hb⟩
  rw [Int.toNat_natCast]
  go_wp2
  go_ret
  exact ⟨rfl, hb⟩
end Go.Proofs.YtcfniaknbbgheaaDoor
/- attrs.putter and its closures. -/
namespace Go.Proofs.YtcfniaknbbgheaaDoor
open Go.RowKit
set_option linter.unusedSimpArgs false
set_option linter.unusedVariables false
theorem oth_bk {b k : Nat} {w w' : World} {C : Array Value} {T : TypeId} (h : Oth b w w') (hb : Bk w k C T) (hk : k ≠ b) (hT : T ≠ 5) : Bk w' k C T :=
  h k _ hb (by simpa using hk) (fun c fz e => hT (by injection e))
theorem grn_keep10 {w w' : World} (h : Below w.heap.size w w') : w.grownBy w' none := ⟨h.os, h.tape, h.output, h.size, fun i hi _ => h.block i hi⟩
theorem bldAt_keep10 {B b : Nat} {p : Value} {l : List Value} {w w' : World} (h : Lib.BuilderAtF 60 5 B b p l w) (hb : Below w.heap.size w w') : Lib.BuilderAtF 60 5 B b p l w' := by
  obtain ⟨h1, v, h2, h3, h4⟩ := h
  have hlt : b < w.heap.size := (Array.getElem?_eq_some_iff.1 h2).1
  exact ⟨h1, v, (hb.block b hlt).trans h2, h3.kept (grn_keep10 hb) (by cases v.ownBlock <;> simp), h4⟩
theorem bld_keep10 {B b : Nat} {l : List UInt8} {w w' : World} (h : Bld B b l w) (hb : Below w.heap.size w w') : Bld B b l w' := by
  rcases h with h | h
  · exact .inl (bldAt_keep10 h hb)
  · exact .inr (bldAt_keep10 h hb)
theorem oth_below {b : Nat} {w w' : World} (h : Below w.heap.size w w') : Oth b w w' := fun k o hk _ _ => (h.block k (Array.getElem?_eq_some_iff.1 hk).1).trans hk
/-- Bytes that are put: the builder b behind the box g, all below B as it was. -/
structure PS (w0 : World) (B b g : Nat) (pre : List UInt8) (w : World) : Prop where
  bld : Bld B b pre w
  box : Bk w g #[.pointer (some ⟨b, 0, none⟩)] 57
  ne : g ≠ b
  bel : Below B w0 w
  le : B ≤ w.heap.size
theorem PS.keep {w0 : World} {B b g : Nat} {pre : List UInt8} {w w' : World} (h : PS w0 B b g pre w) (hb : Below w.heap.size w w') : PS w0 B b g pre w' :=
  ⟨bld_keep10 h.bld hb, h.box.below hb h.box.lt, h.ne, h.bel.trans (hb.mono h.le), Nat.le_trans h.le hb.size⟩
theorem PS.drew {w0 : World} {B b g : Nat} {pre : List UInt8} {w : World} (h : PS w0 B b g pre w) : PS w0 B b g pre w.drew := h.keep (Below.refl _ _).drew
theorem PS.cell {w0 : World} {B b g : Nat} {pre : List UInt8} {w : World} (h : PS w0 B b g pre w) : w.cell? ⟨g, 0, none⟩ = some (.pointer (some ⟨b, 0, none⟩)) := by rw [h.box.cell]; rfl
theorem PS.write {w0 : World} {B b g : Nat} {pre : List UInt8} {w : World} (h : PS w0 B b g pre w) (s : ByteArray) (hs : pre.length + s.size ≤ 140737488355328) :
    Calls Tryd.prog 42 #[.pointer (some ⟨b, 0, none⟩), .string s] w fun e w' => e = .returned (.tuple #[.int .i64 s.size, .nilIface]) ∧ PS w0 B b g (pre ++ bl s) w' ∧ Oth b w w' :=
  (writeS B b pre s w h.bld hs h.le).mono fun e w' ⟨he, h1, h2, h3⟩ => ⟨he, ⟨h1, oth_bk h3 h.box h.ne (by decide), h.ne, h.bel.trans h2, Nat.le_trans h.le h2.size⟩, h3⟩
theorem putter_any (b : Nat) (w : World) : Calls Tryd.prog 21 #[.pointer (some ⟨b, 0, none⟩)] w fun e w' =>
    e = .returned (.tuple #[.func (.func 41) #[] #[.pointer (some ⟨w.heap.size, 0, none⟩)], .func (.func 44) #[] #[.pointer (some ⟨w.heap.size, 0, none⟩)]]) ∧ w' = w.alloc (.cells #[.pointer (some ⟨b, 0, none⟩)] 57) := by
  go_enter Tryd.func21, Tryd.ntmps21
  go_wp2
  go_ret2
  exact ⟨rfl, rfl⟩
theorem e8_bl (n : Nat) : bl ((⟨#[]⟩ : ByteArray) ++ sb (encS n)) = e8 n := by rw [bl_append, bl_sb]; rfl
theorem tx_bl (t : ByteArray) : bl ((⟨#[]⟩ : ByteArray) ++ sb (encS t.size) ++ t) = tx t := by rw [bl_append, e8_bl]; rfl
set_option maxHeartbeats 1000000 in
set_option maxRecDepth 100000 in
theorem pnum_any (w0 : World) (B b g : Nat) (pre : List UInt8) (x : Int) (w : World) (h : PS w0 B b g pre w) (h0 : 0 ≤ x) (h1 : x ≤ 18446744073709551615) (hl : pre.length ≤ 100000000) :
    Calls Tryd.prog 41 #[.int .u64 x, .pointer (some ⟨g, 0, none⟩)] w fun e w' => e = .returned (.tuple #[]) ∧ PS w0 B b g (pre ++ e8 x.toNat) w' ∧ Oth b w w' := by
  obtain ⟨P, hP⟩ : ∃ P : ByteArray, (⟨#[]⟩ : ByteArray) ++ sb (encS x.toNat) = P := ⟨_, rfl⟩
  have hPb : bl P = e8 x.toNat := by rw [← hP]; exact e8_bl _
  have hPs : P.size ≤ 10 := by rw [← bl_length, hPb]; exact e8_len _ (by omega)
  have C1 : Hid (∀ u, PS w0 B b g pre u → Oth b w u → Calls Tryd.prog 43 #[.string ⟨#[]⟩, .int .u64 x] u fun e w' => e = .returned (.string P) ∧ Hid (PS w0 B b g pre w' ∧ Oth b w w') ∧ w'.cell? ⟨g, 0, none⟩ = some (.pointer (some ⟨b, 0, none⟩))) := fun u hu ho => by
    refine (put_any ⟨#[]⟩ x u h0 h1 (Nat.zero_le _)).mono ?_
    rintro e w1 ⟨rfl, hb⟩
    exact ⟨by rw [hP], ⟨hu.keep hb, ho.trans (oth_below hb)⟩, (hu.keep hb).cell⟩
  have C2 : Hid (∀ u, PS w0 B b g pre u → Oth b w u → Calls Tryd.prog 42 #[.pointer (some ⟨b, 0, none⟩), .string P] u fun e w' => e = .returned (.tuple #[.int .i64 P.size, .nilIface]) ∧ Hid (PS w0 B b g (pre ++ e8 x.toNat) w' ∧ Oth b w w')) := fun u hu ho => by
    refine (hu.write P (by omega)).mono ?_
    rintro e w1 ⟨rfl, hb, h3⟩
    exact ⟨rfl, by rw [← hPb]; exact hb, ho.trans h3⟩
  have HP : Hid (PS w0 B b g pre w) := h
  have hc := h.cell
  have hgl := h.box.lt
  clear hP hPb h
  go_enter Tryd.func41, Tryd.ntmps41
  go_wp2
  go_region_with (first
    | (go_at_call 43; go_loud (refine (C1.out _ HP.out.drew (Lib.OthersKept.refl _ _ _).drew).mono ?_; rintro e w1 ⟨rfl, HQ, hc1⟩))
    | (go_at_call 42; go_loud (refine (C2.out _ HQ.out.1 HQ.out.2).mono ?_; rintro e w2 ⟨rfl, HR⟩)))
  all_goals go_wp2
  all_goals go_end0
  all_goals exact ⟨rfl, HR.out.1, HR.out.2⟩
set_option maxHeartbeats 1000000 in
set_option maxRecDepth 100000 in
theorem ptxt_any (w0 : World) (B b g : Nat) (pre : List UInt8) (x : ByteArray) (w : World) (h : PS w0 B b g pre w) (hx : x.size ≤ 1000000) (hl : pre.length ≤ 100000000) :
    Calls Tryd.prog 44 #[.string x, .pointer (some ⟨g, 0, none⟩)] w fun e w' => e = .returned (.tuple #[]) ∧ PS w0 B b g (pre ++ tx x) w' ∧ Oth b w w' := by
  obtain ⟨P, hP⟩ : ∃ P : ByteArray, (⟨#[]⟩ : ByteArray) ++ sb (encS x.size) ++ x = P := ⟨_, rfl⟩
  have hPb : bl P = tx x := by rw [← hP]; exact tx_bl _
  have hPs : P.size ≤ 1000010 := by rw [← bl_length, hPb]; have := tx_len x (by omega); omega
  have C1 : Hid (∀ u, PS w0 B b g pre u → Oth b w u → Calls Tryd.prog 45 #[.string ⟨#[]⟩, .string x] u fun e w' => e = .returned (.string P) ∧ Hid (PS w0 B b g pre w' ∧ Oth b w w') ∧ w'.cell? ⟨g, 0, none⟩ = some (.pointer (some ⟨b, 0, none⟩))) := fun u hu ho => by
    refine (putText_any ⟨#[]⟩ x u (Nat.zero_le _) (by omega)).mono ?_
    rintro e w1 ⟨rfl, hb⟩
    exact ⟨by rw [hP], ⟨hu.keep hb, ho.trans (oth_below hb)⟩, (hu.keep hb).cell⟩
  have C2 : Hid (∀ u, PS w0 B b g pre u → Oth b w u → Calls Tryd.prog 42 #[.pointer (some ⟨b, 0, none⟩), .string P] u fun e w' => e = .returned (.tuple #[.int .i64 P.size, .nilIface]) ∧ Hid (PS w0 B b g (pre ++ tx x) w' ∧ Oth b w w')) := fun u hu ho => by
    refine (hu.write P (by omega)).mono ?_
    rintro e w1 ⟨rfl, hb, h3⟩
    exact ⟨rfl, by rw [← hPb]; exact hb, ho.trans h3⟩
  have HP : Hid (PS w0 B b g pre w) := h
  have hc := h.cell
  have hgl := h.box.lt
  clear hP hPb h
  go_enter Tryd.func44, Tryd.ntmps44
  go_wp2
  go_region_with (first
    | (go_at_call 45; go_loud (refine (C1.out _ HP.out.drew (Lib.OthersKept.refl _ _ _).drew).mono ?_; rintro e w1 ⟨rfl, HQ, hc1⟩))
    | (go_at_call 42; go_loud (refine (C2.out _ HQ.out.1 HQ.out.2).mono ?_; rintro e w2 ⟨rfl, HR⟩)))
  all_goals go_wp2
  all_goals go_end0
  all_goals exact ⟨rfl, HR.out.1, HR.out.2⟩
theorem PS.byte {w0 : World} {B b g : Nat} {pre : List UInt8} {w : World} (h : PS w0 B b g pre w) (n : Nat) (hn : n < 256) (hs : pre.length ≤ 100000000) :
    Calls Tryd.prog 22 #[.pointer (some ⟨b, 0, none⟩), .int .u8 (n : Int)] w fun e w' => e = .returned .nilIface ∧ PS w0 B b g (pre ++ [UInt8.ofNat n]) w' ∧ Oth b w w' := by
  have e : (n : Int) = ((UInt8.ofNat n).toNat : Int) := by rw [toNat_ofNat8 n hn]
  rw [e]
  exact (writeB B b pre (UInt8.ofNat n) w h.bld (by omega) h.le).mono fun e w' ⟨he, h1, h2, h3⟩ => ⟨he, ⟨h1, oth_bk h3 h.box h.ne (by decide), h.ne, h.bel.trans h2, Nat.le_trans h.le h2.size⟩, h3⟩
theorem PS.str {w0 : World} {B b g : Nat} {pre : List UInt8} {w : World} (h : PS w0 B b g pre w) :
    Calls Tryd.prog 23 #[.pointer (some ⟨b, 0, none⟩)] w fun e w' => e = .returned (.string ⟨pre.toArray⟩) ∧ Below B w0 w' ∧ B ≤ w'.heap.size :=
  (buildS B b pre w h.bld h.le).mono fun e w' ⟨he, h1, h2, h3⟩ => ⟨he, h.bel.trans h2, Nat.le_trans h.le h2.size⟩
theorem PS.begin (w : World) : PS w w.heap.size w.heap.size (w.heap.size + 1) [] ((w.alloc (.cells #[.pointer none, .slice none 0 0] 60)).alloc (.cells #[.pointer (some ⟨w.heap.size, 0, none⟩)] 57)) := by
  refine ⟨(fresh_bld w).alloc _, ?_, by omega, ((Below.refl _ w).alloc (Nat.le_refl _) _).alloc (by simp) _, by simp; omega⟩
  have h := bk_new (w.alloc (.cells #[.pointer none, .slice none 0 0] 60)) #[.pointer (some ⟨w.heap.size, 0, none⟩)] 57
  rw [al_size] at h
  exact h
theorem pnum_nat (w0 : World) (B b g : Nat) (pre : List UInt8) (x : Nat) (w : World) (h : PS w0 B b g pre w) (h1 : x ≤ 18446744073709551615) (hl : pre.length ≤ 100000000) :
    Calls Tryd.prog 41 #[.int .u64 (x : Int), .pointer (some ⟨g, 0, none⟩)] w fun e w' => e = .returned (.tuple #[]) ∧ PS w0 B b g (pre ++ e8 x) w' ∧ Oth b w w' := by
  have := pnum_any w0 B b g pre (x : Int) w h (by omega) (by omega) hl
  rw [Int.toNat_natCast] at this
  exact this
end Go.Proofs.YtcfniaknbbgheaaDoor
/- attrs.Put. -/
namespace Go.Proofs.YtcfniaknbbgheaaDoor
open Go.RowKit
set_option linter.unusedSimpArgs false
set_option linter.unusedVariables false
/-- What Put answers. -/
def pte (a : At) : Int := if okA a = true then 0 else 1
def ptl (a : At) : List UInt8 := if okA a = true then lay a else []
set_option maxHeartbeats 4000000 in
set_option maxRecDepth 100000 in
theorem aput_no (nd md ui gi : Nat) (mt : Int) (tg : ByteArray) (xs : List (ByteArray × ByteArray)) (ad : Option Addr) (n c : Nat) (w : World) (hX : XaL w ad xs) (hl : xs.length = n) (hn : n ≤ 4611686018427387904) (ht : tg.size ≤ 140737488351232) (hT : U8 w) (hok : okA ⟨nd, md, ui, gi, mt, tg, xs⟩ = false) :
    Calls Tryd.prog 6 #[atV nd md ui gi mt tg (.slice ad n c)] w fun e w' => e = .returned (.tuple #[.string ⟨#[]⟩, .int .i64 1]) ∧ Below w.heap.size w w' := by
  have C1 : Hid (∀ u, Below w.heap.size w u → Calls Tryd.prog 14 #[atV nd md ui gi mt tg (.slice ad n c)] u fun e w' => e = .returned (.int .i64 1) ∧ Below u.heap.size u w') := fun u hu => by
    have := acheck_any nd md ui gi mt tg xs ad n c u (hX.below hu) hl hn ht (hT.below hu)
    unfold ckE at this
    rw [hok] at this
    exact this
  clear hX hT hok
  go_enter Tryd.func6, Tryd.ntmps6
  go_wp2_with fail
  refine (C1.out _ ((Below.refl _ _).alloc (Nat.le_refl _) _)).mono ?_
  rintro e w1 ⟨rfl, hb⟩
  have HB : Hid (Below w.heap.size w w1) := ((Below.refl _ _).alloc (Nat.le_refl _) _).trans (hb.mono (by simp))
  clear hb
  go_wp2
  go_ret2
  exact ⟨rfl, HB.out⟩
set_option maxHeartbeats 8000000 in
set_option maxRecDepth 100000 in
theorem aput_yes (nd md ui gi : Nat) (mt : Int) (tg : ByteArray) (xs : List (ByteArray × ByteArray)) (ad : Option Addr) (n c : Nat) (w : World) (hX : XaL w ad xs) (hl : xs.length = n) (hn : n ≤ 4611686018427387904) (ht : tg.size ≤ 140737488351232) (hT : U8 w) (hu : ui < 4294967296) (hg : gi < 4294967296) (hok : okA ⟨nd, md, ui, gi, mt, tg, xs⟩ = true) :
    Calls Tryd.prog 6 #[atV nd md ui gi mt tg (.slice ad n c)] w fun e w' => e = .returned (.tuple #[.string ⟨(lay ⟨nd, md, ui, gi, mt, tg, xs⟩).toArray⟩, .int .i64 0]) ∧ Below w.heap.size w w' := by
  have C1 : Hid (∀ u, Below w.heap.size w u → Calls Tryd.prog 14 #[atV nd md ui gi mt tg (.slice ad n c)] u fun e w' => e = .returned (.int .i64 0) ∧ Below u.heap.size u w') := fun u hu => by
    have := acheck_any nd md ui gi mt tg xs ad n c u (hX.below hu) hl hn ht (hT.below hu)
    unfold ckE at this
    rw [hok] at this
    exact this
  obtain ⟨k1, k2, k3, k4, k5⟩ := okA_out hok
  simp only at k1 k2 k3 k4 k5
  have HX : Hid (XaL w ad xs) := hX
  have HL : Hid (xs.length = n) := hl
  have HK : Hid (xsB xs = true) := k5
  have hn16 : n ≤ 16 := by rw [← hl]; exact (xsB_out k5).1
  have htg : tg.size ≤ 1024 := tg_small k4
  have HS : Hid (∀ x ∈ xs, x.1.size ≤ 255 ∧ x.2.size ≤ 4096) := xs_small k5
  obtain ⟨m, rfl⟩ : ∃ m : Nat, mt = (m : Int) := ⟨mt.toNat, by omega⟩
  have hm : m ≤ 1099511627776 := by omega
  have hnd : nd < 256 := by omega
  have hmd : md ≤ 4095 := k2
  have q1 := e8_len md (by omega)
  have q2 := e8_len ui (by omega)
  have q3 := e8_len gi (by omega)
  have q4 := e8_len m (by omega)
  have q5 := e8_len n (by omega)
  have q6 := tx_len tg (by omega)
  clear hX hT hok k1 k2 k3 k4 k5 hl
  go_enter Tryd.func6, Tryd.ntmps6
  go_wp2_with fail
  refine (C1.out _ ((Below.refl _ _).alloc (Nat.le_refl _) _)).mono ?_
  rintro e w1 ⟨rfl, hb⟩
  have HB : Hid (Below w.heap.size w w1) := ((Below.refl _ _).alloc (Nat.le_refl _) _).trans (hb.mono (by simp))
  have HA : Hid (Bk w1 w.heap.size #[.int .u8 (nd : Int), .int .u32 (md : Int), .int .u32 (ui : Int), .int .u32 (gi : Int), .int .i64 (m : Int), .string tg, .slice ad n c] 28) := (bk_new w _ _).below hb (by simp)
  have hz : w.heap.size < w1.heap.size := Nat.lt_of_lt_of_le (by simp) hb.size
  clear hb C1
  go_wp2_with fail
  refine (putter_any _ _).mono ?_
  rintro e w2 ⟨rfl, hw2⟩
  have P2 : Hid (PS w1 w1.heap.size w1.heap.size (w1.heap.size + 1) [] w2) := by rw [hw2]; exact PS.begin w1
  have HC : Hid (∀ pre u, PS w1 w1.heap.size w1.heap.size (w1.heap.size + 1) pre u → Bk u w.heap.size #[.int .u8 (nd : Int), .int .u32 (md : Int), .int .u32 (ui : Int), .int .u32 (gi : Int), .int .i64 (m : Int), .string tg, .slice ad n c] 28) := fun pre u hu => HA.out.below hu.bel hz
  rw [al_size]
  have c2 : w2.cell? ⟨w.heap.size, 0, none⟩ = some (.int .u8 (nd : Int)) := by rw [(HC.out _ _ P2.out).cell]; rfl
  clear hw2
  go_wp2_with fail
  refine (P2.out.byte nd hnd (by simp)).mono ?_
  rintro e w3 ⟨rfl, p3, _⟩
  have P3 : Hid (PS w1 w1.heap.size w1.heap.size (w1.heap.size + 1) ([] ++ [UInt8.ofNat nd]) w3) := p3
  have c3 : w3.cell? ⟨w.heap.size, 1, none⟩ = some (.int .u32 (md : Int)) := by rw [(HC.out _ _ P3.out).cell]; rfl
  clear p3 c2 P2
  go_wp2_with fail
  refine (pnum_nat _ _ _ _ _ md _ P3.out (by omega) (by simp only [List.length_append, List.length_cons, List.length_nil]; omega)).mono ?_
  rintro e w4 ⟨rfl, p4, _⟩
  have P4 : Hid (PS w1 w1.heap.size w1.heap.size (w1.heap.size + 1) ([] ++ [UInt8.ofNat nd] ++ e8 md) w4) := p4
  have c4 : w4.cell? ⟨w.heap.size, 2, none⟩ = some (.int .u32 (ui : Int)) := by rw [(HC.out _ _ P4.out).cell]; rfl
  clear p4 c3 P3
  go_wp2_with fail
  refine (pnum_nat _ _ _ _ _ ui _ P4.out (by omega) (by simp only [List.length_append, List.length_cons, List.length_nil]; omega)).mono ?_
  rintro e w5 ⟨rfl, p5, _⟩
  have P5 : Hid (PS w1 w1.heap.size w1.heap.size (w1.heap.size + 1) ([] ++ [UInt8.ofNat nd] ++ e8 md ++ e8 ui) w5) := p5
  have c5 : w5.cell? ⟨w.heap.size, 3, none⟩ = some (.int .u32 (gi : Int)) := by rw [(HC.out _ _ P5.out).cell]; rfl
  clear p5 c4 P4
  go_wp2_with fail
  refine (pnum_nat _ _ _ _ _ gi _ P5.out (by omega) (by simp only [List.length_append, List.length_cons, List.length_nil]; omega)).mono ?_
  rintro e w6 ⟨rfl, p6, _⟩
  have P6 : Hid (PS w1 w1.heap.size w1.heap.size (w1.heap.size + 1) ([] ++ [UInt8.ofNat nd] ++ e8 md ++ e8 ui ++ e8 gi) w6) := p6
  have c6 : w6.cell? ⟨w.heap.size, 4, none⟩ = some (.int .i64 (m : Int)) := by rw [(HC.out _ _ P6.out).cell]; rfl
  clear p6 c5 P5
  go_wp2_with fail
  refine (pnum_nat _ _ _ _ _ m _ P6.out (by omega) (by simp only [List.length_append, List.length_cons, List.length_nil]; omega)).mono ?_
  rintro e w7 ⟨rfl, p7, _⟩
  have P7 : Hid (PS w1 w1.heap.size w1.heap.size (w1.heap.size + 1) ([] ++ [UInt8.ofNat nd] ++ e8 md ++ e8 ui ++ e8 gi ++ e8 m) w7) := p7
  have c7 : w7.cell? ⟨w.heap.size, 0, none⟩ = some (.int .u8 (nd : Int)) := by rw [(HC.out _ _ P7.out).cell]; rfl
  clear p7 c6 P6
  by_cases h3 : nd = 3
  · have h3z : ((nd : Int) == 3) = true := by simp [h3]
    have H3 : Hid (nd = 3) := h3
    clear h3
    have c7b : w7.cell? ⟨w.heap.size, 5, none⟩ = some (.string tg) := by rw [(HC.out _ _ P7.out).cell]; rfl
    go_wp2_with fail
    refine (ptxt_any _ _ _ _ _ tg _ P7.out (by omega) (by simp only [List.length_append, List.length_cons, List.length_nil]; omega)).mono ?_
    rintro e w8 ⟨rfl, p8, _⟩
    have P8 : Hid (PS w1 w1.heap.size w1.heap.size (w1.heap.size + 1) ([] ++ [UInt8.ofNat nd] ++ e8 md ++ e8 ui ++ e8 gi ++ e8 m ++ tx tg) w8) := p8
    clear p8 c7 c7b P7
    have c8a : w8.cell? ⟨w.heap.size, 6, none⟩ = some (.slice ad n c) := by rw [(HC.out _ _ P8.out).cell]; rfl
    go_wp2_with fail
    refine (pnum_nat _ _ _ _ _ n _ P8.out (by omega) (by simp only [List.length_append, List.length_cons, List.length_nil]; omega)).mono ?_
    rintro e w9 ⟨rfl, p9, _⟩
    obtain ⟨p, hp⟩ : ∃ p, [] ++ [UInt8.ofNat nd] ++ e8 md ++ e8 ui ++ e8 gi ++ e8 m ++ tx tg ++ e8 n = p := ⟨_, rfl⟩
    have HP : Hid (lay ⟨nd, md, ui, gi, (m : Int), tg, xs⟩ = p ++ xsL xs) := by show _ = _; rw [← hp]; simp [lay, ltg, H3.out, HL.out]
    have hpl : p.length ≤ 10000 := by rw [← hp]; simp only [List.length_append, List.length_cons, List.length_nil]; omega
    rw [hp] at p9
    have P9 : Hid (PS w1 w1.heap.size w1.heap.size (w1.heap.size + 1) p w9) := p9
    have c9 : w9.cell? ⟨w.heap.size, 6, none⟩ = some (.slice ad n c) := by rw [(HC.out _ _ P9.out).cell]; rfl
    clear p9 hp c8a P8
    go_wp2
    clear c9
    go_loopw [58] (fun v wr => ∃ k : Nat, v = .int .i64 k ∧ k ≤ n ∧ Hid (PS w1 w1.heap.size w1.heap.size (w1.heap.size + 1) (p ++ xsL (xs.take k)) wr)) (fun v _ => n - (intOf v).toNat)
    case atStart => exact ⟨0, rfl, Nat.zero_le _, by (show PS w1 w1.heap.size w1.heap.size (w1.heap.size + 1) (p ++ xsL []) w9; rw [show xsL [] = [] from rfl, List.append_nil]; exact P9.out)⟩
    case round =>
      obtain ⟨k, rfl, hk, PR⟩ := hrel
      have HBr : Hid (Below w.heap.size w wr) := HB.out.trans (PR.out.bel.mono (by omega))
      have hzr : w1.heap.size ≤ wr.heap.size := PR.out.le
      have hzg := PR.out.box.lt
      by_cases hlt : k < n
      · have hkz : (k : Int) < (n : Nat) := by omega
        obtain ⟨x, hx⟩ : ∃ x, xs[k]? = some x := ⟨xs[k]'(by rw [HL.out]; exact hlt), List.getElem?_eq_getElem _⟩
        obtain ⟨g, o, rfl, hg2, hc1, hc2, _, _⟩ := HX.out.below HBr.out k x hx
        have hxs := HS.out x (List.mem_of_getElem? hx)
        have HTK : Hid (xsL (xs.take (k + 1)) = xsL (xs.take k) ++ tx x.1 ++ tx x.2) := by
          show _ = _
          rw [List.take_add_one, hx, Option.toList_some, xsL_app, xsL_one, List.append_assoc]
        have hlen : (xsL (xs.take k)).length ≤ 70000 := by
          have := xsL_len (xs.take k) (fun y hy => HS.out y (List.mem_of_mem_take hy))
          have h2 : (xs.take k).length ≤ 16 := by rw [List.length_take]; omega
          omega
        obtain ⟨q, hq⟩ : ∃ q, xsL (xs.take k) = q := ⟨_, rfl⟩
        rw [hq] at PR HTK hlen
        obtain ⟨x1, x2⟩ := x
        simp only at hc1 hc2 hxs HTK
        have q7 := tx_len x1 (by omega)
        have PU : Hid (PS w1 w1.heap.size w1.heap.size (w1.heap.size + 1) (p ++ q) (wr.alloc (.cells #[.string x1, .string x2] 56))) := PR.out.keep ((Below.refl _ _).alloc (Nat.le_refl _) _)
        have HU : Hid (Bk (wr.alloc (.cells #[.string x1, .string x2] 56)) wr.heap.size #[.string x1, .string x2] 56) := bk_new _ _ _
        clear hx hq
        go_wp2_with fail
        refine (ptxt_any _ _ _ _ _ x1 _ PU.out (by omega) (by simp only [List.length_append]; omega)).mono ?_
        rintro e w10 ⟨rfl, p10, o10⟩
        have P10 : Hid (PS w1 w1.heap.size w1.heap.size (w1.heap.size + 1) (p ++ q ++ tx x1) w10) := p10
        have c10 : w10.cell? ⟨wr.heap.size, 1, none⟩ = some (.string x2) := by
          have hbk := oth_bk o10 HU.out (by omega) (by decide)
          rw [hbk.cell]; rfl
        clear p10 o10
        go_wp2_with fail
        refine (ptxt_any _ _ _ _ _ x2 _ P10.out (by omega) (by simp only [List.length_append]; omega)).mono ?_
        rintro e w11 ⟨rfl, p11, o11⟩
        have P11 : Hid (PS w1 w1.heap.size w1.heap.size (w1.heap.size + 1) (p ++ xsL (xs.take (k + 1))) w11) := by rw [HTK.out, ← List.append_assoc, ← List.append_assoc]; exact p11
        clear p11 o11
        go_wp2
        go_roundw
        case rel => exact ⟨k + 1, by go_num, by omega, P11.out⟩
        case measure => simp [intOf]; omega
      · have hkz : ¬ (k : Int) < (n : Nat) := by omega
        have PE : Hid (PS w1 w1.heap.size w1.heap.size (w1.heap.size + 1) (lay ⟨nd, md, ui, gi, (m : Int), tg, xs⟩) wr) := by
          rw [HP.out]
          have := PR.out
          rw [List.take_of_length_le (by rw [HL.out]; omega)] at this
          exact this
        go_wp2_with fail
        refine PE.out.str.mono ?_
        rintro e w12 ⟨rfl, hb12, hz12⟩
        have HF : Hid (Below w.heap.size w w12) := HB.out.trans (hb12.mono (by omega))
        clear hb12
        go_wp2
        go_ret2
        exact ⟨rfl, HF.out⟩
  · have h3z : ((nd : Int) == 3) = false := by simp; omega
    have H3 : Hid (¬ nd = 3) := h3
    clear h3
    have c7a : w7.cell? ⟨w.heap.size, 6, none⟩ = some (.slice ad n c) := by rw [(HC.out _ _ P7.out).cell]; rfl
    go_wp2_with fail
    refine (pnum_nat _ _ _ _ _ n _ P7.out (by omega) (by simp only [List.length_append, List.length_cons, List.length_nil]; omega)).mono ?_
    rintro e w9 ⟨rfl, p9, _⟩
    obtain ⟨p, hp⟩ : ∃ p, [] ++ [UInt8.ofNat nd] ++ e8 md ++ e8 ui ++ e8 gi ++ e8 m ++ e8 n = p := ⟨_, rfl⟩
    have HP : Hid (lay ⟨nd, md, ui, gi, (m : Int), tg, xs⟩ = p ++ xsL xs) := by show _ = _; rw [← hp]; simp [lay, ltg, H3.out, HL.out]
    have hpl : p.length ≤ 10000 := by rw [← hp]; simp only [List.length_append, List.length_cons, List.length_nil]; omega
    rw [hp] at p9
    have P9 : Hid (PS w1 w1.heap.size w1.heap.size (w1.heap.size + 1) p w9) := p9
    have c9 : w9.cell? ⟨w.heap.size, 6, none⟩ = some (.slice ad n c) := by rw [(HC.out _ _ P9.out).cell]; rfl
    clear p9 hp c7a P7
    go_wp2
    clear c9
    go_loopw [58] (fun v wr => ∃ k : Nat, v = .int .i64 k ∧ k ≤ n ∧ Hid (PS w1 w1.heap.size w1.heap.size (w1.heap.size + 1) (p ++ xsL (xs.take k)) wr)) (fun v _ => n - (intOf v).toNat)
    case atStart => exact ⟨0, rfl, Nat.zero_le _, by (show PS w1 w1.heap.size w1.heap.size (w1.heap.size + 1) (p ++ xsL []) w9; rw [show xsL [] = [] from rfl, List.append_nil]; exact P9.out)⟩
    case round =>
      obtain ⟨k, rfl, hk, PR⟩ := hrel
      have HBr : Hid (Below w.heap.size w wr) := HB.out.trans (PR.out.bel.mono (by omega))
      have hzr : w1.heap.size ≤ wr.heap.size := PR.out.le
      have hzg := PR.out.box.lt
      by_cases hlt : k < n
      · have hkz : (k : Int) < (n : Nat) := by omega
        obtain ⟨x, hx⟩ : ∃ x, xs[k]? = some x := ⟨xs[k]'(by rw [HL.out]; exact hlt), List.getElem?_eq_getElem _⟩
        obtain ⟨g, o, rfl, hg2, hc1, hc2, _, _⟩ := HX.out.below HBr.out k x hx
        have hxs := HS.out x (List.mem_of_getElem? hx)
        have HTK : Hid (xsL (xs.take (k + 1)) = xsL (xs.take k) ++ tx x.1 ++ tx x.2) := by
          show _ = _
          rw [List.take_add_one, hx, Option.toList_some, xsL_app, xsL_one, List.append_assoc]
        have hlen : (xsL (xs.take k)).length ≤ 70000 := by
          have := xsL_len (xs.take k) (fun y hy => HS.out y (List.mem_of_mem_take hy))
          have h2 : (xs.take k).length ≤ 16 := by rw [List.length_take]; omega
          omega
        obtain ⟨q, hq⟩ : ∃ q, xsL (xs.take k) = q := ⟨_, rfl⟩
        rw [hq] at PR HTK hlen
        obtain ⟨x1, x2⟩ := x
        simp only at hc1 hc2 hxs HTK
        have q7 := tx_len x1 (by omega)
        have PU : Hid (PS w1 w1.heap.size w1.heap.size (w1.heap.size + 1) (p ++ q) (wr.alloc (.cells #[.string x1, .string x2] 56))) := PR.out.keep ((Below.refl _ _).alloc (Nat.le_refl _) _)
        have HU : Hid (Bk (wr.alloc (.cells #[.string x1, .string x2] 56)) wr.heap.size #[.string x1, .string x2] 56) := bk_new _ _ _
        clear hx hq
        go_wp2_with fail
        refine (ptxt_any _ _ _ _ _ x1 _ PU.out (by omega) (by simp only [List.length_append]; omega)).mono ?_
        rintro e w10 ⟨rfl, p10, o10⟩
        have P10 : Hid (PS w1 w1.heap.size w1.heap.size (w1.heap.size + 1) (p ++ q ++ tx x1) w10) := p10
        have c10 : w10.cell? ⟨wr.heap.size, 1, none⟩ = some (.string x2) := by
          have hbk := oth_bk o10 HU.out (by omega) (by decide)
          rw [hbk.cell]; rfl
        clear p10 o10
        go_wp2_with fail
        refine (ptxt_any _ _ _ _ _ x2 _ P10.out (by omega) (by simp only [List.length_append]; omega)).mono ?_
        rintro e w11 ⟨rfl, p11, o11⟩
        have P11 : Hid (PS w1 w1.heap.size w1.heap.size (w1.heap.size + 1) (p ++ xsL (xs.take (k + 1))) w11) := by rw [HTK.out, ← List.append_assoc, ← List.append_assoc]; exact p11
        clear p11 o11
        go_wp2
        go_roundw
        case rel => exact ⟨k + 1, by go_num, by omega, P11.out⟩
        case measure => simp [intOf]; omega
      · have hkz : ¬ (k : Int) < (n : Nat) := by omega
        have PE : Hid (PS w1 w1.heap.size w1.heap.size (w1.heap.size + 1) (lay ⟨nd, md, ui, gi, (m : Int), tg, xs⟩) wr) := by
          rw [HP.out]
          have := PR.out
          rw [List.take_of_length_le (by rw [HL.out]; omega)] at this
          exact this
        go_wp2_with fail
        refine PE.out.str.mono ?_
        rintro e w12 ⟨rfl, hb12, hz12⟩
        have HF : Hid (Below w.heap.size w w12) := HB.out.trans (hb12.mono (by omega))
        clear hb12
        go_wp2
        go_ret2
        exact ⟨rfl, HF.out⟩
end Go.Proofs.YtcfniaknbbgheaaDoor
