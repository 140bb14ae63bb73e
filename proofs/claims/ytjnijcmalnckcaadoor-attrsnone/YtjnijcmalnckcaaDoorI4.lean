/- attrs.putter and its closures. -/
import Derived.Test.YtjnijcmalnckcaaDoorI3
import Derived.Test.YtjnijcmalnckcaaDoorN8B
import Derived.Test.YtjnijcmalnckcaaDoorW2
import Derived.RegionTactic
namespace Go.Proofs.YtjnijcmalnckcaaDoor
open Go.RowKit
set_option linter.unusedSimpArgs false
set_option linter.unusedVariables false
theorem oth_bk {b k : Nat} {w w' : World} {C : Array Value} {T : TypeId} (h : Oth b w w') (hb : Bk w k C T) (hk : k ≠ b) (hT : T ≠ 5) : Bk w' k C T :=
  h k _ hb (by simpa using hk) (fun c fz e => hT (by injection e))
theorem grn_keep10 {w w' : World} (h : Below w.heap.size w w') : w.grownBy w' none := ⟨h.os, h.tape, h.output, h.size, fun i hi _ => h.block i hi⟩
theorem bldAt_keep10 {B b : Nat} {p : Value} {l : List Value} {w w' : World} (h : Lib.BuilderAtF 64 5 B b p l w) (hb : Below w.heap.size w w') : Lib.BuilderAtF 64 5 B b p l w' := by
  obtain ⟨h1, v, h2, h3, h4⟩ := h
  have hlt : b < w.heap.size := (Array.getElem?_eq_some_iff.1 h2).1
  exact ⟨h1, v, (hb.block b hlt).trans h2, h3.kept (grn_keep10 hb) (by cases v.ownBlock <;> simp), h4⟩
theorem bld_keep10 {B b : Nat} {l : List UInt8} {w w' : World} (h : Bld B b l w) (hb : Below w.heap.size w w') : Bld B b l w' := by
  rcases h with h | h
  · exact .inl (bldAt_keep10 h hb)
  · exact .inr (bldAt_keep10 h hb)
theorem oth_below {b : Nat} {w w' : World} (h : Below w.heap.size w w') : Oth b w w' := fun k o hk _ _ => (h.block k (Array.getElem?_eq_some_iff.1 hk).1).trans hk
/-- Bytes that are put: the builder b behind the box g, all below B as it was. -/
structure PS (w0 : World) (B b g : Nat) (pre : List UInt8) (w : World) : Prop where
  bld : Bld B b pre w
  box : Bk w g #[.pointer (some ⟨b, 0, none⟩)] 62
  ne : g ≠ b
  bel : Below B w0 w
  le : B ≤ w.heap.size
theorem PS.keep {w0 : World} {B b g : Nat} {pre : List UInt8} {w w' : World} (h : PS w0 B b g pre w) (hb : Below w.heap.size w w') : PS w0 B b g pre w' :=
  ⟨bld_keep10 h.bld hb, h.box.below hb h.box.lt, h.ne, h.bel.trans (hb.mono h.le), Nat.le_trans h.le hb.size⟩
theorem PS.drew {w0 : World} {B b g : Nat} {pre : List UInt8} {w : World} (h : PS w0 B b g pre w) : PS w0 B b g pre w.drew := h.keep (Below.refl _ _).drew
theorem PS.cell {w0 : World} {B b g : Nat} {pre : List UInt8} {w : World} (h : PS w0 B b g pre w) : w.cell? ⟨g, 0, none⟩ = some (.pointer (some ⟨b, 0, none⟩)) := by rw [h.box.cell]; rfl
theorem PS.write {w0 : World} {B b g : Nat} {pre : List UInt8} {w : World} (h : PS w0 B b g pre w) (s : ByteArray) (hs : pre.length + s.size ≤ 140737488355328) :
    Calls Tryd.prog 50 #[.pointer (some ⟨b, 0, none⟩), .string s] w fun e w' => e = .returned (.tuple #[.int .i64 s.size, .nilIface]) ∧ PS w0 B b g (pre ++ bl s) w' ∧ Oth b w w' :=
  (writeS B b pre s w h.bld hs h.le).mono fun e w' ⟨he, h1, h2, h3⟩ => ⟨he, ⟨h1, oth_bk h3 h.box h.ne (by decide), h.ne, h.bel.trans h2, Nat.le_trans h.le h2.size⟩, h3⟩
theorem putter_any (b : Nat) (w : World) : Calls Tryd.prog 26 #[.pointer (some ⟨b, 0, none⟩)] w fun e w' =>
    e = .returned (.tuple #[.func (.func 49) #[] #[.pointer (some ⟨w.heap.size, 0, none⟩)], .func (.func 52) #[] #[.pointer (some ⟨w.heap.size, 0, none⟩)]]) ∧ w' = w.alloc (.cells #[.pointer (some ⟨b, 0, none⟩)] 62) := by
  go_enter Tryd.func26, Tryd.ntmps26
  go_wp2
  go_ret2
  exact ⟨rfl, rfl⟩
theorem e8_bl (n : Nat) : bl ((⟨#[]⟩ : ByteArray) ++ sb (encS n)) = e8 n := by rw [bl_append, bl_sb]; rfl
theorem tx_bl (t : ByteArray) : bl ((⟨#[]⟩ : ByteArray) ++ sb (encS t.size) ++ t) = tx t := by rw [bl_append, e8_bl]; rfl
set_option maxHeartbeats 1000000 in
set_option maxRecDepth 100000 in
theorem pnum_any (w0 : World) (B b g : Nat) (pre : List UInt8) (x : Int) (w : World) (h : PS w0 B b g pre w) (h0 : 0 ≤ x) (h1 : x ≤ 18446744073709551615) (hl : pre.length ≤ 100000000) :
    Calls Tryd.prog 49 #[.int .u64 x, .pointer (some ⟨g, 0, none⟩)] w fun e w' => e = .returned (.tuple #[]) ∧ PS w0 B b g (pre ++ e8 x.toNat) w' ∧ Oth b w w' := by
  obtain ⟨P, hP⟩ : ∃ P : ByteArray, (⟨#[]⟩ : ByteArray) ++ sb (encS x.toNat) = P := ⟨_, rfl⟩
  have hPb : bl P = e8 x.toNat := by rw [← hP]; exact e8_bl _
  have hPs : P.size ≤ 10 := by rw [← bl_length, hPb]; exact e8_len _ (by omega)
  have C1 : Hid (∀ u, PS w0 B b g pre u → Oth b w u → Calls Tryd.prog 51 #[.string ⟨#[]⟩, .int .u64 x] u fun e w' => e = .returned (.string P) ∧ Hid (PS w0 B b g pre w' ∧ Oth b w w') ∧ w'.cell? ⟨g, 0, none⟩ = some (.pointer (some ⟨b, 0, none⟩))) := fun u hu ho => by
    refine (put_any ⟨#[]⟩ x u h0 h1 (Nat.zero_le _)).mono ?_
    rintro e w1 ⟨rfl, hb⟩
    exact ⟨by rw [hP], ⟨hu.keep hb, ho.trans (oth_below hb)⟩, (hu.keep hb).cell⟩
  have C2 : Hid (∀ u, PS w0 B b g pre u → Oth b w u → Calls Tryd.prog 50 #[.pointer (some ⟨b, 0, none⟩), .string P] u fun e w' => e = .returned (.tuple #[.int .i64 P.size, .nilIface]) ∧ Hid (PS w0 B b g (pre ++ e8 x.toNat) w' ∧ Oth b w w')) := fun u hu ho => by
    refine (hu.write P (by omega)).mono ?_
    rintro e w1 ⟨rfl, hb, h3⟩
    exact ⟨rfl, by rw [← hPb]; exact hb, ho.trans h3⟩
  have HP : Hid (PS w0 B b g pre w) := h
  have hc := h.cell
  have hgl := h.box.lt
  clear hP hPb h
  go_enter Tryd.func49, Tryd.ntmps49
  go_wp2
  go_region_with (first
    | (go_at_call 51; go_loud (refine (C1.out _ HP.out.drew (Lib.OthersKept.refl _ _ _).drew).mono ?_; rintro e w1 ⟨rfl, HQ, hc1⟩))
    | (go_at_call 50; go_loud (refine (C2.out _ HQ.out.1 HQ.out.2).mono ?_; rintro e w2 ⟨rfl, HR⟩)))
  all_goals go_wp2
  all_goals go_end0
  all_goals exact ⟨rfl, HR.out.1, HR.out.2⟩
set_option maxHeartbeats 1000000 in
set_option maxRecDepth 100000 in
theorem ptxt_any (w0 : World) (B b g : Nat) (pre : List UInt8) (x : ByteArray) (w : World) (h : PS w0 B b g pre w) (hx : x.size ≤ 1000000) (hl : pre.length ≤ 100000000) :
    Calls Tryd.prog 52 #[.string x, .pointer (some ⟨g, 0, none⟩)] w fun e w' => e = .returned (.tuple #[]) ∧ PS w0 B b g (pre ++ tx x) w' ∧ Oth b w w' := by
  obtain ⟨P, hP⟩ : ∃ P : ByteArray, (⟨#[]⟩ : ByteArray) ++ sb (encS x.size) ++ x = P := ⟨_, rfl⟩
  have hPb : bl P = tx x := by rw [← hP]; exact tx_bl _
  have hPs : P.size ≤ 1000010 := by rw [← bl_length, hPb]; have := tx_len x (by omega); omega
  have C1 : Hid (∀ u, PS w0 B b g pre u → Oth b w u → Calls Tryd.prog 53 #[.string ⟨#[]⟩, .string x] u fun e w' => e = .returned (.string P) ∧ Hid (PS w0 B b g pre w' ∧ Oth b w w') ∧ w'.cell? ⟨g, 0, none⟩ = some (.pointer (some ⟨b, 0, none⟩))) := fun u hu ho => by
    refine (putText_any ⟨#[]⟩ x u (Nat.zero_le _) (by omega)).mono ?_
    rintro e w1 ⟨rfl, hb⟩
    exact ⟨by rw [hP], ⟨hu.keep hb, ho.trans (oth_below hb)⟩, (hu.keep hb).cell⟩
  have C2 : Hid (∀ u, PS w0 B b g pre u → Oth b w u → Calls Tryd.prog 50 #[.pointer (some ⟨b, 0, none⟩), .string P] u fun e w' => e = .returned (.tuple #[.int .i64 P.size, .nilIface]) ∧ Hid (PS w0 B b g (pre ++ tx x) w' ∧ Oth b w w')) := fun u hu ho => by
    refine (hu.write P (by omega)).mono ?_
    rintro e w1 ⟨rfl, hb, h3⟩
    exact ⟨rfl, by rw [← hPb]; exact hb, ho.trans h3⟩
  have HP : Hid (PS w0 B b g pre w) := h
  have hc := h.cell
  have hgl := h.box.lt
  clear hP hPb h
  go_enter Tryd.func52, Tryd.ntmps52
  go_wp2
  go_region_with (first
    | (go_at_call 53; go_loud (refine (C1.out _ HP.out.drew (Lib.OthersKept.refl _ _ _).drew).mono ?_; rintro e w1 ⟨rfl, HQ, hc1⟩))
    | (go_at_call 50; go_loud (refine (C2.out _ HQ.out.1 HQ.out.2).mono ?_; rintro e w2 ⟨rfl, HR⟩)))
  all_goals go_wp2
  all_goals go_end0
  all_goals exact ⟨rfl, HR.out.1, HR.out.2⟩
theorem PS.byte {w0 : World} {B b g : Nat} {pre : List UInt8} {w : World} (h : PS w0 B b g pre w) (n : Nat) (hn : n < 256) (hs : pre.length ≤ 100000000) :
    Calls Tryd.prog 27 #[.pointer (some ⟨b, 0, none⟩), .int .u8 (n : Int)] w fun e w' => e = .returned .nilIface ∧ PS w0 B b g (pre ++ [UInt8.ofNat n]) w' ∧ Oth b w w' := by
  have e : (n : Int) = ((UInt8.ofNat n).toNat : Int) := by rw [toNat_ofNat8 n hn]
  rw [e]
  exact (writeB B b pre (UInt8.ofNat n) w h.bld (by omega) h.le).mono fun e w' ⟨he, h1, h2, h3⟩ => ⟨he, ⟨h1, oth_bk h3 h.box h.ne (by decide), h.ne, h.bel.trans h2, Nat.le_trans h.le h2.size⟩, h3⟩
theorem PS.str {w0 : World} {B b g : Nat} {pre : List UInt8} {w : World} (h : PS w0 B b g pre w) :
    Calls Tryd.prog 28 #[.pointer (some ⟨b, 0, none⟩)] w fun e w' => e = .returned (.string ⟨pre.toArray⟩) ∧ Below B w0 w' ∧ B ≤ w'.heap.size :=
  (buildS B b pre w h.bld h.le).mono fun e w' ⟨he, h1, h2, h3⟩ => ⟨he, h.bel.trans h2, Nat.le_trans h.le h2.size⟩
theorem PS.begin (w : World) : PS w w.heap.size w.heap.size (w.heap.size + 1) [] ((w.alloc (.cells #[.pointer none, .slice none 0 0] 64)).alloc (.cells #[.pointer (some ⟨w.heap.size, 0, none⟩)] 62)) := by
  refine ⟨(fresh_bld w).alloc _, ?_, by omega, ((Below.refl _ w).alloc (Nat.le_refl _) _).alloc (by simp) _, by simp; omega⟩
  have h := bk_new (w.alloc (.cells #[.pointer none, .slice none 0 0] 64)) #[.pointer (some ⟨w.heap.size, 0, none⟩)] 62
  rw [al_size] at h
  exact h
theorem pnum_nat (w0 : World) (B b g : Nat) (pre : List UInt8) (x : Nat) (w : World) (h : PS w0 B b g pre w) (h1 : x ≤ 18446744073709551615) (hl : pre.length ≤ 100000000) :
    Calls Tryd.prog 49 #[.int .u64 (x : Int), .pointer (some ⟨g, 0, none⟩)] w fun e w' => e = .returned (.tuple #[]) ∧ PS w0 B b g (pre ++ e8 x) w' ∧ Oth b w w' := by
  have := pnum_any w0 B b g pre (x : Int) w h (by omega) (by omega) hl
  rw [Int.toNat_natCast] at this
  exact this
end Go.Proofs.YtjnijcmalnckcaaDoor
