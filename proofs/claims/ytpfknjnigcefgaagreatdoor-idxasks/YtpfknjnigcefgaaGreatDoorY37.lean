import Derived.Test.YtpfknjnigcefgaaGreatDoorY28
import Derived.Test.YtpfknjnigcefgaaGreatDoorY18
import Derived.Test.YtpfknjnigcefgaaGreatDoorY16
import Derived.Test.YtpfknjnigcefgaaGreatDoorY6
import Derived.Test.YtpfknjnigcefgaaGreatDoorY1
import Derived.BigQuiet
import Derived.Deep.QuietTactic
import Derived.StillTail
import Derived.Deep.Quiet
import Derived.Test.YtpfknjnigcefgaaGreatDoorY4
/- The walks of the document's own step, On, Crc (munimentref03). -/
namespace Go.Proofs.YtpfknjnigcefgaaGreatDoor
open Go.RowKit
set_option linter.unusedSimpArgs false
set_option linter.unusedVariables false
theorem half_raw (m : BitVec 32) : (m.toNat : Int) / (2 : Int) = ((m >>> 1).toNat : Int) := by rw [BitVec.toNat_ushiftRight, Nat.shiftRight_eq_div_pow]; omega
theorem lsb_mod (m : BitVec 32) : m.getLsbD 0 = decide (m.toNat % 2 = 1) := by
  rw [BitVec.getLsbD, Nat.testBit_zero]
theorem sh1_odd (m : BitVec 32) (h : m.toNat % 2 = 1) : bits .xor .u32 ((m.toNat : Int) / 2) 3988292384 = ((sh1 m).toNat : Int) := by
  rw [half_raw, poly32, xor32, sh1, lsb_mod, decide_eq_true h, if_pos rfl]
theorem sh1_even (m : BitVec 32) (h : ¬ m.toNat % 2 = 1) : (m.toNat : Int) / 2 = ((sh1 m).toNat : Int) := by
  rw [half_raw, sh1, lsb_mod, decide_eq_false h]
  simp
set_option maxHeartbeats 400000 in
set_option maxRecDepth 100000 in
theorem rstep_any (n : BitVec 32) (b : Nat) (w : World) (hb : b < 256) :
    Calls Tryz.prog 156 #[c32 n, .int .u8 b] w fun e w' => e = .returned (c32 (cst n (UInt8.ofNat b))) ∧ w' = w := by
  obtain ⟨m0, hm0⟩ : ∃ m0, m0 = n ^^^ BitVec.ofNat 32 (UInt8.ofNat b).toNat := ⟨_, rfl⟩
  have HX : Hid (bits .xor .u32 (n.toNat : Int) (b : Int) = (m0.toNat : Int)) := by rw [hm0, ← xor32, ← ofByte b hb]; rfl
  have HM : Hid (m0 = n ^^^ BitVec.ofNat 32 (UInt8.ofNat b).toNat) := hm0
  clear hm0
  go_enter Tryz.func156, Tryz.ntmps156
  go_wp2
  rw [HX.out]
  go_loop [0, 5] (fun v i => ∃ (k : Nat) (m : BitVec 32), k ≤ 8 ∧ i = .int .i64 k ∧ v = c32 m ∧ Hid (m = shN32 k m0)) (fun _ i => 8 - (intOf i).toNat)
  case atStart => exact ⟨0, m0, by omega, rfl, rfl, rfl⟩
  case round =>
    obtain ⟨k, m, hk, rfl, rfl, HR⟩ := hrel
    have hlt32 := m.isLt
    by_cases hlt : k < 8
    · by_cases ho : m.toNat % 2 = 1
      · have h1 : (((m.toNat : Int) % 2) == 1) = true := by rw [beq_iff_eq]; omega
        have HO : Hid (m.toNat % 2 = 1) := ho
        clear ho
        go_wp2
        go_round
        case rel => exact ⟨k + 1, sh1 m, by omega, by go_num, by rw [sh1_odd m HO.out], by show sh1 m = _; rw [HR.out]; rfl⟩
        case measure => simp [intOf]; omega
      · have h1 : (((m.toNat : Int) % 2) == 1) = false := by rw [beq_eq_false_iff_ne]; omega
        have HO : Hid (¬ m.toNat % 2 = 1) := ho
        clear ho
        go_wp2
        go_round
        case rel => exact ⟨k + 1, sh1 m, by omega, by go_num, by rw [sh1_even m HO.out], by show sh1 m = _; rw [HR.out]; rfl⟩
        case measure => simp [intOf]; omega
    · go_wp2
      go_ret
      have e : k = 8 := by omega
      refine ⟨ret_i32 ?_, rfl⟩
      rw [HR.out, e, HM.out]; rfl
set_option maxHeartbeats 400000 in
set_option maxRecDepth 100000 in
theorem ron_any (c : BitVec 32) (s : ByteArray) (w : World) (hs : s.size ≤ maxLen) :
    Calls Tryz.prog 150 #[c32 c, .string s] w fun e w' => e = .returned (c32 (onC c (bl s))) ∧ w' = w := by
  unfold maxLen at hs
  have hsg : IntKind.u32.signed = false := rfl
  have hmx := max32
  obtain ⟨d, hd⟩ : ∃ d, d = ~~~ c := ⟨_, rfl⟩
  have HD : Hid (d = ~~~ c) := hd
  clear hd
  go_enter Tryz.func150, Tryz.ntmps150
  go_wp2
  rw [not32, ← HD.out]
  go_loop [5, 6] (fun v i => ∃ (k : Nat) (m : BitVec 32), k ≤ s.size ∧ i = .int .i64 k ∧ v = c32 m ∧ Hid (m = crcR d ((bl s).take k))) (fun _ i => s.size - (intOf i).toNat)
  case atStart => exact ⟨0, d, by omega, rfl, rfl, rfl⟩
  case round =>
    obtain ⟨k, m, hk, rfl, rfl, HM⟩ := hrel
    by_cases hlt : k < s.size
    · go_wp2_with fail
      refine (rstep_any m s[k].toNat _ s[k].toNat_lt).mono ?_
      rintro e w1 ⟨rfl, hw1⟩
      subst hw1
      rw [UInt8.ofNat_toNat]
      go_wp2
      go_round
      case rel => exact ⟨k + 1, cst m s[k], by omega, by go_num, rfl, by show cst m s[k] = _; rw [HM.out, take_snoc s k hlt, crcR_snoc]⟩
      case measure => simp [intOf]; omega
    · go_wp2
      go_ret
      have e : k = s.size := by omega
      refine ⟨ret_i32 ?_, rfl⟩
      rw [not32, HM.out, e, HD.out, List.take_of_length_le (by rw [bl_length]; exact Nat.le_refl _)]
      rfl
set_option maxHeartbeats 400000 in
theorem rcrc_any (s : ByteArray) (w : World) (hs : s.size ≤ maxLen) :
    Calls Tryz.prog 141 #[.string s] w fun e w' => e = .returned (c32 (crcC (bl s))) ∧ w' = w := by
  go_enter Tryz.func141, Tryz.ntmps141
  go_wp2_with fail
  refine (ron_any 0#32 s _ hs).mono ?_
  rintro e w1 ⟨rfl, hb⟩
  subst hb
  go_wp2
  go_ret
  exact ⟨rfl, rfl⟩
end Go.Proofs.YtpfknjnigcefgaaGreatDoor
/- The walks of the document's own Laid, Frame, Unframe (munimentref03). -/
namespace Go.Proofs.YtpfknjnigcefgaaGreatDoor
open Go.RowKit
set_option linter.unusedSimpArgs false
set_option linter.unusedVariables false
set_option maxHeartbeats 400000 in
theorem laid_any (p : ByteArray) (w : World) (hp : p.size ≤ 67108864) :
    Calls Tryz.prog 114 #[.string p] w fun e w' => e = .returned (.string (frm p)) ∧ Below w.heap.size w w' := by
  go_enter Tryz.func114, Tryz.ntmps114
  go_wp2_with fail
  refine (rfix_any p.size 4 _ (by omega) (by omega) (by omega) (by omega)).mono ?_
  rintro e w1 ⟨rfl, hb1⟩
  rw [emp_append]
  obtain ⟨a, ha⟩ : ∃ a, a = sb (fixN 4 p.size) := ⟨_, rfl⟩
  rw [← ha]
  have hal : a.size ≤ 4 := by rw [ha, sb4_size]; omega
  have HA : Hid (a = sb (fixN 4 p.size)) := ha
  clear ha
  go_wp2_with fail
  refine (rcrc_any (a ++ p) _ (by rw [append_size]; unfold maxLen; omega)).mono ?_
  rintro e w2 ⟨rfl, hw2⟩
  subst hw2
  obtain ⟨q, hq⟩ : ∃ q : BitVec 32, q = crcC (bl (a ++ p)) := ⟨_, rfl⟩
  rw [← hq]
  have HQ : Hid (q = crcC (bl a ++ bl p)) := by show q = _; rw [hq, bl_append]
  have hlt := q.isLt
  clear hq
  go_wp2_with fail
  refine (rfix_any q.toNat 4 _ (by omega) (by omega) (by omega) (by omega)).mono ?_
  rintro e w3 ⟨rfl, hb3⟩
  rw [emp_append]
  obtain ⟨h, hh⟩ : ∃ h, h = sb (fixN 4 q.toNat) := ⟨_, rfl⟩
  rw [← hh]
  have hhz : h.size ≤ 4 := by rw [hh, sb4_size]; omega
  have HH : Hid (h = sb (fixN 4 q.toNat)) := hh
  clear hh
  go_wp2
  go_ret
  refine ⟨ret_str ?_, ?_⟩
  · rw [HH.out, HQ.out, HA.out]; exact frm_eq p
  · exact hb1.trans (hb3.mono hb1.size)
end Go.Proofs.YtpfknjnigcefgaaGreatDoor
/- The document's own Put, PutText, Len. -/
namespace Go.Proofs.YtpfknjnigcefgaaGreatDoor
open Go.RowKit
set_option linter.unusedSimpArgs false
set_option linter.unusedVariables false
/-- One byte, as a slice of its own, as a string. -/
theorem put_more (s a : ByteArray) (n y : Nat) (v : Int) (h : a ++ sb (encS y) = s ++ sb (encS n)) (hy : 128 ≤ y) (hy2 : y < 2 ^ 64) (hv : v = (y % 128 + 128 : Nat)) :
    (a ++ strOfNums [v]) ++ sb (encS (y / 128)) = s ++ sb (encS n) := by
  rw [← h, encS_step y hy hy2, one_is _ v hv]
  apply bl_inj
  simp [bl_append, bl_sb, by8]
theorem put_done (s a : ByteArray) (n y : Nat) (v : Int) (h : a ++ sb (encS y) = s ++ sb (encS n)) (hy : y < 128) (hv : v = (y : Nat)) : a ++ strOfNums [v] = s ++ sb (encS n) := by
  rw [← h, encS_small y hy, one_is _ v hv]
theorem slen_step (y : Nat) (h : 128 ≤ y) (hy : y < 2 ^ 64) : slen y = slen (y / 128) + 1 := by
  rw [← encS_length y, ← encS_length (y / 128), encS_step y h hy]; rfl
set_option maxHeartbeats 400000 in
set_option maxRecDepth 100000 in
theorem rput_any (s : ByteArray) (x : Int) (w : World) (h0 : 0 ≤ x) (h1 : x ≤ 18446744073709551615) (hs : s.size ≤ 4611686018427387904) :
    Calls Tryz.prog 115 #[.string s, .int .u64 x] w fun e w' => e = .returned (.string (s ++ sb (encS x.toNat))) ∧ Below w.heap.size w w' := by
  obtain ⟨n, rfl⟩ := Int.eq_ofNat_of_zero_le h0
  rw [Int.toNat_natCast]
  have hc1 := conv1
  have hz1 := one_size
  have hn : n < 18446744073709551616 := by omega
  go_enter Tryz.func115, Tryz.ntmps115
  go_wp2
  go_loopw [0, 1] (fun v i wr => ∃ (y : Nat) (a : ByteArray), i = .int .u64 y ∧ y < 18446744073709551616 ∧ v = .string a ∧ a.size + slen y = s.size + slen n ∧ Hid (a ++ sb (encS y) = s ++ sb (encS n)) ∧ Below w.heap.size w wr) (fun _ i _ => (intOf i).toNat)
  case atStart => exact ⟨n, s, rfl, hn, rfl, rfl, rfl, Below.refl _ _⟩
  case round =>
    obtain ⟨y, a, rfl, hy, rfl, haz, HE, hbel⟩ := hrel
    have hb0 := hbel.size
    have l1 := slen_le n (by omega)
    have hab : a.size ≤ 4611686018427387914 := by omega
    have HZ : Hid (a.size + slen y = s.size + slen n) := haz
    clear haz
    by_cases hy1 : 128 ≤ y
    · go_wp2
      go_roundw
      case rel => exact ⟨y / 128, _, by go_num, by omega, rfl, by rw [append_size, one_size]; have := slen_step y hy1 (by omega); have := HZ.out; omega, put_more s a n y _ HE.out hy1 (by omega) (by omega), hbel.alloc hb0 _⟩
      case measure => simp [intOf]; omega
    · go_wp2
      go_ret
      exact ⟨ret_str (put_done s a n y _ HE.out (by omega) rfl), hbel.alloc hb0 _⟩
end Go.Proofs.YtpfknjnigcefgaaGreatDoor
/- A region that draws its order, over a class of worlds of one's own: each operation gives the same value in every world of the class. -/
namespace Go.Proofs.YtpfknjnigcefgaaGreatDoor
open Go.RowKit
set_option linter.unusedSimpArgs false
set_option linter.unusedVariables false
theorem wp_region_class {P : Program} {id : Nat} {Q : Exit → Act → World → Prop} {a : Act} {w : World} {l : List Oper} (C : World → Prop) (hm : P.follows .mixedOrders = true) (hB : Region.lexB .any l.toArray = true) (hC : C w.drew)
    (h : wpQuiet P l.toArray C (fun a' => ∀ w', C w' → Q .normal a' w') l a) : (Code.region id l.toArray true).wp P Q a w :=
  wp_region_quiet (C := C) hm hB hC (by simpa using h)
theorem quiet_valE {P : Program} {o : Oper} {a : Act} {C : World → Prop} {K : Act → Prop} (v : Value) (h : ∀ w, C w → (execOp a.eval o).run P w = .ok (.value v) w) (hn : K (a.put o.dst v)) : o.quiet P a C K :=
  ⟨v, fun w hw => by unfold Oper.quietAt; rw [h w hw]; exact ⟨rfl, rfl⟩, hn⟩
theorem quiet_callE {P : Program} {o : Oper} {a : Act} {C : World → Prop} {K : Act → Prop} (v : Value) (f : FuncId) (args : Array Value) (h : ∀ w, C w → (execOp a.eval o).run P w = .ok (.enter f args) w)
    (hc : ∀ w, C w → Calls P f args w (fun e w'' => e = .returned v ∧ C w'')) (hn : K (a.put o.dst v)) : o.quiet P a C K :=
  ⟨v, fun w hw => by unfold Oper.quietAt; rw [h w hw]; exact ⟨rfl, hc w hw⟩, hn⟩
theorem quiet_str {o : Oper} {a : Act} {C : World → Prop} {K : Act → Prop} (x : Operand) (ho : o.op = .load 9 x) (g f : Nat) (s : ByteArray) (hx : a.eval x = .pointer (some ⟨g, f, none⟩))
    (hc : ∀ w, C w → w.cell? ⟨g, f, none⟩ = some (.string s)) (hn : K (a.put o.dst (.string s))) : o.quiet Tryz.prog a C K :=
  quiet_valE (.string s) (fun w hw => by
    have h := hc w hw
    have ha : (isAgg 9).run Tryz.prog w = .ok false w := by kernel_rfl
    unfold execOp
    simp [ho, hx, Instr.loadAt, Instr.sureAddr, loadVar, ha, h]) hn
end Go.Proofs.YtpfknjnigcefgaaGreatDoor
/- A region that draws its order: its first operations quiet in a class of worlds, in whatever order; the last ones, which wait for all of these, one behind the other. -/
namespace Go.Proofs.YtpfknjnigcefgaaGreatDoor
open Go.RowKit
set_option linter.unusedSimpArgs false
set_option linter.unusedVariables false
end Go.Proofs.YtpfknjnigcefgaaGreatDoor
/- The document's own sum, cut into its loops; what lies in memory while a block's numbers are made. -/
namespace Go.Proofs.YtpfknjnigcefgaaGreatDoor
open Go.RowKit
set_option linter.unusedSimpArgs false
set_option linter.unusedVariables false
/-- The bodies of a text's loops, the outer ones first. -/
def loopsOf : Code → List Code
  | .loop c => c :: loopsOf c
  | .seq a b => loopsOf a ++ loopsOf b
  | .block _ c => loopsOf c
  | .scope c => loopsOf c
  | .cond _ a b => loopsOf a ++ loopsOf b
  | _ => []
noncomputable def sumLoop (k : Nat) : Code := ((Tryz.f47.body.map loopsOf).getD []).getD k .skip
/-- k of a block's numbers are laid. -/
structure Sq (w : World) (X : Nat) (m : List Nat) (k : Nat) (C : Array Value) (wr : World) : Prop where
  blk : Blk wr X C 100
  grown : w.grownBy wr (some X)
  csz : C.size = 64
  got : ∀ j, j < k → C[j]? = some (c32 ((sch m 64).getD j 0))
  all : ∀ j, j < 64 → ∃ x : BitVec 32, C[j]? = some (c32 x)
theorem Sq.drew {w : World} {X : Nat} {m : List Nat} {k : Nat} {C : Array Value} {wr : World} (h : Sq w X m k C wr) : Sq w X m k C wr.drew :=
  ⟨h.blk, Lib.Hx.grownBy_drew h.grown, h.csz, h.got, h.all⟩
theorem Sq.drewN {w : World} {X : Nat} {m : List Nat} {k : Nat} {C : Array Value} {wr : World} (h : Sq w X m k C wr) (n : Nat) : Sq w X m k C (wr.drewN n) := by
  induction n with
  | zero => exact h
  | succ n ih => exact ih.drew
theorem Sq.put {w : World} {X : Nat} {m : List Nat} {k : Nat} {C : Array Value} {wr : World} (h : Sq w X m k C wr) (hk : k < 64) (x : BitVec 32) (hx : (sch m 64).getD k 0 = x) :
    Sq w X m (k + 1) (C.setIfInBounds k (c32 x)) (wr.setCell ⟨X, k, none⟩ (c32 x)) where
  blk := h.blk.set k _
  grown := Lib.grownBy_setB h.grown k _
  csz := by rw [Array.size_setIfInBounds]; exact h.csz
  got := fun j hj => by
    rw [Array.getElem?_setIfInBounds]
    split
    · rename_i e; subst e; rw [if_pos (by rw [h.csz]; exact hk), hx]
    · exact h.got j (by omega)
  all := fun j hj => by
    rw [Array.getElem?_setIfInBounds]
    split
    · exact ⟨x, by rw [if_pos (by rw [h.csz]; omega)]⟩
    · exact h.all j hj
theorem Sq.word {w : World} {X : Nat} {m : List Nat} {k : Nat} {C : Array Value} {wr : World} (h : Sq w X m k C wr) (j : Nat) (hj : j < k) :
    ∃ y : BitVec 32, wr.cell? ⟨X, j, none⟩ = some (c32 y) ∧ Hid (y = (sch m 64).getD j 0) := ⟨_, by rw [h.blk.cell, h.got j hj], rfl⟩
theorem Sq.whole {w : World} {X : Nat} {m : List Nat} {C : Array Value} {wr : World} (h : Sq w X m 64 C wr) : C = w64c m := by
  unfold w64c
  apply Array.ext_getElem?
  intro i
  by_cases hi : i < 64
  · rw [h.got i hi]
    simp only [List.getElem?_toArray, List.getElem?_map, List.getD]
    rw [List.getElem?_eq_getElem (by rw [sch_length]; exact hi)]
    rfl
  · rw [Array.getElem?_eq_none (by rw [h.csz]; omega), Array.getElem?_eq_none (by simp [sch_length]; omega)]
theorem Sq.start (w : World) (X : Nat) (m : List Nat) (Z : Array Value) (hZ : Z = Array.replicate 64 (c32 0)) (h : Blk w X Z 100) : Sq w X m 0 Z w :=
  ⟨h, World.grownBy.refl _ _, by rw [hZ]; simp, fun j hj => by omega, fun j hj => ⟨0, by rw [hZ]; simp [hj]⟩⟩
theorem drewN_more {w w' : World} {n : Nat} (h : ∃ m, w' = (w.drewN n).drewN m) : ∃ k, w' = w.drewN k := by
  obtain ⟨m, rfl⟩ := h
  refine ⟨n + m, ?_⟩
  simp [World.drewN, Nat.add_assoc]
theorem turn_int (x : BitVec 32) (k : Int) (w : World) (h0 : 1 ≤ k) (h1 : k ≤ 31) :
    Calls Tryz.prog 89 #[.int .u32 x.toNat, .int .i64 k] w fun e w' => e = .returned (.int .u32 (rr k.toNat x).toNat) ∧ ∃ nq, w' = w.drewN nq := by
  have h := turn_any x k.toNat w (by omega) (by omega)
  rwa [show ((k.toNat : Nat) : Int) = k from by omega] at h
/-- k of the numbers are added. -/
structure Aq (w : World) (HB : Nat) (h v : V8) (k : Nat) (g : V8) (wr : World) : Prop where
  st : Blk wr HB (v8c g) 98
  grown : w.grownBy wr (some HB)
  done : ∀ j, j < 8 → g.list.getD j 0 = if j < k then h.list.getD j 0 + v.list.getD j 0 else h.list.getD j 0
theorem Aq.drewN {w : World} {HB : Nat} {h v : V8} {k : Nat} {g : V8} {wr : World} (H : Aq w HB h v k g wr) (n : Nat) : Aq w HB h v k g (wr.drewN n) := ⟨H.st, H.grown.trans (grown_drewN wr n _), H.done⟩
theorem v8c_setk (g : V8) (k : Nat) (x : BitVec 32) (hk : k < 8) : (v8c g).setIfInBounds k (c32 x) = v8c (g.setk k x) := by
  apply Array.ext_getElem?
  intro i
  rw [Array.getElem?_setIfInBounds, v8c_size]
  by_cases hi : i < 8
  · rw [v8c_get _ _ hi, v8c_get _ _ hi, setk_get _ _ _ _ hi]
    split
    · rfl
    · rfl
  · rw [if_neg (by omega), Array.getElem?_eq_none (by rw [v8c_size]; omega), Array.getElem?_eq_none (by rw [v8c_size]; omega)]
theorem Aq.put {w : World} {HB : Nat} {h v : V8} {k : Nat} {g : V8} {wr : World} (H : Aq w HB h v k g wr) (hk : k < 8) :
    Aq w HB h v (k + 1) (g.setk k (g.list.getD k 0 + v.list.getD k 0)) (wr.setCell ⟨HB, k, none⟩ (c32 (g.list.getD k 0 + v.list.getD k 0))) where
  st := by rw [← v8c_setk _ _ _ hk]; exact H.st.set k _
  grown := Lib.grownBy_setB H.grown k _
  done := fun j hj => by
    rw [setk_get _ _ _ _ hj]
    split
    · rename_i e; subst e; rw [if_pos (by omega), H.done k hk, if_neg (by omega)]
    · rw [H.done j hj]
      by_cases e : j < k
      · rw [if_pos e, if_pos (by omega)]
      · rw [if_neg e, if_neg (by omega)]
theorem t1_raw (v : V8) (k x : BitVec 32) : ((((v.h.toNat : Int) + bits .xor .u32 (bits .xor .u32 ((rr 6 v.e).toNat : Int) ((rr 11 v.e).toNat : Int)) ((rr 25 v.e).toNat : Int) + bits .xor .u32 (bits .and .u32 (v.e.toNat : Int) (v.f.toNat : Int)) (bits .and .u32 (bits .xor .u32 IntKind.u32.max (v.e.toNat : Int)) (v.g.toNat : Int)) + (k.toNat : Int)) % 4294967296 + (x.toNat : Int)) % 4294967296) = ((v.t1 k x).toNat : Int) := by
  rw [ch_raw, xor32, xor32]
  simp only [V8.t1, bsE, BitVec.toNat_add]
  omega
theorem t2_raw (v : V8) : (bits .xor .u32 (bits .xor .u32 ((rr 2 v.a).toNat : Int) ((rr 13 v.a).toNat : Int)) ((rr 22 v.a).toNat : Int) + bits .xor .u32 (bits .xor .u32 (bits .and .u32 (v.a.toNat : Int) (v.b.toNat : Int)) (bits .and .u32 (v.a.toNat : Int) (v.c.toNat : Int))) (bits .and .u32 (v.b.toNat : Int) (v.c.toNat : Int))) % 4294967296 = (v.t2.toNat : Int) := by
  rw [mj_raw, xor32, xor32]
  simp only [V8.t2, bsA, BitVec.toNat_add]
  omega
theorem grown_setRow (w : World) (g : Nat) (C : Array Value) : w.grownBy (w.setRow g C) (some g) :=
  ⟨rfl, rfl, rfl, by simp, fun k _ hk => setRow_other w g k _ (fun e => hk (by rw [e]))⟩
theorem info_8v : (Tryz.prog.info? 98).map (·.size) = some 8 := by kernel_rfl
end Go.Proofs.YtpfknjnigcefgaaGreatDoor
/- The first sixteen numbers of a block, in the document's own sum. -/
namespace Go.Proofs.YtpfknjnigcefgaaGreatDoor
open Go.RowKit
set_option linter.unusedSimpArgs false
set_option linter.unusedVariables false
set_option maxHeartbeats 4000000 in
set_option maxRecDepth 100000 in
theorem loop3 (Q : Exit → Act → World → Prop) (g M cap at_ X : Nat) (m : List Nat) (Z : Array Value) (w : World) (q0 q1 q2 q3 q4 q5 q6 q11 q12 q13 q14 q15 q16 q17 q18 q19 q20 q21 q22 q23 q24 q25 q26 q27 q28 q29 q30 q31 q32 q33 q34 q35 q36 q37 q38 q39 q40 q41 q42 q43 q44 q45 q46 q47 q48 q49 q50 q51 q52 q53 q54 q55 q56 q57 q58 q59 q60 q61 q62 q63 q64 q65 q66 q67 q68 q69 q70 q71 q72 q73 q74 q75 q76 q77 q78 q79 q80 q81 q82 q83 q84 q85 q86 q87 q88 q89 q90 q91 q92 q93 q94 q95 q96 q97 q98 q99 q100 q101 q102 q103 q104 q105 q106 q107 q108 q109 q110 q111 q112 q113 q114 q115 q116 q117 q118 q119 q120 q121 q122 q123 q124 q125 q126 q127 q128 q129 q130 q131 q132 q133 q134 q135 q136 q137 q138 q139 q140 q141 q142 q143 q144 q145 q146 q147 q148 q149 q150 q151 q152 q153 q154 q155 q156 q157 q158 q159 q160 q161 q162 q163 q164 q165 q166 q167 q168 q169 q170 q171 q172 q173 q174 q175 q176 q177 q178 q179 q180 q181 q182 q183 q184 q185 q186 q187 q188 q189 q190 q191 q192 q193 q194 q195 q196 q197 q198 q199 q200 q201 q202 q203 q204 q205 q206 q207 q208 q209 q210 q211 q212 q213 q214 q215 q216 q217 q218 q219 q220 q221 q222 q223 q224 q225 q226 q227 q228 q229 q230 q231 q232 q233 q234 : Value)
    (hM : M ≤ cap) (hcap : cap ≤ 9223372036854775807) (ha : at_ + 64 ≤ M) (hgX : g ≠ X) (hcell : ∀ j, j < 64 → w.cell? ⟨g, at_ + j, none⟩ = some (.int .u8 (m.getD j 0 : Nat))) (hZ : Z = Array.replicate 64 (c32 0)) (hB : Blk w X Z 100)
    (hexit : ∀ (d10 d11 d47 d48 d49 d50 d51 d52 d53 d54 d55 d56 d57 d58 d59 d60 d61 d62 d63 d64 d65 d66 d67 d68 d69 d70 d71 d72 d73 d74 d75 d76 d77 d78 d79 d80 : Value) (C : Array Value) (w' : World), Sq w X m 16 C w' → Q (.exit 4) ⟨#[q0, q1, q2, q3, q4, q5, q6, .slice (some ⟨g, 0, none⟩) M cap, .int .i64 (at_ : Int), .pointer (some ⟨X, 0, none⟩), d10, d11, q12, q13, q14, q15, q16, q17, q18, q19, q20, q21, q22, q23, q24, q25, q26, q27, q28, q29, q30, q31, q32, q33, q34, q35, q36, q37, q38, q39, q40, q41, q42, q43, q44, q45, q46, d47, d48, d49, d50, d51, d52, d53, d54, d55, d56, d57, d58, d59, d60, d61, d62, d63, d64, d65, d66, d67, d68, d69, d70, d71, d72, d73, d74, d75, d76, d77, d78, d79, d80, q81, q82, q83, q84, q85, q86, q87, q88, q89, q90, q91, q92, q93, q94, q95, q96, q97, q98, q99, q100, q101, q102, q103, q104, q105, q106, q107, q108, q109, q110, q111, q112, q113, q114, q115, q116, q117, q118, q119, q120, q121, q122, q123, q124, q125, q126, q127, q128, q129, q130, q131, q132, q133, q134, q135, q136, q137, q138, q139, q140, q141, q142, q143, q144, q145, q146, q147, q148, q149, q150, q151, q152, q153, q154, q155, q156, q157, q158, q159, q160, q161, q162, q163, q164, q165, q166, q167, q168, q169, q170, q171, q172, q173, q174, q175, q176, q177, q178, q179, q180, q181, q182, q183, q184, q185, q186, q187, q188, q189, q190, q191, q192, q193, q194, q195, q196, q197, q198, q199, q200, q201, q202, q203, q204, q205, q206, q207, q208, q209, q210, q211, q212, q213, q214, q215, q216, q217, q218, q219, q220, q221, q222, q223, q224, q225, q226, q227, q228, q229, q230, q231, q232, q233, q234], []⟩ w') :
    Code.wp Tryz.prog (Code.loop (sumLoop 2)) Q ⟨#[q0, q1, q2, q3, q4, q5, q6, .slice (some ⟨g, 0, none⟩) M cap, .int .i64 (at_ : Int), .pointer (some ⟨X, 0, none⟩), .int .i64 0, q11, q12, q13, q14, q15, q16, q17, q18, q19, q20, q21, q22, q23, q24, q25, q26, q27, q28, q29, q30, q31, q32, q33, q34, q35, q36, q37, q38, q39, q40, q41, q42, q43, q44, q45, q46, q47, q48, q49, q50, q51, q52, q53, q54, q55, q56, q57, q58, q59, q60, q61, q62, q63, q64, q65, q66, q67, q68, q69, q70, q71, q72, q73, q74, q75, q76, q77, q78, q79, q80, q81, q82, q83, q84, q85, q86, q87, q88, q89, q90, q91, q92, q93, q94, q95, q96, q97, q98, q99, q100, q101, q102, q103, q104, q105, q106, q107, q108, q109, q110, q111, q112, q113, q114, q115, q116, q117, q118, q119, q120, q121, q122, q123, q124, q125, q126, q127, q128, q129, q130, q131, q132, q133, q134, q135, q136, q137, q138, q139, q140, q141, q142, q143, q144, q145, q146, q147, q148, q149, q150, q151, q152, q153, q154, q155, q156, q157, q158, q159, q160, q161, q162, q163, q164, q165, q166, q167, q168, q169, q170, q171, q172, q173, q174, q175, q176, q177, q178, q179, q180, q181, q182, q183, q184, q185, q186, q187, q188, q189, q190, q191, q192, q193, q194, q195, q196, q197, q198, q199, q200, q201, q202, q203, q204, q205, q206, q207, q208, q209, q210, q211, q212, q213, q214, q215, q216, q217, q218, q219, q220, q221, q222, q223, q224, q225, q226, q227, q228, q229, q230, q231, q232, q233, q234], []⟩ w := by
  have HE : Hid (∀ (d10 d11 d47 d48 d49 d50 d51 d52 d53 d54 d55 d56 d57 d58 d59 d60 d61 d62 d63 d64 d65 d66 d67 d68 d69 d70 d71 d72 d73 d74 d75 d76 d77 d78 d79 d80 : Value) (C : Array Value) (w' : World), Sq w X m 16 C w' → Q (.exit 4) ⟨#[q0, q1, q2, q3, q4, q5, q6, .slice (some ⟨g, 0, none⟩) M cap, .int .i64 (at_ : Int), .pointer (some ⟨X, 0, none⟩), d10, d11, q12, q13, q14, q15, q16, q17, q18, q19, q20, q21, q22, q23, q24, q25, q26, q27, q28, q29, q30, q31, q32, q33, q34, q35, q36, q37, q38, q39, q40, q41, q42, q43, q44, q45, q46, d47, d48, d49, d50, d51, d52, d53, d54, d55, d56, d57, d58, d59, d60, d61, d62, d63, d64, d65, d66, d67, d68, d69, d70, d71, d72, d73, d74, d75, d76, d77, d78, d79, d80, q81, q82, q83, q84, q85, q86, q87, q88, q89, q90, q91, q92, q93, q94, q95, q96, q97, q98, q99, q100, q101, q102, q103, q104, q105, q106, q107, q108, q109, q110, q111, q112, q113, q114, q115, q116, q117, q118, q119, q120, q121, q122, q123, q124, q125, q126, q127, q128, q129, q130, q131, q132, q133, q134, q135, q136, q137, q138, q139, q140, q141, q142, q143, q144, q145, q146, q147, q148, q149, q150, q151, q152, q153, q154, q155, q156, q157, q158, q159, q160, q161, q162, q163, q164, q165, q166, q167, q168, q169, q170, q171, q172, q173, q174, q175, q176, q177, q178, q179, q180, q181, q182, q183, q184, q185, q186, q187, q188, q189, q190, q191, q192, q193, q194, q195, q196, q197, q198, q199, q200, q201, q202, q203, q204, q205, q206, q207, q208, q209, q210, q211, q212, q213, q214, q215, q216, q217, q218, q219, q220, q221, q222, q223, q224, q225, q226, q227, q228, q229, q230, q231, q232, q233, q234], []⟩ w') := hexit
  have HC : Hid (∀ j, j < 64 → w.cell? ⟨g, at_ + j, none⟩ = some (.int .u8 (m.getD j 0 : Nat))) := hcell
  have HS : Hid (Sq w X m 0 Z w) := Sq.start w X m Z hZ hB
  clear hexit hcell hB hZ
  conv => arg 2; arg 1; whnf
  dsimp only
  go_loopw [10] (fun i wr => ∃ (k : Nat) (C : Array Value), k ≤ 16 ∧ i = .int .i64 k ∧ Hid (Sq w X m k C wr)) (fun i _ => 20 - (intOf i).toNat)
  case atStart => exact ⟨0, Z, by omega, rfl, HS⟩
  case round =>
    clear HS
    obtain ⟨k, C, hk, rfl, HR⟩ := hrel
    by_cases hlt : k < 16
    · have h0 := HR.out.grown.cell (HC.out (4 * k) (by omega)) (by simp; omega)
      have h1 := HR.out.grown.cell (HC.out (4 * k + 1) (by omega)) (by simp; omega)
      have h2 := HR.out.grown.cell (HC.out (4 * k + 2) (by omega)) (by simp; omega)
      have h3 := HR.out.grown.cell (HC.out (4 * k + 3) (by omega)) (by simp; omega)
      simp only [← Nat.add_assoc] at h0 h1 h2 h3
      obtain ⟨x0, hx0⟩ := HR.out.all k (by omega)
      have h4 : wr.cell? ⟨X, k, none⟩ = some (c32 x0) := by rw [HR.out.blk.cell, hx0]
      have h5 := HR.out.blk.frozen k
      clear hx0
      obtain ⟨m0, hm0⟩ : ∃ x, x = m.getD (4 * k) 0 := ⟨_, rfl⟩
      obtain ⟨m1, hm1⟩ : ∃ x, x = m.getD (4 * k + 1) 0 := ⟨_, rfl⟩
      obtain ⟨m2, hm2⟩ : ∃ x, x = m.getD (4 * k + 2) 0 := ⟨_, rfl⟩
      obtain ⟨m3, hm3⟩ : ∃ x, x = m.getD (4 * k + 3) 0 := ⟨_, rfl⟩
      rw [← hm0] at h0
      rw [← hm1] at h1
      rw [← hm2] at h2
      rw [← hm3] at h3
      have HM : Hid ((m0 = m.getD (4 * k) 0 ∧ m1 = m.getD (4 * k + 1) 0) ∧ m2 = m.getD (4 * k + 2) 0 ∧ m3 = m.getD (4 * k + 3) 0) := ⟨⟨hm0, hm1⟩, hm2, hm3⟩
      clear hm0 hm1 hm2 hm3
      go_wp2
      refine wp_region_tail (fun W => ∃ n, W = wr.drewN n) 24 (by kernel_rfl) (by kernel_rfl) ⟨1, rfl⟩ ?_
      simp only [List.take_succ_cons, List.take_zero, List.drop_succ_cons, List.drop_zero]
      repeat (go_big_quiet_step (fail))
      refine wpQuiet_nil ?_
      intro w9 hw9
      obtain ⟨nq, rfl⟩ := hw9
      go_wp2
      go_roundw
      case rel =>
        refine ⟨k + 1, C.setIfInBounds k (c32 (be4 m0 m1 m2 m3)), by omega, by go_num, ?_⟩
        rw [be4_raw]
        refine (HR.out.drewN nq).put (by omega) _ ?_
        rw [sch_get m k 64 (by omega), if_pos hlt, HM.out.1.1, HM.out.1.2, HM.out.2.1, HM.out.2.2, w16]
      case measure => simp [intOf]; omega
    · have hke : k = 16 := by omega
      subst hke
      clear hlt hk
      go_wp2
      exact HE.out _ _ _ _ _ _ _ _ _ _ _ _ _ _ _ _ _ _ _ _ _ _ _ _ _ _ _ _ _ _ _ _ _ _ _ _ C wr HR.out
end Go.Proofs.YtpfknjnigcefgaaGreatDoor
