import Derived.Test.YtpfknjnigcefgaaGreatDoorY29
import Derived.Test.YtpfknjnigcefgaaGreatDoorY24
import Derived.Test.YtpfknjnigcefgaaGreatDoorY12
import Derived.Test.YtpfknjnigcefgaaGreatDoorY17
import Derived.Test.YtpfknjnigcefgaaGreatDoorY6
import Derived.Test.YtpfknjnigcefgaaGreatDoorY1
import Derived.BigQuiet
import Derived.Deep.QuietTactic
import Derived.StillTail
import Derived.Deep.Quiet
import Derived.Test.YtpfknjnigcefgaaGreatDoorY4
/- Rows of objects read as lists; what a copied list gives. -/
namespace Go.Proofs.YtpfknjnigcefgaaGreatDoor
open Go.RowKit
set_option linter.unusedSimpArgs false
set_option linter.unusedVariables false
theorem obv_get : ∀ (l : List Ob) (i : Nat) (o : Ob), l[i]? = some o → (obv l)[i * 2]? = some (.int .u8 (o.k.toNat : Int)) ∧ (obv l)[i * 2 + 1]? = some (.string o.p)
  | [], _, _, h => by simp at h
  | a :: l, 0, o, h => by simp at h; subst h; simp [obv]
  | a :: l, i + 1, o, h => by
    obtain ⟨h1, h2⟩ := obv_get l i o (by simpa using h)
    have e : obv (a :: l) = Value.int .u8 (a.k.toNat : Int) :: Value.string a.p :: obv l := rfl
    rw [e, show (i + 1) * 2 = i * 2 + 1 + 1 from by omega, show i * 2 + 1 + 1 + 1 = i * 2 + 1 + 1 + 1 from rfl]
    simp only [List.getElem?_cons_succ]
    exact ⟨h1, h2⟩
theorem obv_length (l : List Ob) : (obv l).length = l.length * 2 := by
  induction l with
  | nil => rfl
  | cons a l ih =>
    have e : obv (a :: l) = Value.int .u8 (a.k.toNat : Int) :: Value.string a.p :: obv l := rfl
    rw [e, List.length_cons, List.length_cons, ih, List.length_cons]; omega
/-- Objects whose payloads are short enough to be at all. -/
def ObZ (l : List Ob) : Prop := ∀ o ∈ l, o.p.size ≤ 140737488351232
theorem ObL.sz {w : World} {a : Option Addr} {l : List Ob} (h : ObL w a l) : ObZ l := fun o ho => by
  obtain ⟨i, hi, e⟩ := List.getElem_of_mem ho
  obtain ⟨_, _, _, _, _, _, h6⟩ := h i o (by rw [List.getElem?_eq_getElem hi, e])
  exact h6
theorem row_obl {w : World} {B n m : Nat} {v : Value} {l x : List Ob} (h : w.ownsRow B 157 2 v m (obv (l ++ x))) (hz : ObZ l) (hm : (l ++ x).length = m) :
    ∃ a c, v = .slice a m c ∧ ObL w a l := by
  rcases h.2 with ⟨rfl, h0⟩ | ⟨g, cap, cur, rfl, hle, hg, hnc, _, hc, ht⟩
  · subst h0
    have : l = [] := by
      have := List.eq_nil_of_length_eq_zero hm
      exact (List.append_eq_nil_iff.1 this).1
    subst this
    exact ⟨none, 0, rfl, fun i o hi => by simp at hi⟩
  · refine ⟨some ⟨g, 0, none⟩, cap, rfl, fun i o hi => ⟨g, 0, rfl, (Array.getElem?_eq_some_iff.1 hg).1, ?_, ?_, hz o (List.mem_of_getElem? hi)⟩⟩
    all_goals
      have hil : i < l.length := (List.getElem?_eq_some_iff.1 hi).1
      have hil2 : i < m := by rw [← hm, List.length_append]; omega
      have hix : (l ++ x)[i]? = some o := by rw [List.getElem?_append_left hil]; exact hi
      obtain ⟨q1, q2⟩ := obv_get _ i o hix
      have hb : Bk w g cur 157 := hg
    · rw [← ht, List.getElem?_take, if_pos (by omega), Array.getElem?_toList] at q1
      rw [hb.cell, Nat.zero_add]; exact q1
    · rw [← ht, List.getElem?_take, if_pos (by omega), Array.getElem?_toList] at q2
      rw [hb.cell, Nat.zero_add]; exact q2
theorem row_obl0 {w : World} {B m : Nat} {v : Value} {l : List Ob} (h : w.ownsRow B 157 2 v m (obv l)) (hz : ObZ l) (hm : l.length = m) : ∃ a c, v = .slice a m c ∧ ObL w a l := by
  have := row_obl (x := []) (n := 0) (by rw [List.append_nil]; exact h) hz (by rw [List.append_nil]; exact hm)
  exact this
/-- What own gives is a list. -/
theorem own_list {w : World} {B n g cp : Nat} {l : List Ob} (h : w.ownsRow B 157 2 (.slice (some ⟨g, 0, none⟩) (n + 1) cp) (n + 1) (obv (l ++ [mkO]))) (hz : ObZ l) (hm : l.length = n) : ObL w (some ⟨g, 0, none⟩) l := by
  obtain ⟨a, c, h1, h2⟩ := row_obl (n := 0) h hz (by rw [List.length_append, List.length_singleton, hm])
  injection h1 with h1 _ _
  rw [h1]; exact h2
theorem neq_obj (k : UInt8) (p : ByteArray) (w : World) : (binOp .neq 157 (.agg #[.int .u8 (k.toNat : Int), .string p]) (.agg #[.int .u8 (k.toNat : Int), .string p])).run Tryz.prog w = .ok (.bool false) w := by
  have hu : Tryz.prog.underlying 157 = some (.struct (Tryz.prog.fieldsOf 157)) := by kernel_rfl
  have hst : Tryz.prog.stoodInHeld 157 = false := by kernel_rfl
  have hfs : (Tryz.prog.fieldsOf 157).toList.map (fun q => (q.name != "_", q.type, q.offset)) = [(true, 5, 0), (true, 9, 1)] := by kernel_rfl
  rw [run_neq_struct, run_equalIn_struct w 9999 157 _ _ hu hst]
  generalize (Tryz.prog.fieldsOf 157).toList = fs at hfs
  have hlen : fs.length = 2 := by have := congrArg List.length hfs; simpa using this
  match fs, hlen, hfs with
  | [f0, f1], _, hfs =>
    simp only [List.map_cons, List.map_nil, List.cons.injEq, Prod.mk.injEq, and_true, bne_iff_ne] at hfs
    obtain ⟨⟨n0, t0, o0⟩, n1, t1, o1⟩ := hfs
    have u8a : (isAgg 5).run Tryz.prog w = .ok false w := by kernel_rfl
    have sa : (isAgg 9).run Tryz.prog w = .ok false w := by kernel_rfl
    have q1 : (Op.equalIn 9999 5 (.int .u8 (k.toNat : Int)) (.int .u8 (k.toNat : Int))).run Tryz.prog w = .ok true w := by
      have := run_equalIn_int (P := Tryz.prog) w 9998 5 .u8 .u8 (k.toNat : Int) (k.toNat : Int) Tryz.underlying5
      rwa [beq_self_eq_true] at this
    have q2 : (Op.equalIn 9999 9 (.string p) (.string p)).run Tryz.prog w = .ok true w := by
      have := run_equalIn_string (P := Tryz.prog) w 9998 9 p p Tryz.underlying9
      rwa [beq_self_eq_true] at this
    have p1 : (part 5 #[.int .u8 (k.toNat : Int), .string p] 0).run Tryz.prog w = .ok (.int .u8 (k.toNat : Int)) w := part_cell _ _ _ w u8a rfl
    have p2 : (part 9 #[.int .u8 (k.toNat : Int), .string p] 1).run Tryz.prog w = .ok (.string p) w := part_cell _ _ _ w sa rfl
    simp only [Op.eqFields, n0, n1, t0, t1, o0, o1, ne_eq, not_false_eq_true, if_true, Sem.run_bind, p1, p2, Result.andThen_ok, q1, q2, Bool.not_true, Bool.false_eq_true, if_false, Sem.run_pure]
end Go.Proofs.YtpfknjnigcefgaaGreatDoor
/- The walks of the document's own step, On, Crc (munimentref03). -/
namespace Go.Proofs.YtpfknjnigcefgaaGreatDoor
open Go.RowKit
set_option linter.unusedSimpArgs false
set_option linter.unusedVariables false
theorem half_raw (m : BitVec 32) : (m.toNat : Int) / (2 : Int) = ((m >>> 1).toNat : Int) := by rw [BitVec.toNat_ushiftRight, Nat.shiftRight_eq_div_pow]; omega
theorem lsb_mod (m : BitVec 32) : m.getLsbD 0 = decide (m.toNat % 2 = 1) := by
  rw [BitVec.getLsbD, Nat.testBit_zero]
theorem sh1_odd (m : BitVec 32) (h : m.toNat % 2 = 1) : bits .xor .u32 ((m.toNat : Int) / 2) 3988292384 = ((sh1 m).toNat : Int) := by
  rw [half_raw, poly32, xor32, sh1, lsb_mod, decide_eq_true h, if_pos rfl]
theorem sh1_even (m : BitVec 32) (h : ¬ m.toNat % 2 = 1) : (m.toNat : Int) / 2 = ((sh1 m).toNat : Int) := by
  rw [half_raw, sh1, lsb_mod, decide_eq_false h]
  simp
set_option maxHeartbeats 400000 in
set_option maxRecDepth 100000 in
theorem rstep_any (n : BitVec 32) (b : Nat) (w : World) (hb : b < 256) :
    Calls Tryz.prog 156 #[c32 n, .int .u8 b] w fun e w' => e = .returned (c32 (cst n (UInt8.ofNat b))) ∧ w' = w := by
  obtain ⟨m0, hm0⟩ : ∃ m0, m0 = n ^^^ BitVec.ofNat 32 (UInt8.ofNat b).toNat := ⟨_, rfl⟩
  have HX : Hid (bits .xor .u32 (n.toNat : Int) (b : Int) = (m0.toNat : Int)) := by rw [hm0, ← xor32, ← ofByte b hb]; rfl
  have HM : Hid (m0 = n ^^^ BitVec.ofNat 32 (UInt8.ofNat b).toNat) := hm0
  clear hm0
  go_enter Tryz.func156, Tryz.ntmps156
  go_wp2
  rw [HX.out]
  go_loop [0, 5] (fun v i => ∃ (k : Nat) (m : BitVec 32), k ≤ 8 ∧ i = .int .i64 k ∧ v = c32 m ∧ Hid (m = shN32 k m0)) (fun _ i => 8 - (intOf i).toNat)
  case atStart => exact ⟨0, m0, by omega, rfl, rfl, rfl⟩
  case round =>
    obtain ⟨k, m, hk, rfl, rfl, HR⟩ := hrel
    have hlt32 := m.isLt
    by_cases hlt : k < 8
    · by_cases ho : m.toNat % 2 = 1
      · have h1 : (((m.toNat : Int) % 2) == 1) = true := by rw [beq_iff_eq]; omega
        have HO : Hid (m.toNat % 2 = 1) := ho
        clear ho
        go_wp2
        go_round
        case rel => exact ⟨k + 1, sh1 m, by omega, by go_num, by rw [sh1_odd m HO.out], by show sh1 m = _; rw [HR.out]; rfl⟩
        case measure => simp [intOf]; omega
      · have h1 : (((m.toNat : Int) % 2) == 1) = false := by rw [beq_eq_false_iff_ne]; omega
        have HO : Hid (¬ m.toNat % 2 = 1) := ho
        clear ho
        go_wp2
        go_round
        case rel => exact ⟨k + 1, sh1 m, by omega, by go_num, by rw [sh1_even m HO.out], by show sh1 m = _; rw [HR.out]; rfl⟩
        case measure => simp [intOf]; omega
    · go_wp2
      go_ret
      have e : k = 8 := by omega
      refine ⟨ret_i32 ?_, rfl⟩
      rw [HR.out, e, HM.out]; rfl
set_option maxHeartbeats 400000 in
set_option maxRecDepth 100000 in
theorem ron_any (c : BitVec 32) (s : ByteArray) (w : World) (hs : s.size ≤ maxLen) :
    Calls Tryz.prog 150 #[c32 c, .string s] w fun e w' => e = .returned (c32 (onC c (bl s))) ∧ w' = w := by
  unfold maxLen at hs
  have hsg : IntKind.u32.signed = false := rfl
  have hmx := max32
  obtain ⟨d, hd⟩ : ∃ d, d = ~~~ c := ⟨_, rfl⟩
  have HD : Hid (d = ~~~ c) := hd
  clear hd
  go_enter Tryz.func150, Tryz.ntmps150
  go_wp2
  rw [not32, ← HD.out]
  go_loop [5, 6] (fun v i => ∃ (k : Nat) (m : BitVec 32), k ≤ s.size ∧ i = .int .i64 k ∧ v = c32 m ∧ Hid (m = crcR d ((bl s).take k))) (fun _ i => s.size - (intOf i).toNat)
  case atStart => exact ⟨0, d, by omega, rfl, rfl, rfl⟩
  case round =>
    obtain ⟨k, m, hk, rfl, rfl, HM⟩ := hrel
    by_cases hlt : k < s.size
    · go_wp2_with fail
      refine (rstep_any m s[k].toNat _ s[k].toNat_lt).mono ?_
      rintro e w1 ⟨rfl, hw1⟩
      subst hw1
      rw [UInt8.ofNat_toNat]
      go_wp2
      go_round
      case rel => exact ⟨k + 1, cst m s[k], by omega, by go_num, rfl, by show cst m s[k] = _; rw [HM.out, take_snoc s k hlt, crcR_snoc]⟩
      case measure => simp [intOf]; omega
    · go_wp2
      go_ret
      have e : k = s.size := by omega
      refine ⟨ret_i32 ?_, rfl⟩
      rw [not32, HM.out, e, HD.out, List.take_of_length_le (by rw [bl_length]; exact Nat.le_refl _)]
      rfl
set_option maxHeartbeats 400000 in
theorem rcrc_any (s : ByteArray) (w : World) (hs : s.size ≤ maxLen) :
    Calls Tryz.prog 141 #[.string s] w fun e w' => e = .returned (c32 (crcC (bl s))) ∧ w' = w := by
  go_enter Tryz.func141, Tryz.ntmps141
  go_wp2_with fail
  refine (ron_any 0#32 s _ hs).mono ?_
  rintro e w1 ⟨rfl, hb⟩
  subst hb
  go_wp2
  go_ret
  exact ⟨rfl, rfl⟩
end Go.Proofs.YtpfknjnigcefgaaGreatDoor
/- The walks of the document's own reader (munimentref01): Fixed. -/
namespace Go.Proofs.YtpfknjnigcefgaaGreatDoor
open Go.RowKit
set_option linter.unusedSimpArgs false
set_option linter.unusedVariables false
theorem set_step {w : World} {b : Nat} {s s' : ByteArray} (hb : b < w.heap.size) (hc : w.cell? ⟨b, 0, none⟩ = some (.string s)) (hf : w.frozen? ⟨b, 0, none⟩ = false) :
    Step b w (w.setCell ⟨b, 0, none⟩ (.string s')) s' := Step.of_set (Below.refl _ _) hb hc hf
set_option maxHeartbeats 400000 in
theorem rfixed_arg (s : ByteArray) (b : Nat) (w : World) (hs : s.size ≤ maxLen) (hc : w.cell? ⟨b, 0, none⟩ = some (.string s)) (hf : w.frozen? ⟨b, 0, none⟩ = false) (hb : b < w.heap.size) (m : Int) (hm : isW m = false) :
    Calls Tryz.prog 39 #[.pointer (some ⟨b, 0, none⟩), .int .i64 m] w fun e w' => e = .returned (.tuple #[.int .u64 0, .int .i64 1]) ∧ Step b w w' s := by
  have HS := still hb hc hf
  have hm' : m < 1 ∨ ¬ m < 1 ∧ 8 < m := by
    rcases Int.lt_or_le m 1 with h | h
    · exact Or.inl h
    · rcases Int.lt_or_le 8 m with g | g
      · exact Or.inr ⟨by omega, g⟩
      · rw [isW_yes h g] at hm; cases hm
  clear hm
  rcases hm' with h | ⟨h, g⟩
  · go_enter Tryz.func39, Tryz.ntmps39
    go_wp2
    go_ret2
    exact ⟨rfl, HS⟩
  · go_enter Tryz.func39, Tryz.ntmps39
    go_wp2
    go_ret2
    exact ⟨rfl, HS⟩
set_option maxHeartbeats 400000 in
theorem rfixed_no (s : ByteArray) (b : Nat) (w : World) (hs : s.size ≤ maxLen) (hc : w.cell? ⟨b, 0, none⟩ = some (.string s)) (hf : w.frozen? ⟨b, 0, none⟩ = false) (hb : b < w.heap.size) (d : Nat) (hd1 : 1 ≤ d) (hd2 : d ≤ 8) (hl : s.size < d) :
    Calls Tryz.prog 39 #[.pointer (some ⟨b, 0, none⟩), .int .i64 d] w fun e w' => e = .returned (.tuple #[.int .u64 0, .int .i64 4]) ∧ Step b w w' s := by
  have HS := still hb hc hf
  go_enter Tryz.func39, Tryz.ntmps39
  go_wp2
  go_ret2
  exact ⟨rfl, HS⟩
theorem rfixStep (acc c k : Nat) (hc : c < 256) (hk : k ≤ 7) (ha : acc < 256 ^ k) :
    IntKind.u64.wrap (IntKind.u64.wrap ((acc : Int) * 256) + IntKind.u64.wrap (c : Int)) = ((acc * 256 + c : Nat) : Int) := by
  have h7 : 256 ^ k ≤ 256 ^ 7 := Nat.pow_le_pow_right (by omega) hk
  rw [IntKind.wrap_u64, IntKind.wrap_u64, IntKind.wrap_u64]
  omega
set_option maxHeartbeats 400000 in
set_option maxRecDepth 100000 in
theorem rfixed_ok (s : ByteArray) (b : Nat) (w : World) (hs : s.size ≤ maxLen) (hc : w.cell? ⟨b, 0, none⟩ = some (.string s)) (hf : w.frozen? ⟨b, 0, none⟩ = false) (hb : b < w.heap.size) (d : Nat) (hd1 : 1 ≤ d) (hd2 : d ≤ 8) (hl : d ≤ s.size) :
    Calls Tryz.prog 39 #[.pointer (some ⟨b, 0, none⟩), .int .i64 d] w fun e w' => e = .returned (.tuple #[.int .u64 (fixV ((bl s).take d)), .int .i64 0]) ∧ Step b w w' (s.extract d s.size) := by
  have hs' := hs
  unfold maxLen at hs'
  have HS : Hid (Step b w (w.setCell ⟨b, 0, none⟩ (.string (s.extract d s.size))) (s.extract d s.size)) := set_step hb hc hf
  go_enter Tryz.func39, Tryz.ntmps39
  go_wp2
  go_loop [6, 7] (fun v i => ∃ (k acc : Nat), k ≤ d ∧ acc < 2 ^ 64 ∧ i = .int .i64 k ∧ v = .int .u64 acc ∧ Hid (acc = fixV ((bl s).take k))) (fun _ i => 10 - (intOf i).toNat)
  case atStart => exact ⟨0, 0, by omega, by omega, rfl, rfl, rfl⟩
  case round =>
    obtain ⟨k, acc, hk1, hacc, rfl, rfl, HR⟩ := hrel
    by_cases hlt : k < d
    · have hkt : k < s.size := by omega
      go_wp2
      go_round
      case rel =>
        have hlt256 := s[k].toNat_lt
        have hl : acc < 256 ^ k := by
          have := fixV_lt ((bl s).take k)
          rw [← HR.out, List.length_take, bl_length, Nat.min_eq_left (by omega)] at this
          exact this
        have e1 := rfixStep acc s[k].toNat k hlt256 (by omega) hl
        have e2 := (fixStep acc s[k].toNat k hlt256 (by omega) hl).2
        refine ⟨k + 1, _, by omega, e2, by go_num, ?_, ?_⟩
        · rw [← e1]
        · rw [take_snoc s k hkt, fixV_snoc, ← HR.out]; rfl
      case measure => simp [intOf]; omega
    · go_wp2
      go_ret2
      refine ⟨ret_ue ?_, HS.out⟩
      have e : k = d := by omega
      rw [HR.out, e]
end Go.Proofs.YtpfknjnigcefgaaGreatDoor
/- The walks of the document's own Laid, Frame, Unframe (munimentref03). -/
namespace Go.Proofs.YtpfknjnigcefgaaGreatDoor
open Go.RowKit
set_option linter.unusedSimpArgs false
set_option linter.unusedVariables false
set_option maxHeartbeats 400000 in
theorem laid_any (p : ByteArray) (w : World) (hp : p.size ≤ 67108864) :
    Calls Tryz.prog 114 #[.string p] w fun e w' => e = .returned (.string (frm p)) ∧ Below w.heap.size w w' := by
  go_enter Tryz.func114, Tryz.ntmps114
  go_wp2_with fail
  refine (rfix_any p.size 4 _ (by omega) (by omega) (by omega) (by omega)).mono ?_
  rintro e w1 ⟨rfl, hb1⟩
  rw [emp_append]
  obtain ⟨a, ha⟩ : ∃ a, a = sb (fixN 4 p.size) := ⟨_, rfl⟩
  rw [← ha]
  have hal : a.size ≤ 4 := by rw [ha, sb4_size]; omega
  have HA : Hid (a = sb (fixN 4 p.size)) := ha
  clear ha
  go_wp2_with fail
  refine (rcrc_any (a ++ p) _ (by rw [append_size]; unfold maxLen; omega)).mono ?_
  rintro e w2 ⟨rfl, hw2⟩
  subst hw2
  obtain ⟨q, hq⟩ : ∃ q : BitVec 32, q = crcC (bl (a ++ p)) := ⟨_, rfl⟩
  rw [← hq]
  have HQ : Hid (q = crcC (bl a ++ bl p)) := by show q = _; rw [hq, bl_append]
  have hlt := q.isLt
  clear hq
  go_wp2_with fail
  refine (rfix_any q.toNat 4 _ (by omega) (by omega) (by omega) (by omega)).mono ?_
  rintro e w3 ⟨rfl, hb3⟩
  rw [emp_append]
  obtain ⟨h, hh⟩ : ∃ h, h = sb (fixN 4 q.toNat) := ⟨_, rfl⟩
  rw [← hh]
  have hhz : h.size ≤ 4 := by rw [hh, sb4_size]; omega
  have HH : Hid (h = sb (fixN 4 q.toNat)) := hh
  clear hh
  go_wp2
  go_ret
  refine ⟨ret_str ?_, ?_⟩
  · rw [HH.out, HQ.out, HA.out]; exact frm_eq p
  · exact hb1.trans (hb3.mono hb1.size)
end Go.Proofs.YtpfknjnigcefgaaGreatDoor
/- The document's own Put, PutText, Len. -/
namespace Go.Proofs.YtpfknjnigcefgaaGreatDoor
open Go.RowKit
set_option linter.unusedSimpArgs false
set_option linter.unusedVariables false
/-- One byte, as a slice of its own, as a string. -/
theorem put_more (s a : ByteArray) (n y : Nat) (v : Int) (h : a ++ sb (encS y) = s ++ sb (encS n)) (hy : 128 ≤ y) (hy2 : y < 2 ^ 64) (hv : v = (y % 128 + 128 : Nat)) :
    (a ++ strOfNums [v]) ++ sb (encS (y / 128)) = s ++ sb (encS n) := by
  rw [← h, encS_step y hy hy2, one_is _ v hv]
  apply bl_inj
  simp [bl_append, bl_sb, by8]
theorem put_done (s a : ByteArray) (n y : Nat) (v : Int) (h : a ++ sb (encS y) = s ++ sb (encS n)) (hy : y < 128) (hv : v = (y : Nat)) : a ++ strOfNums [v] = s ++ sb (encS n) := by
  rw [← h, encS_small y hy, one_is _ v hv]
theorem slen_step (y : Nat) (h : 128 ≤ y) (hy : y < 2 ^ 64) : slen y = slen (y / 128) + 1 := by
  rw [← encS_length y, ← encS_length (y / 128), encS_step y h hy]; rfl
set_option maxHeartbeats 400000 in
set_option maxRecDepth 100000 in
theorem rput_any (s : ByteArray) (x : Int) (w : World) (h0 : 0 ≤ x) (h1 : x ≤ 18446744073709551615) (hs : s.size ≤ 4611686018427387904) :
    Calls Tryz.prog 115 #[.string s, .int .u64 x] w fun e w' => e = .returned (.string (s ++ sb (encS x.toNat))) ∧ Below w.heap.size w w' := by
  obtain ⟨n, rfl⟩ := Int.eq_ofNat_of_zero_le h0
  rw [Int.toNat_natCast]
  have hc1 := conv1
  have hz1 := one_size
  have hn : n < 18446744073709551616 := by omega
  go_enter Tryz.func115, Tryz.ntmps115
  go_wp2
  go_loopw [0, 1] (fun v i wr => ∃ (y : Nat) (a : ByteArray), i = .int .u64 y ∧ y < 18446744073709551616 ∧ v = .string a ∧ a.size + slen y = s.size + slen n ∧ Hid (a ++ sb (encS y) = s ++ sb (encS n)) ∧ Below w.heap.size w wr) (fun _ i _ => (intOf i).toNat)
  case atStart => exact ⟨n, s, rfl, hn, rfl, rfl, rfl, Below.refl _ _⟩
  case round =>
    obtain ⟨y, a, rfl, hy, rfl, haz, HE, hbel⟩ := hrel
    have hb0 := hbel.size
    have l1 := slen_le n (by omega)
    have hab : a.size ≤ 4611686018427387914 := by omega
    have HZ : Hid (a.size + slen y = s.size + slen n) := haz
    clear haz
    by_cases hy1 : 128 ≤ y
    · go_wp2
      go_roundw
      case rel => exact ⟨y / 128, _, by go_num, by omega, rfl, by rw [append_size, one_size]; have := slen_step y hy1 (by omega); have := HZ.out; omega, put_more s a n y _ HE.out hy1 (by omega) (by omega), hbel.alloc hb0 _⟩
      case measure => simp [intOf]; omega
    · go_wp2
      go_ret
      exact ⟨ret_str (put_done s a n y _ HE.out (by omega) rfl), hbel.alloc hb0 _⟩
end Go.Proofs.YtpfknjnigcefgaaGreatDoor
/- A region that draws its order, over a class of worlds of one's own: each operation gives the same value in every world of the class. -/
namespace Go.Proofs.YtpfknjnigcefgaaGreatDoor
open Go.RowKit
set_option linter.unusedSimpArgs false
set_option linter.unusedVariables false
theorem wp_region_class {P : Program} {id : Nat} {Q : Exit → Act → World → Prop} {a : Act} {w : World} {l : List Oper} (C : World → Prop) (hm : P.follows .mixedOrders = true) (hB : Region.lexB .any l.toArray = true) (hC : C w.drew)
    (h : wpQuiet P l.toArray C (fun a' => ∀ w', C w' → Q .normal a' w') l a) : (Code.region id l.toArray true).wp P Q a w :=
  wp_region_quiet (C := C) hm hB hC (by simpa using h)
theorem quiet_valE {P : Program} {o : Oper} {a : Act} {C : World → Prop} {K : Act → Prop} (v : Value) (h : ∀ w, C w → (execOp a.eval o).run P w = .ok (.value v) w) (hn : K (a.put o.dst v)) : o.quiet P a C K :=
  ⟨v, fun w hw => by unfold Oper.quietAt; rw [h w hw]; exact ⟨rfl, rfl⟩, hn⟩
theorem quiet_callE {P : Program} {o : Oper} {a : Act} {C : World → Prop} {K : Act → Prop} (v : Value) (f : FuncId) (args : Array Value) (h : ∀ w, C w → (execOp a.eval o).run P w = .ok (.enter f args) w)
    (hc : ∀ w, C w → Calls P f args w (fun e w'' => e = .returned v ∧ C w'')) (hn : K (a.put o.dst v)) : o.quiet P a C K :=
  ⟨v, fun w hw => by unfold Oper.quietAt; rw [h w hw]; exact ⟨rfl, hc w hw⟩, hn⟩
theorem quiet_str {o : Oper} {a : Act} {C : World → Prop} {K : Act → Prop} (x : Operand) (ho : o.op = .load 9 x) (g f : Nat) (s : ByteArray) (hx : a.eval x = .pointer (some ⟨g, f, none⟩))
    (hc : ∀ w, C w → w.cell? ⟨g, f, none⟩ = some (.string s)) (hn : K (a.put o.dst (.string s))) : o.quiet Tryz.prog a C K :=
  quiet_valE (.string s) (fun w hw => by
    have h := hc w hw
    have ha : (isAgg 9).run Tryz.prog w = .ok false w := by kernel_rfl
    unfold execOp
    simp [ho, hx, Instr.loadAt, Instr.sureAddr, loadVar, ha, h]) hn
end Go.Proofs.YtpfknjnigcefgaaGreatDoor
/- A region that draws its order: its first operations quiet in a class of worlds, in whatever order; the last ones, which wait for all of these, one behind the other. -/
namespace Go.Proofs.YtpfknjnigcefgaaGreatDoor
open Go.RowKit
set_option linter.unusedSimpArgs false
set_option linter.unusedVariables false
end Go.Proofs.YtpfknjnigcefgaaGreatDoor
/- The document's own sum, cut into its loops; what lies in memory while a block's numbers are made. -/
namespace Go.Proofs.YtpfknjnigcefgaaGreatDoor
open Go.RowKit
set_option linter.unusedSimpArgs false
set_option linter.unusedVariables false
/-- The bodies of a text's loops, the outer ones first. -/
def loopsOf : Code → List Code
  | .loop c => c :: loopsOf c
  | .seq a b => loopsOf a ++ loopsOf b
  | .block _ c => loopsOf c
  | .scope c => loopsOf c
  | .cond _ a b => loopsOf a ++ loopsOf b
  | _ => []
noncomputable def sumLoop (k : Nat) : Code := ((Tryz.f47.body.map loopsOf).getD []).getD k .skip
/-- k of a block's numbers are laid. -/
structure Sq (w : World) (X : Nat) (m : List Nat) (k : Nat) (C : Array Value) (wr : World) : Prop where
  blk : Blk wr X C 100
  grown : w.grownBy wr (some X)
  csz : C.size = 64
  got : ∀ j, j < k → C[j]? = some (c32 ((sch m 64).getD j 0))
  all : ∀ j, j < 64 → ∃ x : BitVec 32, C[j]? = some (c32 x)
theorem Sq.drew {w : World} {X : Nat} {m : List Nat} {k : Nat} {C : Array Value} {wr : World} (h : Sq w X m k C wr) : Sq w X m k C wr.drew :=
  ⟨h.blk, Lib.Hx.grownBy_drew h.grown, h.csz, h.got, h.all⟩
theorem Sq.drewN {w : World} {X : Nat} {m : List Nat} {k : Nat} {C : Array Value} {wr : World} (h : Sq w X m k C wr) (n : Nat) : Sq w X m k C (wr.drewN n) := by
  induction n with
  | zero => exact h
  | succ n ih => exact ih.drew
theorem Sq.put {w : World} {X : Nat} {m : List Nat} {k : Nat} {C : Array Value} {wr : World} (h : Sq w X m k C wr) (hk : k < 64) (x : BitVec 32) (hx : (sch m 64).getD k 0 = x) :
    Sq w X m (k + 1) (C.setIfInBounds k (c32 x)) (wr.setCell ⟨X, k, none⟩ (c32 x)) where
  blk := h.blk.set k _
  grown := Lib.grownBy_setB h.grown k _
  csz := by rw [Array.size_setIfInBounds]; exact h.csz
  got := fun j hj => by
    rw [Array.getElem?_setIfInBounds]
    split
    · rename_i e; subst e; rw [if_pos (by rw [h.csz]; exact hk), hx]
    · exact h.got j (by omega)
  all := fun j hj => by
    rw [Array.getElem?_setIfInBounds]
    split
    · exact ⟨x, by rw [if_pos (by rw [h.csz]; omega)]⟩
    · exact h.all j hj
theorem Sq.word {w : World} {X : Nat} {m : List Nat} {k : Nat} {C : Array Value} {wr : World} (h : Sq w X m k C wr) (j : Nat) (hj : j < k) :
    ∃ y : BitVec 32, wr.cell? ⟨X, j, none⟩ = some (c32 y) ∧ Hid (y = (sch m 64).getD j 0) := ⟨_, by rw [h.blk.cell, h.got j hj], rfl⟩
theorem Sq.whole {w : World} {X : Nat} {m : List Nat} {C : Array Value} {wr : World} (h : Sq w X m 64 C wr) : C = w64c m := by
  unfold w64c
  apply Array.ext_getElem?
  intro i
  by_cases hi : i < 64
  · rw [h.got i hi]
    simp only [List.getElem?_toArray, List.getElem?_map, List.getD]
    rw [List.getElem?_eq_getElem (by rw [sch_length]; exact hi)]
    rfl
  · rw [Array.getElem?_eq_none (by rw [h.csz]; omega), Array.getElem?_eq_none (by simp [sch_length]; omega)]
theorem Sq.start (w : World) (X : Nat) (m : List Nat) (Z : Array Value) (hZ : Z = Array.replicate 64 (c32 0)) (h : Blk w X Z 100) : Sq w X m 0 Z w :=
  ⟨h, World.grownBy.refl _ _, by rw [hZ]; simp, fun j hj => by omega, fun j hj => ⟨0, by rw [hZ]; simp [hj]⟩⟩
theorem drewN_more {w w' : World} {n : Nat} (h : ∃ m, w' = (w.drewN n).drewN m) : ∃ k, w' = w.drewN k := by
  obtain ⟨m, rfl⟩ := h
  refine ⟨n + m, ?_⟩
  simp [World.drewN, Nat.add_assoc]
theorem turn_int (x : BitVec 32) (k : Int) (w : World) (h0 : 1 ≤ k) (h1 : k ≤ 31) :
    Calls Tryz.prog 89 #[.int .u32 x.toNat, .int .i64 k] w fun e w' => e = .returned (.int .u32 (rr k.toNat x).toNat) ∧ ∃ nq, w' = w.drewN nq := by
  have h := turn_any x k.toNat w (by omega) (by omega)
  rwa [show ((k.toNat : Nat) : Int) = k from by omega] at h
/-- k of the numbers are added. -/
structure Aq (w : World) (HB : Nat) (h v : V8) (k : Nat) (g : V8) (wr : World) : Prop where
  st : Blk wr HB (v8c g) 98
  grown : w.grownBy wr (some HB)
  done : ∀ j, j < 8 → g.list.getD j 0 = if j < k then h.list.getD j 0 + v.list.getD j 0 else h.list.getD j 0
theorem Aq.drewN {w : World} {HB : Nat} {h v : V8} {k : Nat} {g : V8} {wr : World} (H : Aq w HB h v k g wr) (n : Nat) : Aq w HB h v k g (wr.drewN n) := ⟨H.st, H.grown.trans (grown_drewN wr n _), H.done⟩
theorem v8c_setk (g : V8) (k : Nat) (x : BitVec 32) (hk : k < 8) : (v8c g).setIfInBounds k (c32 x) = v8c (g.setk k x) := by
  apply Array.ext_getElem?
  intro i
  rw [Array.getElem?_setIfInBounds, v8c_size]
  by_cases hi : i < 8
  · rw [v8c_get _ _ hi, v8c_get _ _ hi, setk_get _ _ _ _ hi]
    split
    · rfl
    · rfl
  · rw [if_neg (by omega), Array.getElem?_eq_none (by rw [v8c_size]; omega), Array.getElem?_eq_none (by rw [v8c_size]; omega)]
theorem Aq.put {w : World} {HB : Nat} {h v : V8} {k : Nat} {g : V8} {wr : World} (H : Aq w HB h v k g wr) (hk : k < 8) :
    Aq w HB h v (k + 1) (g.setk k (g.list.getD k 0 + v.list.getD k 0)) (wr.setCell ⟨HB, k, none⟩ (c32 (g.list.getD k 0 + v.list.getD k 0))) where
  st := by rw [← v8c_setk _ _ _ hk]; exact H.st.set k _
  grown := Lib.grownBy_setB H.grown k _
  done := fun j hj => by
    rw [setk_get _ _ _ _ hj]
    split
    · rename_i e; subst e; rw [if_pos (by omega), H.done k hk, if_neg (by omega)]
    · rw [H.done j hj]
      by_cases e : j < k
      · rw [if_pos e, if_pos (by omega)]
      · rw [if_neg e, if_neg (by omega)]
theorem t1_raw (v : V8) (k x : BitVec 32) : ((((v.h.toNat : Int) + bits .xor .u32 (bits .xor .u32 ((rr 6 v.e).toNat : Int) ((rr 11 v.e).toNat : Int)) ((rr 25 v.e).toNat : Int) + bits .xor .u32 (bits .and .u32 (v.e.toNat : Int) (v.f.toNat : Int)) (bits .and .u32 (bits .xor .u32 IntKind.u32.max (v.e.toNat : Int)) (v.g.toNat : Int)) + (k.toNat : Int)) % 4294967296 + (x.toNat : Int)) % 4294967296) = ((v.t1 k x).toNat : Int) := by
  rw [ch_raw, xor32, xor32]
  simp only [V8.t1, bsE, BitVec.toNat_add]
  omega
theorem t2_raw (v : V8) : (bits .xor .u32 (bits .xor .u32 ((rr 2 v.a).toNat : Int) ((rr 13 v.a).toNat : Int)) ((rr 22 v.a).toNat : Int) + bits .xor .u32 (bits .xor .u32 (bits .and .u32 (v.a.toNat : Int) (v.b.toNat : Int)) (bits .and .u32 (v.a.toNat : Int) (v.c.toNat : Int))) (bits .and .u32 (v.b.toNat : Int) (v.c.toNat : Int))) % 4294967296 = (v.t2.toNat : Int) := by
  rw [mj_raw, xor32, xor32]
  simp only [V8.t2, bsA, BitVec.toNat_add]
  omega
theorem grown_setRow (w : World) (g : Nat) (C : Array Value) : w.grownBy (w.setRow g C) (some g) :=
  ⟨rfl, rfl, rfl, by simp, fun k _ hk => setRow_other w g k _ (fun e => hk (by rw [e]))⟩
theorem info_8v : (Tryz.prog.info? 98).map (·.size) = some 8 := by kernel_rfl
end Go.Proofs.YtpfknjnigcefgaaGreatDoor
