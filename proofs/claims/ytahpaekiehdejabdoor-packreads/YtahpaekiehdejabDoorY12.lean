import Derived.Test.YtahpaekiehdejabDoorY11
import Derived.Test.YtahpaekiehdejabDoorY7
import Derived.Test.YtahpaekiehdejabDoorY6
import Derived.Test.YtahpaekiehdejabDoorY4
import Derived.Test.YtahpaekiehdejabDoorY1
import Derived.Test.YtahpaekiehdejabDoorY3
import Derived.Lib.ConvBytes
import Derived.Laws.IdiomStrings
import Derived.Lib.AppendStr
import Derived.Laws.AppendOwn
import Derived.Laws.CopyRow
import Derived.BigQuiet
import Derived.Deep.QuietTactic
/- Rows of objects read as lists; what a copied list gives. -/
namespace Go.Proofs.YtahpaekiehdejabDoor
open Go.RowKit
set_option linter.unusedSimpArgs false
set_option linter.unusedVariables false
theorem obv_get : ∀ (l : List Ob) (i : Nat) (o : Ob), l[i]? = some o → (obv l)[i * 2]? = some (.int .u8 (o.k.toNat : Int)) ∧ (obv l)[i * 2 + 1]? = some (.string o.p)
  | [], _, _, h => by simp at h
  | a :: l, 0, o, h => by simp at h; subst h; simp [obv]
  | a :: l, i + 1, o, h => by
    obtain ⟨h1, h2⟩ := obv_get l i o (by simpa using h)
    have e : obv (a :: l) = Value.int .u8 (a.k.toNat : Int) :: Value.string a.p :: obv l := rfl
    rw [e, show (i + 1) * 2 = i * 2 + 1 + 1 from by omega, show i * 2 + 1 + 1 + 1 = i * 2 + 1 + 1 + 1 from rfl]
    simp only [List.getElem?_cons_succ]
    exact ⟨h1, h2⟩
theorem obv_length (l : List Ob) : (obv l).length = l.length * 2 := by
  induction l with
  | nil => rfl
  | cons a l ih =>
    have e : obv (a :: l) = Value.int .u8 (a.k.toNat : Int) :: Value.string a.p :: obv l := rfl
    rw [e, List.length_cons, List.length_cons, ih, List.length_cons]; omega
/-- Objects whose payloads are short enough to be at all. -/
def ObZ (l : List Ob) : Prop := ∀ o ∈ l, o.p.size ≤ 140737488351232
theorem ObL.sz {w : World} {a : Option Addr} {l : List Ob} (h : ObL w a l) : ObZ l := fun o ho => by
  obtain ⟨i, hi, e⟩ := List.getElem_of_mem ho
  obtain ⟨_, _, _, _, _, _, h6⟩ := h i o (by rw [List.getElem?_eq_getElem hi, e])
  exact h6
theorem row_obl {w : World} {B n m : Nat} {v : Value} {l x : List Ob} (h : w.ownsRow B 41 2 v m (obv (l ++ x))) (hz : ObZ l) (hm : (l ++ x).length = m) :
    ∃ a c, v = .slice a m c ∧ ObL w a l := by
  rcases h.2 with ⟨rfl, h0⟩ | ⟨g, cap, cur, rfl, hle, hg, hnc, _, hc, ht⟩
  · subst h0
    have : l = [] := by
      have := List.eq_nil_of_length_eq_zero hm
      exact (List.append_eq_nil_iff.1 this).1
    subst this
    exact ⟨none, 0, rfl, fun i o hi => by simp at hi⟩
  · refine ⟨some ⟨g, 0, none⟩, cap, rfl, fun i o hi => ⟨g, 0, rfl, (Array.getElem?_eq_some_iff.1 hg).1, ?_, ?_, hz o (List.mem_of_getElem? hi)⟩⟩
    all_goals
      have hil : i < l.length := (List.getElem?_eq_some_iff.1 hi).1
      have hil2 : i < m := by rw [← hm, List.length_append]; omega
      have hix : (l ++ x)[i]? = some o := by rw [List.getElem?_append_left hil]; exact hi
      obtain ⟨q1, q2⟩ := obv_get _ i o hix
      have hb : Bk w g cur 41 := hg
    · rw [← ht, List.getElem?_take, if_pos (by omega), Array.getElem?_toList] at q1
      rw [hb.cell, Nat.zero_add]; exact q1
    · rw [← ht, List.getElem?_take, if_pos (by omega), Array.getElem?_toList] at q2
      rw [hb.cell, Nat.zero_add]; exact q2
theorem row_obl0 {w : World} {B m : Nat} {v : Value} {l : List Ob} (h : w.ownsRow B 41 2 v m (obv l)) (hz : ObZ l) (hm : l.length = m) : ∃ a c, v = .slice a m c ∧ ObL w a l := by
  have := row_obl (x := []) (n := 0) (by rw [List.append_nil]; exact h) hz (by rw [List.append_nil]; exact hm)
  exact this
/-- What own gives is a list. -/
theorem own_list {w : World} {B n g cp : Nat} {l : List Ob} (h : w.ownsRow B 41 2 (.slice (some ⟨g, 0, none⟩) (n + 1) cp) (n + 1) (obv (l ++ [mkO]))) (hz : ObZ l) (hm : l.length = n) : ObL w (some ⟨g, 0, none⟩) l := by
  obtain ⟨a, c, h1, h2⟩ := row_obl (n := 0) h hz (by rw [List.length_append, List.length_singleton, hm])
  injection h1 with h1 _ _
  rw [h1]; exact h2
/-- own and Build, one behind the other. -/
theorem own_build (l : List Ob) (ad : Option Addr) (n c : Nat) (w : World) (hO : ObL w ad l) (hl : l.length = n) (hn : (n + 1) * 24 ≤ 140737488355328) (hL : Lst w) :
    Calls Tryd.prog 10 #[.slice ad n c] w fun e w' => ∃ v, e = .returned v ∧ Hid (Below w.heap.size w w' ∧ Calls Tryd.prog 11 #[v] w' fun e w'' => e = .returned (.tuple #[.string (buS l), .int .i64 (buE l)]) ∧ Below w.heap.size w w'') := by
  refine (own11 l ad n c w hO hl hn).mono ?_
  rintro e w1 ⟨g, cp, rfl, h1, h2⟩
  refine ⟨_, rfl, h2, ?_⟩
  refine (build_any l _ n cp w1 (own_list h1 hO.sz hl) hl (by omega) (hL.below h2)).mono ?_
  rintro e w2 ⟨rfl, h3⟩
  exact ⟨rfl, h2.trans (h3.mono h2.size)⟩
theorem neq_obj (k : UInt8) (p : ByteArray) (w : World) : (binOp .neq 41 (.agg #[.int .u8 (k.toNat : Int), .string p]) (.agg #[.int .u8 (k.toNat : Int), .string p])).run Tryd.prog w = .ok (.bool false) w := by
  have hu : Tryd.prog.underlying 41 = some (.struct (Tryd.prog.fieldsOf 41)) := by kernel_rfl
  have hst : Tryd.prog.stoodInHeld 41 = false := by kernel_rfl
  have hfs : (Tryd.prog.fieldsOf 41).toList.map (fun q => (q.name != "_", q.type, q.offset)) = [(true, 5, 0), (true, 9, 1)] := by kernel_rfl
  rw [run_neq_struct, run_equalIn_struct w 9999 41 _ _ hu hst]
  generalize (Tryd.prog.fieldsOf 41).toList = fs at hfs
  have hlen : fs.length = 2 := by have := congrArg List.length hfs; simpa using this
  match fs, hlen, hfs with
  | [f0, f1], _, hfs =>
    simp only [List.map_cons, List.map_nil, List.cons.injEq, Prod.mk.injEq, and_true, bne_iff_ne] at hfs
    obtain ⟨⟨n0, t0, o0⟩, n1, t1, o1⟩ := hfs
    have u8a : (isAgg 5).run Tryd.prog w = .ok false w := by kernel_rfl
    have sa : (isAgg 9).run Tryd.prog w = .ok false w := by kernel_rfl
    have q1 : (Op.equalIn 9999 5 (.int .u8 (k.toNat : Int)) (.int .u8 (k.toNat : Int))).run Tryd.prog w = .ok true w := by
      have := run_equalIn_int (P := Tryd.prog) w 9998 5 .u8 .u8 (k.toNat : Int) (k.toNat : Int) Tryd.underlying5
      rwa [beq_self_eq_true] at this
    have q2 : (Op.equalIn 9999 9 (.string p) (.string p)).run Tryd.prog w = .ok true w := by
      have := run_equalIn_string (P := Tryd.prog) w 9998 9 p p Tryd.underlying9
      rwa [beq_self_eq_true] at this
    have p1 : (part 5 #[.int .u8 (k.toNat : Int), .string p] 0).run Tryd.prog w = .ok (.int .u8 (k.toNat : Int)) w := part_cell _ _ _ w u8a rfl
    have p2 : (part 9 #[.int .u8 (k.toNat : Int), .string p] 1).run Tryd.prog w = .ok (.string p) w := part_cell _ _ _ w sa rfl
    simp only [Op.eqFields, n0, n1, t0, t1, o0, o1, ne_eq, not_false_eq_true, if_true, Sem.run_bind, p1, p2, Result.andThen_ok, q1, q2, Bool.not_true, Bool.false_eq_true, if_false, Sem.run_pure]
end Go.Proofs.YtahpaekiehdejabDoor
/- The walks of the document's own step, On, Crc (munimentref03). -/
namespace Go.Proofs.YtahpaekiehdejabDoor
open Go.RowKit
set_option linter.unusedSimpArgs false
set_option linter.unusedVariables false
theorem half_raw (m : BitVec 32) : (m.toNat : Int) / (2 : Int) = ((m >>> 1).toNat : Int) := by rw [BitVec.toNat_ushiftRight, Nat.shiftRight_eq_div_pow]; omega
theorem lsb_mod (m : BitVec 32) : m.getLsbD 0 = decide (m.toNat % 2 = 1) := by
  rw [BitVec.getLsbD, Nat.testBit_zero]
theorem sh1_odd (m : BitVec 32) (h : m.toNat % 2 = 1) : bits .xor .u32 ((m.toNat : Int) / 2) 3988292384 = ((sh1 m).toNat : Int) := by
  rw [half_raw, poly32, xor32, sh1, lsb_mod, decide_eq_true h, if_pos rfl]
theorem sh1_even (m : BitVec 32) (h : ¬ m.toNat % 2 = 1) : (m.toNat : Int) / 2 = ((sh1 m).toNat : Int) := by
  rw [half_raw, sh1, lsb_mod, decide_eq_false h]
  simp
set_option maxHeartbeats 400000 in
set_option maxRecDepth 100000 in
theorem rstep_any (n : BitVec 32) (b : Nat) (w : World) (hb : b < 256) :
    Calls Tryd.prog 126 #[c32 n, .int .u8 b] w fun e w' => e = .returned (c32 (cst n (UInt8.ofNat b))) ∧ w' = w := by
  obtain ⟨m0, hm0⟩ : ∃ m0, m0 = n ^^^ BitVec.ofNat 32 (UInt8.ofNat b).toNat := ⟨_, rfl⟩
  have HX : Hid (bits .xor .u32 (n.toNat : Int) (b : Int) = (m0.toNat : Int)) := by rw [hm0, ← xor32, ← ofByte b hb]; rfl
  have HM : Hid (m0 = n ^^^ BitVec.ofNat 32 (UInt8.ofNat b).toNat) := hm0
  clear hm0
  go_enter Tryd.func126, Tryd.ntmps126
  go_wp2
  rw [HX.out]
  go_loop [0, 5] (fun v i => ∃ (k : Nat) (m : BitVec 32), k ≤ 8 ∧ i = .int .i64 k ∧ v = c32 m ∧ Hid (m = shN32 k m0)) (fun _ i => 8 - (intOf i).toNat)
  case atStart => exact ⟨0, m0, by omega, rfl, rfl, rfl⟩
  case round =>
    obtain ⟨k, m, hk, rfl, rfl, HR⟩ := hrel
    have hlt32 := m.isLt
    by_cases hlt : k < 8
    · by_cases ho : m.toNat % 2 = 1
      · have h1 : (((m.toNat : Int) % 2) == 1) = true := by rw [beq_iff_eq]; omega
        have HO : Hid (m.toNat % 2 = 1) := ho
        clear ho
        go_wp2
        go_round
        case rel => exact ⟨k + 1, sh1 m, by omega, by go_num, by rw [sh1_odd m HO.out], by show sh1 m = _; rw [HR.out]; rfl⟩
        case measure => simp [intOf]; omega
      · have h1 : (((m.toNat : Int) % 2) == 1) = false := by rw [beq_eq_false_iff_ne]; omega
        have HO : Hid (¬ m.toNat % 2 = 1) := ho
        clear ho
        go_wp2
        go_round
        case rel => exact ⟨k + 1, sh1 m, by omega, by go_num, by rw [sh1_even m HO.out], by show sh1 m = _; rw [HR.out]; rfl⟩
        case measure => simp [intOf]; omega
    · go_wp2
      go_ret
      have e : k = 8 := by omega
      refine ⟨ret_i32 ?_, rfl⟩
      rw [HR.out, e, HM.out]; rfl
set_option maxHeartbeats 400000 in
set_option maxRecDepth 100000 in
theorem ron_any (c : BitVec 32) (s : ByteArray) (w : World) (hs : s.size ≤ maxLen) :
    Calls Tryd.prog 121 #[c32 c, .string s] w fun e w' => e = .returned (c32 (onC c (bl s))) ∧ w' = w := by
  unfold maxLen at hs
  have hsg : IntKind.u32.signed = false := rfl
  have hmx := max32
  obtain ⟨d, hd⟩ : ∃ d, d = ~~~ c := ⟨_, rfl⟩
  have HD : Hid (d = ~~~ c) := hd
  clear hd
  go_enter Tryd.func121, Tryd.ntmps121
  go_wp2
  rw [not32, ← HD.out]
  go_loop [5, 6] (fun v i => ∃ (k : Nat) (m : BitVec 32), k ≤ s.size ∧ i = .int .i64 k ∧ v = c32 m ∧ Hid (m = crcR d ((bl s).take k))) (fun _ i => s.size - (intOf i).toNat)
  case atStart => exact ⟨0, d, by omega, rfl, rfl, rfl⟩
  case round =>
    obtain ⟨k, m, hk, rfl, rfl, HM⟩ := hrel
    by_cases hlt : k < s.size
    · go_wp2_with fail
      refine (rstep_any m s[k].toNat _ s[k].toNat_lt).mono ?_
      rintro e w1 ⟨rfl, hw1⟩
      subst hw1
      rw [UInt8.ofNat_toNat]
      go_wp2
      go_round
      case rel => exact ⟨k + 1, cst m s[k], by omega, by go_num, rfl, by show cst m s[k] = _; rw [HM.out, take_snoc s k hlt, crcR_snoc]⟩
      case measure => simp [intOf]; omega
    · go_wp2
      go_ret
      have e : k = s.size := by omega
      refine ⟨ret_i32 ?_, rfl⟩
      rw [not32, HM.out, e, HD.out, List.take_of_length_le (by rw [bl_length]; exact Nat.le_refl _)]
      rfl
set_option maxHeartbeats 400000 in
theorem rcrc_any (s : ByteArray) (w : World) (hs : s.size ≤ maxLen) :
    Calls Tryd.prog 107 #[.string s] w fun e w' => e = .returned (c32 (crcC (bl s))) ∧ w' = w := by
  go_enter Tryd.func107, Tryd.ntmps107
  go_wp2_with fail
  refine (ron_any 0#32 s _ hs).mono ?_
  rintro e w1 ⟨rfl, hb⟩
  subst hb
  go_wp2
  go_ret
  exact ⟨rfl, rfl⟩
end Go.Proofs.YtahpaekiehdejabDoor
/- The walks of the document's own reader (munimentref01): Fixed. -/
namespace Go.Proofs.YtahpaekiehdejabDoor
open Go.RowKit
set_option linter.unusedSimpArgs false
set_option linter.unusedVariables false
theorem set_step {w : World} {b : Nat} {s s' : ByteArray} (hb : b < w.heap.size) (hc : w.cell? ⟨b, 0, none⟩ = some (.string s)) (hf : w.frozen? ⟨b, 0, none⟩ = false) :
    Step b w (w.setCell ⟨b, 0, none⟩ (.string s')) s' := Step.of_set (Below.refl _ _) hb hc hf
set_option maxHeartbeats 400000 in
theorem rfixed_arg (s : ByteArray) (b : Nat) (w : World) (hs : s.size ≤ maxLen) (hc : w.cell? ⟨b, 0, none⟩ = some (.string s)) (hf : w.frozen? ⟨b, 0, none⟩ = false) (hb : b < w.heap.size) (m : Int) (hm : isW m = false) :
    Calls Tryd.prog 108 #[.pointer (some ⟨b, 0, none⟩), .int .i64 m] w fun e w' => e = .returned (.tuple #[.int .u64 0, .int .i64 1]) ∧ Step b w w' s := by
  have HS := still hb hc hf
  have hm' : m < 1 ∨ ¬ m < 1 ∧ 8 < m := by
    rcases Int.lt_or_le m 1 with h | h
    · exact Or.inl h
    · rcases Int.lt_or_le 8 m with g | g
      · exact Or.inr ⟨by omega, g⟩
      · rw [isW_yes h g] at hm; cases hm
  clear hm
  rcases hm' with h | ⟨h, g⟩
  · go_enter Tryd.func108, Tryd.ntmps108
    go_wp2
    go_ret2
    exact ⟨rfl, HS⟩
  · go_enter Tryd.func108, Tryd.ntmps108
    go_wp2
    go_ret2
    exact ⟨rfl, HS⟩
set_option maxHeartbeats 400000 in
theorem rfixed_no (s : ByteArray) (b : Nat) (w : World) (hs : s.size ≤ maxLen) (hc : w.cell? ⟨b, 0, none⟩ = some (.string s)) (hf : w.frozen? ⟨b, 0, none⟩ = false) (hb : b < w.heap.size) (d : Nat) (hd1 : 1 ≤ d) (hd2 : d ≤ 8) (hl : s.size < d) :
    Calls Tryd.prog 108 #[.pointer (some ⟨b, 0, none⟩), .int .i64 d] w fun e w' => e = .returned (.tuple #[.int .u64 0, .int .i64 4]) ∧ Step b w w' s := by
  have HS := still hb hc hf
  go_enter Tryd.func108, Tryd.ntmps108
  go_wp2
  go_ret2
  exact ⟨rfl, HS⟩
theorem rfixStep (acc c k : Nat) (hc : c < 256) (hk : k ≤ 7) (ha : acc < 256 ^ k) :
    IntKind.u64.wrap (IntKind.u64.wrap ((acc : Int) * 256) + IntKind.u64.wrap (c : Int)) = ((acc * 256 + c : Nat) : Int) := by
  have h7 : 256 ^ k ≤ 256 ^ 7 := Nat.pow_le_pow_right (by omega) hk
  rw [IntKind.wrap_u64, IntKind.wrap_u64, IntKind.wrap_u64]
  omega
set_option maxHeartbeats 400000 in
set_option maxRecDepth 100000 in
theorem rfixed_ok (s : ByteArray) (b : Nat) (w : World) (hs : s.size ≤ maxLen) (hc : w.cell? ⟨b, 0, none⟩ = some (.string s)) (hf : w.frozen? ⟨b, 0, none⟩ = false) (hb : b < w.heap.size) (d : Nat) (hd1 : 1 ≤ d) (hd2 : d ≤ 8) (hl : d ≤ s.size) :
    Calls Tryd.prog 108 #[.pointer (some ⟨b, 0, none⟩), .int .i64 d] w fun e w' => e = .returned (.tuple #[.int .u64 (fixV ((bl s).take d)), .int .i64 0]) ∧ Step b w w' (s.extract d s.size) := by
  have hs' := hs
  unfold maxLen at hs'
  have HS : Hid (Step b w (w.setCell ⟨b, 0, none⟩ (.string (s.extract d s.size))) (s.extract d s.size)) := set_step hb hc hf
  go_enter Tryd.func108, Tryd.ntmps108
  go_wp2
  go_loop [6, 7] (fun v i => ∃ (k acc : Nat), k ≤ d ∧ acc < 2 ^ 64 ∧ i = .int .i64 k ∧ v = .int .u64 acc ∧ Hid (acc = fixV ((bl s).take k))) (fun _ i => 10 - (intOf i).toNat)
  case atStart => exact ⟨0, 0, by omega, by omega, rfl, rfl, rfl⟩
  case round =>
    obtain ⟨k, acc, hk1, hacc, rfl, rfl, HR⟩ := hrel
    by_cases hlt : k < d
    · have hkt : k < s.size := by omega
      go_wp2
      go_round
      case rel =>
        have hlt256 := s[k].toNat_lt
        have hl : acc < 256 ^ k := by
          have := fixV_lt ((bl s).take k)
          rw [← HR.out, List.length_take, bl_length, Nat.min_eq_left (by omega)] at this
          exact this
        have e1 := rfixStep acc s[k].toNat k hlt256 (by omega) hl
        have e2 := (fixStep acc s[k].toNat k hlt256 (by omega) hl).2
        refine ⟨k + 1, _, by omega, e2, by go_num, ?_, ?_⟩
        · rw [← e1]
        · rw [take_snoc s k hkt, fixV_snoc, ← HR.out]; rfl
      case measure => simp [intOf]; omega
    · go_wp2
      go_ret2
      refine ⟨ret_ue ?_, HS.out⟩
      have e : k = d := by omega
      rw [HR.out, e]
end Go.Proofs.YtahpaekiehdejabDoor
/- The document's own Fixed, of any width. -/
namespace Go.Proofs.YtahpaekiehdejabDoor
open Go.RowKit
set_option linter.unusedSimpArgs false
set_option linter.unusedVariables false
set_option maxHeartbeats 400000 in
theorem rfix_any (n d : Nat) (w : World) (hn : n < 18446744073709551616) (hd1 : 1 ≤ d) (hd2 : d ≤ 8) (hfit : n < 256 ^ d) :
    Calls Tryd.prog 93 #[.int .u64 (n : Int), .int .i64 d] w fun e w' => e = .returned (.string ((⟨#[]⟩ : ByteArray) ++ sb (fixN d n))) ∧ Below w.heap.size w w' := by
  go_enter Tryd.func93, Tryd.ntmps93
  go_wp2_with (go_at_call 115; refine (rputFixed_ok ⟨#[]⟩ n d _ hn hd1 hd2 hfit (by decide)).mono ?_; rintro e w1 ⟨rfl, hb1⟩)
  go_ret
  exact ⟨rfl, hb1⟩
end Go.Proofs.YtahpaekiehdejabDoor
/- The walks of the document's own Laid, Frame, Unframe (munimentref03). -/
namespace Go.Proofs.YtahpaekiehdejabDoor
open Go.RowKit
set_option linter.unusedSimpArgs false
set_option linter.unusedVariables false
set_option maxHeartbeats 400000 in
theorem laid_any (p : ByteArray) (w : World) (hp : p.size ≤ 67108864) :
    Calls Tryd.prog 83 #[.string p] w fun e w' => e = .returned (.string (frm p)) ∧ Below w.heap.size w w' := by
  go_enter Tryd.func83, Tryd.ntmps83
  go_wp2_with fail
  refine (rfix_any p.size 4 _ (by omega) (by omega) (by omega) (by omega)).mono ?_
  rintro e w1 ⟨rfl, hb1⟩
  rw [emp_append]
  obtain ⟨a, ha⟩ : ∃ a, a = sb (fixN 4 p.size) := ⟨_, rfl⟩
  rw [← ha]
  have hal : a.size ≤ 4 := by rw [ha, sb4_size]; omega
  have HA : Hid (a = sb (fixN 4 p.size)) := ha
  clear ha
  go_wp2_with fail
  refine (rcrc_any (a ++ p) _ (by rw [append_size]; unfold maxLen; omega)).mono ?_
  rintro e w2 ⟨rfl, hw2⟩
  subst hw2
  obtain ⟨q, hq⟩ : ∃ q : BitVec 32, q = crcC (bl (a ++ p)) := ⟨_, rfl⟩
  rw [← hq]
  have HQ : Hid (q = crcC (bl a ++ bl p)) := by show q = _; rw [hq, bl_append]
  have hlt := q.isLt
  clear hq
  go_wp2_with fail
  refine (rfix_any q.toNat 4 _ (by omega) (by omega) (by omega) (by omega)).mono ?_
  rintro e w3 ⟨rfl, hb3⟩
  rw [emp_append]
  obtain ⟨h, hh⟩ : ∃ h, h = sb (fixN 4 q.toNat) := ⟨_, rfl⟩
  rw [← hh]
  have hhz : h.size ≤ 4 := by rw [hh, sb4_size]; omega
  have HH : Hid (h = sb (fixN 4 q.toNat)) := hh
  clear hh
  go_wp2
  go_ret
  refine ⟨ret_str ?_, ?_⟩
  · rw [HH.out, HQ.out, HA.out]; exact frm_eq p
  · exact hb1.trans (hb3.mono hb1.size)
end Go.Proofs.YtahpaekiehdejabDoor
/- The document's own Put, PutText, Len. -/
namespace Go.Proofs.YtahpaekiehdejabDoor
open Go.RowKit
set_option linter.unusedSimpArgs false
set_option linter.unusedVariables false
/-- One byte, as a slice of its own, as a string. -/
theorem put_more (s a : ByteArray) (n y : Nat) (v : Int) (h : a ++ sb (encS y) = s ++ sb (encS n)) (hy : 128 ≤ y) (hy2 : y < 2 ^ 64) (hv : v = (y % 128 + 128 : Nat)) :
    (a ++ strOfNums [v]) ++ sb (encS (y / 128)) = s ++ sb (encS n) := by
  rw [← h, encS_step y hy hy2, one_is _ v hv]
  apply bl_inj
  simp [bl_append, bl_sb, by8]
theorem put_done (s a : ByteArray) (n y : Nat) (v : Int) (h : a ++ sb (encS y) = s ++ sb (encS n)) (hy : y < 128) (hv : v = (y : Nat)) : a ++ strOfNums [v] = s ++ sb (encS n) := by
  rw [← h, encS_small y hy, one_is _ v hv]
theorem slen_step (y : Nat) (h : 128 ≤ y) (hy : y < 2 ^ 64) : slen y = slen (y / 128) + 1 := by
  rw [← encS_length y, ← encS_length (y / 128), encS_step y h hy]; rfl
set_option maxHeartbeats 400000 in
set_option maxRecDepth 100000 in
theorem rput_any (s : ByteArray) (x : Int) (w : World) (h0 : 0 ≤ x) (h1 : x ≤ 18446744073709551615) (hs : s.size ≤ 4611686018427387904) :
    Calls Tryd.prog 84 #[.string s, .int .u64 x] w fun e w' => e = .returned (.string (s ++ sb (encS x.toNat))) ∧ Below w.heap.size w w' := by
  obtain ⟨n, rfl⟩ := Int.eq_ofNat_of_zero_le h0
  rw [Int.toNat_natCast]
  have hc1 := conv1
  have hz1 := one_size
  have hn : n < 18446744073709551616 := by omega
  go_enter Tryd.func84, Tryd.ntmps84
  go_wp2
  go_loopw [0, 1] (fun v i wr => ∃ (y : Nat) (a : ByteArray), i = .int .u64 y ∧ y < 18446744073709551616 ∧ v = .string a ∧ a.size + slen y = s.size + slen n ∧ Hid (a ++ sb (encS y) = s ++ sb (encS n)) ∧ Below w.heap.size w wr) (fun _ i _ => (intOf i).toNat)
  case atStart => exact ⟨n, s, rfl, hn, rfl, rfl, rfl, Below.refl _ _⟩
  case round =>
    obtain ⟨y, a, rfl, hy, rfl, haz, HE, hbel⟩ := hrel
    have hb0 := hbel.size
    have l1 := slen_le n (by omega)
    have hab : a.size ≤ 4611686018427387914 := by omega
    have HZ : Hid (a.size + slen y = s.size + slen n) := haz
    clear haz
    by_cases hy1 : 128 ≤ y
    · go_wp2
      go_roundw
      case rel => exact ⟨y / 128, _, by go_num, by omega, rfl, by rw [append_size, one_size]; have := slen_step y hy1 (by omega); have := HZ.out; omega, put_more s a n y _ HE.out hy1 (by omega) (by omega), hbel.alloc hb0 _⟩
      case measure => simp [intOf]; omega
    · go_wp2
      go_ret
      exact ⟨ret_str (put_done s a n y _ HE.out (by omega) rfl), hbel.alloc hb0 _⟩
end Go.Proofs.YtahpaekiehdejabDoor
/- A string's bytes as a row of the call's own, and back. -/
namespace Go.Proofs.YtahpaekiehdejabDoor
open Go.RowKit
set_option linter.unusedSimpArgs false
set_option linter.unusedVariables false
/-- A row that a conversion has made: its cells; the mark stands behind them. -/
abbrev Cvb (w : World) (g : Nat) (C : Array Value) : Prop := w.heap[g]? = some (.cells C 5 (C.size, C.size + 1))
theorem Cvb.cell {w : World} {g : Nat} {C : Array Value} (h : Cvb w g C) (j : Nat) : w.cell? ⟨g, j, none⟩ = C[j]? := cell_of_row w g j C _ _ h
theorem Cvb.frozen {w : World} {g : Nat} {C : Array Value} (h : Cvb w g C) (j : Nat) (hj : j < C.size) : w.frozen? ⟨g, j, none⟩ = false := by
  have h' : w.heap[g]? = some (.cells C 5 (C.size, C.size + 1)) := h
  simp only [World.frozen?, h']
  simp; omega
theorem Cvb.set {w : World} {g : Nat} {C : Array Value} (h : Cvb w g C) (i : Nat) (v : Value) : Cvb (w.setCell ⟨g, i, none⟩ v) g (C.setIfInBounds i v) := by
  have := Joins.block_setCell (i := i) h v
  unfold Cvb
  rw [this]; simp
theorem conv_bytes (s : ByteArray) (u : World) : ∃ (cap : Nat) (W : World) (C : Array Value), (convert 9 83 (.string s)).run Tryd.prog u = .ok (.slice (some ⟨u.heap.size, 0, none⟩) s.size cap) W ∧
    Below u.heap.size u W ∧ W.heap.size = u.heap.size + 1 ∧ Cvb W u.heap.size C ∧ s.size ≤ C.size ∧ s.size ≤ cap ∧ ∀ j (hj : j < s.size), C[j]? = some (.int .u8 (s[j].toNat : Int)) := by
  refine ⟨grownCap u s.size 0 5, Lib.bytesWorld u 5 s, Lib.bytesCells u 5 s, Lib.run_convert_string_bytes u _ _ _ s Tryd.underlying9 Tryd.underlying83 Tryd.underlying5, ?_, Lib.bytesWorld_size _ _ _, Lib.bytesWorld_at_new _ _ _, ?_, ?_, ?_⟩
  · refine ⟨?_, ?_, ?_, by rw [Lib.bytesWorld_size]; omega, fun k hk => Lib.bytesWorld_at_old _ _ _ _ hk⟩
    all_goals simp [Lib.bytesWorld, World.freeze, World.alloc, World.drew, -World.alloc_eq, -World.drew_eq]
  · simp [Lib.bytesCells]
  · exact grownCap_ge _ _ _ _
  · intro j hj
    have hj' : j < s.data.size := hj
    rw [Lib.bytesCells, Array.getElem?_append_left (by simpa using hj)]
    simp only [Array.getElem?_map, Array.getElem?_eq_getElem hj', Option.map_some]
    rfl
theorem conv_back (w : World) (g cap n : Nat) (C : Array Value) (l : List UInt8) (h : Cvb w g C) (hl : l.length = n) (hC : ∀ j (hj : j < l.length), C[j]? = some (.int .u8 (l[j].toNat : Int))) :
    (convert 83 9 (.slice (some ⟨g, 0, none⟩) n cap)).run Tryd.prog w = .ok (.string ⟨l.toArray⟩) w := by
  subst hl
  refine run_convert_bytes_back w 83 9 5 ⟨g, 0, none⟩ cap l Tryd.underlying83 Tryd.underlying5 Tryd.underlying9 (fun j hj => ?_)
  rw [WideShapes.add_plain, Nat.zero_add, h.cell, hC j hj]
/-- Bytes as numbers, one of them laid anew. -/
def setNums (s : ByteArray) (j : Nat) (X : Int) : List Int := ((bl s).map fun b : UInt8 => (b.toNat : Int)).set j X
theorem setNums_length (s : ByteArray) (j : Nat) (X : Int) : (setNums s j X).length = s.size := by simp [setNums, bl_length]
def trnS (s : ByteArray) (j : Nat) (X : Int) : ByteArray := strOfNums (setNums s j X)
theorem conv_set (s : ByteArray) (w : World) (g cap j : Nat) (C : Array Value) (h : Cvb w g C) (hj : j < s.size) (hz : s.size ≤ C.size) (hC : ∀ j (hj : j < s.size), C[j]? = some (.int .u8 (s[j].toNat : Int))) (X : Int) :
    (convert 83 9 (.slice (some ⟨g, 0, none⟩) s.size cap)).run Tryd.prog (w.setCell ⟨g, j, none⟩ (.int .u8 X)) = .ok (.string (trnS s j X)) (w.setCell ⟨g, j, none⟩ (.int .u8 X)) := by
  refine run_convert_bytes_arg _ 83 5 Tryd.underlying83 Tryd.underlying5 g 0 s.size cap _ (setNums_length s j X) (fun i hi => ?_) 9 Tryd.underlying9
  rw [Nat.zero_add, (h.set j _).cell, Array.getElem?_setIfInBounds, setNums, List.getD, List.getElem?_set]
  by_cases e : j = i
  · subst e
    rw [if_pos rfl, if_pos (by omega), if_pos rfl, if_pos (by simp [bl_length]; exact hj)]
    rfl
  · rw [if_neg e, if_neg e, hC i hi, List.getElem?_map, List.getElem?_eq_getElem (by rw [bl_length]; exact hi)]
    rfl
theorem bl_nums (l : List Int) : bl (strOfNums l) = l.map (fun x => UInt8.ofNat x.toNat) := rfl
theorem bl_trn (s : ByteArray) (j : Nat) (X : Int) : bl (trnS s j X) = (bl s).set j (UInt8.ofNat X.toNat) := by
  rw [trnS, bl_nums, setNums, List.map_set, List.map_map]
  congr 1
  have : ((fun x : Int => UInt8.ofNat x.toNat) ∘ fun b : UInt8 => (b.toNat : Int)) = id := by funext b; simp
  rw [this, List.map_id]
end Go.Proofs.YtahpaekiehdejabDoor
/- A row of bytes of the call's own whose cells are all free, whatever mark stands behind them (what a conversion of a string makes): append onto it. -/
namespace Go.Proofs.YtahpaekiehdejabDoor
open Go.RowKit
set_option linter.unusedSimpArgs false
set_option linter.unusedVariables false
theorem store_free (P : Program) (g o : Nat) (t : TypeId) (fz : Nat × Nat) : ∀ (vs : List Value) (i : Nat) (cur : Array Value) (w : World), w.heap[g]? = some (.cells cur t fz) → (∀ j, j < cur.size → ¬ (fz.1 ≤ j ∧ j < fz.2)) → o + i + vs.length ≤ cur.size → (∀ v ∈ vs, v.oneCell' = true) →
    (storeCells ⟨g, o, none⟩ vs i).run P w = .ok () (w.setRow g (cur.toList.take (o + i) ++ vs ++ cur.toList.drop (o + i + vs.length)).toArray)
  | [], i, cur, w, hg, _, _, _ => by
    have e : w.setRow g cur = w := setRow_self w g cur t fz hg
    simp [storeCells, e]
  | x :: xs, i, cur, w, hg, hfr, hl, h1 => by
    rw [List.length_cons] at hl
    have hin : o + i < cur.size := by omega
    have ha : (⟨g, o, none⟩ : Addr).add i = ⟨g, o + i, none⟩ := WideShapes.add_plain _ _ _
    have hc : w.cell? ⟨g, o + i, none⟩ = some cur[o + i] := by rw [cell_of_row w g (o + i) cur t fz hg, Array.getElem?_eq_getElem hin]
    have hf : w.frozen? ⟨g, o + i, none⟩ = false := by
      have h' := hfr (o + i) hin
      simp only [World.frozen?, hg]
      simp only [Bool.and_eq_false_iff, decide_eq_false_iff_not]
      omega
    have hs : (store ((⟨g, o, none⟩ : Addr).add i) x).run P w = .ok () (w.setRow g (cur.setIfInBounds (o + i) x)) := by
      rw [ha, run_store P w _ x _ (h1 x (List.mem_cons_self ..)), hc]
      simp [hf, setCell_eq_setRow w g (o + i) cur t fz x hg]
    have ih := store_free P g o t fz xs (i + 1) (cur.setIfInBounds (o + i) x) (w.setRow g (cur.setIfInBounds (o + i) x)) (setRow_heap w g cur _ t _ hg) (by simpa using hfr) (by simp; omega) (fun v hv => h1 v (List.mem_cons_of_mem _ hv))
    have e := list_seg_step cur.toList (o + i) x xs (by simp; omega)
    simp only [storeCells, Sem.run_bind, hs, Result.andThen_ok, ih, setRow_setRow]
    congr 3
    simpa [Array.toList_setIfInBounds, Nat.add_assoc] using e
/-- Bytes that the call owns, all its cells free. -/
def Fre (w : World) (B : Nat) (v : Value) (xs : List Value) : Prop :=
  ∃ g cap cur fz, v = .slice (some ⟨g, 0, none⟩) xs.length cap ∧ B ≤ g ∧ w.heap[g]? = some (.cells cur 5 fz) ∧ (∀ j, j < cap → ¬ (fz.1 ≤ j ∧ j < fz.2)) ∧ xs.length ≤ cap ∧ cap ≤ maxLen ∧ cur.size = cap ∧ cur.toList.take xs.length = xs
theorem Fre.kept {w w' : World} {B : Nat} {v : Value} {xs : List Value} {r : Option Nat} (h : Fre w B v xs) (hg : w.grownBy w' r) (hr : ∀ k, r = some k → k < B) : Fre w' B v xs := by
  obtain ⟨g, cap, cur, fz, rfl, h1, h2, h3⟩ := h
  refine ⟨g, cap, cur, fz, rfl, h1, ?_, h3⟩
  rw [hg.block g (blk_lt h2) (fun e => by have := hr g e.symm; omega)]
  exact h2
theorem Fre.cell {w : World} {B : Nat} {v : Value} {xs : List Value} (h : Fre w B v xs) : ∃ g cap, v = .slice (some ⟨g, 0, none⟩) xs.length cap ∧ B ≤ g ∧ xs.length ≤ cap ∧ cap ≤ maxLen ∧ ∀ j, j < xs.length → w.cell? ⟨g, j, none⟩ = xs[j]? := by
  obtain ⟨g, cap, cur, fz, rfl, h1, h2, h3, h4, h5, h6, h7⟩ := h
  refine ⟨g, cap, rfl, h1, h4, h5, fun j hj => ?_⟩
  rw [cell_of_row w g j cur _ fz h2, ← Array.getElem?_toList, ← List.getElem?_take_of_lt hj, h7]
theorem Fre.of_conv (s : ByteArray) (u : World) (hs : s.size ≤ 140737488351300) : ∃ (v : Value) (W : World), (convert 9 83 (.string s)).run Tryd.prog u = .ok v W ∧
    Below u.heap.size u W ∧ Fre W u.heap.size v (Lib.strCells s) := by
  refine ⟨_, _, Lib.run_convert_string_bytes u _ _ _ s Tryd.underlying9 Tryd.underlying83 Tryd.underlying5, ?_, ?_⟩
  · refine ⟨?_, ?_, ?_, by rw [Lib.bytesWorld_size]; omega, fun k hk => Lib.bytesWorld_at_old _ _ _ _ hk⟩
    all_goals simp [Lib.bytesWorld, World.freeze, World.alloc, World.drew, -World.alloc_eq, -World.drew_eq]
  · have hge := grownCap_ge u s.size 0 5
    have hC : (Lib.bytesCells u 5 s).size = grownCap u s.size 0 5 := by
      have : s.data.size = s.size := rfl
      simp [Lib.bytesCells]; omega
    refine ⟨u.heap.size, grownCap u s.size 0 5, _, _, by rw [Lib.strCells_length], Nat.le_refl _, Lib.bytesWorld_at_new _ _ _, ?_, by rw [Lib.strCells_length]; exact hge, grownCap_le_maxLen _ _ _ _ (by unfold maxLen; omega), hC, ?_⟩
    · intro j hj
      rw [hC]; omega
    · rw [Lib.strCells_length, Lib.bytesCells, Array.toList_append, List.take_left' (by simp)]
      simp [Lib.strCells]
theorem info_by : (Tryd.prog.info? 5).map (fun i => (i.zero, i.size, i.bytes)) = some (some (.int .u8 0), 1, 1) := by kernel_rfl
theorem Fre.push {w : World} {B : Nat} {v : Value} {xs : List Value} (h : Fre w B v xs) (hB : B ≤ w.heap.size) (ty : TypeId) (a : Addr) (c : Nat) (x : Int) (hx : w.cell? a = some (.int .u8 x)) (hl : xs.length ≤ 140737488355200) :
    ∃ v' w', (Builtin.append_ #[83, 83] ty #[v, .slice (some a) 1 c]).run Tryd.prog w = .ok v' w' ∧ Fre w' B v' (xs ++ [.int .u8 x]) ∧ w.grownBy w' v.ownBlock ∧ (∀ k, v.ownBlock = some k → B ≤ k) := by
  obtain ⟨i0, hi, hz0, hz1, hz2⟩ := info_parts info_by
  obtain ⟨g, cap, cur, fz, rfl, h1, h2, h3, h4, h5, h6, h7⟩ := h
  have hnews : ∀ (j : Nat) (u : Value), [Value.int .u8 x][j]? = some u → w.cell? (a.add j) = some u := by
    intro j u hj
    cases j with
    | zero => simp at hj; subst hj; exact hx
    | succ j => simp at hj
  have hone : ∀ u ∈ [Value.int .u8 x], u.oneCell' = true := by intro u hu; simp at hu; subst hu; rfl
  have hob : ∀ k, (Value.slice (some ⟨g, 0, none⟩) xs.length cap).ownBlock = some k → B ≤ k := by
    intro k hk; simp [Value.ownBlock] at hk; omega
  have holds : ∀ j u, xs[j]? = some u → w.cell? ((⟨g, 0, none⟩ : Addr).add j) = some u := by
    intro j u hj
    have hjl : j < xs.length := (List.getElem?_eq_some_iff.1 hj).1
    rw [WideShapes.add_plain, Nat.zero_add, cell_of_row w g j cur _ fz h2, ← Array.getElem?_toList, ← List.getElem?_take_of_lt hjl, h7, hj]
  by_cases hroom : xs.length + 1 ≤ cap
  · have hf := run_firstCells_some (P := Tryd.prog) w 1 1 a 1 c [.int .u8 x] rfl hnews
    have hst := store_free Tryd.prog g xs.length 5 fz [.int .u8 x] 0 cur w h2 (by rw [h6]; exact h3) (by simp; omega) hone
    simp only [Nat.add_zero, List.length_singleton] at hst
    refine ⟨.slice (some ⟨g, 0, none⟩) (xs.length + 1) cap, w.setRow g (cur.toList.take xs.length ++ [Value.int .u8 x] ++ cur.toList.drop (xs.length + 1)).toArray, ?_, ⟨g, cap, _, fz, by simp, h1, setRow_heap w g cur _ _ _ h2, h3, by simp; omega, h5, ?_, ?_⟩, ⟨rfl, rfl, rfl, by simp, fun k _ hk => setRow_other w g k _ (fun e => hk (by simp [Value.ownBlock, e]))⟩, hob⟩
    · simp [Builtin.append_, run_underlying Tryd.underlying83, sizeOf, typeInfo, hi, hz1, Builtin.lenOf, hroom, hf, Addr.add_lit, hst]
    · simp; omega
    · rw [h7]
      exact List.take_left' rfl
  · have hr := run_append_grow (P := Tryd.prog) w 83 ty 5 i0 (.int .u8 0) Tryd.underlying83 hi hz0 ⟨g, 0, none⟩ xs.length cap xs (by rw [hz1, Nat.mul_one]) holds a 1 c [.int .u8 x] (by rw [hz1]; rfl) hnews (by omega) (by omega) (by rw [hz2]; exact growslice_fits (by omega) (by omega))
    have hge := grownCap_ge w (xs.length + 1) cap 5
    have hcm2 := grownCap_le_maxLen w (xs.length + 1) cap 5 (by unfold maxLen; omega)
    refine ⟨_, _, hr, ⟨w.heap.size, _, _, (0, 0), by simp, hB, heap_alloc_new w.drew _, by simp, by simpa using hge, hcm2, ?_, ?_⟩, ⟨rfl, rfl, rfl, by simp, fun k hk _ => heap_alloc_old w.drew _ hk⟩, hob⟩
    · have hzz : (Value.int IntKind.u8 0).cells.size = 1 := rfl
      simp only [Array.size_append, List.size_toArray, size_zeroCells, hzz, List.length_singleton]
      omega
    · simp only [Array.toList_append, List.append_assoc]
      rw [← List.append_assoc]
      exact List.take_left' (by simp)
theorem Fre.pushS {w : World} {B : Nat} {v : Value} {xs : List Value} (h : Fre w B v xs) (hB : B ≤ w.heap.size) (ty : TypeId) (s : ByteArray) (hs : s.size ≤ 64) (hl : xs.length ≤ 140737488355200) :
    ∃ v' w', (Builtin.append_ #[83, 9] ty #[v, .string s]).run Tryd.prog w = .ok v' w' ∧ Fre w' B v' (xs ++ Lib.strCells s) ∧ w.grownBy w' v.ownBlock ∧ (∀ k, v.ownBlock = some k → B ≤ k) := by
  obtain ⟨i0, hi, hz0, hz1, hz2⟩ := info_parts info_by
  obtain ⟨g, cap, cur, fz, rfl, h1, h2, h3, h4, h5, h6, h7⟩ := h
  have hob : ∀ k, (Value.slice (some ⟨g, 0, none⟩) xs.length cap).ownBlock = some k → B ≤ k := by
    intro k hk; simp [Value.ownBlock] at hk; omega
  have hsl := Lib.strCells_length s
  have holds : ∀ j u, xs[j]? = some u → w.cell? ((⟨g, 0, none⟩ : Addr).add j) = some u := by
    intro j u hj
    have hjl : j < xs.length := (List.getElem?_eq_some_iff.1 hj).1
    rw [WideShapes.add_plain, Nat.zero_add, cell_of_row w g j cur _ fz h2, ← Array.getElem?_toList, ← List.getElem?_take_of_lt hjl, h7, hj]
  by_cases hroom : xs.length + s.size ≤ cap
  · have hf := Lib.run_firstCells_string (P := Tryd.prog) w 1 s
    have hst := store_free Tryd.prog g xs.length 5 fz (Lib.strCells s) 0 cur w h2 (by rw [h6]; exact h3) (by rw [hsl]; omega) (Lib.strCells_oneCell s)
    simp only [Nat.add_zero, hsl] at hst
    refine ⟨.slice (some ⟨g, 0, none⟩) (xs.length + s.size) cap, w.setRow g (cur.toList.take xs.length ++ Lib.strCells s ++ cur.toList.drop (xs.length + s.size)).toArray, ?_, ⟨g, cap, _, fz, by rw [List.length_append, hsl], h1, setRow_heap w g cur _ _ _ h2, h3, by rw [List.length_append, hsl]; omega, h5, ?_, ?_⟩, ⟨rfl, rfl, rfl, by simp, fun k _ hk => setRow_other w g k _ (fun e => hk (by simp [Value.ownBlock, e]))⟩, hob⟩
    · simp [Builtin.append_, run_underlying Tryd.underlying83, run_underlying Tryd.underlying9, sizeOf, typeInfo, hi, hz1, Builtin.lenOf, hroom, hf, Addr.add_lit, hst]
    · simp [hsl]; omega
    · rw [h7]
      exact List.take_left' rfl
  · have hr := Lib.run_append_grow_string (P := Tryd.prog) w 83 9 ty 5 i0 (.int .u8 0) Tryd.underlying83 Tryd.underlying9 hi hz0 ⟨g, 0, none⟩ xs.length cap xs (by rw [hz1, Nat.mul_one]) holds s (by omega) (by omega) (by rw [hz2]; exact growslice_fits (by omega) (by omega))
    have hge := grownCap_ge w (xs.length + s.size) cap 5
    have hcm2 := grownCap_le_maxLen w (xs.length + s.size) cap 5 (by unfold maxLen; omega)
    refine ⟨_, _, hr, ⟨w.heap.size, _, _, (0, 0), by rw [List.length_append, hsl], hB, heap_alloc_new w.drew _, by simp, by rw [List.length_append, hsl]; exact hge, hcm2, ?_, ?_⟩, ⟨rfl, rfl, rfl, by simp, fun k hk _ => heap_alloc_old w.drew _ hk⟩, hob⟩
    · have hzz : (Value.int IntKind.u8 0).cells.size = 1 := rfl
      simp only [Array.size_append, List.size_toArray, size_zeroCells, hzz, hsl]
      omega
    · simp only [Array.toList_append, List.append_assoc]
      rw [← List.append_assoc]
      exact List.take_left' (by simp)
/-- The operations, for a walk. -/
theorem wpList_free_byte {ops : Array Oper} {rest : List Oper} {o : Oper} {a : Act} {w : World} {Q : Exit → Act → World → Prop} (hgd : o.guard = none) (sl x : Operand)
    (ho : o.op = .call { callee := .builtin .append, args := #[sl, x], argTypes := #[83, 83] }) (B : Nat) (v : Value) (xs : List Value) (hs : a.eval sl = v) (hown : Fre w B v xs) (hB : B ≤ w.heap.size)
    (ad : Addr) (c : Nat) (n : Int) (hx : a.eval x = .slice (some ad) 1 c) (hn : w.cell? ad = some (.int .u8 n)) (hl : xs.length ≤ 140737488355200)
    (h : ∀ v' w', Fre w' B v' (xs ++ [.int .u8 n]) → w.grownBy w' v.ownBlock → (∀ k, v.ownBlock = some k → B ≤ k) → wpList Tryd.prog ops Q rest (a.put o.dst v') w') : wpList Tryd.prog ops Q (o :: rest) a w := by
  refine wpList_plain hgd fun K hK => ?_
  obtain ⟨v', w', hr, h2, h3, h4⟩ := hown.push hB o.type ad c n hn hl
  unfold Oper.wp execOp
  simp only [ho, resolve, invoke, builtin, Sem.run_bind, Sem.run_pure, Result.andThen_ok, List.map_toArray, List.map_cons, List.map_nil, hs, hx, hr]
  exact hK _ _ (h v' w' h2 h3 h4)
theorem wpList_free_text {ops : Array Oper} {rest : List Oper} {o : Oper} {a : Act} {w : World} {Q : Exit → Act → World → Prop} (hgd : o.guard = none) (sl x : Operand)
    (ho : o.op = .call { callee := .builtin .append, args := #[sl, x], argTypes := #[83, 9] }) (B : Nat) (v : Value) (xs : List Value) (hs : a.eval sl = v) (hown : Fre w B v xs) (hB : B ≤ w.heap.size)
    (s : ByteArray) (hx : a.eval x = .string s) (hss : s.size ≤ 64) (hl : xs.length ≤ 140737488355200)
    (h : ∀ v' w', Fre w' B v' (xs ++ Lib.strCells s) → w.grownBy w' v.ownBlock → (∀ k, v.ownBlock = some k → B ≤ k) → wpList Tryd.prog ops Q rest (a.put o.dst v') w') : wpList Tryd.prog ops Q (o :: rest) a w := by
  refine wpList_plain hgd fun K hK => ?_
  obtain ⟨v', w', hr, h2, h3, h4⟩ := hown.pushS hB o.type s hss hl
  unfold Oper.wp execOp
  simp only [ho, resolve, invoke, builtin, Sem.run_bind, Sem.run_pure, Result.andThen_ok, List.map_toArray, List.map_cons, List.map_nil, hs, hx, hr]
  exact hK _ _ (h v' w' h2 h3 h4)
end Go.Proofs.YtahpaekiehdejabDoor
/- A region that draws its order, over a class of worlds of one's own: each operation gives the same value in every world of the class. -/
namespace Go.Proofs.YtahpaekiehdejabDoor
open Go.RowKit
set_option linter.unusedSimpArgs false
set_option linter.unusedVariables false
theorem wp_region_class {P : Program} {id : Nat} {Q : Exit → Act → World → Prop} {a : Act} {w : World} {l : List Oper} (C : World → Prop) (hm : P.follows .mixedOrders = true) (hB : Region.lexB .any l.toArray = true) (hC : C w.drew)
    (h : wpQuiet P l.toArray C (fun a' => ∀ w', C w' → Q .normal a' w') l a) : (Code.region id l.toArray true).wp P Q a w :=
  wp_region_quiet (C := C) hm hB hC (by simpa using h)
theorem quiet_val {P : Program} {o : Oper} {a : Act} {C : World → Prop} {K : Act → Prop} (v : Value) (h : ∀ w, C w → (execOp a.eval o).run P w = .ok (.value v) w) (hn : K (a.put o.dst v)) : o.quiet P a C K :=
  ⟨v, fun w hw => by unfold Oper.quietAt; rw [h w hw]; exact ⟨rfl, rfl⟩, hn⟩
theorem quiet_call {P : Program} {o : Oper} {a : Act} {C : World → Prop} {K : Act → Prop} (v : Value) (f : FuncId) (args : Array Value) (h : ∀ w, C w → (execOp a.eval o).run P w = .ok (.enter f args) w)
    (hc : ∀ w, C w → Calls P f args w (fun e w'' => e = .returned v ∧ C w'')) (hn : K (a.put o.dst v)) : o.quiet P a C K :=
  ⟨v, fun w hw => by unfold Oper.quietAt; rw [h w hw]; exact ⟨rfl, hc w hw⟩, hn⟩
theorem quiet_str {o : Oper} {a : Act} {C : World → Prop} {K : Act → Prop} (x : Operand) (ho : o.op = .load 9 x) (g f : Nat) (s : ByteArray) (hx : a.eval x = .pointer (some ⟨g, f, none⟩))
    (hc : ∀ w, C w → w.cell? ⟨g, f, none⟩ = some (.string s)) (hn : K (a.put o.dst (.string s))) : o.quiet Tryd.prog a C K :=
  quiet_val (.string s) (fun w hw => by
    have h := hc w hw
    have ha : (isAgg 9).run Tryd.prog w = .ok false w := by kernel_rfl
    unfold execOp
    simp [ho, hx, Instr.loadAt, Instr.sureAddr, loadVar, ha, h]) hn
end Go.Proofs.YtahpaekiehdejabDoor
