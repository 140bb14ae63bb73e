import Derived.Test.YtbdkacfpeokggaaGreatDoorY9
import Derived.Lib.Bytealg
import Derived.BigCall
import Derived.RegionTactic
import Derived.WalkKit
import Derived.Test.YtbdkacfpeokggaaGreatDoorY3
import Derived.Test.YtbdkacfpeokggaaGreatDoorY4
/- strings.CutPrefix, CutSuffix; pack.Label, Sum, Fits. -/
namespace Go.Proofs.YtbdkacfpeokggaaGreatDoor
open Go.RowKit
set_option linter.unusedSimpArgs false
set_option linter.unusedVariables false
/-- Whether a text stands at the front, at the end. -/
def pfB (s q : ByteArray) : Bool := decide (q.size ≤ s.size) && (bl (s.extract 0 q.size) == bl q)
def sfB (s q : ByteArray) : Bool := decide (q.size ≤ s.size) && (bl (s.extract (s.size - q.size) s.size) == bl q)
set_option maxHeartbeats 1000000 in
theorem hasPfx (s q : ByteArray) (w : World) (hs : s.size ≤ 140737488355328) (hq : q.size ≤ 16) :
    Calls Tryz.prog 118 #[.string s, .string q] w fun e w' => e = .returned (.bool (pfB s q)) ∧ w' = w := by
  by_cases h4 : q.size ≤ s.size
  · have h4z : (q.size : Int) ≤ (s.size : Int) := by omega
    obtain ⟨x, hx⟩ : ∃ x, s.extract 0 q.size = x := ⟨_, rfl⟩
    by_cases he : x = q
    · have HE : Hid (pfB s q = true) := by show _ = _; rw [pfB, hx, he]; simp [h4]
      subst he
      go_enter Tryz.func118, Tryz.ntmps118
      go_wp2
      go_ret
      exact ⟨ret_b11 HE.out, rfl⟩
    · have HE : Hid (pfB s q = false) := by
        show _ = _
        rw [pfB, hx, Bool.and_eq_false_iff]
        exact .inr (by rw [beq_eq_false_iff_ne]; exact fun h => he (bl_inj h))
      have hne := str_neP he
      clear he
      go_enter Tryz.func118, Tryz.ntmps118
      go_wp2
      go_ret
      exact ⟨ret_b11 HE.out, rfl⟩
  · have h4z : ¬ (q.size : Int) ≤ (s.size : Int) := by omega
    have HE : Hid (pfB s q = false) := by show pfB s q = false; simp [pfB, h4]
    go_enter Tryz.func118, Tryz.ntmps118
    go_wp2
    go_ret
    exact ⟨ret_b11 HE.out, rfl⟩
set_option maxHeartbeats 1000000 in
theorem hasSfx (s q : ByteArray) (w : World) (hs : s.size ≤ 140737488355328) (hq : q.size ≤ 16) :
    Calls Tryz.prog 125 #[.string s, .string q] w fun e w' => e = .returned (.bool (sfB s q)) ∧ w' = w := by
  by_cases h4 : q.size ≤ s.size
  · have h4z : (q.size : Int) ≤ (s.size : Int) := by omega
    obtain ⟨n, hn⟩ : ∃ n, n = s.size - q.size := ⟨_, rfl⟩
    have hnz : (s.size : Int) - (q.size : Int) = (n : Int) := by omega
    have hnl : (n : Int) ≤ (s.size : Int) := by omega
    obtain ⟨x, hx⟩ : ∃ x, s.extract n s.size = x := ⟨_, rfl⟩
    by_cases he : x = q
    · have HE : Hid (sfB s q = true) := by show _ = _; rw [sfB, ← hn, hx, he]; simp [h4]
      subst he
      clear hn
      go_enter Tryz.func125, Tryz.ntmps125
      go_wp2
      go_ret
      exact ⟨ret_b11 HE.out, rfl⟩
    · have HE : Hid (sfB s q = false) := by
        show _ = _
        rw [sfB, ← hn, hx, Bool.and_eq_false_iff]
        exact .inr (by rw [beq_eq_false_iff_ne]; exact fun h => he (bl_inj h))
      have hne := str_neP he
      clear he hn
      go_enter Tryz.func125, Tryz.ntmps125
      go_wp2
      go_ret
      exact ⟨ret_b11 HE.out, rfl⟩
  · have h4z : ¬ (q.size : Int) ≤ (s.size : Int) := by omega
    have HE : Hid (sfB s q = false) := by show sfB s q = false; simp [sfB, h4]
    go_enter Tryz.func125, Tryz.ntmps125
    go_wp2
    go_ret
    exact ⟨ret_b11 HE.out, rfl⟩
/-- What is left when they are cut. -/
def cpX (s q : ByteArray) : ByteArray := if pfB s q = true then s.extract q.size s.size else s
def csX (s q : ByteArray) : ByteArray := if sfB s q = true then s.extract 0 (s.size - q.size) else s
theorem pfB_le {s q : ByteArray} (h : pfB s q = true) : q.size ≤ s.size := by simp [pfB] at h; exact h.1
theorem sfB_le {s q : ByteArray} (h : sfB s q = true) : q.size ≤ s.size := by simp [sfB] at h; exact h.1
theorem ret_sb11 {a b : ByteArray} {e e' : Bool} (h : b = a ∧ e' = e) : Ending.returned (.tuple #[.string a, .bool e]) = .returned (.tuple #[.string b, .bool e']) := by rw [h.1, h.2]
set_option maxHeartbeats 1000000 in
theorem cutP1 (s q : ByteArray) (w : World) (hs : s.size ≤ 140737488355328) (hq : q.size ≤ 16) :
    Calls Tryz.prog 91 #[.string s, .string q] w fun e w' => e = .returned (.tuple #[.string (cpX s q), .bool (pfB s q)]) ∧ w' = w := by
  cases hp : pfB s q with
  | true =>
    have H1 := hasPfx s q w hs hq
    rw [hp] at H1
    have HE : Hid (cpX s q = s.extract q.size s.size) := by show _ = _; rw [cpX, if_pos hp]
    have hle := pfB_le hp
    have h4z : (q.size : Int) ≤ (s.size : Int) := by omega
    clear hp
    go_enter Tryz.func91, Tryz.ntmps91
    go_wp2_with fail
    refine H1.mono ?_
    rintro e w1 ⟨rfl, hw⟩
    obtain rfl : w = w1 := hw.symm
    go_wp2
    go_ret2
    exact ⟨ret_sb11 ⟨HE.out, rfl⟩, rfl⟩
  | false =>
    have H1 := hasPfx s q w hs hq
    rw [hp] at H1
    have HE : Hid (cpX s q = s) := by show _ = _; rw [cpX, if_neg (by rw [hp]; simp)]
    clear hp
    go_enter Tryz.func91, Tryz.ntmps91
    go_wp2_with fail
    refine H1.mono ?_
    rintro e w1 ⟨rfl, hw⟩
    obtain rfl : w = w1 := hw.symm
    go_wp2
    go_ret2
    exact ⟨ret_sb11 ⟨HE.out, rfl⟩, rfl⟩
set_option maxHeartbeats 1000000 in
theorem cutS1 (s q : ByteArray) (w : World) (hs : s.size ≤ 140737488355328) (hq : q.size ≤ 16) :
    Calls Tryz.prog 92 #[.string s, .string q] w fun e w' => e = .returned (.tuple #[.string (csX s q), .bool (sfB s q)]) ∧ w' = w := by
  cases hp : sfB s q with
  | true =>
    have H1 := hasSfx s q w hs hq
    rw [hp] at H1
    obtain ⟨n, hn⟩ : ∃ n, n = s.size - q.size := ⟨_, rfl⟩
    have HE : Hid (csX s q = s.extract 0 n) := by show _ = _; rw [csX, if_pos hp, hn]
    have hle := sfB_le hp
    have hnz : (s.size : Int) - (q.size : Int) = (n : Int) := by omega
    have hnl : (n : Int) ≤ (s.size : Int) := by omega
    clear hp hn
    go_enter Tryz.func92, Tryz.ntmps92
    go_wp2_with fail
    refine H1.mono ?_
    rintro e w1 ⟨rfl, hw⟩
    obtain rfl : w = w1 := hw.symm
    go_wp2
    go_ret2
    exact ⟨ret_sb11 ⟨HE.out, rfl⟩, rfl⟩
  | false =>
    have H1 := hasSfx s q w hs hq
    rw [hp] at H1
    have HE : Hid (csX s q = s) := by show _ = _; rw [csX, if_neg (by rw [hp]; simp)]
    clear hp
    go_enter Tryz.func92, Tryz.ntmps92
    go_wp2_with fail
    refine H1.mono ?_
    rintro e w1 ⟨rfl, hw⟩
    obtain rfl : w = w1 := hw.symm
    go_wp2
    go_ret2
    exact ⟨ret_sb11 ⟨HE.out, rfl⟩, rfl⟩
theorem cutP (s q : ByteArray) (w : World) (hs : s.size ≤ 140737488355328) (hq : q.size ≤ 16) :
    Calls Tryz.prog 46 #[.string s, .string q] w fun e w' => e = .returned (.tuple #[.string (cpX s q), .bool (pfB s q)]) ∧ w' = w := by
  go_enter Tryz.func46, Tryz.ntmps46
  go_wp2_with fail
  refine (cutP1 s q _ hs hq).mono ?_
  rintro e w1 ⟨rfl, hw⟩
  obtain rfl : w = w1 := hw.symm
  go_wp2
  go_ret2
  exact ⟨rfl, rfl⟩
theorem cutS (s q : ByteArray) (w : World) (hs : s.size ≤ 140737488355328) (hq : q.size ≤ 16) :
    Calls Tryz.prog 47 #[.string s, .string q] w fun e w' => e = .returned (.tuple #[.string (csX s q), .bool (sfB s q)]) ∧ w' = w := by
  go_enter Tryz.func47, Tryz.ntmps47
  go_wp2_with fail
  refine (cutS1 s q _ hs hq).mono ?_
  rintro e w1 ⟨rfl, hw⟩
  obtain rfl : w = w1 := hw.symm
  go_wp2
  go_ret2
  exact ⟨rfl, rfl⟩
/-- A pack's label. -/
def lbF : ByteArray := ⟨#[112, 97, 99, 107, 45]⟩
def lbE : ByteArray := ⟨#[46, 112, 107]⟩
def lbl (s : ByteArray) : ByteArray := lbF ++ sb (hexL (bl s)) ++ lbE
theorem grn_keep12 {B : Nat} {w w' : World} (h : Below B w w') (hB : B = w.heap.size := by rfl) : w.grownBy w' none := by
  subst hB
  exact ⟨h.os, h.tape, h.output, h.size, fun i hi _ => h.block i hi⟩
/-- What Parse tells. -/
def prA (t : ByteArray) : Array Value := if t.size = 64 then pid t else z32c
def prE (t : ByteArray) : Int := if t.size = 64 then uhE t else 4
theorem prA_size (t : ByteArray) : (prA t).size = 32 := by unfold prA; split <;> first | exact pid_size t | exact z32c_size
theorem prA_one (t : ByteArray) : (prA t).all (·.oneCell') = true := by unfold prA; split <;> first | exact pid_one t | exact z32c_one
theorem parse11 (t : ByteArray) (w : World) (hm : t.size ≤ 140737488351232) (hA : All w) :
    Calls Tryz.prog 49 #[.string t] w fun e w' => e = .returned (.tuple #[.agg (prA t), .int .i64 (prE t)]) ∧ Below w.heap.size w w' := by
  by_cases h : t.size = 64
  · rw [prA, prE, if_pos h, if_pos h]; exact parse_64 t w h hA
  · rw [prA, prE, if_neg h, if_neg h]; exact parse_bad t w h hm
/-- What Sum tells. -/
def smD (s : ByteArray) : ByteArray := csX (cpX s lbF) lbE
def smB11 (s : ByteArray) : Bool := pfB s lbF && sfB (cpX s lbF) lbE && decide (prE (smD s) = 0)
def smA (s : ByteArray) : Array Value := if smB11 s = true then prA (smD s) else z32c
def smEp (s : ByteArray) : Int := if smB11 s = true then 0 else 10
theorem cpX_size (s q : ByteArray) : (cpX s q).size ≤ s.size := by
  unfold cpX
  split
  · rw [← bl_length, bl_extract, List.length_drop, List.length_take, bl_length]; omega
  · exact Nat.le_refl _
theorem csX_size (s q : ByteArray) : (csX s q).size ≤ s.size := by
  unfold csX
  split
  · rw [← bl_length, bl_extract, List.length_drop, List.length_take, bl_length]; omega
  · exact Nat.le_refl _
theorem ret_ae {A A' : Array Value} {e e' : Int} (h : A' = A ∧ e' = e) : Ending.returned (.tuple #[.agg A, .int .i64 e]) = .returned (.tuple #[.agg A', .int .i64 e']) := by rw [h.1, h.2]
/-- Whether a label fits. -/
def ftB11 (a s : ByteArray) : Bool := bl a == bl (lbl (sb (sha (byl s))))
/-- Sum of a label. -/
theorem sm_lbl (x : ByteArray) (hx : x.size = 32) : smA (lbl x) = idc x ∧ smEp (lbl x) = 0 := by
  obtain ⟨t, ht⟩ : ∃ t, t = sb (hexL (bl x)) := ⟨_, rfl⟩
  have htz : t.size = 64 := by rw [ht, sb_size, hexL_length, bl_length, hx]
  have hl : lbl x = lbF ++ (t ++ lbE) := by rw [lbl, ← ht]; apply bl_inj; simp [bl_append]
  have hlz : (lbl x).size = 72 := by rw [hl, ByteArray.size_append, ByteArray.size_append, htz]; rfl
  have p1 : pfB (lbl x) lbF = true := by
    rw [pfB]
    have : bl ((lbl x).extract 0 lbF.size) = bl lbF := by
      rw [extract_take _ _ (by rw [hlz]; decide), hl, bl_append, ← bl_length, List.take_left]
    rw [this]; simp [hlz]; decide
  have p2 : cpX (lbl x) lbF = t ++ lbE := by rw [cpX, if_pos p1]; exact drop_front (lbl x) lbF (t ++ lbE) _ hl rfl
  have hz2 : (t ++ lbE).size = 67 := by rw [ByteArray.size_append, htz]; rfl
  have p3 : sfB (t ++ lbE) lbE = true := by
    rw [sfB]
    have : (t ++ lbE).extract ((t ++ lbE).size - lbE.size) (t ++ lbE).size = lbE := drop_front (t ++ lbE) t lbE _ rfl (by rw [hz2, htz]; rfl)
    rw [this]; simp [hz2]; decide
  have p4 : csX (t ++ lbE) lbE = t := by
    rw [csX, if_pos p3]
    apply bl_inj
    rw [extract_take _ _ (by omega), bl_append, hz2, show 67 - lbE.size = (bl t).length from by rw [bl_length, htz]; rfl, List.take_left]
  have p5 : smD (lbl x) = t := by rw [smD, p2, p4]
  obtain ⟨u1, u2⟩ := uh_hex x
  rw [← ht] at u1 u2
  have p6 : prE t = 0 := by rw [prE, if_pos htz, u2]
  have p7 : smB11 (lbl x) = true := by rw [smB11, p1, p2, p3, p5, p6]; rfl
  rw [smA, smEp, p7, p5]
  refine ⟨?_, rfl⟩
  show prA t = _
  rw [prA, if_pos htz, pid_ok t (by rw [u1]; exact hx), u1]
end Go.Proofs.YtbdkacfpeokggaaGreatDoor
/- strings.Cut at a dash. -/
namespace Go.Proofs.YtbdkacfpeokggaaGreatDoor
open Go.RowKit
set_option linter.unusedSimpArgs false
set_option linter.unusedVariables false
theorem idx_dash : ∀ (l : List UInt8) (c : UInt8), (Lib.indexByte l c = -1 ∧ c ∉ l) ∨ ∃ i : Nat, Lib.indexByte l c = i ∧ i < l.length ∧ c ∉ l.take i ∧ l[i]? = some c
  | [], c => .inl ⟨rfl, by simp⟩
  | b :: l, c => by
    by_cases hb : b = c
    · subst hb; exact .inr ⟨0, by simp [Lib.indexByte], by simp, by simp, by simp⟩
    · have hb' : (b == c) = false := by simpa using hb
      rcases idx_dash l c with ⟨h1, h2⟩ | ⟨i, h1, h2, h3, h4⟩
      · exact .inl ⟨by simp [Lib.indexByte, hb', h1], by simp only [List.mem_cons, not_or]; exact ⟨fun e => hb e.symm, h2⟩⟩
      · refine .inr ⟨i + 1, ?_, by simp; omega, ?_, by simpa using h4⟩
        · have : ((i : Int) == -1) = false := by first | (simp; done) | (simp; omega)
          simp [Lib.indexByte, hb', h1, this]
        · simp only [List.take_succ_cons, List.mem_cons, not_or]; exact ⟨fun e => hb e.symm, h3⟩
set_option maxRecDepth 100000 in
theorem sidxB (s : ByteArray) (w : World) : Calls Tryz.prog 148 #[.string s, .int .u8 45] w fun e w' => e = .returned (.int .i64 (Lib.indexByte s.data.toList 45)) ∧ w' = w := by
  go_enter Tryz.func148, Tryz.ntmps148
  go_wp2
  rw [run_callFunc_extern Tryz.func158 (by kernel_rfl) (by kernel_rfl) (by kernel_rfl) (e := Extern.BytealgIndexByte.indexByte) (by kernel_rfl), Lib.run_indexByteString]
  simp only [Result.andThen]
  rw [Oper.upon_value]
  go_wp2
  go_ret
  exact ⟨rfl, rfl⟩
set_option maxHeartbeats 1000000 in
set_option maxRecDepth 100000 in
theorem sidx (s : ByteArray) (w : World) (hs : s.size ≤ 140737488355328) : Calls Tryz.prog 126 #[.string s, .string ⟨#[45]⟩] w fun e w' => e = .returned (.int .i64 (Lib.indexByte s.data.toList 45)) ∧ w' = w := by
  by_cases he : s = ⟨#[45]⟩
  · subst he
    have hq : ([45] == (⟨#[45]⟩ : ByteArray).toList) = true := by rw [Lib.toList_data]; rfl
    go_enter Tryz.func126, Tryz.ntmps126
    go_wp2
    go_ret
    exact ⟨rfl, rfl⟩
  · have hq : ([45] == s.toList) = false := by
      have := str_neP (fun q : (⟨#[45]⟩ : ByteArray) = s => he q.symm)
      rw [show (⟨#[45]⟩ : ByteArray).toList = [45] by rw [Lib.toList_data]] at this
      exact this
    go_enter Tryz.func126, Tryz.ntmps126
    go_wp2_with (first
      | (go_at_call 148; refine (sidxB s _).mono ?_; rintro e w1 ⟨rfl, hw⟩; obtain rfl := hw.symm)
      | fail)
    go_ret
    exact ⟨rfl, rfl⟩
/-- What Cut answers. -/
def CutD (s : ByteArray) (e : Ending) : Prop := (e = .returned (.tuple #[.string s, .string ⟨#[]⟩, .bool false]) ∧ (45 : UInt8) ∉ bl s) ∨
  ∃ i : Nat, i < s.size ∧ e = .returned (.tuple #[.string (s.extract 0 i), .string (s.extract (i + 1) s.size), .bool true]) ∧ (45 : UInt8) ∉ (bl s).take i ∧ (bl s)[i]? = some 45
theorem scutD (s : ByteArray) (w : World) (hs : s.size ≤ 140737488355328) :
    Calls Tryz.prog 93 #[.string s, .string ⟨#[45]⟩] w fun e w' => CutD s e ∧ Below w.heap.size w w' := by
  have hix := sidx s w hs
  rcases idx_dash s.data.toList 45 with ⟨h1, h2⟩ | ⟨i, h1, h2, h3, h4⟩
  · rw [h1] at hix
    have H2 : Hid ((45 : UInt8) ∉ bl s) := h2
    clear h1 h2
    go_enter Tryz.func93, Tryz.ntmps93
    go_wp2_with fail
    refine hix.mono ?_
    rintro e w1 ⟨rfl, hw⟩
    subst hw
    go_wp2
    go_ret3
    exact ⟨.inl ⟨rfl, H2.out⟩, Below.refl _ _⟩
  · rw [h1] at hix
    have h2' : i < s.size := by have e : s.data.toList.length = s.size := Array.length_toList; omega
    have H2 : Hid ((45 : UInt8) ∉ (bl s).take i ∧ (bl s)[i]? = some 45) := ⟨h3, h4⟩
    have a1 : (i : Int) + 1 ≤ (s.size : Nat) := by omega
    have a0 : (i : Int) ≤ (s.size : Nat) := by omega
    have a2 : (0 : Int) ≤ i := by omega
    have a3 : wrap64 ((i : Int) + 1) = ((i + 1 : Nat) : Int) := by unfold wrap64; omega
    clear h1 h2 h3 h4
    go_enter Tryz.func93, Tryz.ntmps93
    go_wp2_with fail
    refine hix.mono ?_
    rintro e w1 ⟨rfl, hw⟩
    subst hw
    go_wp2
    go_region
    all_goals go_wp2
    all_goals go_ret3
    all_goals exact ⟨.inr ⟨i, h2', rfl, H2.out⟩, (Below.refl _ _).drew⟩
theorem cutD (s : ByteArray) (w : World) (hs : s.size ≤ 140737488355328) :
    Calls Tryz.prog 48 #[.string s, .string ⟨#[45]⟩] w fun e w' => CutD s e ∧ Below w.heap.size w w' := by
  go_enter Tryz.func48, Tryz.ntmps48
  go_wp2_with fail
  refine (scutD s w hs).mono ?_
  rintro e w1 ⟨hA, hw⟩
  have HW : Hid (Below w.heap.size w w1) := hw
  clear hw
  rcases hA with ⟨rfl, h2⟩ | ⟨i, h1, rfl, h2⟩
  · have H2 : Hid ((45 : UInt8) ∉ bl s) := h2
    clear h2
    go_wp2
    go_ret3
    exact ⟨.inl ⟨rfl, H2.out⟩, HW.out⟩
  · have H2 : Hid ((45 : UInt8) ∉ (bl s).take i ∧ (bl s)[i]? = some 45) := h2
    clear h2
    go_wp2
    go_ret3
    exact ⟨.inr ⟨i, h1, rfl, H2.out⟩, HW.out⟩
end Go.Proofs.YtbdkacfpeokggaaGreatDoor
/- Plain facts: what a reader took, put again, is the bytes that it took. -/
namespace Go.Proofs.YtbdkacfpeokggaaGreatDoor
set_option linter.unusedSimpArgs false
set_option linter.unusedVariables false
open Go
theorem slen_unique (n k : Nat) (h : n < 2 ^ 64) (hk : 1 ≤ k) (h1 : n < 128 ^ k) (h2 : 1 < k → 128 ^ (k - 1) ≤ n) : slen n = k := by
  have a := slen_pos n
  have b := slen_hi n h
  rcases Nat.lt_trichotomy (slen n) k with c | c | c
  · have d := h2 (by omega)
    have e : 128 ^ slen n ≤ 128 ^ (k - 1) := Nat.pow_le_pow_right (by omega) (by omega)
    omega
  · exact c
  · have d := slen_lo n h (by omega)
    have e : 128 ^ k ≤ 128 ^ (slen n - 1) := Nat.pow_le_pow_right (by omega) (by omega)
    omega
theorem enc_dec : ∀ (l : List UInt8) (i acc n k : Nat), dec i acc l = some (n, k) →
    ∃ v, n = acc + v * 128 ^ i ∧ i + 1 ≤ k ∧ by8 (encN (k - i - 1) v) = l.take (k - i) ∧ v < 128 ^ (k - i) ∧ (0 < i → 0 < v) ∧ (i + 1 < k → 128 ^ (k - i - 1) ≤ v)
  | [], i, acc, n, k, h => by simp [dec] at h
  | b :: r, i, acc, n, k, h => by
    rw [dec] at h
    split at h
    · simp at h
    · split at h
      · rename_i hb
        obtain ⟨v, e1, e2, e3, e4, e5, e6⟩ := enc_dec r (i + 1) _ n k h
        have hv := e5 (by omega)
        have hb2 := b.toNat_lt
        have hk : k - i = (k - (i + 1)) + 1 := by omega
        have hk1 : k - i - 1 = (k - (i + 1) - 1) + 1 := by omega
        refine ⟨b.toNat % 128 + 128 * v, ?_, by omega, ?_, ?_, fun _ => by omega, fun _ => ?_⟩
        · rw [e1, Nat.pow_succ, Nat.add_mul]
          have : v * (128 ^ i * 128) = 128 * v * 128 ^ i := by rw [Nat.mul_comm (128 ^ i) 128, ← Nat.mul_assoc, Nat.mul_comm v 128]
          omega
        · rw [hk1, hk, encN, List.take_succ_cons, ← e3]
          have q1 : (b.toNat % 128 + 128 * v) % 128 + 128 = b.toNat := by omega
          have q2 : (b.toNat % 128 + 128 * v) / 128 = v := by omega
          rw [q1, q2]
          show UInt8.ofNat b.toNat :: by8 (encN (k - (i + 1) - 1) v) = _
          simp
        · rw [hk, Nat.pow_succ]; omega
        · rcases Nat.lt_or_ge (i + 1 + 1) k with g | g
          · have := e6 g
            rw [hk1, Nat.pow_succ]; omega
          · have : k - i - 1 = 1 := by omega
            rw [this]; omega
      · rename_i hb
        split at h
        · simp at h
        · rename_i hc
          simp only [Option.some.injEq, Prod.mk.injEq] at h
          obtain ⟨rfl, rfl⟩ := h
          refine ⟨b.toNat, rfl, by omega, ?_, ?_, fun hi => by omega, fun g => by omega⟩
          · rw [show i + 1 - i - 1 = 0 from by omega, show i + 1 - i = 1 from by omega]
            show [UInt8.ofNat b.toNat] = [b]
            simp
          · rw [show i + 1 - i = 1 from by omega]; omega
/-- A short number that was read, put again, is the bytes that were read. -/
theorem sh_again (s : ByteArray) (h : shK s ≠ 0) : sb (encS (shN s)) = s.extract 0 (shK s) := by
  unfold shK shN at *
  cases e : decS (bl s) with
  | none => rw [e] at h; simp at h
  | some p =>
    obtain ⟨v, e1, e2, e3, e4, e5, e6⟩ := enc_dec (bl s) 0 0 p.1 p.2 e
    have bnd := dec_bounds (bl s) 0 0 p.1 p.2 e (by omega)
    simp only [Option.getD_some]
    have hv : p.1 = v := by simpa using e1
    have hs : slen p.1 = p.2 := slen_unique p.1 p.2 bnd.2.2.2 (by omega) (by rw [hv]; simpa using e4) (fun g => by rw [hv]; simpa using e6 (by omega))
    apply bl_inj
    rw [bl_sb, extract_take s p.2 (by rw [← bl_length]; omega), encS, hs, hv]
    simpa using e3
theorem fixN_fixV : ∀ (d : Nat) (l : List UInt8), l.length = d → by8 (fixN d (fixV l)) = l
  | 0, l, h => by have : l = [] := by cases l with | nil => rfl | cons a b => simp at h
                  subst this; rfl
  | d + 1, l, h => by
    obtain ⟨l', c, rfl⟩ : ∃ l' c, l = l' ++ [c] := ⟨l.dropLast, l.getLast (by intro e; subst e; simp at h), (List.dropLast_concat_getLast _).symm⟩
    have hc := c.toNat_lt
    have hl : l'.length = d := by simpa using h
    have e : by8 (fixN (d + 1) (fixV (l' ++ [c]))) = by8 (fixN d (fixV (l' ++ [c]) / 256)) ++ [UInt8.ofNat (fixV (l' ++ [c]) % 256)] := by simp [by8, fixN]
    rw [e, fixV_snoc, show (fixV l' * 256 + c.toNat) / 256 = fixV l' from by omega, show (fixV l' * 256 + c.toNat) % 256 = c.toNat from by omega, fixN_fixV d l' hl]
    simp
theorem fix_again (s : ByteArray) (d : Nat) (h : d ≤ s.size) : sb (fixN d (fixV ((bl s).take d))) = s.extract 0 d := by
  apply bl_inj
  rw [bl_sb, extract_take s d h]
  exact fixN_fixV d _ (by rw [List.length_take, bl_length]; omega)
theorem fix_lt (s : ByteArray) (d : Nat) (h : d ≤ s.size) : fixV ((bl s).take d) < 256 ^ d := by
  have := fixV_lt ((bl s).take d)
  rwa [List.length_take, bl_length, Nat.min_eq_left h] at this
theorem take_all (s : ByteArray) : (bl s).take s.size = bl s := List.take_of_length_le (by rw [bl_length]; exact Nat.le_refl _)
/-- Taken off the front: the two parts make the whole. -/
theorem split_at (s : ByteArray) (k : Nat) (h : k ≤ s.size) : s.extract 0 k ++ s.extract k s.size = s := by
  apply bl_inj
  rw [bl_append, extract_take s k h, bl_extract, take_all, List.take_append_drop]
theorem split_mid (s : ByteArray) (j k : Nat) (h : j ≤ k) (hk : k ≤ s.size) : s.extract 0 j ++ s.extract j k ++ s.extract k s.size = s := by
  apply bl_inj
  rw [bl_append, bl_append, extract_take s j (by omega), bl_extract, bl_extract, take_all]
  have e : (bl s).take j = ((bl s).take k).take j := by rw [List.take_take, Nat.min_eq_left h]
  rw [e, List.take_append_drop, List.take_append_drop]
theorem front_of (s a r : ByteArray) (h : s = a ++ r) : s.extract 0 (s.size - r.size) = a := by
  have hz : s.size = a.size + r.size := by subst h; simp
  apply bl_inj
  rw [extract_take s _ (by omega), show s.size - r.size = a.size from by omega]
  subst h
  rw [bl_append, List.take_append_of_le_length (by rw [bl_length]; exact Nat.le_refl _), List.take_of_length_le (by rw [bl_length]; exact Nat.le_refl _)]
theorem next_of (s a r p r' : ByteArray) (h : s = a ++ r) (hr : p ++ r' = r) : s = a ++ p ++ r' := by
  rw [h, ← hr]; apply bl_inj; simp [bl_append]
end Go.Proofs.YtbdkacfpeokggaaGreatDoor
/- Plain facts: the order of names. -/
namespace Go.Proofs.YtbdkacfpeokggaaGreatDoor
set_option linter.unusedSimpArgs false
set_option linter.unusedVariables false
theorem cmpB_refl : ∀ a : List UInt8, Lib.compareBytes a a = 0
  | [] => rfl
  | x :: l => by
    have h : ¬ x < x := UInt8.lt_irrefl x
    rw [Lib.compareBytes, if_neg h, if_neg h, cmpB_refl l]
theorem cmpB_zero : ∀ a b : List UInt8, Lib.compareBytes a b = 0 → a = b
  | [], [], _ => rfl
  | [], _ :: _, h => by simp [Lib.compareBytes] at h
  | _ :: _, [], h => by simp [Lib.compareBytes] at h
  | x :: a, y :: b, h => by
    rw [Lib.compareBytes] at h
    split at h
    · cases h
    · split at h
      · cases h
      · rename_i h1 h2
        have e : x = y := by
          rw [UInt8.lt_iff_toNat_lt] at h1 h2
          apply UInt8.toNat_inj.1
          omega
        rw [e, cmpB_zero a b h]
theorem cmpB_swap : ∀ a b : List UInt8, Lib.compareBytes b a = - Lib.compareBytes a b
  | [], [] => rfl
  | [], _ :: _ => rfl
  | _ :: _, [] => rfl
  | x :: a, y :: b => by
    rw [Lib.compareBytes, Lib.compareBytes]
    by_cases h1 : x < y
    · have h2 : ¬ y < x := by rw [UInt8.lt_iff_toNat_lt] at *; omega
      rw [if_pos h1, if_neg h2, if_pos h1]; rfl
    · by_cases h2 : y < x
      · rw [if_pos h2, if_neg h1, if_pos h2]
      · rw [if_neg h1, if_neg h2, if_neg h2, if_neg h1, cmpB_swap a b]
theorem cmpB_range : ∀ a b : List UInt8, -1 ≤ Lib.compareBytes a b ∧ Lib.compareBytes a b ≤ 1
  | [], [] => by simp [Lib.compareBytes]
  | [], _ :: _ => by simp [Lib.compareBytes]
  | _ :: _, [] => by simp [Lib.compareBytes]
  | x :: a, y :: b => by
    rw [Lib.compareBytes]
    split
    · omega
    · split
      · omega
      · exact cmpB_range a b
end Go.Proofs.YtbdkacfpeokggaaGreatDoor
/- Plain facts of indexes: entries, their order, the bytes; no program in sight. -/
namespace Go.Proofs.YtbdkacfpeokggaaGreatDoor
set_option linter.unusedSimpArgs false
set_option linter.unusedVariables false
/-- An entry as it may come in. -/
structure Xe where
  id : ByteArray
  k : UInt8
  off : Int
  sz : Int
/-- May it be indexed? -/
def okX (e : Xe) : Bool := decide (1 ≤ e.k.toNat ∧ e.k.toNat ≤ 5 ∧ 4 ≤ e.off ∧ e.off ≤ 67108864 ∧ 0 ≤ e.sz ∧ e.sz ≤ 2097152)
theorem okX_iff (e : Xe) : okX e = true ↔ 1 ≤ e.k.toNat ∧ e.k.toNat ≤ 5 ∧ 4 ≤ e.off ∧ e.off ≤ 67108864 ∧ 0 ≤ e.sz ∧ e.sz ≤ 2097152 := by simp [okX]
/-- The order of names. -/
def ltN (a b : ByteArray) : Bool := decide (Lib.compareBytes (bl a) (bl b) < 0)
theorem cmpB_trans : ∀ a b c : List UInt8, Lib.compareBytes a b < 0 → Lib.compareBytes b c < 0 → Lib.compareBytes a c < 0
  | [], [], _, h, _ => by simp [Lib.compareBytes] at h
  | [], _ :: _, [], _, h => by simp [Lib.compareBytes] at h
  | [], _ :: _, _ :: _, _, _ => by simp [Lib.compareBytes]
  | _ :: _, [], _, h, _ => by simp [Lib.compareBytes] at h
  | _ :: _, _ :: _, [], _, h => by simp [Lib.compareBytes] at h
  | x :: a, y :: b, z :: c, h, g => by
    rw [Lib.compareBytes] at h g ⊢
    by_cases h1 : x < y
    · by_cases g1 : y < z
      · have : x < z := by rw [UInt8.lt_iff_toNat_lt] at *; omega
        rw [if_pos this]; omega
      · rw [if_neg g1] at g
        by_cases g2 : z < y
        · rw [if_pos g2] at g; omega
        · have : x < z := by rw [UInt8.lt_iff_toNat_lt] at *; omega
          rw [if_pos this]; omega
    · rw [if_neg h1] at h
      by_cases h2 : y < x
      · rw [if_pos h2] at h; omega
      · rw [if_neg h2] at h
        have e : x = y := by
          rw [UInt8.lt_iff_toNat_lt] at h1 h2
          apply UInt8.toNat_inj.1
          omega
        subst e
        by_cases g1 : x < z
        · rw [if_pos g1]; omega
        · rw [if_neg g1] at g ⊢
          by_cases g2 : z < x
          · rw [if_pos g2] at g; omega
          · rw [if_neg g2] at g ⊢
            exact cmpB_trans a b c h g
theorem ltN_trans {a b c : ByteArray} (h : ltN a b = true) (g : ltN b c = true) : ltN a c = true :=
  decide_eq_true (cmpB_trans _ _ _ (of_decide_eq_true h) (of_decide_eq_true g))
theorem ltN_irr (a : ByteArray) : ltN a a = false := by
  unfold ltN; rw [cmpB_refl]; rfl
theorem ltN_asym {a b : ByteArray} (h : ltN a b = true) : ltN b a = false := by
  rw [Bool.eq_false_iff]
  intro g
  have := ltN_trans h g
  rw [ltN_irr] at this
  cases this
theorem ltN_tri {a b : ByteArray} (h : ltN a b = false) (g : ltN b a = false) : a = b := by
  have h1 := of_decide_eq_false h
  have g1 := of_decide_eq_false g
  rw [cmpB_swap (bl a) (bl b)] at g1
  exact bl_inj (cmpB_zero _ _ (by omega))
theorem ltN_ne {a b : ByteArray} (h : a ≠ b) (g : ltN b a = false) : ltN a b = true := by
  cases q : ltN a b with
  | true => rfl
  | false => exact absurd (ltN_tri q g) h
/-- Names rise. -/
def Rise (l : List Xe) : Prop := l.Pairwise (fun a b => ltN a.id b.id = true)
/-- Names are apart. -/
def Aprt (l : List Xe) : Prop := l.Pairwise (fun a b => a.id ≠ b.id)
theorem Rise.apart {l : List Xe} (h : Rise l) : Aprt l := h.imp (fun {a b} q e => by rw [e, ltN_irr] at q; cases q)
theorem Aprt.perm {l l' : List Xe} (h : Aprt l) (p : l.Perm l') : Aprt l' := List.Pairwise.perm h p (fun {x y} q => Ne.symm q)
theorem rise_one {l l' : List Xe} (p : l.Perm l') (h : Rise l) (h' : Rise l') : l = l' :=
  List.Perm.eq_of_pairwise (fun a b _ _ q1 q2 => by rw [ltN_asym q1] at q2; cases q2) h h' p
theorem apart_one {l : List Xe} (h : Aprt l) : ∀ {i j : Nat} {a b : Xe}, l[i]? = some a → l[j]? = some b → a.id = b.id → i = j := by
  intro i j a b ha hb he
  obtain ⟨hi, rfl⟩ := List.getElem?_eq_some_iff.1 ha
  obtain ⟨hj, rfl⟩ := List.getElem?_eq_some_iff.1 hb
  rw [Aprt, List.pairwise_iff_getElem] at h
  rcases Nat.lt_trichotomy i j with q | q | q
  · exact absurd he (h i j hi hj q)
  · exact q
  · exact absurd he.symm (h j i hj hi q)
/-- A list that may be an index's. -/
structure OkL (l : List Xe) : Prop where
  ok : ∀ e ∈ l, okX e = true
  id : ∀ e ∈ l, e.id.size = 32
  ri : Rise l
  len : l.length ≤ 65536
/-- A number in four bytes. -/
def f4 (n : Nat) : List UInt8 := by8 (fixN 4 n)
theorem f4_len (n : Nat) : (f4 n).length = 4 := by rw [f4, by8_length, fixN_length]
theorem f4_fixV (l : List UInt8) (h : l.length = 4) : f4 (fixV l) = l := fixN_fixV 4 l h
theorem fixV_f4 (n : Nat) (h : n < 4294967296) : fixV (f4 n) = n := by
  have h1 : fixN 4 n = [n / 256 / 256 / 256 % 256, n / 256 / 256 % 256, n / 256 % 256, n % 256] := rfl
  rw [f4, h1]
  simp only [by8, List.map_cons, List.map_nil, fixV, List.foldl_cons, List.foldl_nil, UInt8.toNat_ofNat']
  omega
theorem f4_inj {m n : Nat} (hm : m < 4294967296) (hn : n < 4294967296) (h : f4 m = f4 n) : m = n := by
  rw [← fixV_f4 m hm, ← fixV_f4 n hn, h]
/-- A name's first byte; how many names' are not above, below. -/
def fst8 (e : Xe) : Nat := ((bl e.id).headD 0).toNat
def fanL (l : List Xe) (b : Nat) : Nat := l.countP (fun e => decide (fst8 e ≤ b))
def fanB (l : List Xe) (b : Nat) : Nat := l.countP (fun e => decide (fst8 e < b))
theorem fst8_lt (e : Xe) : fst8 e < 256 := UInt8.toNat_lt _
theorem fanL_le (l : List Xe) (b : Nat) : fanL l b ≤ l.length := List.countP_le_length
/-- An entry's bytes, an index's. -/
def enB (e : Xe) : List UInt8 := bl e.id ++ ([e.k] ++ (f4 e.off.toNat ++ f4 e.sz.toNat))
def fanT (l : List Xe) (n : Nat) : List UInt8 := (List.range n).flatMap (fun b => f4 (fanL l b))
def ensB (l : List Xe) : List UInt8 := l.flatMap enB
def hdB (s : ByteArray) (l : List Xe) : List UInt8 := [109, 105, 120, 49] ++ (bl s ++ (f4 l.length ++ fanT l 256))
def ixB (s : ByteArray) (l : List Xe) : List UInt8 := hdB s l ++ ensB l
theorem enB_len {e : Xe} (h : e.id.size = 32) : (enB e).length = 41 := by simp [enB, bl_length, f4_len, h]
theorem fanT_succ (l : List Xe) (n : Nat) : fanT l (n + 1) = fanT l n ++ f4 (fanL l n) := by simp [fanT, List.range_succ]
theorem fanT_len (l : List Xe) : ∀ n, (fanT l n).length = 4 * n
  | 0 => rfl
  | n + 1 => by rw [fanT_succ, List.length_append, fanT_len l n, f4_len]; omega
theorem hdB_len {s : ByteArray} (l : List Xe) (h : s.size = 32) : (hdB s l).length = 1064 := by simp [hdB, bl_length, f4_len, fanT_len, h]
theorem ensB_snoc (l : List Xe) (e : Xe) : ensB (l ++ [e]) = ensB l ++ enB e := by simp [ensB]
theorem ensB_len : ∀ {l : List Xe}, (∀ e ∈ l, e.id.size = 32) → (ensB l).length = 41 * l.length
  | [], _ => rfl
  | e :: l, h => by
    have ih := ensB_len (l := l) (fun x hx => h x (List.mem_cons_of_mem _ hx))
    show (enB e ++ ensB l).length = _
    rw [List.length_append, ih, enB_len (h e (List.mem_cons_self ..)), List.length_cons]; omega
theorem ixB_len {s : ByteArray} {l : List Xe} (h : s.size = 32) (hl : ∀ e ∈ l, e.id.size = 32) : (ixB s l).length = 1064 + 41 * l.length := by
  rw [ixB, List.length_append, hdB_len l h, ensB_len hl]
/-- What is taken from 41 bytes. -/
def rdXe (t : List UInt8) : Xe := ⟨⟨(t.take 32).toArray⟩, (t.drop 32).headD 0, (fixV ((t.drop 33).take 4) : Int), (fixV ((t.drop 37).take 4) : Int)⟩
theorem rdXe_enB {e : Xe} (h : e.id.size = 32) (ho : okX e = true) (r : List UInt8) : rdXe (enB e ++ r) = e := by
  obtain ⟨_, _, o1, o2, o3, o4⟩ := (okX_iff e).1 ho
  have hl : (bl e.id).length = 32 := by rw [bl_length, h]
  have a1 : (enB e ++ r).take 32 = bl e.id := by
    rw [enB, List.append_assoc, List.take_left' hl]
  have a2 : (enB e ++ r).drop 32 = [e.k] ++ (f4 e.off.toNat ++ f4 e.sz.toNat) ++ r := by
    rw [enB, List.append_assoc, List.drop_left' hl]
  have a3 : (enB e ++ r).drop 33 = f4 e.off.toNat ++ (f4 e.sz.toNat ++ r) := by
    rw [show 33 = 32 + 1 from rfl, ← List.drop_drop, a2]; simp
  have a4 : (enB e ++ r).drop 37 = f4 e.sz.toNat ++ r := by
    rw [show 37 = 33 + 4 from rfl, ← List.drop_drop, a3, List.drop_left' (f4_len _)]
  unfold rdXe
  rw [a1, a2, a3, a4, List.take_left' (f4_len _), List.take_left' (f4_len _), fixV_f4 _ (by omega), fixV_f4 _ (by omega)]
  obtain ⟨i, k, o, z⟩ := e
  simp only at o1 o3 ⊢
  have e1 : (⟨(bl i).toArray⟩ : ByteArray) = i := bl_inj rfl
  rw [e1, Int.toNat_of_nonneg (by omega), Int.toNat_of_nonneg o3]
  rfl
/-- As many entries as there are bytes for. -/
def rdL : Nat → List UInt8 → List Xe
  | 0, _ => []
  | n + 1, t => rdXe t :: rdL n (t.drop 41)
theorem rdL_len : ∀ n t, (rdL n t).length = n
  | 0, _ => rfl
  | n + 1, t => by rw [rdL, List.length_cons, rdL_len n]
theorem rdL_get : ∀ (n : Nat) (t : List UInt8) (i : Nat), i < n → (rdL n t)[i]? = some (rdXe (t.drop (41 * i)))
  | 0, _, _, h => by omega
  | n + 1, t, 0, _ => by simp [rdL]
  | n + 1, t, i + 1, h => by
    rw [rdL, List.getElem?_cons_succ, rdL_get n _ i (by omega), List.drop_drop]
    congr 3
    omega
theorem rdL_ensB : ∀ {l : List Xe} (r : List UInt8), (∀ e ∈ l, e.id.size = 32) → (∀ e ∈ l, okX e = true) → rdL l.length (ensB l ++ r) = l
  | [], r, _, _ => rfl
  | e :: l, r, h, ho => by
    have ih := rdL_ensB (l := l) r (fun x hx => h x (List.mem_cons_of_mem _ hx)) (fun x hx => ho x (List.mem_cons_of_mem _ hx))
    have q : ensB (e :: l) ++ r = enB e ++ (ensB l ++ r) := by show enB e ++ ensB l ++ r = _; rw [List.append_assoc]
    rw [List.length_cons, rdL, q, rdXe_enB (h e (List.mem_cons_self ..)) (ho e (List.mem_cons_self ..)), List.drop_left' (enB_len (h e (List.mem_cons_self ..))), ih]
/-- What is taken from an index's bytes. -/
def rdS (s : List UInt8) : ByteArray := ⟨((s.drop 4).take 32).toArray⟩
def rdA (s : List UInt8) : List Xe := rdL ((s.length - 1064) / 41) (s.drop 1064)
theorem rd_ix {s : ByteArray} {l : List Xe} (hs : s.size = 32) (h : OkL l) : rdS (ixB s l) = s ∧ rdA (ixB s l) = l := by
  constructor
  · unfold rdS
    apply bl_inj
    show ((ixB s l).drop 4).take 32 = bl s
    have q : ixB s l = [109, 105, 120, 49] ++ (bl s ++ (f4 l.length ++ fanT l 256 ++ ensB l)) := by simp [ixB, hdB]
    rw [q]
    show (bl s ++ (f4 l.length ++ fanT l 256 ++ ensB l)).take 32 = bl s
    rw [List.take_left' (by rw [bl_length, hs])]
  · unfold rdA
    rw [ixB_len hs h.id, show 1064 + 41 * l.length - 1064 = l.length * 41 from by omega, Nat.mul_div_cancel _ (by decide), ixB, List.drop_left' (hdB_len l hs)]
    have := rdL_ensB (l := l) [] h.id h.ok
    rwa [List.append_nil] at this
theorem ix_inj {s s' : ByteArray} {l l' : List Xe} (hs : s.size = 32) (hs' : s'.size = 32) (h : OkL l) (h' : OkL l') (e : ixB s l = ixB s' l') : s = s' ∧ l = l' := by
  have a := rd_ix hs h
  have b := rd_ix hs' h'
  rw [e] at a
  exact ⟨a.1.symm.trans b.1, a.2.symm.trans b.2⟩
end Go.Proofs.YtbdkacfpeokggaaGreatDoor
