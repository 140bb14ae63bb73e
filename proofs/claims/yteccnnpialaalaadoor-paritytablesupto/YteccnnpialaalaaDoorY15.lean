import Derived.Test.YteccnnpialaalaaDoorY14
import Derived.Test.YteccnnpialaalaaDoorY6
import Derived.Test.YteccnnpialaalaaDoorY12
import Derived.Test.YteccnnpialaalaaDoorY9
import Derived.Test.YteccnnpialaalaaDoorY1
import Derived.Test.YteccnnpialaalaaDoorY2
import Derived.Lib.Strings
import Derived.Lib.Bytealg
import Derived.BigCall
import Derived.RegionTactic
import Derived.WalkKit
import Derived.Test.YteccnnpialaalaaDoorY11
/- Law 17: alike, of tables that are alike. -/
namespace Go.Proofs.YteccnnpialaalaaDoor
open Go.RowKit
set_option linter.unusedSimpArgs false
set_option linter.unusedVariables false
set_option maxHeartbeats 4000000 in
set_option maxRecDepth 100000 in
theorem alike17 (d p z : Int) (l : List ByteArray) (a b : Option Addr) (n c1 c2 : Nat) (w : World) (ha : NmL w a l) (hb : NmL w b l) (hn : l.length = n) (hz : n ≤ 140737488355328) :
    Calls Tryd.prog 12 #[.agg #[.int .i64 d, .int .i64 p, .int .i64 z, .slice a n c1], .agg #[.int .i64 d, .int .i64 p, .int .i64 z, .slice b n c2]] w fun e w' => e = .returned (.bool true) ∧ Below w.heap.size w w' := by
  have h1 := bk_new w #[.int .i64 d, .int .i64 p, .int .i64 z, .slice a n c1] 29
  have h2 := bk_new (w.alloc (.cells #[.int .i64 d, .int .i64 p, .int .i64 z, .slice a n c1] 29)) #[.int .i64 d, .int .i64 p, .int .i64 z, .slice b n c2] 25
  rw [al_size] at h2
  have h1' := h1.alloc (.cells #[.int .i64 d, .int .i64 p, .int .i64 z, .slice b n c2] 25)
  have hbl : Below w.heap.size w ((w.alloc (.cells #[.int .i64 d, .int .i64 p, .int .i64 z, .slice a n c1] 29)).alloc (.cells #[.int .i64 d, .int .i64 p, .int .i64 z, .slice b n c2] 25)) := ((Below.refl _ _).alloc (Nat.le_refl _) _).alloc (by rw [al_size]; omega) _
  obtain ⟨w2, hw2⟩ : ∃ W, (w.alloc (.cells #[.int .i64 d, .int .i64 p, .int .i64 z, .slice a n c1] 29)).alloc (.cells #[.int .i64 d, .int .i64 p, .int .i64 z, .slice b n c2] 25) = W := ⟨_, rfl⟩
  rw [hw2] at h1' h2 hbl
  have HID : Hid (Calls Tryd.prog 9 #[.slice a n c1, .slice b n c2] w2 fun e w' => e = .returned (.bool true) ∧ Below w.heap.size w w') := (rids17 l l a b n n c1 c2 w2 (ha.below (hbl.mono (Nat.le_refl _))) (hb.below (hbl.mono (Nat.le_refl _))) hn hn hz hz).mono fun e w' ⟨q1, q2⟩ => ⟨by rw [q1]; simp, hbl.trans (q2.mono hbl.size)⟩
  have c0 : w2.cell? ⟨w.heap.size, 0, none⟩ = some (.int .i64 d) := by rw [h1'.cell]; rfl
  have c1' : w2.cell? ⟨w.heap.size, 1, none⟩ = some (.int .i64 p) := by rw [h1'.cell]; rfl
  have c2' : w2.cell? ⟨w.heap.size, 2, none⟩ = some (.int .i64 z) := by rw [h1'.cell]; rfl
  have c3 : w2.cell? ⟨w.heap.size, 3, none⟩ = some (.slice a n c1) := by rw [h1'.cell]; rfl
  have d0 : w2.cell? ⟨w.heap.size + 1, 0, none⟩ = some (.int .i64 d) := by rw [h2.cell]; rfl
  have d1 : w2.cell? ⟨w.heap.size + 1, 1, none⟩ = some (.int .i64 p) := by rw [h2.cell]; rfl
  have d2 : w2.cell? ⟨w.heap.size + 1, 2, none⟩ = some (.int .i64 z) := by rw [h2.cell]; rfl
  have d3 : w2.cell? ⟨w.heap.size + 1, 3, none⟩ = some (.slice b n c2) := by rw [h2.cell]; rfl
  clear ha hb hn h1 h2 h1' hbl
  subst hw2
  go_enter Tryd.func12, Tryd.ntmps12
  go_wp2_with fail
  refine HID.out.mono ?_
  rintro e w3 ⟨rfl, hw3⟩
  have H3 : Hid (Below w.heap.size w w3) := hw3
  clear hw3 HID
  go_wp2
  go_ret
  exact ⟨rfl, H3.out⟩
end Go.Proofs.YteccnnpialaalaaDoor
/- A call in a region that draws its order (wpBut). No program is named here. -/
namespace Go.Proofs.YteccnnpialaalaaDoor
open Go.RowKit
set_option linter.unusedSimpArgs false
set_option linter.unusedVariables false
theorem at_call {P : Program} {ops : Array Oper} {o : Oper} {a : Act} {w : World} {K : Act → World → Prop} {Q : Exit → Act → World → Prop} (hgd : o.guard = none) (f : FuncId) (args : Array Value) (v : Value) (R : World → Prop)
    (he : (execOp a.eval o).run P w = .ok (.enter f args) w) (hc : Calls P f args w (fun e w' => e = .returned v ∧ R w')) (h : ∀ w', R w' → K (a.put o.dst v) w') : At1 P ops Q o a w K := by
  refine ⟨?_⟩
  have hw : Region.wanted o (yielded ops a.tmps) = true := by simp [Region.wanted, hgd]
  rw [if_pos hw]
  unfold Oper.wp
  rw [he]
  refine hc.mono ?_
  rintro e w' ⟨rfl, hr⟩
  exact h w' hr
theorem wpList_bs0X {P : Program} {ops : Array Oper} {rest : List Oper} {o : Oper} {a : Act} {w : World} {Q : Exit → Act → World → Prop} (hgd : o.guard = none) (t : TypeId)
    (ho : o.op = .buildSlice t 0 #[]) (r : Value) (w' : World) (hr : (Instr.buildSlice t 0 #[]).run P w = .ok r w')
    (h : wpList P ops Q rest (a.put o.dst r) w') : wpList P ops Q (o :: rest) a w := by
  refine wpList_plain hgd fun K hK => ?_
  unfold Oper.wp execOp
  simp only [ho, Sem.run_bind, Sem.run_pure, Result.andThen_ok, List.map_toArray, List.map_nil, hr]
  exact hK _ _ h
end Go.Proofs.YteccnnpialaalaaDoor
/- strings.CutPrefix, CutSuffix. -/
namespace Go.Proofs.YteccnnpialaalaaDoor
open Go.RowKit
set_option linter.unusedSimpArgs false
set_option linter.unusedVariables false
theorem ret_bQ {a b : Bool} (h : b = a) : Ending.returned (.bool a) = .returned (.bool b) := by rw [h]
theorem str_neQ {x y : ByteArray} (h : x ≠ y) : (x.toList == y.toList) = false := by
  rw [beq_eq_false_iff_ne, Lib.toList_data, Lib.toList_data]
  intro e
  exact h (bl_inj e)
/-- Whether a text stands at the front, at the end. -/
def pfQ (s q : ByteArray) : Bool := decide (q.size ≤ s.size) && (bl (s.extract 0 q.size) == bl q)
def sfQ (s q : ByteArray) : Bool := decide (q.size ≤ s.size) && (bl (s.extract (s.size - q.size) s.size) == bl q)
set_option maxHeartbeats 1000000 in
theorem hasPfxQ (s q : ByteArray) (w : World) (hs : s.size ≤ 140737488355328) (hq : q.size ≤ 16) :
    Calls Tryd.prog 68 #[.string s, .string q] w fun e w' => e = .returned (.bool (pfQ s q)) ∧ w' = w := by
  by_cases h4 : q.size ≤ s.size
  · have h4z : (q.size : Int) ≤ (s.size : Int) := by omega
    obtain ⟨x, hx⟩ : ∃ x, s.extract 0 q.size = x := ⟨_, rfl⟩
    by_cases he : x = q
    · have HE : Hid (pfQ s q = true) := by show _ = _; rw [pfQ, hx, he]; simp [h4]
      subst he
      go_enter Tryd.func68, Tryd.ntmps68
      go_wp2
      go_ret
      exact ⟨ret_bQ HE.out, rfl⟩
    · have HE : Hid (pfQ s q = false) := by
        show _ = _
        rw [pfQ, hx, Bool.and_eq_false_iff]
        exact .inr (by rw [beq_eq_false_iff_ne]; exact fun h => he (bl_inj h))
      have hne := str_neQ he
      clear he
      go_enter Tryd.func68, Tryd.ntmps68
      go_wp2
      go_ret
      exact ⟨ret_bQ HE.out, rfl⟩
  · have h4z : ¬ (q.size : Int) ≤ (s.size : Int) := by omega
    have HE : Hid (pfQ s q = false) := by show pfQ s q = false; simp [pfQ, h4]
    go_enter Tryd.func68, Tryd.ntmps68
    go_wp2
    go_ret
    exact ⟨ret_bQ HE.out, rfl⟩
set_option maxHeartbeats 1000000 in
theorem hasSfxQ (s q : ByteArray) (w : World) (hs : s.size ≤ 140737488355328) (hq : q.size ≤ 16) :
    Calls Tryd.prog 69 #[.string s, .string q] w fun e w' => e = .returned (.bool (sfQ s q)) ∧ w' = w := by
  by_cases h4 : q.size ≤ s.size
  · have h4z : (q.size : Int) ≤ (s.size : Int) := by omega
    obtain ⟨n, hn⟩ : ∃ n, n = s.size - q.size := ⟨_, rfl⟩
    have hnz : (s.size : Int) - (q.size : Int) = (n : Int) := by omega
    have hnl : (n : Int) ≤ (s.size : Int) := by omega
    obtain ⟨x, hx⟩ : ∃ x, s.extract n s.size = x := ⟨_, rfl⟩
    by_cases he : x = q
    · have HE : Hid (sfQ s q = true) := by show _ = _; rw [sfQ, ← hn, hx, he]; simp [h4]
      subst he
      clear hn
      go_enter Tryd.func69, Tryd.ntmps69
      go_wp2
      go_ret
      exact ⟨ret_bQ HE.out, rfl⟩
    · have HE : Hid (sfQ s q = false) := by
        show _ = _
        rw [sfQ, ← hn, hx, Bool.and_eq_false_iff]
        exact .inr (by rw [beq_eq_false_iff_ne]; exact fun h => he (bl_inj h))
      have hne := str_neQ he
      clear he hn
      go_enter Tryd.func69, Tryd.ntmps69
      go_wp2
      go_ret
      exact ⟨ret_bQ HE.out, rfl⟩
  · have h4z : ¬ (q.size : Int) ≤ (s.size : Int) := by omega
    have HE : Hid (sfQ s q = false) := by show sfQ s q = false; simp [sfQ, h4]
    go_enter Tryd.func69, Tryd.ntmps69
    go_wp2
    go_ret
    exact ⟨ret_bQ HE.out, rfl⟩
/-- What is left when they are cut. -/
def cpQ (s q : ByteArray) : ByteArray := if pfQ s q = true then s.extract q.size s.size else s
def csQ (s q : ByteArray) : ByteArray := if sfQ s q = true then s.extract 0 (s.size - q.size) else s
theorem pfQ_le {s q : ByteArray} (h : pfQ s q = true) : q.size ≤ s.size := by simp [pfQ] at h; exact h.1
theorem sfQ_le {s q : ByteArray} (h : sfQ s q = true) : q.size ≤ s.size := by simp [sfQ] at h; exact h.1
theorem ret_sbQ {a b : ByteArray} {e e' : Bool} (h : b = a ∧ e' = e) : Ending.returned (.tuple #[.string a, .bool e]) = .returned (.tuple #[.string b, .bool e']) := by rw [h.1, h.2]
set_option maxHeartbeats 1000000 in
theorem cutP1Q (s q : ByteArray) (w : World) (hs : s.size ≤ 140737488355328) (hq : q.size ≤ 16) :
    Calls Tryd.prog 49 #[.string s, .string q] w fun e w' => e = .returned (.tuple #[.string (cpQ s q), .bool (pfQ s q)]) ∧ w' = w := by
  cases hp : pfQ s q with
  | true =>
    have H1 := hasPfxQ s q w hs hq
    rw [hp] at H1
    have HE : Hid (cpQ s q = s.extract q.size s.size) := by show _ = _; rw [cpQ, if_pos hp]
    have hle := pfQ_le hp
    have h4z : (q.size : Int) ≤ (s.size : Int) := by omega
    clear hp
    go_enter Tryd.func49, Tryd.ntmps49
    go_wp2_with fail
    refine H1.mono ?_
    rintro e w1 ⟨rfl, hw⟩
    obtain rfl : w = w1 := hw.symm
    go_wp2
    go_ret2
    exact ⟨ret_sbQ ⟨HE.out, rfl⟩, rfl⟩
  | false =>
    have H1 := hasPfxQ s q w hs hq
    rw [hp] at H1
    have HE : Hid (cpQ s q = s) := by show _ = _; rw [cpQ, if_neg (by rw [hp]; simp)]
    clear hp
    go_enter Tryd.func49, Tryd.ntmps49
    go_wp2_with fail
    refine H1.mono ?_
    rintro e w1 ⟨rfl, hw⟩
    obtain rfl : w = w1 := hw.symm
    go_wp2
    go_ret2
    exact ⟨ret_sbQ ⟨HE.out, rfl⟩, rfl⟩
set_option maxHeartbeats 1000000 in
theorem cutS1Q (s q : ByteArray) (w : World) (hs : s.size ≤ 140737488355328) (hq : q.size ≤ 16) :
    Calls Tryd.prog 50 #[.string s, .string q] w fun e w' => e = .returned (.tuple #[.string (csQ s q), .bool (sfQ s q)]) ∧ w' = w := by
  cases hp : sfQ s q with
  | true =>
    have H1 := hasSfxQ s q w hs hq
    rw [hp] at H1
    obtain ⟨n, hn⟩ : ∃ n, n = s.size - q.size := ⟨_, rfl⟩
    have HE : Hid (csQ s q = s.extract 0 n) := by show _ = _; rw [csQ, if_pos hp, hn]
    have hle := sfQ_le hp
    have hnz : (s.size : Int) - (q.size : Int) = (n : Int) := by omega
    have hnl : (n : Int) ≤ (s.size : Int) := by omega
    clear hp hn
    go_enter Tryd.func50, Tryd.ntmps50
    go_wp2_with fail
    refine H1.mono ?_
    rintro e w1 ⟨rfl, hw⟩
    obtain rfl : w = w1 := hw.symm
    go_wp2
    go_ret2
    exact ⟨ret_sbQ ⟨HE.out, rfl⟩, rfl⟩
  | false =>
    have H1 := hasSfxQ s q w hs hq
    rw [hp] at H1
    have HE : Hid (csQ s q = s) := by show _ = _; rw [csQ, if_neg (by rw [hp]; simp)]
    clear hp
    go_enter Tryd.func50, Tryd.ntmps50
    go_wp2_with fail
    refine H1.mono ?_
    rintro e w1 ⟨rfl, hw⟩
    obtain rfl : w = w1 := hw.symm
    go_wp2
    go_ret2
    exact ⟨ret_sbQ ⟨HE.out, rfl⟩, rfl⟩
theorem cutPQ (s q : ByteArray) (w : World) (hs : s.size ≤ 140737488355328) (hq : q.size ≤ 16) :
    Calls Tryd.prog 31 #[.string s, .string q] w fun e w' => e = .returned (.tuple #[.string (cpQ s q), .bool (pfQ s q)]) ∧ w' = w := by
  go_enter Tryd.func31, Tryd.ntmps31
  go_wp2_with fail
  refine (cutP1Q s q _ hs hq).mono ?_
  rintro e w1 ⟨rfl, hw⟩
  obtain rfl : w = w1 := hw.symm
  go_wp2
  go_ret2
  exact ⟨rfl, rfl⟩
theorem cutSQ (s q : ByteArray) (w : World) (hs : s.size ≤ 140737488355328) (hq : q.size ≤ 16) :
    Calls Tryd.prog 32 #[.string s, .string q] w fun e w' => e = .returned (.tuple #[.string (csQ s q), .bool (sfQ s q)]) ∧ w' = w := by
  go_enter Tryd.func32, Tryd.ntmps32
  go_wp2_with fail
  refine (cutS1Q s q _ hs hq).mono ?_
  rintro e w1 ⟨rfl, hw⟩
  obtain rfl : w = w1 := hw.symm
  go_wp2
  go_ret2
  exact ⟨rfl, rfl⟩
end Go.Proofs.YteccnnpialaalaaDoor
/- strings.Cut at a dash. -/
namespace Go.Proofs.YteccnnpialaalaaDoor
open Go.RowKit
set_option linter.unusedSimpArgs false
set_option linter.unusedVariables false
theorem idx_dash : ∀ (l : List UInt8) (c : UInt8), (Lib.indexByte l c = -1 ∧ c ∉ l) ∨ ∃ i : Nat, Lib.indexByte l c = i ∧ i < l.length ∧ c ∉ l.take i ∧ l[i]? = some c
  | [], c => .inl ⟨rfl, by simp⟩
  | b :: l, c => by
    by_cases hb : b = c
    · subst hb; exact .inr ⟨0, by simp [Lib.indexByte], by simp, by simp, by simp⟩
    · have hb' : (b == c) = false := by simpa using hb
      rcases idx_dash l c with ⟨h1, h2⟩ | ⟨i, h1, h2, h3, h4⟩
      · exact .inl ⟨by simp [Lib.indexByte, hb', h1], by simp only [List.mem_cons, not_or]; exact ⟨fun e => hb e.symm, h2⟩⟩
      · refine .inr ⟨i + 1, ?_, by simp; omega, ?_, by simpa using h4⟩
        · have : ((i : Int) == -1) = false := by first | (simp; done) | (simp; omega)
          simp [Lib.indexByte, hb', h1, this]
        · simp only [List.take_succ_cons, List.mem_cons, not_or]; exact ⟨fun e => hb e.symm, h3⟩
set_option maxRecDepth 100000 in
theorem sidxB (s : ByteArray) (w : World) : Calls Tryd.prog 77 #[.string s, .int .u8 45] w fun e w' => e = .returned (.int .i64 (Lib.indexByte s.data.toList 45)) ∧ w' = w := by
  go_enter Tryd.func77, Tryd.ntmps77
  go_wp2
  rw [run_callFunc_extern Tryd.func83 (by kernel_rfl) (by kernel_rfl) (by kernel_rfl) (e := Extern.BytealgIndexByte.indexByte) (by kernel_rfl), Lib.run_indexByteString]
  simp only [Result.andThen]
  rw [Oper.upon_value]
  go_wp2
  go_ret
  exact ⟨rfl, rfl⟩
set_option maxHeartbeats 1000000 in
set_option maxRecDepth 100000 in
theorem sidx (s : ByteArray) (w : World) (hs : s.size ≤ 140737488355328) : Calls Tryd.prog 70 #[.string s, .string ⟨#[45]⟩] w fun e w' => e = .returned (.int .i64 (Lib.indexByte s.data.toList 45)) ∧ w' = w := by
  by_cases he : s = ⟨#[45]⟩
  · subst he
    have hq : ([45] == (⟨#[45]⟩ : ByteArray).toList) = true := by rw [Lib.toList_data]; rfl
    go_enter Tryd.func70, Tryd.ntmps70
    go_wp2
    go_ret
    exact ⟨rfl, rfl⟩
  · have hq : ([45] == s.toList) = false := by
      have := str_neQ (fun q : (⟨#[45]⟩ : ByteArray) = s => he q.symm)
      rw [show (⟨#[45]⟩ : ByteArray).toList = [45] by rw [Lib.toList_data]] at this
      exact this
    go_enter Tryd.func70, Tryd.ntmps70
    go_wp2_with (first
      | (go_at_call 77; refine (sidxB s _).mono ?_; rintro e w1 ⟨rfl, hw⟩; obtain rfl := hw.symm)
      | fail)
    go_ret
    exact ⟨rfl, rfl⟩
/-- What Cut answers. -/
def CutD (s : ByteArray) (e : Ending) : Prop := (e = .returned (.tuple #[.string s, .string ⟨#[]⟩, .bool false]) ∧ (45 : UInt8) ∉ bl s) ∨
  ∃ i : Nat, i < s.size ∧ e = .returned (.tuple #[.string (s.extract 0 i), .string (s.extract (i + 1) s.size), .bool true]) ∧ (45 : UInt8) ∉ (bl s).take i ∧ (bl s)[i]? = some 45
theorem scutD (s : ByteArray) (w : World) (hs : s.size ≤ 140737488355328) :
    Calls Tryd.prog 51 #[.string s, .string ⟨#[45]⟩] w fun e w' => CutD s e ∧ Below w.heap.size w w' := by
  have hix := sidx s w hs
  rcases idx_dash s.data.toList 45 with ⟨h1, h2⟩ | ⟨i, h1, h2, h3, h4⟩
  · rw [h1] at hix
    have H2 : Hid ((45 : UInt8) ∉ bl s) := h2
    clear h1 h2
    go_enter Tryd.func51, Tryd.ntmps51
    go_wp2_with fail
    refine hix.mono ?_
    rintro e w1 ⟨rfl, hw⟩
    subst hw
    go_wp2
    go_ret3
    exact ⟨.inl ⟨rfl, H2.out⟩, Below.refl _ _⟩
  · rw [h1] at hix
    have h2' : i < s.size := by have e : s.data.toList.length = s.size := Array.length_toList; omega
    have H2 : Hid ((45 : UInt8) ∉ (bl s).take i ∧ (bl s)[i]? = some 45) := ⟨h3, h4⟩
    have a1 : (i : Int) + 1 ≤ (s.size : Nat) := by omega
    have a0 : (i : Int) ≤ (s.size : Nat) := by omega
    have a2 : (0 : Int) ≤ i := by omega
    have a3 : wrap64 ((i : Int) + 1) = ((i + 1 : Nat) : Int) := by unfold wrap64; omega
    clear h1 h2 h3 h4
    go_enter Tryd.func51, Tryd.ntmps51
    go_wp2_with fail
    refine hix.mono ?_
    rintro e w1 ⟨rfl, hw⟩
    subst hw
    go_wp2
    go_region
    all_goals go_wp2
    all_goals go_ret3
    all_goals exact ⟨.inr ⟨i, h2', rfl, H2.out⟩, (Below.refl _ _).drew⟩
theorem cutD (s : ByteArray) (w : World) (hs : s.size ≤ 140737488355328) :
    Calls Tryd.prog 33 #[.string s, .string ⟨#[45]⟩] w fun e w' => CutD s e ∧ Below w.heap.size w w' := by
  go_enter Tryd.func33, Tryd.ntmps33
  go_wp2_with fail
  refine (scutD s w hs).mono ?_
  rintro e w1 ⟨hA, hw⟩
  have HW : Hid (Below w.heap.size w w1) := hw
  clear hw
  rcases hA with ⟨rfl, h2⟩ | ⟨i, h1, rfl, h2⟩
  · have H2 : Hid ((45 : UInt8) ∉ bl s) := h2
    clear h2
    go_wp2
    go_ret3
    exact ⟨.inl ⟨rfl, H2.out⟩, HW.out⟩
  · have H2 : Hid ((45 : UInt8) ∉ (bl s).take i ∧ (bl s)[i]? = some 45) := h2
    clear h2
    go_wp2
    go_ret3
    exact ⟨.inr ⟨i, h1, rfl, H2.out⟩, HW.out⟩
end Go.Proofs.YteccnnpialaalaaDoor
/- parity: names taken apart at their front, end and dash; digest.Parse of any text. -/
namespace Go.Proofs.YteccnnpialaalaaDoor
open Go.RowKit
set_option linter.unusedSimpArgs false
set_option linter.unusedVariables false
def pqF17 : ByteArray := ⟨#[112, 97, 114, 45]⟩
def pqD17 : ByteArray := ⟨#[45]⟩
def pqE17 : ByteArray := ⟨#[46, 112, 120]⟩
/-- A label of these digits. -/
def lbP17 (f g : ByteArray) : ByteArray := (((pqF17 ++ f) ++ pqD17) ++ g) ++ pqE17
theorem lbP17_bl (f g : ByteArray) : bl (lbP17 f g) = [112, 97, 114, 45] ++ ((bl f ++ 45 :: bl g) ++ [46, 112, 120]) := by
  rw [lbP17, bl_append, bl_append, bl_append, bl_append]
  show [112, 97, 114, 45] ++ bl f ++ [45] ++ bl g ++ [46, 112, 120] = _
  simp
/-- A label that says two sums. -/
def IsLbP17 (s f g : ByteArray) : Prop := s = lbP17 f g ∧ f.size = 64 ∧ g.size = 64 ∧ uhE f = 0 ∧ uhE g = 0
theorem dash_one17 : ∀ (a a' b b' : List UInt8), (45 : UInt8) ∉ a → (45 : UInt8) ∉ a' → a ++ 45 :: b = a' ++ 45 :: b' → a = a' ∧ b = b'
  | [], [], b, b', _, _, h => by simpa using h
  | [], x :: a', b, b', _, h2, h => by
    simp only [List.nil_append, List.cons_append, List.cons.injEq] at h
    exact absurd (by rw [← h.1]; exact List.mem_cons_self) h2
  | x :: a, [], b, b', h1, _, h => by
    simp only [List.nil_append, List.cons_append, List.cons.injEq] at h
    exact absurd (by rw [h.1]; exact List.mem_cons_self) h1
  | x :: a, y :: a', b, b', h1, h2, h => by
    simp only [List.cons_append, List.cons.injEq] at h
    obtain ⟨q1, q2⟩ := dash_one17 a a' b b' (fun q => h1 (List.mem_cons_of_mem _ q)) (fun q => h2 (List.mem_cons_of_mem _ q)) h.2
    exact ⟨by rw [h.1, q1], q2⟩
theorem unhex_dash17 : ∀ (l : List UInt8), (unhexL l).isSome = true → (45 : UInt8) ∉ l
  | [], _ => by simp
  | [_], h => by simp [unhexL] at h
  | a :: b :: r, h => by
    have hd : dvl (45 : UInt8).toNat = none := by decide
    rw [unhexL] at h
    cases ha : dvl a.toNat with
    | none => rw [ha] at h; simp at h
    | some x =>
      cases hb : dvl b.toNat with
      | none => rw [ha, hb] at h; simp at h
      | some y =>
        cases hr : unhexL r with
        | none => rw [ha, hb, hr] at h; simp at h
        | some m =>
          have ih := unhex_dash17 r (by rw [hr]; rfl)
          intro q
          simp only [List.mem_cons] at q
          rcases q with q | q | q
          · rw [← q, hd] at ha; cases ha
          · rw [← q, hd] at hb; cases hb
          · exact ih q
theorem IsLbP17.dash {s f g : ByteArray} (h : IsLbP17 s f g) : (45 : UInt8) ∉ bl f := by
  refine unhex_dash17 _ ?_
  have := h.2.2.2.1
  unfold uhE at this
  split at this
  · assumption
  · omega
theorem lbP17_one {f g f' g' : ByteArray} (h : lbP17 f g = lbP17 f' g') (h1 : (45 : UInt8) ∉ bl f) (h2 : (45 : UInt8) ∉ bl f') : f = f' ∧ g = g' := by
  have := congrArg bl h
  rw [lbP17_bl, lbP17_bl] at this
  have q := List.append_cancel_right (List.append_cancel_left this)
  obtain ⟨q1, q2⟩ := dash_one17 _ _ _ _ h1 h2 q
  exact ⟨bl_inj q1, bl_inj q2⟩
theorem pfQ_iff17 (s q : ByteArray) : pfQ s q = true ↔ ∃ r, s = q ++ r := by
  unfold pfQ
  rw [Bool.and_eq_true, decide_eq_true_eq, beq_iff_eq]
  constructor
  · rintro ⟨h1, h2⟩
    refine ⟨s.extract q.size s.size, ?_⟩
    apply bl_inj
    rw [extract_take s _ h1] at h2
    rw [bl_append, bl_ex, ← h2, List.take_append_drop]
  · rintro ⟨r, rfl⟩
    refine ⟨by rw [ByteArray.size_append]; omega, ?_⟩
    rw [extract_take _ _ (by rw [ByteArray.size_append]; omega), bl_append, ← bl_length, List.take_left]
theorem cpQ_eq17 (q r : ByteArray) : cpQ (q ++ r) q = r := by
  rw [cpQ, if_pos ((pfQ_iff17 _ _).2 ⟨r, rfl⟩)]
  exact drop_front _ q r _ rfl rfl
theorem sfQ_iff17 (s q : ByteArray) : sfQ s q = true ↔ ∃ r, s = r ++ q := by
  unfold sfQ
  rw [Bool.and_eq_true, decide_eq_true_eq, beq_iff_eq]
  constructor
  · rintro ⟨h1, h2⟩
    refine ⟨s.extract 0 (s.size - q.size), ?_⟩
    apply bl_inj
    rw [bl_append, ← h2, bl_ex, extract_take _ _ (by omega), List.take_append_drop]
  · rintro ⟨r, rfl⟩
    refine ⟨by rw [ByteArray.size_append]; omega, ?_⟩
    rw [drop_front (r ++ q) r q _ rfl (by rw [ByteArray.size_append]; omega)]
theorem csQ_eq17 (r q : ByteArray) : csQ (r ++ q) q = r := by
  rw [csQ, if_pos ((sfQ_iff17 _ _).2 ⟨r, rfl⟩)]
  apply bl_inj
  rw [extract_take _ _ (by omega), bl_append, ByteArray.size_append, Nat.add_sub_cancel, ← bl_length, List.take_left]
/-- A label comes apart. -/
theorem lbP17_parts (f g : ByteArray) : pfQ (lbP17 f g) pqF17 = true ∧ sfQ (cpQ (lbP17 f g) pqF17) pqE17 = true ∧ csQ (cpQ (lbP17 f g) pqF17) pqE17 = (f ++ pqD17) ++ g := by
  have e : lbP17 f g = pqF17 ++ (((f ++ pqD17) ++ g) ++ pqE17) := by
    apply bl_inj
    simp only [lbP17, bl_append, List.append_assoc]
  rw [e, cpQ_eq17, csQ_eq17]
  exact ⟨(pfQ_iff17 _ _).2 ⟨_, rfl⟩, (sfQ_iff17 _ _).2 ⟨_, rfl⟩, rfl⟩
theorem lbP17_of {s d : ByteArray} {i : Nat} (h1 : pfQ s pqF17 = true) (h2 : sfQ (cpQ s pqF17) pqE17 = true) (hd : csQ (cpQ s pqF17) pqE17 = d) (hi : (bl d)[i]? = some 45) (hi2 : i < d.size) : s = lbP17 (d.extract 0 i) (d.extract (i + 1) d.size) := by
  obtain ⟨r, rfl⟩ := (pfQ_iff17 _ _).1 h1
  rw [cpQ_eq17] at h2 hd
  obtain ⟨t, rfl⟩ := (sfQ_iff17 _ _).1 h2
  rw [csQ_eq17] at hd
  subst hd
  apply bl_inj
  rw [lbP17_bl, bl_append, bl_append, extract_take _ _ (by omega), bl_ex]
  have e : bl t = (bl t).take i ++ 45 :: (bl t).drop (i + 1) := by
    obtain ⟨hl, hv⟩ := List.getElem?_eq_some_iff.1 hi
    rw [← hv, ← List.drop_eq_getElem_cons hl, List.take_append_drop]
  show [112, 97, 114, 45] ++ (bl t ++ [46, 112, 120]) = _
  rw [← e]
/-- The digits of a name, and their label. -/
def tx17 (s : ByteArray) : ByteArray := sb (hexL (bl s))
def ilbP17 (a b : ByteArray) : ByteArray := lbP17 (tx17 a) (tx17 b)
theorem tx17_size {s : ByteArray} (h : s.size = 32) : (tx17 s).size = 64 := by rw [tx17, sb_size, hexL_length, bl_length, h]
theorem ilbP17_is {a b : ByteArray} (ha : a.size = 32) (hb : b.size = 32) : IsLbP17 (ilbP17 a b) (tx17 a) (tx17 b) := ⟨rfl, tx17_size ha, tx17_size hb, (uh_hex a).2, (uh_hex b).2⟩
theorem pid_tx17 {a : ByteArray} (ha : a.size = 32) : pid (tx17 a) = idc a := by
  obtain ⟨u1, u2⟩ := uh_hex a
  unfold tx17
  rw [pid_ok _ (by rw [u1]; exact ha), u1]
/-- What Parse tells. -/
def ppA17 (t : ByteArray) : Array Value := if t.size = 64 then pid t else z32c
def ppE17 (t : ByteArray) : Int := if t.size = 64 then uhE t else 4
theorem ppA17_size (t : ByteArray) : (ppA17 t).size = 32 := by unfold ppA17; split <;> first | exact pid_size t | exact z32c_size
theorem ppA17_one (t : ByteArray) : (ppA17 t).all (·.oneCell') = true := by unfold ppA17; split <;> first | exact pid_one t | exact z32c_one
theorem pparse17 (t : ByteArray) (w : World) (hm : t.size ≤ 140737488351232) (hA : Dig w) :
    Calls Tryd.prog 34 #[.string t] w fun e w' => e = .returned (.tuple #[.agg (ppA17 t), .int .i64 (ppE17 t)]) ∧ Below w.heap.size w w' := by
  by_cases h : t.size = 64
  · rw [ppA17, ppE17, if_pos h, if_pos h]; exact parse17 t w h hA
  · rw [ppA17, ppE17, if_neg h, if_neg h]; exact parse_bad t w h hm
theorem cpQ_size17 (s q : ByteArray) : (cpQ s q).size ≤ s.size := by
  unfold cpQ
  split
  · rw [← bl_length, bl_extract, List.length_drop, List.length_take, bl_length]; omega
  · exact Nat.le_refl _
theorem csQ_size17 (s q : ByteArray) : (csQ s q).size ≤ s.size := by
  unfold csQ
  split
  · rw [← bl_length, bl_extract, List.length_drop, List.length_take, bl_length]; omega
  · exact Nat.le_refl _
theorem ppE17_cases (t : ByteArray) : (ppE17 t = 0 ∧ t.size = 64 ∧ uhE t = 0) ∨ ppE17 t ≠ 0 := by
  unfold ppE17
  split
  · by_cases h : uhE t = 0
    · exact .inl ⟨h, ‹_›, h⟩
    · exact .inr h
  · exact .inr (by decide)
theorem ppE17_val (t : ByteArray) : ppE17 t = 0 ∨ ppE17 t = 4 := by
  unfold ppE17
  split
  · unfold uhE; split
    · exact .inl rfl
    · exact .inr rfl
  · exact .inr rfl
theorem setRow_same17 (w : World) (g : Nat) (cs : Array Value) (t : TypeId) (hg : w.heap[g]? = some (.cells cs t (0, 0))) : w.setRow g cs = w := by
  have e : (w.setRow g cs).heap = w.heap := by
    apply Array.ext_getElem?
    intro i
    by_cases h : i = g
    · subst h; rw [setRow_heap w i cs cs t (0, 0) hg, hg]
    · rw [setRow_other w g i cs h]
  have e2 : w.setRow g cs = { w with heap := (w.setRow g cs).heap } := rfl
  rw [e2, e]
/-- A store of what stands there already changes nothing. -/
theorem quiet_again17 {P : Program} {o : Oper} {a : Act} {C : World → Prop} {K : Act → Prop} (ty : TypeId) (x y : Operand) (ho : o.op = .store ty x y) (g : Nat) (cs : Array Value) (t : TypeId) (hx : a.eval x = .pointer (some ⟨g, 0, none⟩)) (hy : a.eval y = .agg cs)
    (hc : ∀ w, C w → Bk w g cs t) (hi : (P.info? ty).map (·.size) = some cs.size) (h1 : cs.all (·.oneCell') = true) (hn : K (a.put o.dst undef)) : o.quiet P a C K :=
  ⟨undef, fun w hw => by
    have h := hc w hw
    have hr := run_storeVar_row (P := P) w g t ty cs cs h hi rfl h1
    rw [setRow_same17 w g cs t h] at hr
    unfold Oper.quietAt execOp
    simp only [ho, hx, hy, Instr.storeAt, Instr.sureAddr, Sem.run_bind, Sem.run_pure, Result.andThen_ok, hr]
    exact ⟨rfl, rfl⟩, hn⟩
/-- What Named tells, by digits. -/
def SmP17 (s : ByteArray) (e : Ending) : Prop :=
  (∃ f g, IsLbP17 s f g ∧ e = .returned (.tuple #[.agg (pid f), .agg (pid g), .int .i64 0])) ∨ ((∀ f g, ¬ IsLbP17 s f g) ∧ e = .returned (.tuple #[.agg z32c, .agg z32c, .int .i64 10]))
theorem lbP17_pn {x y : ByteArray} : lbP17 (tx17 x) (tx17 y) = pnN x y := rfl
theorem SmP17.to {s : ByteArray} {e : Ending} (h : SmP17 s e) : PnR s e := by
  rcases h with ⟨f, g, ⟨h1, h2, h3, h4, h5⟩, rfl⟩ | ⟨h1, rfl⟩
  · have e1 := hex_uh f h4
    have e2 := hex_uh g h5
    have z1 := hexd_len17 f h4
    have z2 := hexd_len17 g h5
    refine .inl ⟨uhS f, uhS g, by omega, by omega, ?_, ?_⟩
    · rw [h1, ← lbP17_pn, tx17, tx17, e1, e2]
    · rw [pid_ok f (by omega), pid_ok g (by omega)]
  · refine .inr ⟨fun x y hx hy e => h1 (tx17 x) (tx17 y) ?_, rfl⟩
    exact ⟨by rw [e, lbP17_pn], tx17_size hx, tx17_size hy, (uh_hex x).2, (uh_hex y).2⟩
end Go.Proofs.YteccnnpialaalaaDoor
