import Derived.Test.YtahpaekiehdejabDoorY8
import Derived.Test.YtahpaekiehdejabDoorY9
import Derived.Test.YtahpaekiehdejabDoorChecked
import Derived.BigQuiet
import Derived.Deep.QuietTactic
import Derived.Test.YtahpaekiehdejabDoorY10
/- Two entries compared. -/
namespace Go.Proofs.YtahpaekiehdejabDoor
open Go.RowKit
set_option linter.unusedSimpArgs false
set_option linter.unusedVariables false
theorem eqItems_idsD (d : Nat) (a b : ByteArray) (ha : a.size = 32) (hb : b.size = 32) (w : World) : ∀ is : List Nat, (∀ i ∈ is, i < 32) →
    (Op.eqItems (d + 1) 5 1 (idc a) (idc b) is).run Tryd.prog w = .ok (is.all fun i => (byl a).getD i 0 == (byl b).getD i 0) w
  | [], _ => by simp [Op.eqItems]
  | i :: is, h => by
    have hi : i < 32 := h i (List.mem_cons_self ..)
    have ih := eqItems_idsD d a b ha hb w is (fun j hj => h j (List.mem_cons_of_mem _ hj))
    have e1 : (byl a).getD i 0 = a[i].toNat := by rw [List.getD, byl_getD a i (by omega)]; rfl
    have e2 : (byl b).getD i 0 = b[i].toNat := by rw [List.getD, byl_getD b i (by omega)]; rfl
    have e3 := run_equalIn_int (P := Tryd.prog) w d 5 .u8 .u8 (a[i].toNat : Int) (b[i].toNat : Int) Tryd.underlying5
    simp only [Op.eqItems, Sem.run_bind, Nat.mul_one, part_id a i (by omega), part_id b i (by omega), Result.andThen_ok, e3, List.all_cons, e1, e2]
    by_cases e : a[i].toNat = b[i].toNat
    · have e4 : ((a[i].toNat : Int) == (b[i].toNat : Int)) = true := by rw [e]; simp
      simp only [e4, Bool.not_true, Bool.false_eq_true, if_false, ih, e, beq_self_eq_true, Bool.true_and]
    · have e4 : ((a[i].toNat : Int) == (b[i].toNat : Int)) = false := by rw [beq_eq_false_iff_ne]; omega
      have e5 : (a[i].toNat == b[i].toNat) = false := by rw [beq_eq_false_iff_ne]; exact e
      simp only [e4, Bool.not_false, if_true, Sem.run_pure, e5, Bool.false_and]
theorem equalIn_idsD (d : Nat) (a b : ByteArray) (ha : a.size = 32) (hb : b.size = 32) (w : World) : (Op.equalIn (d + 2) 29 (.agg (idc a)) (.agg (idc b))).run Tryd.prog w = .ok (decide (a = b)) w := by
  have hc : Tryd.prog.cellsOf 5 = 1 := by kernel_rfl
  obtain ⟨i0, hi⟩ := info_of_underlying Tryd.underlying5
  have hu : Tryd.prog.underlying 29 = some (.array 32 5) := Tryd.underlying29
  rw [run_equalIn_array w (d + 1) (idc a) (idc b) hu hi, hc, eqItems_idsD d a b ha hb w _ (fun i hi => by simpa using hi), ids_all a b ha hb]
/-- Whether two entries are the same. -/
def enQ (e f : Ent) : Bool := decide (e.id = f.id) && (((e.k.toNat : Int) == (f.k.toNat : Int)) && (((e.off : Int) == (f.off : Int)) && ((e.sz : Int) == (f.sz : Int))))
theorem enQ_self (e : Ent) : enQ e e = true := by simp [enQ]
theorem enQ_iff (e f : Ent) : enQ e f = true ↔ e = f := by
  constructor
  · intro h
    simp only [enQ, Bool.and_eq_true, decide_eq_true_eq, beq_iff_eq] at h
    obtain ⟨h1, h2, h3, h4⟩ := h
    obtain ⟨a, b, c, d⟩ := e
    obtain ⟨a', b', c', d'⟩ := f
    simp only at h1 h2 h3 h4
    subst h1
    have h2' : b = b' := UInt8.toNat.inj (by omega)
    subst h2'
    have h3' : c = c' := by omega
    have h4' : d = d' := by omega
    subst h3' h4'
    rfl
  · rintro rfl; exact enQ_self e
theorem part_idE (e : Ent) (h : e.id.size = 32) (w : World) : (part 29 (enC e) 0).run Tryd.prog w = .ok (.agg (idc e.id)) w := by
  have ha : (isAgg 29).run Tryd.prog w = .ok true w := by kernel_rfl
  have hs : (sizeOf 29).run Tryd.prog w = .ok 32 w := by kernel_rfl
  have hx : (enC e).extract 0 32 = idc e.id := by
    apply Array.ext'
    rw [Array.toList_extract, enC]
    have hl : (idc e.id).toList.length = 32 := by rw [Array.length_toList, idc_size, h]
    simp only [List.extract_eq_take_drop, List.drop_zero, Nat.sub_zero]
    rw [List.take_append_of_le_length (by omega), List.take_of_length_le (by omega)]
  simp [part, ha, hs, hx]
theorem part_cell {t : TypeId} (C : Array Value) (j : Nat) (v : Value) (w : World) (ha : (isAgg t).run Tryd.prog w = .ok false w) (h : C[j]? = some v) : (part t C j).run Tryd.prog w = .ok v w := by
  simp [part, ha, h]
set_option maxRecDepth 100000 in
theorem equalIn_enp (e f : Ent) (he : e.id.size = 32) (hf : f.id.size = 32) (w : World) : (Op.equalIn 10000 74 (.agg (enC e)) (.agg (enC f))).run Tryd.prog w = .ok (enQ e f) w := by
  have hu : Tryd.prog.underlying 74 = some (.struct (Tryd.prog.fieldsOf 74)) := by kernel_rfl
  have hst : Tryd.prog.stoodInHeld 74 = false := by kernel_rfl
  have hfs : (Tryd.prog.fieldsOf 74).toList.map (fun q => (q.name != "_", q.type, q.offset)) = [(true, 29, 0), (true, 5, 32), (true, 3, 33), (true, 3, 34)] := by kernel_rfl
  rw [run_equalIn_struct w 9999 74 (enC e) (enC f) hu hst]
  generalize (Tryd.prog.fieldsOf 74).toList = fs at hfs
  have hlen : fs.length = 4 := by have := congrArg List.length hfs; simpa using this
  match fs, hlen, hfs with
  | [f0, f1, f2, f3], _, hfs =>
    simp only [List.map_cons, List.map_nil, List.cons.injEq, Prod.mk.injEq, and_true, bne_iff_ne] at hfs
    obtain ⟨⟨n0, t0, o0⟩, ⟨n1, t1, o1⟩, ⟨n2, t2, o2⟩, n3, t3, o3⟩ := hfs
    obtain ⟨a1, a2, a3⟩ := enC_at e he
    obtain ⟨b1, b2, b3⟩ := enC_at f hf
    have u8a : (isAgg 5).run Tryd.prog w = .ok false w := by kernel_rfl
    have i64a : (isAgg 3).run Tryd.prog w = .ok false w := by kernel_rfl
    have q0 := equalIn_idsD 9997 e.id f.id he hf w
    have q1 := run_equalIn_int (P := Tryd.prog) w 9998 5 .u8 .u8 (e.k.toNat : Int) (f.k.toNat : Int) Tryd.underlying5
    have q2 := run_equalIn_int (P := Tryd.prog) w 9998 3 .i64 .i64 (e.off : Int) (f.off : Int) Tryd.underlying3
    have q3 := run_equalIn_int (P := Tryd.prog) w 9998 3 .i64 .i64 (e.sz : Int) (f.sz : Int) Tryd.underlying3
    simp only [Op.eqFields, n0, n1, n2, n3, t0, t1, t2, t3, o0, o1, o2, o3, ne_eq, not_false_eq_true, if_true, Sem.run_bind, part_idE e he, part_idE f hf, part_cell _ _ _ w u8a a1, part_cell _ _ _ w u8a b1, part_cell _ _ _ w i64a a2, part_cell _ _ _ w i64a b2, part_cell _ _ _ w i64a a3, part_cell _ _ _ w i64a b3, Result.andThen_ok]
    rw [q0, Result.andThen_ok, enQ]
    cases decide (e.id = f.id) with
    | false => rfl
    | true =>
      simp only [Bool.not_true, Bool.false_eq_true, if_false, Bool.true_and, Sem.run_bind, part_cell _ _ _ w u8a a1, part_cell _ _ _ w u8a b1, Result.andThen_ok, q1]
      cases ((e.k.toNat : Int) == (f.k.toNat : Int)) with
      | false => rfl
      | true =>
        simp only [Bool.not_true, Bool.false_eq_true, if_false, Bool.true_and, Sem.run_bind, part_cell _ _ _ w i64a a2, part_cell _ _ _ w i64a b2, Result.andThen_ok, q2]
        cases ((e.off : Int) == (f.off : Int)) with
        | false => rfl
        | true =>
          simp only [Bool.not_true, Bool.false_eq_true, if_false, Bool.true_and, Sem.run_bind, part_cell _ _ _ w i64a a3, part_cell _ _ _ w i64a b3, Result.andThen_ok, q3]
          cases ((e.sz : Int) == (f.sz : Int)) with
          | false => rfl
          | true => rfl
theorem neq_enp (e f : Ent) (he : e.id.size = 32) (hf : f.id.size = 32) (w : World) : (binOp .neq 74 (.agg (enC e)) (.agg (enC f))).run Tryd.prog w = .ok (.bool (!enQ e f)) w := by
  rw [run_neq_struct, equalIn_enp e f he hf]; rfl
set_option maxRecDepth 100000 in
theorem equalIn_enr (e f : Ent) (he : e.id.size = 32) (hf : f.id.size = 32) (w : World) : (Op.equalIn 10000 76 (.agg (enC e)) (.agg (enC f))).run Tryd.prog w = .ok (enQ e f) w := by
  have hu : Tryd.prog.underlying 76 = some (.struct (Tryd.prog.fieldsOf 76)) := by kernel_rfl
  have hst : Tryd.prog.stoodInHeld 76 = false := by kernel_rfl
  have hfs : (Tryd.prog.fieldsOf 76).toList.map (fun q => (q.name != "_", q.type, q.offset)) = [(true, 29, 0), (true, 5, 32), (true, 3, 33), (true, 3, 34)] := by kernel_rfl
  rw [run_equalIn_struct w 9999 76 (enC e) (enC f) hu hst]
  generalize (Tryd.prog.fieldsOf 76).toList = fs at hfs
  have hlen : fs.length = 4 := by have := congrArg List.length hfs; simpa using this
  match fs, hlen, hfs with
  | [f0, f1, f2, f3], _, hfs =>
    simp only [List.map_cons, List.map_nil, List.cons.injEq, Prod.mk.injEq, and_true, bne_iff_ne] at hfs
    obtain ⟨⟨n0, t0, o0⟩, ⟨n1, t1, o1⟩, ⟨n2, t2, o2⟩, n3, t3, o3⟩ := hfs
    obtain ⟨a1, a2, a3⟩ := enC_at e he
    obtain ⟨b1, b2, b3⟩ := enC_at f hf
    have u8a : (isAgg 5).run Tryd.prog w = .ok false w := by kernel_rfl
    have i64a : (isAgg 3).run Tryd.prog w = .ok false w := by kernel_rfl
    have q0 := equalIn_idsD 9997 e.id f.id he hf w
    have q1 := run_equalIn_int (P := Tryd.prog) w 9998 5 .u8 .u8 (e.k.toNat : Int) (f.k.toNat : Int) Tryd.underlying5
    have q2 := run_equalIn_int (P := Tryd.prog) w 9998 3 .i64 .i64 (e.off : Int) (f.off : Int) Tryd.underlying3
    have q3 := run_equalIn_int (P := Tryd.prog) w 9998 3 .i64 .i64 (e.sz : Int) (f.sz : Int) Tryd.underlying3
    simp only [Op.eqFields, n0, n1, n2, n3, t0, t1, t2, t3, o0, o1, o2, o3, ne_eq, not_false_eq_true, if_true, Sem.run_bind, part_idE e he, part_idE f hf, part_cell _ _ _ w u8a a1, part_cell _ _ _ w u8a b1, part_cell _ _ _ w i64a a2, part_cell _ _ _ w i64a b2, part_cell _ _ _ w i64a a3, part_cell _ _ _ w i64a b3, Result.andThen_ok]
    rw [q0, Result.andThen_ok, enQ]
    cases decide (e.id = f.id) with
    | false => rfl
    | true =>
      simp only [Bool.not_true, Bool.false_eq_true, if_false, Bool.true_and, Sem.run_bind, part_cell _ _ _ w u8a a1, part_cell _ _ _ w u8a b1, Result.andThen_ok, q1]
      cases ((e.k.toNat : Int) == (f.k.toNat : Int)) with
      | false => rfl
      | true =>
        simp only [Bool.not_true, Bool.false_eq_true, if_false, Bool.true_and, Sem.run_bind, part_cell _ _ _ w i64a a2, part_cell _ _ _ w i64a b2, Result.andThen_ok, q2]
        cases ((e.off : Int) == (f.off : Int)) with
        | false => rfl
        | true =>
          simp only [Bool.not_true, Bool.false_eq_true, if_false, Bool.true_and, Sem.run_bind, part_cell _ _ _ w i64a a3, part_cell _ _ _ w i64a b3, Result.andThen_ok, q3]
          cases ((e.sz : Int) == (f.sz : Int)) with
          | false => rfl
          | true => rfl
theorem neq_enr (e f : Ent) (he : e.id.size = 32) (hf : f.id.size = 32) (w : World) : (binOp .neq 76 (.agg (enC e)) (.agg (enC f))).run Tryd.prog w = .ok (.bool (!enQ e f)) w := by
  rw [run_neq_struct, equalIn_enr e f he hf]; rfl
end Go.Proofs.YtahpaekiehdejabDoor
/- strings.CutPrefix, CutSuffix; pack.Label, Sum, Fits. -/
namespace Go.Proofs.YtahpaekiehdejabDoor
open Go.RowKit
set_option linter.unusedSimpArgs false
set_option linter.unusedVariables false
/-- Whether a text stands at the front, at the end. -/
def pfB (s q : ByteArray) : Bool := decide (q.size ≤ s.size) && (bl (s.extract 0 q.size) == bl q)
def sfB (s q : ByteArray) : Bool := decide (q.size ≤ s.size) && (bl (s.extract (s.size - q.size) s.size) == bl q)
set_option maxHeartbeats 1000000 in
theorem hasPfx (s q : ByteArray) (w : World) (hs : s.size ≤ 140737488355328) (hq : q.size ≤ 16) :
    Calls Tryd.prog 86 #[.string s, .string q] w fun e w' => e = .returned (.bool (pfB s q)) ∧ w' = w := by
  by_cases h4 : q.size ≤ s.size
  · have h4z : (q.size : Int) ≤ (s.size : Int) := by omega
    obtain ⟨x, hx⟩ : ∃ x, s.extract 0 q.size = x := ⟨_, rfl⟩
    by_cases he : x = q
    · have HE : Hid (pfB s q = true) := by show _ = _; rw [pfB, hx, he]; simp [h4]
      subst he
      go_enter Tryd.func86, Tryd.ntmps86
      go_wp2
      go_ret
      exact ⟨ret_b11 HE.out, rfl⟩
    · have HE : Hid (pfB s q = false) := by
        show _ = _
        rw [pfB, hx, Bool.and_eq_false_iff]
        exact .inr (by rw [beq_eq_false_iff_ne]; exact fun h => he (bl_inj h))
      have hne := str_ne he
      clear he
      go_enter Tryd.func86, Tryd.ntmps86
      go_wp2
      go_ret
      exact ⟨ret_b11 HE.out, rfl⟩
  · have h4z : ¬ (q.size : Int) ≤ (s.size : Int) := by omega
    have HE : Hid (pfB s q = false) := by show pfB s q = false; simp [pfB, h4]
    go_enter Tryd.func86, Tryd.ntmps86
    go_wp2
    go_ret
    exact ⟨ret_b11 HE.out, rfl⟩
set_option maxHeartbeats 1000000 in
theorem hasSfx (s q : ByteArray) (w : World) (hs : s.size ≤ 140737488355328) (hq : q.size ≤ 16) :
    Calls Tryd.prog 112 #[.string s, .string q] w fun e w' => e = .returned (.bool (sfB s q)) ∧ w' = w := by
  by_cases h4 : q.size ≤ s.size
  · have h4z : (q.size : Int) ≤ (s.size : Int) := by omega
    obtain ⟨n, hn⟩ : ∃ n, n = s.size - q.size := ⟨_, rfl⟩
    have hnz : (s.size : Int) - (q.size : Int) = (n : Int) := by omega
    have hnl : (n : Int) ≤ (s.size : Int) := by omega
    obtain ⟨x, hx⟩ : ∃ x, s.extract n s.size = x := ⟨_, rfl⟩
    by_cases he : x = q
    · have HE : Hid (sfB s q = true) := by show _ = _; rw [sfB, ← hn, hx, he]; simp [h4]
      subst he
      clear hn
      go_enter Tryd.func112, Tryd.ntmps112
      go_wp2
      go_ret
      exact ⟨ret_b11 HE.out, rfl⟩
    · have HE : Hid (sfB s q = false) := by
        show _ = _
        rw [sfB, ← hn, hx, Bool.and_eq_false_iff]
        exact .inr (by rw [beq_eq_false_iff_ne]; exact fun h => he (bl_inj h))
      have hne := str_ne he
      clear he hn
      go_enter Tryd.func112, Tryd.ntmps112
      go_wp2
      go_ret
      exact ⟨ret_b11 HE.out, rfl⟩
  · have h4z : ¬ (q.size : Int) ≤ (s.size : Int) := by omega
    have HE : Hid (sfB s q = false) := by show sfB s q = false; simp [sfB, h4]
    go_enter Tryd.func112, Tryd.ntmps112
    go_wp2
    go_ret
    exact ⟨ret_b11 HE.out, rfl⟩
/-- What is left when they are cut. -/
def cpX (s q : ByteArray) : ByteArray := if pfB s q = true then s.extract q.size s.size else s
def csX (s q : ByteArray) : ByteArray := if sfB s q = true then s.extract 0 (s.size - q.size) else s
theorem pfB_le {s q : ByteArray} (h : pfB s q = true) : q.size ≤ s.size := by simp [pfB] at h; exact h.1
theorem sfB_le {s q : ByteArray} (h : sfB s q = true) : q.size ≤ s.size := by simp [sfB] at h; exact h.1
theorem ret_sb11 {a b : ByteArray} {e e' : Bool} (h : b = a ∧ e' = e) : Ending.returned (.tuple #[.string a, .bool e]) = .returned (.tuple #[.string b, .bool e']) := by rw [h.1, h.2]
set_option maxHeartbeats 1000000 in
theorem cutP1 (s q : ByteArray) (w : World) (hs : s.size ≤ 140737488355328) (hq : q.size ≤ 16) :
    Calls Tryd.prog 89 #[.string s, .string q] w fun e w' => e = .returned (.tuple #[.string (cpX s q), .bool (pfB s q)]) ∧ w' = w := by
  cases hp : pfB s q with
  | true =>
    have H1 := hasPfx s q w hs hq
    rw [hp] at H1
    have HE : Hid (cpX s q = s.extract q.size s.size) := by show _ = _; rw [cpX, if_pos hp]
    have hle := pfB_le hp
    have h4z : (q.size : Int) ≤ (s.size : Int) := by omega
    clear hp
    go_enter Tryd.func89, Tryd.ntmps89
    go_wp2_with fail
    refine H1.mono ?_
    rintro e w1 ⟨rfl, hw⟩
    obtain rfl : w = w1 := hw.symm
    go_wp2
    go_ret2
    exact ⟨ret_sb11 ⟨HE.out, rfl⟩, rfl⟩
  | false =>
    have H1 := hasPfx s q w hs hq
    rw [hp] at H1
    have HE : Hid (cpX s q = s) := by show _ = _; rw [cpX, if_neg (by rw [hp]; simp)]
    clear hp
    go_enter Tryd.func89, Tryd.ntmps89
    go_wp2_with fail
    refine H1.mono ?_
    rintro e w1 ⟨rfl, hw⟩
    obtain rfl : w = w1 := hw.symm
    go_wp2
    go_ret2
    exact ⟨ret_sb11 ⟨HE.out, rfl⟩, rfl⟩
set_option maxHeartbeats 1000000 in
theorem cutS1 (s q : ByteArray) (w : World) (hs : s.size ≤ 140737488355328) (hq : q.size ≤ 16) :
    Calls Tryd.prog 90 #[.string s, .string q] w fun e w' => e = .returned (.tuple #[.string (csX s q), .bool (sfB s q)]) ∧ w' = w := by
  cases hp : sfB s q with
  | true =>
    have H1 := hasSfx s q w hs hq
    rw [hp] at H1
    obtain ⟨n, hn⟩ : ∃ n, n = s.size - q.size := ⟨_, rfl⟩
    have HE : Hid (csX s q = s.extract 0 n) := by show _ = _; rw [csX, if_pos hp, hn]
    have hle := sfB_le hp
    have hnz : (s.size : Int) - (q.size : Int) = (n : Int) := by omega
    have hnl : (n : Int) ≤ (s.size : Int) := by omega
    clear hp hn
    go_enter Tryd.func90, Tryd.ntmps90
    go_wp2_with fail
    refine H1.mono ?_
    rintro e w1 ⟨rfl, hw⟩
    obtain rfl : w = w1 := hw.symm
    go_wp2
    go_ret2
    exact ⟨ret_sb11 ⟨HE.out, rfl⟩, rfl⟩
  | false =>
    have H1 := hasSfx s q w hs hq
    rw [hp] at H1
    have HE : Hid (csX s q = s) := by show _ = _; rw [csX, if_neg (by rw [hp]; simp)]
    clear hp
    go_enter Tryd.func90, Tryd.ntmps90
    go_wp2_with fail
    refine H1.mono ?_
    rintro e w1 ⟨rfl, hw⟩
    obtain rfl : w = w1 := hw.symm
    go_wp2
    go_ret2
    exact ⟨ret_sb11 ⟨HE.out, rfl⟩, rfl⟩
theorem cutP (s q : ByteArray) (w : World) (hs : s.size ≤ 140737488355328) (hq : q.size ≤ 16) :
    Calls Tryd.prog 59 #[.string s, .string q] w fun e w' => e = .returned (.tuple #[.string (cpX s q), .bool (pfB s q)]) ∧ w' = w := by
  go_enter Tryd.func59, Tryd.ntmps59
  go_wp2_with fail
  refine (cutP1 s q _ hs hq).mono ?_
  rintro e w1 ⟨rfl, hw⟩
  obtain rfl : w = w1 := hw.symm
  go_wp2
  go_ret2
  exact ⟨rfl, rfl⟩
theorem cutS (s q : ByteArray) (w : World) (hs : s.size ≤ 140737488355328) (hq : q.size ≤ 16) :
    Calls Tryd.prog 60 #[.string s, .string q] w fun e w' => e = .returned (.tuple #[.string (csX s q), .bool (sfB s q)]) ∧ w' = w := by
  go_enter Tryd.func60, Tryd.ntmps60
  go_wp2_with fail
  refine (cutS1 s q _ hs hq).mono ?_
  rintro e w1 ⟨rfl, hw⟩
  obtain rfl : w = w1 := hw.symm
  go_wp2
  go_ret2
  exact ⟨rfl, rfl⟩
/-- A pack's label. -/
def lbF : ByteArray := ⟨#[112, 97, 99, 107, 45]⟩
def lbE : ByteArray := ⟨#[46, 112, 107]⟩
def lbl (s : ByteArray) : ByteArray := lbF ++ sb (hexL (bl s)) ++ lbE
set_option maxHeartbeats 1000000 in
set_option maxRecDepth 100000 in
theorem label_any (s : ByteArray) (w : World) (hs : s.size = 32) (hA : All w) :
    Calls Tryd.prog 30 #[.agg (idc s)] w fun e w' => e = .returned (.string (lbl s)) ∧ Below w.heap.size w w' := by
  have HX : Hid (Bk (w.alloc (.cells (idc s) 29)) w.heap.size (idc s) 29) := bk_new _ _ _
  have hi32 : (Tryd.prog.info? 29).map (·.size) = some (idc s).size := info_32 (by rw [idc_size, hs])
  obtain ⟨t, ht⟩ : ∃ t, t = sb (hexL (bl s)) := ⟨_, rfl⟩
  have htz : t.size = 64 := by rw [ht, sb_size, hexL_length, bl_length, hs]
  have HT : Hid (Calls Tryd.prog 65 #[.agg (idc s)] (w.alloc (.cells (idc s) 29)) fun e w' => e = .returned (.string t) ∧ Below w.heap.size w w') := by
    refine (text_any s _ hs (hA.alloc _)).mono ?_
    rintro e w' ⟨rfl, h2⟩
    exact ⟨by rw [ht], ((Below.refl _ _).alloc (Nat.le_refl _) _).trans (h2.mono (by rw [al_size]; omega))⟩
  have HL : Hid (lbl s = lbF ++ t ++ lbE) := by show _ = _; rw [lbl, ht]
  have h1 : (⟨#[112, 97, 99, 107, 45]⟩ : ByteArray) = lbF := rfl
  have h2 : (⟨#[46, 112, 107]⟩ : ByteArray) = lbE := rfl
  have z1 : lbF.size = 5 := rfl
  have z2 : lbE.size = 3 := rfl
  clear ht hA
  go_enter Tryd.func30, Tryd.ntmps30
  go_wp2_with (first
    | (refine wpList_get rfl 29 (.tmp 1) rfl w.heap.size 0 (idc s) (idc s) 29 _ rfl HX.out (fun j u hu => by rw [Nat.zero_add]; exact hu) Tryd.underlying29 rfl hi32 ?_)
    | (go_at_call 65; refine HT.out.mono ?_; rintro e w1 ⟨rfl, hb1⟩)
    | fail)
  go_ret
  exact ⟨ret_s11 HL.out, hb1⟩
theorem grn_keep12 {B : Nat} {w w' : World} (h : Below B w w') (hB : B = w.heap.size := by rfl) : w.grownBy w' none := by
  subst hB
  exact ⟨h.os, h.tape, h.output, h.size, fun i hi _ => h.block i hi⟩
/-- What Parse tells. -/
def prA (t : ByteArray) : Array Value := if t.size = 64 then pid t else z32c
def prE (t : ByteArray) : Int := if t.size = 64 then uhE t else 4
theorem prA_size (t : ByteArray) : (prA t).size = 32 := by unfold prA; split <;> first | exact pid_size t | exact z32c_size
theorem prA_one (t : ByteArray) : (prA t).all (·.oneCell') = true := by unfold prA; split <;> first | exact pid_one t | exact z32c_one
theorem parse11 (t : ByteArray) (w : World) (hm : t.size ≤ 140737488351232) (hA : All w) :
    Calls Tryd.prog 61 #[.string t] w fun e w' => e = .returned (.tuple #[.agg (prA t), .int .i64 (prE t)]) ∧ Below w.heap.size w w' := by
  by_cases h : t.size = 64
  · rw [prA, prE, if_pos h, if_pos h]; exact parse_64 t w h hA
  · rw [prA, prE, if_neg h, if_neg h]; exact parse_bad t w h hm
/-- What Sum tells. -/
def smD (s : ByteArray) : ByteArray := csX (cpX s lbF) lbE
def smB11 (s : ByteArray) : Bool := pfB s lbF && sfB (cpX s lbF) lbE && decide (prE (smD s) = 0)
def smA (s : ByteArray) : Array Value := if smB11 s = true then prA (smD s) else z32c
def smE (s : ByteArray) : Int := if smB11 s = true then 0 else 10
theorem cpX_size (s q : ByteArray) : (cpX s q).size ≤ s.size := by
  unfold cpX
  split
  · rw [← bl_length, bl_extract, List.length_drop, List.length_take, bl_length]; omega
  · exact Nat.le_refl _
theorem csX_size (s q : ByteArray) : (csX s q).size ≤ s.size := by
  unfold csX
  split
  · rw [← bl_length, bl_extract, List.length_drop, List.length_take, bl_length]; omega
  · exact Nat.le_refl _
theorem ret_ae {A A' : Array Value} {e e' : Int} (h : A' = A ∧ e' = e) : Ending.returned (.tuple #[.agg A, .int .i64 e]) = .returned (.tuple #[.agg A', .int .i64 e']) := by rw [h.1, h.2]
set_option maxHeartbeats 2000000 in
set_option maxRecDepth 100000 in
theorem sum11 (s : ByteArray) (w : World) (hs : s.size ≤ 140737488351232) (hA : All w) :
    Calls Tryd.prog 27 #[.string s] w fun e w' => e = .returned (.tuple #[.agg (smA s), .int .i64 (smE s)]) ∧ Below w.heap.size w w' := by
  have HA : Hid (All w) := hA
  have h1 : (⟨#[112, 97, 99, 107, 45]⟩ : ByteArray) = lbF := rfl
  have h2 : (⟨#[46, 112, 107]⟩ : ByteArray) = lbE := rfl
  have hz := zero_id
  have z1 := cpX_size s lbF
  have z2 := csX_size (cpX s lbF) lbE
  have HP := fun W => cutP s lbF W (by omega) (by decide)
  have HS := fun W => cutS (cpX s lbF) lbE W (by omega) (by decide)
  have HPa : Hid (∀ W, All W → Calls Tryd.prog 61 #[.string (smD s)] W fun e w' => e = .returned (.tuple #[.agg (prA (smD s)), .int .i64 (prE (smD s))]) ∧ Below W.heap.size W w') := fun W hW => parse11 (smD s) W (by unfold smD; omega) hW
  obtain ⟨d1, hd1⟩ : ∃ d, d = cpX s lbF := ⟨_, rfl⟩
  obtain ⟨d2, hd2⟩ : ∃ d, d = csX (cpX s lbF) lbE := ⟨_, rfl⟩
  obtain ⟨bp, hbp⟩ : ∃ b, b = pfB s lbF := ⟨_, rfl⟩
  obtain ⟨bs, hbs⟩ : ∃ b, b = sfB (cpX s lbF) lbE := ⟨_, rfl⟩
  have HB : Hid (smB11 s = (bp && bs && decide (prE d2 = 0)) ∧ smD s = d2) := by
    refine ⟨?_, ?_⟩
    · rw [smB11, smD, hbp, hbs, hd2]
    · rw [smD, hd2]
  rw [← hd2, ← hbs, ← hd1] at HS
  rw [← hd1, ← hbp] at HP
  rw [HB.out.2] at HPa
  have HP' : Hid (∀ W, Calls Tryd.prog 59 #[.string s, .string lbF] W fun e w' => e = .returned (.tuple #[.string d1, .bool bp]) ∧ w' = W) := HP
  have HS' : Hid (∀ W, Calls Tryd.prog 60 #[.string d1, .string lbE] W fun e w' => e = .returned (.tuple #[.string d2, .bool bs]) ∧ w' = W) := HS
  have hb0 : Blk (w.alloc (.cells z32c 29)) w.heap.size z32c 29 := blk_new w _
  have HK0 : Hid (Blk (w.alloc (.cells z32c 29)) w.heap.size z32c 29) := hb0
  clear hA z1 z2 HP HS hd1 hd2 hbp hbs hb0
  by_cases hgo : ¬ (bp = true ∧ bs = true)
  · have HN : Hid (smA s = z32c ∧ smE s = 10) := by
      have : smB11 s = false := by
        rw [HB.out.1, Bool.and_eq_false_iff, Bool.and_eq_false_iff]
        cases bp <;> cases bs <;> simp_all
      rw [smA, smE, this]; exact ⟨rfl, rfl⟩
    have hbz : (bp = false) ∨ (bp = true ∧ bs = false) := by cases bp <;> cases bs <;> simp_all
    clear hgo
    rcases hbz with rfl | ⟨rfl, rfl⟩
    all_goals
      go_enter Tryd.func27, Tryd.ntmps27
      go_wp2_with (first
        | (go_at_call 59; refine (HP'.out _).mono ?_; rintro e w1 ⟨rfl, rfl⟩)
        | (go_at_call 60; refine (HS'.out _).mono ?_; rintro e w1 ⟨rfl, rfl⟩)
        | (refine wpList_store_row rfl 29 (.tmp 2) (.tmp 25) rfl w.heap.size z32c rfl rfl 29 z32c HK0.out (info_32 z32c_size) rfl z32c_one ?_)
        | fail)
      refine bodyPost_ret (res_cell_tmp (u := 3) rfl _ _ w.heap.size 29 z32c (0, 0) _ rfl (setRow_heap _ _ _ _ _ _ HK0.out) Tryd.underlying29 rfl (info_32 z32c_size)) rfl ⟨ret_ae HN.out, ?_⟩
      exact below_setRow (below_of_grown (World.grownBy_alloc w _ none)) (Nat.le_refl _) _
  obtain ⟨rfl, rfl⟩ := Classical.not_not.1 hgo
  clear hgo
  obtain ⟨A, hAd⟩ : ∃ A, A = prA d2 := ⟨_, rfl⟩
  obtain ⟨er, her⟩ : ∃ e, e = prE d2 := ⟨_, rfl⟩
  have hAz : A.size = 32 := by rw [hAd]; exact prA_size _
  have hA1 : A.all (·.oneCell') = true := by rw [hAd]; exact prA_one _
  rw [← hAd, ← her] at HPa
  have HB2 : Hid (smB11 s = decide (er = 0) ∧ prA (smD s) = A) := by
    refine ⟨?_, ?_⟩
    · rw [HB.out.1, her]; rfl
    · rw [HB.out.2, hAd]
  have hi32 : (Tryd.prog.info? 29).map (·.size) = some A.size := info_32 hAz
  have hiz : z32c.size = A.size := by rw [hAz]; exact z32c_size
  clear hAd her HB
  have HPP : Hid (Calls Tryd.prog 61 #[.string d2] (w.alloc (.cells z32c 29)) fun e w' => e = .returned (.tuple #[.agg A, .int .i64 er]) ∧ Hid (Below w.heap.size w w' ∧ Bk w' w.heap.size z32c 29)) := by
    refine (HPa.out _ (HA.out.alloc _)).mono ?_
    rintro e w' ⟨rfl, hb⟩
    exact ⟨rfl, ((Below.refl _ _).alloc (Nat.le_refl _) _).trans (hb.mono (by rw [al_size]; omega)), (bk_new _ _ _).below hb (by rw [al_size]; omega)⟩
  by_cases he : er = 0
  · have HN : Hid (smA s = A ∧ smE s = 0) := by
      have : smB11 s = true := by rw [HB2.out.1, decide_eq_true he]
      rw [smA, smE, this, HB2.out.2]; exact ⟨rfl, rfl⟩
    subst he
    go_enter Tryd.func27, Tryd.ntmps27
    go_wp2_with (first
      | (go_at_call 59; refine (HP'.out _).mono ?_; rintro e w1 ⟨rfl, rfl⟩)
      | (go_at_call 60; refine (HS'.out _).mono ?_; rintro e w1 ⟨rfl, rfl⟩)
      | (go_at_call 61; refine HPP.out.mono ?_; rintro e w2 ⟨rfl, H2⟩)
      | (refine wpList_store_abs rfl 29 (.tmp 7) (.tmp 29) rfl A z32c 29 w2.heap.size rfl rfl rfl hi32 hiz hA1 ?_; intro w3 HBk HG hsz3; have HK3 : Hid (Bk w3 w2.heap.size A 29) := HBk.out; have HZ3 : Hid (Blk w3 w.heap.size z32c 29) := H2.out.2.grown HG.out (by simp); have HB3 : Hid (w.grownBy w3 none) := (grn_keep12 H2.out.1).trans HG.out)
      | (refine wpList_get rfl 29 (.tmp 7) rfl w2.heap.size 0 A A 29 _ rfl HK3.out (fun j u hu => by rw [Nat.zero_add]; exact hu) Tryd.underlying29 rfl hi32 ?_)
      | (refine wpList_store_row rfl 29 (.tmp 2) (.tmp 34) rfl w.heap.size A rfl rfl 29 z32c HZ3.out hi32 hiz hA1 ?_)
      | fail)
    refine bodyPost_ret (res_cell_tmp (u := 3) rfl _ _ w.heap.size 29 A (0, 0) _ rfl (setRow_heap _ _ _ _ _ _ HZ3.out) Tryd.underlying29 rfl hi32) rfl ⟨ret_ae HN.out, ?_⟩
    exact below_setRow (below_of_grown HB3.out) (Nat.le_refl _) _
  · have HN : Hid (smA s = z32c ∧ smE s = 10) := by
      have : smB11 s = false := by rw [HB2.out.1, decide_eq_false he]
      rw [smA, smE, this]; exact ⟨rfl, rfl⟩
    have hez : (er == 0) = false := by rw [beq_eq_false_iff_ne]; exact he
    have hez2 : (er != 0) = true := by rw [bne_iff_ne]; exact he
    clear he
    go_enter Tryd.func27, Tryd.ntmps27
    go_wp2_with (first
      | (go_at_call 59; refine (HP'.out _).mono ?_; rintro e w1 ⟨rfl, rfl⟩)
      | (go_at_call 60; refine (HS'.out _).mono ?_; rintro e w1 ⟨rfl, rfl⟩)
      | (go_at_call 61; refine HPP.out.mono ?_; rintro e w2 ⟨rfl, H2⟩)
      | (refine wpList_store_abs rfl 29 (.tmp 7) (.tmp 29) rfl A z32c 29 w2.heap.size rfl rfl rfl hi32 hiz hA1 ?_; intro w3 HBk HG hsz3; have HZ3 : Hid (Blk w3 w.heap.size z32c 29) := H2.out.2.grown HG.out (by simp); have HB3 : Hid (w.grownBy w3 none) := (grn_keep12 H2.out.1).trans HG.out)
      | (refine wpList_store_row rfl 29 (.tmp 2) (.tmp 33) rfl w.heap.size z32c rfl rfl 29 z32c HZ3.out (info_32 z32c_size) rfl z32c_one ?_)
      | fail)
    refine bodyPost_ret (res_cell_tmp (u := 3) rfl _ _ w.heap.size 29 z32c (0, 0) _ rfl (setRow_heap _ _ _ _ _ _ HZ3.out) Tryd.underlying29 rfl (info_32 z32c_size)) rfl ⟨ret_ae HN.out, ?_⟩
    exact below_setRow (below_of_grown HB3.out) (Nat.le_refl _) _
/-- Whether a label fits. -/
def ftB11 (a s : ByteArray) : Bool := bl a == bl (lbl (sb (sha (byl s))))
set_option maxHeartbeats 2000000 in
theorem fits11 (a s : ByteArray) (w : World) (ha : a.size ≤ 140737488355328) (hs : s.size ≤ 140737488355328) (hA : All w) :
    Calls Tryd.prog 32 #[.string a, .string s] w fun e w' => e = .returned (.bool (ftB11 a s)) ∧ Below w.heap.size w w' := by
  have HA : Hid (All w) := hA
  have HSm := sum_id s w hA.l (by omega)
  have hx32 : (sb (sha (byl s))).size = 32 := sha_size _
  obtain ⟨x, hx⟩ : ∃ x, x = sb (sha (byl s)) := ⟨_, rfl⟩
  rw [← hx] at HSm hx32
  obtain ⟨L, hL⟩ : ∃ L, L = lbl x := ⟨_, rfl⟩
  have HLb : Hid (∀ W, All W → Calls Tryd.prog 30 #[.agg (idc x)] W fun e w' => e = .returned (.string L) ∧ Below W.heap.size W w') := fun W hW => by rw [hL]; exact label_any x W hx32 hW
  have HSm' : Hid (Calls Tryd.prog 67 #[.string s] w fun e w' => e = .returned (.agg (idc x)) ∧ Below w.heap.size w w') := HSm
  have HF : Hid (ftB11 a s = (bl a == bl L)) := by show _ = _; rw [ftB11, ← hx, hL]
  clear HSm hx hL hA
  by_cases he : a = L
  · have HE : Hid (ftB11 a s = true) := by show _ = _; rw [HF.out, he]; exact beq_self_eq_true _
    subst he
    go_enter Tryd.func32, Tryd.ntmps32
    go_wp2_with (first
      | (go_at_call 67; refine HSm'.out.mono ?_; rintro e w1 ⟨rfl, hb1⟩)
      | (go_at_call 30; refine (HLb.out _ (HA.out.below hb1)).mono ?_; rintro e w2 ⟨rfl, hb2⟩)
      | fail)
    go_ret
    exact ⟨ret_b11 HE.out, hb1.trans (hb2.mono hb1.size)⟩
  · have HE : Hid (ftB11 a s = false) := by show _ = _; rw [HF.out, beq_eq_false_iff_ne]; exact fun h => he (bl_inj h)
    have hne := str_ne he
    clear he
    go_enter Tryd.func32, Tryd.ntmps32
    go_wp2_with (first
      | (go_at_call 67; refine HSm'.out.mono ?_; rintro e w1 ⟨rfl, hb1⟩)
      | (go_at_call 30; refine (HLb.out _ (HA.out.below hb1)).mono ?_; rintro e w2 ⟨rfl, hb2⟩)
      | fail)
    go_ret
    exact ⟨ret_b11 HE.out, hb1.trans (hb2.mono hb1.size)⟩
/-- Sum of a label. -/
theorem sm_lbl (x : ByteArray) (hx : x.size = 32) : smA (lbl x) = idc x ∧ smE (lbl x) = 0 := by
  obtain ⟨t, ht⟩ : ∃ t, t = sb (hexL (bl x)) := ⟨_, rfl⟩
  have htz : t.size = 64 := by rw [ht, sb_size, hexL_length, bl_length, hx]
  have hl : lbl x = lbF ++ (t ++ lbE) := by rw [lbl, ← ht]; apply bl_inj; simp [bl_append]
  have hlz : (lbl x).size = 72 := by rw [hl, ByteArray.size_append, ByteArray.size_append, htz]; rfl
  have p1 : pfB (lbl x) lbF = true := by
    rw [pfB]
    have : bl ((lbl x).extract 0 lbF.size) = bl lbF := by
      rw [extract_take _ _ (by rw [hlz]; decide), hl, bl_append, ← bl_length, List.take_left]
    rw [this]; simp [hlz]; decide
  have p2 : cpX (lbl x) lbF = t ++ lbE := by rw [cpX, if_pos p1]; exact drop_front (lbl x) lbF (t ++ lbE) _ hl rfl
  have hz2 : (t ++ lbE).size = 67 := by rw [ByteArray.size_append, htz]; rfl
  have p3 : sfB (t ++ lbE) lbE = true := by
    rw [sfB]
    have : (t ++ lbE).extract ((t ++ lbE).size - lbE.size) (t ++ lbE).size = lbE := drop_front (t ++ lbE) t lbE _ rfl (by rw [hz2, htz]; rfl)
    rw [this]; simp [hz2]; decide
  have p4 : csX (t ++ lbE) lbE = t := by
    rw [csX, if_pos p3]
    apply bl_inj
    rw [extract_take _ _ (by omega), bl_append, hz2, show 67 - lbE.size = (bl t).length from by rw [bl_length, htz]; rfl, List.take_left]
  have p5 : smD (lbl x) = t := by rw [smD, p2, p4]
  obtain ⟨u1, u2⟩ := uh_hex x
  rw [← ht] at u1 u2
  have p6 : prE t = 0 := by rw [prE, if_pos htz, u2]
  have p7 : smB11 (lbl x) = true := by rw [smB11, p1, p2, p3, p5, p6]; rfl
  rw [smA, smE, p7, p5]
  refine ⟨?_, rfl⟩
  show prA t = _
  rw [prA, if_pos htz, pid_ok t (by rw [u1]; exact hx), u1]
end Go.Proofs.YtahpaekiehdejabDoor
/- A region that draws its order, over a class of worlds of one's own: each operation gives the same value in every world of the class. -/
namespace Go.Proofs.YtahpaekiehdejabDoor
open Go.RowKit
set_option linter.unusedSimpArgs false
set_option linter.unusedVariables false
theorem region_class10 {P : Program} {id : Nat} {Q : Exit → Act → World → Prop} {a : Act} {w : World} {l : List Oper} (C : World → Prop) (hm : P.follows .mixedOrders = true) (hB : Region.lexB .any l.toArray = true) (hC : C w.drew)
    (h : wpQuiet P l.toArray C (fun a' => ∀ w', C w' → Q .normal a' w') l a) : (Code.region id l.toArray true).wp P Q a w :=
  wp_region_quiet (C := C) hm hB hC (by simpa using h)
theorem quiet_val10 {P : Program} {o : Oper} {a : Act} {C : World → Prop} {K : Act → Prop} (v : Value) (h : ∀ w, C w → (execOp a.eval o).run P w = .ok (.value v) w) (hn : K (a.put o.dst v)) : o.quiet P a C K :=
  ⟨v, fun w hw => by unfold Oper.quietAt; rw [h w hw]; exact ⟨rfl, rfl⟩, hn⟩
theorem quiet_call10 {P : Program} {o : Oper} {a : Act} {C : World → Prop} {K : Act → Prop} (v : Value) (f : FuncId) (args : Array Value) (h : ∀ w, C w → (execOp a.eval o).run P w = .ok (.enter f args) w)
    (hc : ∀ w, C w → Calls P f args w (fun e w'' => e = .returned v ∧ C w'')) (hn : K (a.put o.dst v)) : o.quiet P a C K :=
  ⟨v, fun w hw => by unfold Oper.quietAt; rw [h w hw]; exact ⟨rfl, hc w hw⟩, hn⟩
theorem quiet_str10 {o : Oper} {a : Act} {C : World → Prop} {K : Act → Prop} (x : Operand) (ho : o.op = .load 9 x) (g f : Nat) (s : ByteArray) (hx : a.eval x = .pointer (some ⟨g, f, none⟩))
    (hc : ∀ w, C w → w.cell? ⟨g, f, none⟩ = some (.string s)) (hn : K (a.put o.dst (.string s))) : o.quiet Tryd.prog a C K :=
  quiet_val10 (.string s) (fun w hw => by
    have h := hc w hw
    have ha : (isAgg 9).run Tryd.prog w = .ok false w := by kernel_rfl
    unfold execOp
    simp [ho, hx, Instr.loadAt, Instr.sureAddr, loadVar, ha, h]) hn
end Go.Proofs.YtahpaekiehdejabDoor
/- Plain facts of packs that were built: each record, and what is told of what is left. -/
namespace Go.Proofs.YtahpaekiehdejabDoor
open Go.RowKit
set_option linter.unusedSimpArgs false
set_option linter.unusedVariables false
theorem split_at {l : List Ob} {i : Nat} {o : Ob} (hi : l[i]? = some o) : l = l.take i ++ o :: l.drop (i + 1) := by
  have hlt : i < l.length := (List.getElem?_eq_some_iff.1 hi).1
  conv => lhs; rw [← List.take_append_drop i l, List.drop_eq_getElem_cons hlt]
  rw [List.getElem?_eq_getElem hlt] at hi
  injection hi with hi
  rw [hi]
theorem rec_le {l : List Ob} (h : buE l = 0) (i : Nat) (o : Ob) (hi : l[i]? = some o) : 4 + lenL (l.take i) + (9 + o.p.size) < (buS l).size := by
  have e := lenL_take_succ l i o hi
  have e2 := lenL_take_le l (i + 1)
  rw [buS_size h, trl_size]
  omega
theorem rec_at {l : List Ob} (h : buE l = 0) (i : Nat) (o : Ob) (hi : l[i]? = some o) : (buS l).extract (4 + lenL (l.take i)) (4 + lenL (l.take i) + (9 + o.p.size)) = recO o := by
  apply bl_inj
  rw [bl_extract, List.drop_take, buS_ok h]
  have hA : (mk4 ++ recL (l.take i)).length = 4 + lenL (l.take i) := by rw [List.length_append, recL_length]; rfl
  have hw : mk4 ++ recL l ++ bl (trl l.length) = (mk4 ++ recL (l.take i)) ++ (bl (recO o) ++ (recL (l.drop (i + 1)) ++ bl (trl l.length))) := by
    have e : recL l = recL (l.take i) ++ (bl (recO o) ++ recL (l.drop (i + 1))) := by
      conv => lhs; rw [split_at hi, recL_append, recL]
    rw [e]
    simp
  rw [show 4 + lenL (l.take i) + (9 + o.p.size) - (4 + lenL (l.take i)) = 9 + o.p.size from by omega, hw, ← hA, List.drop_left, List.take_append_of_le_length (by rw [bl_length, recO_size]; exact Nat.le_refl _), List.take_of_length_le (by rw [bl_length, recO_size]; exact Nat.le_refl _)]
theorem one_rec (o : Ob) (ho : okO o = true) : onO (recO o) = o ∧ onE (recO o) = 0 := by
  obtain ⟨h1, h2, h3⟩ := at_rec o (recO o) ⟨#[]⟩ (by apply bl_inj; rw [bl_append]; simp [bl]) ho
  rw [onO, onE, if_pos ⟨h1, h3⟩, if_pos ⟨h1, h3⟩, h2]
  exact ⟨rfl, rfl⟩
theorem read_rec {l : List Ob} (h : buE l = 0) (i : Nat) (o : Ob) (hi : l[i]? = some o) : rdO (buS l) ((4 + lenL (l.take i) : Nat) : Int) = o ∧ rdE (buS l) ((4 + lenL (l.take i) : Nat) : Int) = 0 := by
  obtain ⟨h1, h2⟩ := rd_bu h i o hi
  have hle := rec_le h i o hi
  obtain ⟨y1, _, y3⟩ := ft_yes h1
  have hc : (0 : Int) ≤ ((4 + lenL (l.take i) : Nat) : Int) ∧ ((4 + lenL (l.take i) : Nat) : Int) ≤ ((buS l).size : Int) := by omega
  rw [rdO, rdE, if_pos hc, if_pos hc, Int.toNat_natCast, y1, y3, h2]
  exact ⟨rfl, rfl⟩
theorem cut_bl (s : ByteArray) (q : Nat) (hq : q ≤ s.size) : bl (s.extract 0 q) = (bl s).take q := extract_take s q hq
theorem cut_size (s : ByteArray) (q : Nat) (hq : q ≤ s.size) : (s.extract 0 q).size = q := by rw [← bl_length, cut_bl s q hq, List.length_take, bl_length]; omega
theorem cwN_small {q : Nat} (h : q < 4) (l : List Ob) : cwN q 4 l = 0 := by
  cases l with
  | nil => rfl
  | cons o l => rw [cwN, if_neg (by omega)]
theorem cut_pm {l : List Ob} {q : Nat} (h : buE l = 0) (hq : q < (buS l).size) (h4 : 4 ≤ q) : pmB ((buS l).extract 0 q) = true := by
  refine pmB_bu (t := (recL l ++ bl (trl l.length)).take (q - 4)) ?_
  rw [cut_bl _ _ (by omega), buS_ok h, List.append_assoc, List.take_append, List.take_of_length_le (by rw [mk4_length]; exact h4)]
  rfl
/-- What is left of a pack tells all that are whole. -/
theorem cut_sv {l : List Ob} {m : List Ent} {q : Nat} (h : buE l = 0) (hq : q < (buS l).size) (hs : SvA ((buS l).extract 0 q) m) : m = ens 4 (l.take (cwN q 4 l)) := by
  have g := buE_ok h
  by_cases h4 : 4 ≤ q
  · have hp := cut_pm h hq h4
    rcases hs with ⟨h1, _⟩ | ⟨_, a, h2⟩
    · rw [hp] at h1; cases h1
    · obtain ⟨h3, _⟩ := stk_cut (tk := tkA) (s := (buS l).extract 0 q) q g (by rw [← buS_size h]; exact hq) h4 (by rw [cut_bl _ _ (by omega), buS_ok h]) (fun i o hi => g.tkA i o hi)
      exact (h2.one h3).2
  · have hz := cut_size (buS l) q (by omega)
    rcases hs with ⟨_, h1⟩ | ⟨h1, _⟩
    · rw [h1, cwN_small (by omega)]; rfl
    · have := pm4 h1; omega
/-- What is left of a pack is none. -/
theorem cut_sc {l : List Ob} {m : List Ent} {q : Nat} {er : Int} (h : buE l = 0) (hq : q < (buS l).size) (hs : ScA ((buS l).extract 0 q) m er) : er = 4 := by
  have g := buE_ok h
  rcases hs with ⟨_, h1⟩ | ⟨h1, _⟩
  rotate_left
  · exact h1
  exfalso
  obtain ⟨_, hp, a, h2, h3⟩ := h1
  have hz := cut_size (buS l) q (by omega)
  have h4 : 4 ≤ q := by have := pm4 hp; omega
  obtain ⟨h5, h6⟩ := stk_cut (tk := tkS) (s := (buS l).extract 0 q) q g (by rw [← buS_size h]; exact hq) h4 (by rw [cut_bl _ _ (by omega), buS_ok h]) (fun i o hi => g.tkS i o hi)
  obtain ⟨rfl, rfl⟩ := h2.one h5
  have := (at_trl (ens 4 (l.take (cwN q 4 l))).length (frmO ((buS l).extract 0 q) (4 + lenL (l.take (cwN q 4 l)))) ⟨#[]⟩ (by rw [ens_length, List.length_take]; have := g.len; omega) (by rw [h3]; apply bl_inj; rw [bl_append]; simp [bl])).2
  rw [h6] at this
  cases this
theorem ens_take (l : List Ob) (j i : Nat) (o : Ob) (hi : l[i]? = some o) (hj : i < j) : (ens 4 (l.take j))[i]? = some (enO (4 + lenL (l.take i)) o) := by
  have h1 : (l.take j)[i]? = some o := by rw [List.getElem?_take_of_lt hj]; exact hi
  rw [ens_get _ 4 i o h1, List.take_take, Nat.min_eq_left (by omega)]
/-- The load of an entry, in a class of worlds. -/
theorem quiet_en {o : Oper} {a : Act} {C : World → Prop} {K : Act → Prop} (x : Operand) (ho : o.op = .load 74 x) (g z : Nat) (D : Array Value) (e : Ent) (he : e.id.size = 32) (hx : a.eval x = .pointer (some ⟨g, z, none⟩))
    (hc : ∀ w, C w → Bk w g D 74) (hD : ∀ j v, (enC e)[j]? = some v → D[z + j]? = some v) (hn : K (a.put o.dst (.agg (enC e)))) : o.quiet Tryd.prog a C K :=
  quiet_val10 (.agg (enC e)) (fun w hw => by
    have h := hc w hw
    have hr := run_loadVar_mid (P := Tryd.prog) w g z 74 (enC e).toList _ (fun j v hv => by rw [h.cell]; exact hD j v (by rwa [Array.getElem?_toList] at hv)) Tryd.underlying74 rfl (by rw [Array.length_toList]; exact info_en (enC_size e he))
    unfold execOp
    simp [ho, hx, Instr.loadAt, Instr.sureAddr, hr]) hn
end Go.Proofs.YtahpaekiehdejabDoor
