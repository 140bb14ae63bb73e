import Derived.Test.YtpfknjnigcefgaaGreatDoorY26
import Derived.Test.YtpfknjnigcefgaaGreatDoorY28
import Derived.Test.YtpfknjnigcefgaaGreatDoorY14
/- Two entries compared. -/
namespace Go.Proofs.YtpfknjnigcefgaaGreatDoor
open Go.RowKit
set_option linter.unusedSimpArgs false
set_option linter.unusedVariables false
theorem eqItems_idsD (d : Nat) (a b : ByteArray) (ha : a.size = 32) (hb : b.size = 32) (w : World) : ∀ is : List Nat, (∀ i ∈ is, i < 32) →
    (Op.eqItems (d + 1) 5 1 (idc a) (idc b) is).run Tryz.prog w = .ok (is.all fun i => (byl a).getD i 0 == (byl b).getD i 0) w
  | [], _ => by simp [Op.eqItems]
  | i :: is, h => by
    have hi : i < 32 := h i (List.mem_cons_self ..)
    have ih := eqItems_idsD d a b ha hb w is (fun j hj => h j (List.mem_cons_of_mem _ hj))
    have e1 : (byl a).getD i 0 = a[i].toNat := by rw [List.getD, byl_getD a i (by omega)]; rfl
    have e2 : (byl b).getD i 0 = b[i].toNat := by rw [List.getD, byl_getD b i (by omega)]; rfl
    have e3 := run_equalIn_int (P := Tryz.prog) w d 5 .u8 .u8 (a[i].toNat : Int) (b[i].toNat : Int) Tryz.underlying5
    simp only [Op.eqItems, Sem.run_bind, Nat.mul_one, part_id a i (by omega), part_id b i (by omega), Result.andThen_ok, e3, List.all_cons, e1, e2]
    by_cases e : a[i].toNat = b[i].toNat
    · have e4 : ((a[i].toNat : Int) == (b[i].toNat : Int)) = true := by rw [e]; simp
      simp only [e4, Bool.not_true, Bool.false_eq_true, if_false, ih, e, beq_self_eq_true, Bool.true_and]
    · have e4 : ((a[i].toNat : Int) == (b[i].toNat : Int)) = false := by rw [beq_eq_false_iff_ne]; omega
      have e5 : (a[i].toNat == b[i].toNat) = false := by rw [beq_eq_false_iff_ne]; exact e
      simp only [e4, Bool.not_false, if_true, Sem.run_pure, e5, Bool.false_and]
theorem equalIn_idsD (d : Nat) (a b : ByteArray) (ha : a.size = 32) (hb : b.size = 32) (w : World) : (Op.equalIn (d + 2) 23 (.agg (idc a)) (.agg (idc b))).run Tryz.prog w = .ok (decide (a = b)) w := by
  have hc : Tryz.prog.cellsOf 5 = 1 := by kernel_rfl
  obtain ⟨i0, hi⟩ := info_of_underlying Tryz.underlying5
  have hu : Tryz.prog.underlying 23 = some (.array 32 5) := Tryz.underlying23
  rw [run_equalIn_array w (d + 1) (idc a) (idc b) hu hi, hc, eqItems_idsD d a b ha hb w _ (fun i hi => by simpa using hi), ids_all a b ha hb]
/-- Whether two entries are the same. -/
def enQ (e f : Ent) : Bool := decide (e.id = f.id) && (((e.k.toNat : Int) == (f.k.toNat : Int)) && (((e.off : Int) == (f.off : Int)) && ((e.sz : Int) == (f.sz : Int))))
theorem enQ_self (e : Ent) : enQ e e = true := by simp [enQ]
theorem enQ_iff (e f : Ent) : enQ e f = true ↔ e = f := by
  constructor
  · intro h
    simp only [enQ, Bool.and_eq_true, decide_eq_true_eq, beq_iff_eq] at h
    obtain ⟨h1, h2, h3, h4⟩ := h
    obtain ⟨a, b, c, d⟩ := e
    obtain ⟨a', b', c', d'⟩ := f
    simp only at h1 h2 h3 h4
    subst h1
    have h2' : b = b' := UInt8.toNat.inj (by omega)
    subst h2'
    have h3' : c = c' := by omega
    have h4' : d = d' := by omega
    subst h3' h4'
    rfl
  · rintro rfl; exact enQ_self e
theorem part_idE (e : Ent) (h : e.id.size = 32) (w : World) : (part 23 (enC e) 0).run Tryz.prog w = .ok (.agg (idc e.id)) w := by
  have ha : (isAgg 23).run Tryz.prog w = .ok true w := by kernel_rfl
  have hs : (sizeOf 23).run Tryz.prog w = .ok 32 w := by kernel_rfl
  have hx : (enC e).extract 0 32 = idc e.id := by
    apply Array.ext'
    rw [Array.toList_extract, enC]
    have hl : (idc e.id).toList.length = 32 := by rw [Array.length_toList, idc_size, h]
    simp only [List.extract_eq_take_drop, List.drop_zero, Nat.sub_zero]
    rw [List.take_append_of_le_length (by omega), List.take_of_length_le (by omega)]
  simp [part, ha, hs, hx]
theorem part_cell {t : TypeId} (C : Array Value) (j : Nat) (v : Value) (w : World) (ha : (isAgg t).run Tryz.prog w = .ok false w) (h : C[j]? = some v) : (part t C j).run Tryz.prog w = .ok v w := by
  simp [part, ha, h]
set_option maxRecDepth 100000 in
theorem equalIn_enp (e f : Ent) (he : e.id.size = 32) (hf : f.id.size = 32) (w : World) : (Op.equalIn 10000 34 (.agg (enC e)) (.agg (enC f))).run Tryz.prog w = .ok (enQ e f) w := by
  have hu : Tryz.prog.underlying 34 = some (.struct (Tryz.prog.fieldsOf 34)) := by kernel_rfl
  have hst : Tryz.prog.stoodInHeld 34 = false := by kernel_rfl
  have hfs : (Tryz.prog.fieldsOf 34).toList.map (fun q => (q.name != "_", q.type, q.offset)) = [(true, 23, 0), (true, 5, 32), (true, 3, 33), (true, 3, 34)] := by kernel_rfl
  rw [run_equalIn_struct w 9999 34 (enC e) (enC f) hu hst]
  generalize (Tryz.prog.fieldsOf 34).toList = fs at hfs
  have hlen : fs.length = 4 := by have := congrArg List.length hfs; simpa using this
  match fs, hlen, hfs with
  | [f0, f1, f2, f3], _, hfs =>
    simp only [List.map_cons, List.map_nil, List.cons.injEq, Prod.mk.injEq, and_true, bne_iff_ne] at hfs
    obtain ⟨⟨n0, t0, o0⟩, ⟨n1, t1, o1⟩, ⟨n2, t2, o2⟩, n3, t3, o3⟩ := hfs
    obtain ⟨a1, a2, a3⟩ := enC_at e he
    obtain ⟨b1, b2, b3⟩ := enC_at f hf
    have u8a : (isAgg 5).run Tryz.prog w = .ok false w := by kernel_rfl
    have i64a : (isAgg 3).run Tryz.prog w = .ok false w := by kernel_rfl
    have q0 := equalIn_idsD 9997 e.id f.id he hf w
    have q1 := run_equalIn_int (P := Tryz.prog) w 9998 5 .u8 .u8 (e.k.toNat : Int) (f.k.toNat : Int) Tryz.underlying5
    have q2 := run_equalIn_int (P := Tryz.prog) w 9998 3 .i64 .i64 (e.off : Int) (f.off : Int) Tryz.underlying3
    have q3 := run_equalIn_int (P := Tryz.prog) w 9998 3 .i64 .i64 (e.sz : Int) (f.sz : Int) Tryz.underlying3
    simp only [Op.eqFields, n0, n1, n2, n3, t0, t1, t2, t3, o0, o1, o2, o3, ne_eq, not_false_eq_true, if_true, Sem.run_bind, part_idE e he, part_idE f hf, part_cell _ _ _ w u8a a1, part_cell _ _ _ w u8a b1, part_cell _ _ _ w i64a a2, part_cell _ _ _ w i64a b2, part_cell _ _ _ w i64a a3, part_cell _ _ _ w i64a b3, Result.andThen_ok]
    rw [q0, Result.andThen_ok, enQ]
    cases decide (e.id = f.id) with
    | false => rfl
    | true =>
      simp only [Bool.not_true, Bool.false_eq_true, if_false, Bool.true_and, Sem.run_bind, part_cell _ _ _ w u8a a1, part_cell _ _ _ w u8a b1, Result.andThen_ok, q1]
      cases ((e.k.toNat : Int) == (f.k.toNat : Int)) with
      | false => rfl
      | true =>
        simp only [Bool.not_true, Bool.false_eq_true, if_false, Bool.true_and, Sem.run_bind, part_cell _ _ _ w i64a a2, part_cell _ _ _ w i64a b2, Result.andThen_ok, q2]
        cases ((e.off : Int) == (f.off : Int)) with
        | false => rfl
        | true =>
          simp only [Bool.not_true, Bool.false_eq_true, if_false, Bool.true_and, Sem.run_bind, part_cell _ _ _ w i64a a3, part_cell _ _ _ w i64a b3, Result.andThen_ok, q3]
          cases ((e.sz : Int) == (f.sz : Int)) with
          | false => rfl
          | true => rfl
theorem neq_enp (e f : Ent) (he : e.id.size = 32) (hf : f.id.size = 32) (w : World) : (binOp .neq 34 (.agg (enC e)) (.agg (enC f))).run Tryz.prog w = .ok (.bool (!enQ e f)) w := by
  rw [run_neq_struct, equalIn_enp e f he hf]; rfl
set_option maxRecDepth 100000 in
theorem equalIn_enr (e f : Ent) (he : e.id.size = 32) (hf : f.id.size = 32) (w : World) : (Op.equalIn 10000 56 (.agg (enC e)) (.agg (enC f))).run Tryz.prog w = .ok (enQ e f) w := by
  have hu : Tryz.prog.underlying 56 = some (.struct (Tryz.prog.fieldsOf 56)) := by kernel_rfl
  have hst : Tryz.prog.stoodInHeld 56 = false := by kernel_rfl
  have hfs : (Tryz.prog.fieldsOf 56).toList.map (fun q => (q.name != "_", q.type, q.offset)) = [(true, 23, 0), (true, 5, 32), (true, 3, 33), (true, 3, 34)] := by kernel_rfl
  rw [run_equalIn_struct w 9999 56 (enC e) (enC f) hu hst]
  generalize (Tryz.prog.fieldsOf 56).toList = fs at hfs
  have hlen : fs.length = 4 := by have := congrArg List.length hfs; simpa using this
  match fs, hlen, hfs with
  | [f0, f1, f2, f3], _, hfs =>
    simp only [List.map_cons, List.map_nil, List.cons.injEq, Prod.mk.injEq, and_true, bne_iff_ne] at hfs
    obtain ⟨⟨n0, t0, o0⟩, ⟨n1, t1, o1⟩, ⟨n2, t2, o2⟩, n3, t3, o3⟩ := hfs
    obtain ⟨a1, a2, a3⟩ := enC_at e he
    obtain ⟨b1, b2, b3⟩ := enC_at f hf
    have u8a : (isAgg 5).run Tryz.prog w = .ok false w := by kernel_rfl
    have i64a : (isAgg 3).run Tryz.prog w = .ok false w := by kernel_rfl
    have q0 := equalIn_idsD 9997 e.id f.id he hf w
    have q1 := run_equalIn_int (P := Tryz.prog) w 9998 5 .u8 .u8 (e.k.toNat : Int) (f.k.toNat : Int) Tryz.underlying5
    have q2 := run_equalIn_int (P := Tryz.prog) w 9998 3 .i64 .i64 (e.off : Int) (f.off : Int) Tryz.underlying3
    have q3 := run_equalIn_int (P := Tryz.prog) w 9998 3 .i64 .i64 (e.sz : Int) (f.sz : Int) Tryz.underlying3
    simp only [Op.eqFields, n0, n1, n2, n3, t0, t1, t2, t3, o0, o1, o2, o3, ne_eq, not_false_eq_true, if_true, Sem.run_bind, part_idE e he, part_idE f hf, part_cell _ _ _ w u8a a1, part_cell _ _ _ w u8a b1, part_cell _ _ _ w i64a a2, part_cell _ _ _ w i64a b2, part_cell _ _ _ w i64a a3, part_cell _ _ _ w i64a b3, Result.andThen_ok]
    rw [q0, Result.andThen_ok, enQ]
    cases decide (e.id = f.id) with
    | false => rfl
    | true =>
      simp only [Bool.not_true, Bool.false_eq_true, if_false, Bool.true_and, Sem.run_bind, part_cell _ _ _ w u8a a1, part_cell _ _ _ w u8a b1, Result.andThen_ok, q1]
      cases ((e.k.toNat : Int) == (f.k.toNat : Int)) with
      | false => rfl
      | true =>
        simp only [Bool.not_true, Bool.false_eq_true, if_false, Bool.true_and, Sem.run_bind, part_cell _ _ _ w i64a a2, part_cell _ _ _ w i64a b2, Result.andThen_ok, q2]
        cases ((e.off : Int) == (f.off : Int)) with
        | false => rfl
        | true =>
          simp only [Bool.not_true, Bool.false_eq_true, if_false, Bool.true_and, Sem.run_bind, part_cell _ _ _ w i64a a3, part_cell _ _ _ w i64a b3, Result.andThen_ok, q3]
          cases ((e.sz : Int) == (f.sz : Int)) with
          | false => rfl
          | true => rfl
theorem neq_enr (e f : Ent) (he : e.id.size = 32) (hf : f.id.size = 32) (w : World) : (binOp .neq 56 (.agg (enC e)) (.agg (enC f))).run Tryz.prog w = .ok (.bool (!enQ e f)) w := by
  rw [run_neq_struct, equalIn_enr e f he hf]; rfl
end Go.Proofs.YtpfknjnigcefgaaGreatDoor
/- strings.CutPrefix, CutSuffix; pack.Label, Sum, Fits. -/
namespace Go.Proofs.YtpfknjnigcefgaaGreatDoor
open Go.RowKit
set_option linter.unusedSimpArgs false
set_option linter.unusedVariables false
/-- Whether a text stands at the front, at the end. -/
def pfB (s q : ByteArray) : Bool := decide (q.size ≤ s.size) && (bl (s.extract 0 q.size) == bl q)
def sfB (s q : ByteArray) : Bool := decide (q.size ≤ s.size) && (bl (s.extract (s.size - q.size) s.size) == bl q)
set_option maxHeartbeats 1000000 in
theorem hasPfx (s q : ByteArray) (w : World) (hs : s.size ≤ 140737488355328) (hq : q.size ≤ 16) :
    Calls Tryz.prog 106 #[.string s, .string q] w fun e w' => e = .returned (.bool (pfB s q)) ∧ w' = w := by
  by_cases h4 : q.size ≤ s.size
  · have h4z : (q.size : Int) ≤ (s.size : Int) := by omega
    obtain ⟨x, hx⟩ : ∃ x, s.extract 0 q.size = x := ⟨_, rfl⟩
    by_cases he : x = q
    · have HE : Hid (pfB s q = true) := by show _ = _; rw [pfB, hx, he]; simp [h4]
      subst he
      go_enter Tryz.func106, Tryz.ntmps106
      go_wp2
      go_ret
      exact ⟨ret_b11 HE.out, rfl⟩
    · have HE : Hid (pfB s q = false) := by
        show _ = _
        rw [pfB, hx, Bool.and_eq_false_iff]
        exact .inr (by rw [beq_eq_false_iff_ne]; exact fun h => he (bl_inj h))
      have hne := str_neP he
      clear he
      go_enter Tryz.func106, Tryz.ntmps106
      go_wp2
      go_ret
      exact ⟨ret_b11 HE.out, rfl⟩
  · have h4z : ¬ (q.size : Int) ≤ (s.size : Int) := by omega
    have HE : Hid (pfB s q = false) := by show pfB s q = false; simp [pfB, h4]
    go_enter Tryz.func106, Tryz.ntmps106
    go_wp2
    go_ret
    exact ⟨ret_b11 HE.out, rfl⟩
set_option maxHeartbeats 1000000 in
theorem hasSfx (s q : ByteArray) (w : World) (hs : s.size ≤ 140737488355328) (hq : q.size ≤ 16) :
    Calls Tryz.prog 118 #[.string s, .string q] w fun e w' => e = .returned (.bool (sfB s q)) ∧ w' = w := by
  by_cases h4 : q.size ≤ s.size
  · have h4z : (q.size : Int) ≤ (s.size : Int) := by omega
    obtain ⟨n, hn⟩ : ∃ n, n = s.size - q.size := ⟨_, rfl⟩
    have hnz : (s.size : Int) - (q.size : Int) = (n : Int) := by omega
    have hnl : (n : Int) ≤ (s.size : Int) := by omega
    obtain ⟨x, hx⟩ : ∃ x, s.extract n s.size = x := ⟨_, rfl⟩
    by_cases he : x = q
    · have HE : Hid (sfB s q = true) := by show _ = _; rw [sfB, ← hn, hx, he]; simp [h4]
      subst he
      clear hn
      go_enter Tryz.func118, Tryz.ntmps118
      go_wp2
      go_ret
      exact ⟨ret_b11 HE.out, rfl⟩
    · have HE : Hid (sfB s q = false) := by
        show _ = _
        rw [sfB, ← hn, hx, Bool.and_eq_false_iff]
        exact .inr (by rw [beq_eq_false_iff_ne]; exact fun h => he (bl_inj h))
      have hne := str_neP he
      clear he hn
      go_enter Tryz.func118, Tryz.ntmps118
      go_wp2
      go_ret
      exact ⟨ret_b11 HE.out, rfl⟩
  · have h4z : ¬ (q.size : Int) ≤ (s.size : Int) := by omega
    have HE : Hid (sfB s q = false) := by show sfB s q = false; simp [sfB, h4]
    go_enter Tryz.func118, Tryz.ntmps118
    go_wp2
    go_ret
    exact ⟨ret_b11 HE.out, rfl⟩
/-- What is left when they are cut. -/
def cpX (s q : ByteArray) : ByteArray := if pfB s q = true then s.extract q.size s.size else s
def csX (s q : ByteArray) : ByteArray := if sfB s q = true then s.extract 0 (s.size - q.size) else s
theorem pfB_le {s q : ByteArray} (h : pfB s q = true) : q.size ≤ s.size := by simp [pfB] at h; exact h.1
theorem sfB_le {s q : ByteArray} (h : sfB s q = true) : q.size ≤ s.size := by simp [sfB] at h; exact h.1
theorem ret_sb11 {a b : ByteArray} {e e' : Bool} (h : b = a ∧ e' = e) : Ending.returned (.tuple #[.string a, .bool e]) = .returned (.tuple #[.string b, .bool e']) := by rw [h.1, h.2]
set_option maxHeartbeats 1000000 in
theorem cutP1 (s q : ByteArray) (w : World) (hs : s.size ≤ 140737488355328) (hq : q.size ≤ 16) :
    Calls Tryz.prog 83 #[.string s, .string q] w fun e w' => e = .returned (.tuple #[.string (cpX s q), .bool (pfB s q)]) ∧ w' = w := by
  cases hp : pfB s q with
  | true =>
    have H1 := hasPfx s q w hs hq
    rw [hp] at H1
    have HE : Hid (cpX s q = s.extract q.size s.size) := by show _ = _; rw [cpX, if_pos hp]
    have hle := pfB_le hp
    have h4z : (q.size : Int) ≤ (s.size : Int) := by omega
    clear hp
    go_enter Tryz.func83, Tryz.ntmps83
    go_wp2_with fail
    refine H1.mono ?_
    rintro e w1 ⟨rfl, hw⟩
    obtain rfl : w = w1 := hw.symm
    go_wp2
    go_ret2
    exact ⟨ret_sb11 ⟨HE.out, rfl⟩, rfl⟩
  | false =>
    have H1 := hasPfx s q w hs hq
    rw [hp] at H1
    have HE : Hid (cpX s q = s) := by show _ = _; rw [cpX, if_neg (by rw [hp]; simp)]
    clear hp
    go_enter Tryz.func83, Tryz.ntmps83
    go_wp2_with fail
    refine H1.mono ?_
    rintro e w1 ⟨rfl, hw⟩
    obtain rfl : w = w1 := hw.symm
    go_wp2
    go_ret2
    exact ⟨ret_sb11 ⟨HE.out, rfl⟩, rfl⟩
set_option maxHeartbeats 1000000 in
theorem cutS1 (s q : ByteArray) (w : World) (hs : s.size ≤ 140737488355328) (hq : q.size ≤ 16) :
    Calls Tryz.prog 84 #[.string s, .string q] w fun e w' => e = .returned (.tuple #[.string (csX s q), .bool (sfB s q)]) ∧ w' = w := by
  cases hp : sfB s q with
  | true =>
    have H1 := hasSfx s q w hs hq
    rw [hp] at H1
    obtain ⟨n, hn⟩ : ∃ n, n = s.size - q.size := ⟨_, rfl⟩
    have HE : Hid (csX s q = s.extract 0 n) := by show _ = _; rw [csX, if_pos hp, hn]
    have hle := sfB_le hp
    have hnz : (s.size : Int) - (q.size : Int) = (n : Int) := by omega
    have hnl : (n : Int) ≤ (s.size : Int) := by omega
    clear hp hn
    go_enter Tryz.func84, Tryz.ntmps84
    go_wp2_with fail
    refine H1.mono ?_
    rintro e w1 ⟨rfl, hw⟩
    obtain rfl : w = w1 := hw.symm
    go_wp2
    go_ret2
    exact ⟨ret_sb11 ⟨HE.out, rfl⟩, rfl⟩
  | false =>
    have H1 := hasSfx s q w hs hq
    rw [hp] at H1
    have HE : Hid (csX s q = s) := by show _ = _; rw [csX, if_neg (by rw [hp]; simp)]
    clear hp
    go_enter Tryz.func84, Tryz.ntmps84
    go_wp2_with fail
    refine H1.mono ?_
    rintro e w1 ⟨rfl, hw⟩
    obtain rfl : w = w1 := hw.symm
    go_wp2
    go_ret2
    exact ⟨ret_sb11 ⟨HE.out, rfl⟩, rfl⟩
theorem cutP (s q : ByteArray) (w : World) (hs : s.size ≤ 140737488355328) (hq : q.size ≤ 16) :
    Calls Tryz.prog 41 #[.string s, .string q] w fun e w' => e = .returned (.tuple #[.string (cpX s q), .bool (pfB s q)]) ∧ w' = w := by
  go_enter Tryz.func41, Tryz.ntmps41
  go_wp2_with fail
  refine (cutP1 s q _ hs hq).mono ?_
  rintro e w1 ⟨rfl, hw⟩
  obtain rfl : w = w1 := hw.symm
  go_wp2
  go_ret2
  exact ⟨rfl, rfl⟩
theorem cutS (s q : ByteArray) (w : World) (hs : s.size ≤ 140737488355328) (hq : q.size ≤ 16) :
    Calls Tryz.prog 42 #[.string s, .string q] w fun e w' => e = .returned (.tuple #[.string (csX s q), .bool (sfB s q)]) ∧ w' = w := by
  go_enter Tryz.func42, Tryz.ntmps42
  go_wp2_with fail
  refine (cutS1 s q _ hs hq).mono ?_
  rintro e w1 ⟨rfl, hw⟩
  obtain rfl : w = w1 := hw.symm
  go_wp2
  go_ret2
  exact ⟨rfl, rfl⟩
/-- A pack's label. -/
def lbF : ByteArray := ⟨#[112, 97, 99, 107, 45]⟩
def lbE : ByteArray := ⟨#[46, 112, 107]⟩
def lbl (s : ByteArray) : ByteArray := lbF ++ sb (hexL (bl s)) ++ lbE
theorem grn_keep12 {B : Nat} {w w' : World} (h : Below B w w') (hB : B = w.heap.size := by rfl) : w.grownBy w' none := by
  subst hB
  exact ⟨h.os, h.tape, h.output, h.size, fun i hi _ => h.block i hi⟩
/-- What Parse tells. -/
def prA (t : ByteArray) : Array Value := if t.size = 64 then pid t else z32c
def prE (t : ByteArray) : Int := if t.size = 64 then uhE t else 4
theorem prA_size (t : ByteArray) : (prA t).size = 32 := by unfold prA; split <;> first | exact pid_size t | exact z32c_size
theorem prA_one (t : ByteArray) : (prA t).all (·.oneCell') = true := by unfold prA; split <;> first | exact pid_one t | exact z32c_one
theorem parse11 (t : ByteArray) (w : World) (hm : t.size ≤ 140737488351232) (hA : All w) :
    Calls Tryz.prog 44 #[.string t] w fun e w' => e = .returned (.tuple #[.agg (prA t), .int .i64 (prE t)]) ∧ Below w.heap.size w w' := by
  by_cases h : t.size = 64
  · rw [prA, prE, if_pos h, if_pos h]; exact parse_64 t w h hA
  · rw [prA, prE, if_neg h, if_neg h]; exact parse_bad t w h hm
/-- What Sum tells. -/
def smD (s : ByteArray) : ByteArray := csX (cpX s lbF) lbE
def smB11 (s : ByteArray) : Bool := pfB s lbF && sfB (cpX s lbF) lbE && decide (prE (smD s) = 0)
def smA (s : ByteArray) : Array Value := if smB11 s = true then prA (smD s) else z32c
def smEp (s : ByteArray) : Int := if smB11 s = true then 0 else 10
theorem cpX_size (s q : ByteArray) : (cpX s q).size ≤ s.size := by
  unfold cpX
  split
  · rw [← bl_length, bl_extract, List.length_drop, List.length_take, bl_length]; omega
  · exact Nat.le_refl _
theorem csX_size (s q : ByteArray) : (csX s q).size ≤ s.size := by
  unfold csX
  split
  · rw [← bl_length, bl_extract, List.length_drop, List.length_take, bl_length]; omega
  · exact Nat.le_refl _
theorem ret_ae {A A' : Array Value} {e e' : Int} (h : A' = A ∧ e' = e) : Ending.returned (.tuple #[.agg A, .int .i64 e]) = .returned (.tuple #[.agg A', .int .i64 e']) := by rw [h.1, h.2]
/-- Whether a label fits. -/
def ftB11 (a s : ByteArray) : Bool := bl a == bl (lbl (sb (sha (byl s))))
/-- Sum of a label. -/
theorem sm_lbl (x : ByteArray) (hx : x.size = 32) : smA (lbl x) = idc x ∧ smEp (lbl x) = 0 := by
  obtain ⟨t, ht⟩ : ∃ t, t = sb (hexL (bl x)) := ⟨_, rfl⟩
  have htz : t.size = 64 := by rw [ht, sb_size, hexL_length, bl_length, hx]
  have hl : lbl x = lbF ++ (t ++ lbE) := by rw [lbl, ← ht]; apply bl_inj; simp [bl_append]
  have hlz : (lbl x).size = 72 := by rw [hl, ByteArray.size_append, ByteArray.size_append, htz]; rfl
  have p1 : pfB (lbl x) lbF = true := by
    rw [pfB]
    have : bl ((lbl x).extract 0 lbF.size) = bl lbF := by
      rw [extract_take _ _ (by rw [hlz]; decide), hl, bl_append, ← bl_length, List.take_left]
    rw [this]; simp [hlz]; decide
  have p2 : cpX (lbl x) lbF = t ++ lbE := by rw [cpX, if_pos p1]; exact drop_front (lbl x) lbF (t ++ lbE) _ hl rfl
  have hz2 : (t ++ lbE).size = 67 := by rw [ByteArray.size_append, htz]; rfl
  have p3 : sfB (t ++ lbE) lbE = true := by
    rw [sfB]
    have : (t ++ lbE).extract ((t ++ lbE).size - lbE.size) (t ++ lbE).size = lbE := drop_front (t ++ lbE) t lbE _ rfl (by rw [hz2, htz]; rfl)
    rw [this]; simp [hz2]; decide
  have p4 : csX (t ++ lbE) lbE = t := by
    rw [csX, if_pos p3]
    apply bl_inj
    rw [extract_take _ _ (by omega), bl_append, hz2, show 67 - lbE.size = (bl t).length from by rw [bl_length, htz]; rfl, List.take_left]
  have p5 : smD (lbl x) = t := by rw [smD, p2, p4]
  obtain ⟨u1, u2⟩ := uh_hex x
  rw [← ht] at u1 u2
  have p6 : prE t = 0 := by rw [prE, if_pos htz, u2]
  have p7 : smB11 (lbl x) = true := by rw [smB11, p1, p2, p3, p5, p6]; rfl
  rw [smA, smEp, p7, p5]
  refine ⟨?_, rfl⟩
  show prA t = _
  rw [prA, if_pos htz, pid_ok t (by rw [u1]; exact hx), u1]
end Go.Proofs.YtpfknjnigcefgaaGreatDoor
/- Plain facts of packs that were built: each record, and what is told of what is left. -/
namespace Go.Proofs.YtpfknjnigcefgaaGreatDoor
open Go.RowKit
set_option linter.unusedSimpArgs false
set_option linter.unusedVariables false
theorem split_atP {l : List Ob} {i : Nat} {o : Ob} (hi : l[i]? = some o) : l = l.take i ++ o :: l.drop (i + 1) := by
  have hlt : i < l.length := (List.getElem?_eq_some_iff.1 hi).1
  conv => lhs; rw [← List.take_append_drop i l, List.drop_eq_getElem_cons hlt]
  rw [List.getElem?_eq_getElem hlt] at hi
  injection hi with hi
  rw [hi]
theorem rec_le {l : List Ob} (h : buE l = 0) (i : Nat) (o : Ob) (hi : l[i]? = some o) : 4 + lenL (l.take i) + (9 + o.p.size) < (buS l).size := by
  have e := lenL_take_succ l i o hi
  have e2 := lenL_take_le l (i + 1)
  rw [buS_size h, trl_size]
  omega
theorem rec_at {l : List Ob} (h : buE l = 0) (i : Nat) (o : Ob) (hi : l[i]? = some o) : (buS l).extract (4 + lenL (l.take i)) (4 + lenL (l.take i) + (9 + o.p.size)) = recO o := by
  apply bl_inj
  rw [bl_extract, List.drop_take, buS_ok h]
  have hA : (mk4 ++ recL (l.take i)).length = 4 + lenL (l.take i) := by rw [List.length_append, recL_length]; rfl
  have hw : mk4 ++ recL l ++ bl (trl l.length) = (mk4 ++ recL (l.take i)) ++ (bl (recO o) ++ (recL (l.drop (i + 1)) ++ bl (trl l.length))) := by
    have e : recL l = recL (l.take i) ++ (bl (recO o) ++ recL (l.drop (i + 1))) := by
      conv => lhs; rw [split_atP hi, recL_append, recL]
    rw [e]
    simp
  rw [show 4 + lenL (l.take i) + (9 + o.p.size) - (4 + lenL (l.take i)) = 9 + o.p.size from by omega, hw, ← hA, List.drop_left, List.take_append_of_le_length (by rw [bl_length, recO_size]; exact Nat.le_refl _), List.take_of_length_le (by rw [bl_length, recO_size]; exact Nat.le_refl _)]
theorem one_rec (o : Ob) (ho : okO o = true) : onO (recO o) = o ∧ onE (recO o) = 0 := by
  obtain ⟨h1, h2, h3⟩ := at_rec o (recO o) ⟨#[]⟩ (by apply bl_inj; rw [bl_append]; simp [bl]) ho
  rw [onO, onE, if_pos ⟨h1, h3⟩, if_pos ⟨h1, h3⟩, h2]
  exact ⟨rfl, rfl⟩
theorem read_rec {l : List Ob} (h : buE l = 0) (i : Nat) (o : Ob) (hi : l[i]? = some o) : rdO (buS l) ((4 + lenL (l.take i) : Nat) : Int) = o ∧ rdE (buS l) ((4 + lenL (l.take i) : Nat) : Int) = 0 := by
  obtain ⟨h1, h2⟩ := rd_bu h i o hi
  have hle := rec_le h i o hi
  obtain ⟨y1, _, y3⟩ := ft_yes h1
  have hc : (0 : Int) ≤ ((4 + lenL (l.take i) : Nat) : Int) ∧ ((4 + lenL (l.take i) : Nat) : Int) ≤ ((buS l).size : Int) := by omega
  rw [rdO, rdE, if_pos hc, if_pos hc, Int.toNat_natCast, y1, y3, h2]
  exact ⟨rfl, rfl⟩
theorem cut_bl (s : ByteArray) (q : Nat) (hq : q ≤ s.size) : bl (s.extract 0 q) = (bl s).take q := extract_take s q hq
theorem cut_size (s : ByteArray) (q : Nat) (hq : q ≤ s.size) : (s.extract 0 q).size = q := by rw [← bl_length, cut_bl s q hq, List.length_take, bl_length]; omega
theorem cwN_small {q : Nat} (h : q < 4) (l : List Ob) : cwN q 4 l = 0 := by
  cases l with
  | nil => rfl
  | cons o l => rw [cwN, if_neg (by omega)]
theorem cut_pm {l : List Ob} {q : Nat} (h : buE l = 0) (hq : q < (buS l).size) (h4 : 4 ≤ q) : pmB ((buS l).extract 0 q) = true := by
  refine pmB_bu (t := (recL l ++ bl (trl l.length)).take (q - 4)) ?_
  rw [cut_bl _ _ (by omega), buS_ok h, List.append_assoc, List.take_append, List.take_of_length_le (by rw [mk4_length]; exact h4)]
  rfl
/-- What is left of a pack tells all that are whole. -/
theorem cut_sv {l : List Ob} {m : List Ent} {q : Nat} (h : buE l = 0) (hq : q < (buS l).size) (hs : SvA ((buS l).extract 0 q) m) : m = ens 4 (l.take (cwN q 4 l)) := by
  have g := buE_ok h
  by_cases h4 : 4 ≤ q
  · have hp := cut_pm h hq h4
    rcases hs with ⟨h1, _⟩ | ⟨_, a, h2⟩
    · rw [hp] at h1; cases h1
    · obtain ⟨h3, _⟩ := stk_cut (tk := tkA) (s := (buS l).extract 0 q) q g (by rw [← buS_size h]; exact hq) h4 (by rw [cut_bl _ _ (by omega), buS_ok h]) (fun i o hi => g.tkA i o hi)
      exact (h2.one h3).2
  · have hz := cut_size (buS l) q (by omega)
    rcases hs with ⟨_, h1⟩ | ⟨h1, _⟩
    · rw [h1, cwN_small (by omega)]; rfl
    · have := pm4 h1; omega
/-- What is left of a pack is none. -/
theorem cut_sc {l : List Ob} {m : List Ent} {q : Nat} {er : Int} (h : buE l = 0) (hq : q < (buS l).size) (hs : ScA ((buS l).extract 0 q) m er) : er = 4 := by
  have g := buE_ok h
  rcases hs with ⟨_, h1⟩ | ⟨h1, _⟩
  rotate_left
  · exact h1
  exfalso
  obtain ⟨_, hp, a, h2, h3⟩ := h1
  have hz := cut_size (buS l) q (by omega)
  have h4 : 4 ≤ q := by have := pm4 hp; omega
  obtain ⟨h5, h6⟩ := stk_cut (tk := tkS) (s := (buS l).extract 0 q) q g (by rw [← buS_size h]; exact hq) h4 (by rw [cut_bl _ _ (by omega), buS_ok h]) (fun i o hi => g.tkS i o hi)
  obtain ⟨rfl, rfl⟩ := h2.one h5
  have := (at_trl (ens 4 (l.take (cwN q 4 l))).length (frmO ((buS l).extract 0 q) (4 + lenL (l.take (cwN q 4 l)))) ⟨#[]⟩ (by rw [ens_length, List.length_take]; have := g.len; omega) (by rw [h3]; apply bl_inj; rw [bl_append]; simp [bl])).2
  rw [h6] at this
  cases this
theorem ens_take (l : List Ob) (j i : Nat) (o : Ob) (hi : l[i]? = some o) (hj : i < j) : (ens 4 (l.take j))[i]? = some (enO (4 + lenL (l.take i)) o) := by
  have h1 : (l.take j)[i]? = some o := by rw [List.getElem?_take_of_lt hj]; exact hi
  rw [ens_get _ 4 i o h1, List.take_take, Nat.min_eq_left (by omega)]
/-- The load of an entry, in a class of worlds. -/
theorem quiet_en {o : Oper} {a : Act} {C : World → Prop} {K : Act → Prop} (x : Operand) (ho : o.op = .load 34 x) (g z : Nat) (D : Array Value) (e : Ent) (he : e.id.size = 32) (hx : a.eval x = .pointer (some ⟨g, z, none⟩))
    (hc : ∀ w, C w → Bk w g D 34) (hD : ∀ j v, (enC e)[j]? = some v → D[z + j]? = some v) (hn : K (a.put o.dst (.agg (enC e)))) : o.quiet Tryz.prog a C K :=
  quiet_val10 (.agg (enC e)) (fun w hw => by
    have h := hc w hw
    have hr := run_loadVar_mid (P := Tryz.prog) w g z 34 (enC e).toList _ (fun j v hv => by rw [h.cell]; exact hD j v (by rwa [Array.getElem?_toList] at hv)) Tryz.underlying34 rfl (by rw [Array.length_toList]; exact info_en (enC_size e he))
    unfold execOp
    simp [ho, hx, Instr.loadAt, Instr.sureAddr, hr]) hn
end Go.Proofs.YtpfknjnigcefgaaGreatDoor
