import Derived.Test.YtpfknjnigcefgaaGreatDoorY35
import Derived.Test.YtpfknjnigcefgaaGreatDoorY31
import Derived.Test.YtpfknjnigcefgaaGreatDoorY32
import Derived.Test.YtpfknjnigcefgaaGreatDoorY13
/- What is told of a pack that was built; lists of entries read; the law's awake. -/
namespace Go.Proofs.YtpfknjnigcefgaaGreatDoor
open Go.RowKit
set_option linter.unusedSimpArgs false
set_option linter.unusedVariables false
theorem buS_size {l : List Ob} (h : buE l = 0) : (buS l).size = 4 + lenL l + (trl l.length).size := by
  rw [← bl_length, buS_ok h, List.length_append, List.length_append, recL_length, mk4_length, bl_length]
theorem pmB_bu {s : ByteArray} {t : List UInt8} (h : bl s = mk4 ++ t) : pmB s = true := by
  have h4 : 4 ≤ s.size := by rw [← bl_length, h, List.length_append, mk4_length]; omega
  have : (bl s).take 4 = mk4 := by rw [h]; rfl
  simp [pmB, h4, this]
/-- A pack that was built is one. -/
theorem pkO_bu {l : List Ob} (h : buE l = 0) : PkO (buS l) (ens 4 l) := by
  have g := buE_ok h
  obtain ⟨h1, h2⟩ := stk_all (tk := tkS) g (buS_ok h) (fun i o hi => g.tkS i o hi)
  refine ⟨by rw [buS_size h]; exact g.sz, pmB_bu (t := recL l ++ bl (trl l.length)) (by rw [buS_ok h, List.append_assoc]), _, h1, ?_⟩
  rw [ens_length]; exact h2
theorem PkO.one {s : ByteArray} {l m : List Ent} (h : PkO s l) (h' : PkO s m) : l = m := by
  obtain ⟨_, _, a, h1, _⟩ := h
  obtain ⟨_, _, b, h2, _⟩ := h'
  exact (h1.one h2).2
theorem scA_bu {l : List Ob} {m : List Ent} {er : Int} (h : buE l = 0) (hs : ScA (buS l) m er) : er = 0 ∧ m = ens 4 l := by
  rcases hs with ⟨h1, h2⟩ | ⟨_, _, h3⟩
  · exact ⟨h1, h2.one (pkO_bu h)⟩
  · exact absurd (pkO_bu h) (h3 _)
/-- Where an object stands it is read. -/
theorem rd_bu {l : List Ob} (h : buE l = 0) (i : Nat) (o : Ob) (hi : l[i]? = some o) : atB (frmO (buS l) (4 + lenL (l.take i))) = true ∧ atO (frmO (buS l) (4 + lenL (l.take i))) = o := by
  have g := buE_ok h
  have hlt : i < l.length := (List.getElem?_eq_some_iff.1 hi).1
  have hsp : l = l.take i ++ o :: l.drop (i + 1) := by
    conv => lhs; rw [← List.take_append_drop i l, List.drop_eq_getElem_cons hlt]
    rw [List.getElem?_eq_getElem hlt] at hi
    injection hi with hi
    rw [hi]
  obtain ⟨h1, h2, _⟩ := at_place (s := buS l) (d := l.take i) (m := l.drop (i + 1)) (o := o) (t := bl (trl l.length)) (by rw [← hsp, buS_ok h, List.append_assoc]) (g.ok o (List.mem_of_getElem? hi))
  exact ⟨h1, h2⟩
/-- Entries of a slice. -/
def EnL (w : World) (a : Option Addr) (l : List Ent) : Prop :=
  ∀ i e, l[i]? = some e → ∃ g z C, a = some ⟨g, z, none⟩ ∧ Bk w g C 34 ∧ ∀ j x, (enC e)[j]? = some x → C[z + i * 35 + j]? = some x
theorem EnL.below {w w' : World} {a : Option Addr} {l : List Ent} (h : EnL w a l) (hb : Below w.heap.size w w') : EnL w' a l := fun i e he => by
  obtain ⟨g, z, C, h1, h2, h3⟩ := h i e he
  exact ⟨g, z, C, h1, h2.below hb h2.lt, h3⟩
theorem env_get : ∀ (l : List Ent) (i : Nat) (e : Ent), (∀ x ∈ l, x.id.size = 32) → l[i]? = some e → ∀ j x, (enC e)[j]? = some x → (env l)[i * 35 + j]? = some x
  | [], _, _, _, h, _, _, _ => by simp at h
  | a :: l, 0, e, ha, h, j, x, hj => by
    simp at h
    subst h
    have hlt : j < (enC a).toList.length := by rw [Array.length_toList]; exact (Array.getElem?_eq_some_iff.1 hj).1
    rw [env, List.flatMap_cons, Nat.zero_mul, Nat.zero_add, List.getElem?_append_left hlt, Array.getElem?_toList]
    exact hj
  | a :: l, i + 1, e, ha, h, j, x, hj => by
    have h35 : (enC a).toList.length = 35 := by rw [Array.length_toList, enC_size a (ha a (by simp))]
    rw [env, List.flatMap_cons, List.getElem?_append_right (by omega), h35, show (i + 1) * 35 + j - 35 = i * 35 + j from by omega]
    exact env_get l i e (fun x hx => ha x (by simp [hx])) (by simpa using h) j x hj
theorem row_enl {w : World} {B n : Nat} {v : Value} {l : List Ent} (h : w.ownsRow B 34 35 v n (env l)) (hn : l.length = n) (hi : ∀ x ∈ l, x.id.size = 32) : ∃ a c, v = .slice a n c ∧ EnL w a l := by
  rcases h.2 with ⟨rfl, h0⟩ | ⟨g, cap, cur, rfl, hle, hg, hnc, _, hc, ht⟩
  · subst h0
    have : l = [] := List.eq_nil_of_length_eq_zero hn
    subst this
    exact ⟨none, 0, rfl, fun i x hx => by simp at hx⟩
  · refine ⟨some ⟨g, 0, none⟩, cap, rfl, fun i e he => ⟨g, 0, cur, rfl, hg, fun j x hj => ?_⟩⟩
    have hil : i < l.length := (List.getElem?_eq_some_iff.1 he).1
    have hjl : j < 35 := by rw [← enC_size e (hi e (List.mem_of_getElem? he))]; exact (Array.getElem?_eq_some_iff.1 hj).1
    have q := env_get l i e hi he j x hj
    rw [← ht, List.getElem?_take, if_pos (by omega), Array.getElem?_toList] at q
    rw [Nat.zero_add]; exact q
theorem ens_ids : ∀ (l : List Ob) (a : Nat), ∀ x ∈ ens a l, x.id.size = 32
  | [], _, x, h => by simp [ens] at h
  | o :: l, a, x, h => by
    rw [ens, List.mem_cons] at h
    rcases h with rfl | h
    · exact nmO_size o
    · exact ens_ids l _ x h
theorem Rn.ids {tk : List Ent → Ent → Bool} {s : ByteArray} {a : Nat} {l : List Ent} (h : Rn tk s a l) : ∀ x ∈ l, x.id.size = 32 := by
  induction h with
  | z => simp
  | st h1 h2 h3 ih =>
    intro x hx
    rcases List.mem_append.1 hx with hx | hx
    · exact ih x hx
    · rw [List.mem_singleton.1 hx]; exact nmO_size _
/-- The law's own pack of one object. -/
def awO : Ob := ⟨1, ⟨#[97, 98]⟩⟩
theorem aw_ok : buE [awO] = 0 := by
  have h1 : okO awO = true := by decide
  have h2 : (trl 1).size ≤ 19 := by rw [trl_size]; have := encS_le 1 (by decide); omega
  have h3 : awO.p.size = 2 := rfl
  rw [buE, bdE, if_neg, if_neg, bdE]
  · simp [hasN]
  · rw [h1, h3]
    rintro (h | h | h)
    · cases h
    · simp at h
    · simp only [List.length_nil, lenL, Nat.zero_add] at h
      omega
theorem aw_scan {m : List Ent} {er : Int} (h : ScA (buS [awO]) m er) : er = 0 ∧ m = [⟨nmO awO, 1, 4, 2⟩] := by
  obtain ⟨h1, h2⟩ := scA_bu aw_ok h
  exact ⟨h1, by rw [h2]; rfl⟩
theorem aw_read : rdO (buS [awO]) 4 = awO ∧ rdE (buS [awO]) 4 = 0 := by
  obtain ⟨h1, h2⟩ := rd_bu aw_ok 0 awO rfl
  have e : 4 + lenL (List.take 0 [awO]) = 4 := rfl
  rw [e] at h1 h2
  have hz : 4 ≤ (buS [awO]).size := by rw [buS_size aw_ok]; omega
  have hc : (0 : Int) ≤ 4 ∧ (4 : Int) ≤ ((buS [awO]).size : Int) := by omega
  obtain ⟨y1, _, y3⟩ := ft_yes h1
  rw [rdO, rdE, if_pos hc, if_pos hc, show (4 : Int).toNat = 4 from rfl, y1, y3, h2]
  exact ⟨rfl, rfl⟩
end Go.Proofs.YtpfknjnigcefgaaGreatDoor
/- Two entries compared. -/
namespace Go.Proofs.YtpfknjnigcefgaaGreatDoor
open Go.RowKit
set_option linter.unusedSimpArgs false
set_option linter.unusedVariables false
theorem eqItems_idsD (d : Nat) (a b : ByteArray) (ha : a.size = 32) (hb : b.size = 32) (w : World) : ∀ is : List Nat, (∀ i ∈ is, i < 32) →
    (Op.eqItems (d + 1) 5 1 (idc a) (idc b) is).run Tryz.prog w = .ok (is.all fun i => (byl a).getD i 0 == (byl b).getD i 0) w
  | [], _ => by simp [Op.eqItems]
  | i :: is, h => by
    have hi : i < 32 := h i (List.mem_cons_self ..)
    have ih := eqItems_idsD d a b ha hb w is (fun j hj => h j (List.mem_cons_of_mem _ hj))
    have e1 : (byl a).getD i 0 = a[i].toNat := by rw [List.getD, byl_getD a i (by omega)]; rfl
    have e2 : (byl b).getD i 0 = b[i].toNat := by rw [List.getD, byl_getD b i (by omega)]; rfl
    have e3 := run_equalIn_int (P := Tryz.prog) w d 5 .u8 .u8 (a[i].toNat : Int) (b[i].toNat : Int) Tryz.underlying5
    simp only [Op.eqItems, Sem.run_bind, Nat.mul_one, part_id a i (by omega), part_id b i (by omega), Result.andThen_ok, e3, List.all_cons, e1, e2]
    by_cases e : a[i].toNat = b[i].toNat
    · have e4 : ((a[i].toNat : Int) == (b[i].toNat : Int)) = true := by rw [e]; simp
      simp only [e4, Bool.not_true, Bool.false_eq_true, if_false, ih, e, beq_self_eq_true, Bool.true_and]
    · have e4 : ((a[i].toNat : Int) == (b[i].toNat : Int)) = false := by rw [beq_eq_false_iff_ne]; omega
      have e5 : (a[i].toNat == b[i].toNat) = false := by rw [beq_eq_false_iff_ne]; exact e
      simp only [e4, Bool.not_false, if_true, Sem.run_pure, e5, Bool.false_and]
theorem equalIn_idsD (d : Nat) (a b : ByteArray) (ha : a.size = 32) (hb : b.size = 32) (w : World) : (Op.equalIn (d + 2) 23 (.agg (idc a)) (.agg (idc b))).run Tryz.prog w = .ok (decide (a = b)) w := by
  have hc : Tryz.prog.cellsOf 5 = 1 := by kernel_rfl
  obtain ⟨i0, hi⟩ := info_of_underlying Tryz.underlying5
  have hu : Tryz.prog.underlying 23 = some (.array 32 5) := Tryz.underlying23
  rw [run_equalIn_array w (d + 1) (idc a) (idc b) hu hi, hc, eqItems_idsD d a b ha hb w _ (fun i hi => by simpa using hi), ids_all a b ha hb]
/-- Whether two entries are the same. -/
def enQ (e f : Ent) : Bool := decide (e.id = f.id) && (((e.k.toNat : Int) == (f.k.toNat : Int)) && (((e.off : Int) == (f.off : Int)) && ((e.sz : Int) == (f.sz : Int))))
theorem enQ_self (e : Ent) : enQ e e = true := by simp [enQ]
theorem enQ_iff (e f : Ent) : enQ e f = true ↔ e = f := by
  constructor
  · intro h
    simp only [enQ, Bool.and_eq_true, decide_eq_true_eq, beq_iff_eq] at h
    obtain ⟨h1, h2, h3, h4⟩ := h
    obtain ⟨a, b, c, d⟩ := e
    obtain ⟨a', b', c', d'⟩ := f
    simp only at h1 h2 h3 h4
    subst h1
    have h2' : b = b' := UInt8.toNat.inj (by omega)
    subst h2'
    have h3' : c = c' := by omega
    have h4' : d = d' := by omega
    subst h3' h4'
    rfl
  · rintro rfl; exact enQ_self e
theorem part_idE (e : Ent) (h : e.id.size = 32) (w : World) : (part 23 (enC e) 0).run Tryz.prog w = .ok (.agg (idc e.id)) w := by
  have ha : (isAgg 23).run Tryz.prog w = .ok true w := by kernel_rfl
  have hs : (sizeOf 23).run Tryz.prog w = .ok 32 w := by kernel_rfl
  have hx : (enC e).extract 0 32 = idc e.id := by
    apply Array.ext'
    rw [Array.toList_extract, enC]
    have hl : (idc e.id).toList.length = 32 := by rw [Array.length_toList, idc_size, h]
    simp only [List.extract_eq_take_drop, List.drop_zero, Nat.sub_zero]
    rw [List.take_append_of_le_length (by omega), List.take_of_length_le (by omega)]
  simp [part, ha, hs, hx]
theorem part_cell {t : TypeId} (C : Array Value) (j : Nat) (v : Value) (w : World) (ha : (isAgg t).run Tryz.prog w = .ok false w) (h : C[j]? = some v) : (part t C j).run Tryz.prog w = .ok v w := by
  simp [part, ha, h]
set_option maxRecDepth 100000 in
theorem equalIn_enp (e f : Ent) (he : e.id.size = 32) (hf : f.id.size = 32) (w : World) : (Op.equalIn 10000 34 (.agg (enC e)) (.agg (enC f))).run Tryz.prog w = .ok (enQ e f) w := by
  have hu : Tryz.prog.underlying 34 = some (.struct (Tryz.prog.fieldsOf 34)) := by kernel_rfl
  have hst : Tryz.prog.stoodInHeld 34 = false := by kernel_rfl
  have hfs : (Tryz.prog.fieldsOf 34).toList.map (fun q => (q.name != "_", q.type, q.offset)) = [(true, 23, 0), (true, 5, 32), (true, 3, 33), (true, 3, 34)] := by kernel_rfl
  rw [run_equalIn_struct w 9999 34 (enC e) (enC f) hu hst]
  generalize (Tryz.prog.fieldsOf 34).toList = fs at hfs
  have hlen : fs.length = 4 := by have := congrArg List.length hfs; simpa using this
  match fs, hlen, hfs with
  | [f0, f1, f2, f3], _, hfs =>
    simp only [List.map_cons, List.map_nil, List.cons.injEq, Prod.mk.injEq, and_true, bne_iff_ne] at hfs
    obtain ⟨⟨n0, t0, o0⟩, ⟨n1, t1, o1⟩, ⟨n2, t2, o2⟩, n3, t3, o3⟩ := hfs
    obtain ⟨a1, a2, a3⟩ := enC_at e he
    obtain ⟨b1, b2, b3⟩ := enC_at f hf
    have u8a : (isAgg 5).run Tryz.prog w = .ok false w := by kernel_rfl
    have i64a : (isAgg 3).run Tryz.prog w = .ok false w := by kernel_rfl
    have q0 := equalIn_idsD 9997 e.id f.id he hf w
    have q1 := run_equalIn_int (P := Tryz.prog) w 9998 5 .u8 .u8 (e.k.toNat : Int) (f.k.toNat : Int) Tryz.underlying5
    have q2 := run_equalIn_int (P := Tryz.prog) w 9998 3 .i64 .i64 (e.off : Int) (f.off : Int) Tryz.underlying3
    have q3 := run_equalIn_int (P := Tryz.prog) w 9998 3 .i64 .i64 (e.sz : Int) (f.sz : Int) Tryz.underlying3
    simp only [Op.eqFields, n0, n1, n2, n3, t0, t1, t2, t3, o0, o1, o2, o3, ne_eq, not_false_eq_true, if_true, Sem.run_bind, part_idE e he, part_idE f hf, part_cell _ _ _ w u8a a1, part_cell _ _ _ w u8a b1, part_cell _ _ _ w i64a a2, part_cell _ _ _ w i64a b2, part_cell _ _ _ w i64a a3, part_cell _ _ _ w i64a b3, Result.andThen_ok]
    rw [q0, Result.andThen_ok, enQ]
    cases decide (e.id = f.id) with
    | false => rfl
    | true =>
      simp only [Bool.not_true, Bool.false_eq_true, if_false, Bool.true_and, Sem.run_bind, part_cell _ _ _ w u8a a1, part_cell _ _ _ w u8a b1, Result.andThen_ok, q1]
      cases ((e.k.toNat : Int) == (f.k.toNat : Int)) with
      | false => rfl
      | true =>
        simp only [Bool.not_true, Bool.false_eq_true, if_false, Bool.true_and, Sem.run_bind, part_cell _ _ _ w i64a a2, part_cell _ _ _ w i64a b2, Result.andThen_ok, q2]
        cases ((e.off : Int) == (f.off : Int)) with
        | false => rfl
        | true =>
          simp only [Bool.not_true, Bool.false_eq_true, if_false, Bool.true_and, Sem.run_bind, part_cell _ _ _ w i64a a3, part_cell _ _ _ w i64a b3, Result.andThen_ok, q3]
          cases ((e.sz : Int) == (f.sz : Int)) with
          | false => rfl
          | true => rfl
theorem neq_enp (e f : Ent) (he : e.id.size = 32) (hf : f.id.size = 32) (w : World) : (binOp .neq 34 (.agg (enC e)) (.agg (enC f))).run Tryz.prog w = .ok (.bool (!enQ e f)) w := by
  rw [run_neq_struct, equalIn_enp e f he hf]; rfl
set_option maxRecDepth 100000 in
theorem equalIn_enr (e f : Ent) (he : e.id.size = 32) (hf : f.id.size = 32) (w : World) : (Op.equalIn 10000 56 (.agg (enC e)) (.agg (enC f))).run Tryz.prog w = .ok (enQ e f) w := by
  have hu : Tryz.prog.underlying 56 = some (.struct (Tryz.prog.fieldsOf 56)) := by kernel_rfl
  have hst : Tryz.prog.stoodInHeld 56 = false := by kernel_rfl
  have hfs : (Tryz.prog.fieldsOf 56).toList.map (fun q => (q.name != "_", q.type, q.offset)) = [(true, 23, 0), (true, 5, 32), (true, 3, 33), (true, 3, 34)] := by kernel_rfl
  rw [run_equalIn_struct w 9999 56 (enC e) (enC f) hu hst]
  generalize (Tryz.prog.fieldsOf 56).toList = fs at hfs
  have hlen : fs.length = 4 := by have := congrArg List.length hfs; simpa using this
  match fs, hlen, hfs with
  | [f0, f1, f2, f3], _, hfs =>
    simp only [List.map_cons, List.map_nil, List.cons.injEq, Prod.mk.injEq, and_true, bne_iff_ne] at hfs
    obtain ⟨⟨n0, t0, o0⟩, ⟨n1, t1, o1⟩, ⟨n2, t2, o2⟩, n3, t3, o3⟩ := hfs
    obtain ⟨a1, a2, a3⟩ := enC_at e he
    obtain ⟨b1, b2, b3⟩ := enC_at f hf
    have u8a : (isAgg 5).run Tryz.prog w = .ok false w := by kernel_rfl
    have i64a : (isAgg 3).run Tryz.prog w = .ok false w := by kernel_rfl
    have q0 := equalIn_idsD 9997 e.id f.id he hf w
    have q1 := run_equalIn_int (P := Tryz.prog) w 9998 5 .u8 .u8 (e.k.toNat : Int) (f.k.toNat : Int) Tryz.underlying5
    have q2 := run_equalIn_int (P := Tryz.prog) w 9998 3 .i64 .i64 (e.off : Int) (f.off : Int) Tryz.underlying3
    have q3 := run_equalIn_int (P := Tryz.prog) w 9998 3 .i64 .i64 (e.sz : Int) (f.sz : Int) Tryz.underlying3
    simp only [Op.eqFields, n0, n1, n2, n3, t0, t1, t2, t3, o0, o1, o2, o3, ne_eq, not_false_eq_true, if_true, Sem.run_bind, part_idE e he, part_idE f hf, part_cell _ _ _ w u8a a1, part_cell _ _ _ w u8a b1, part_cell _ _ _ w i64a a2, part_cell _ _ _ w i64a b2, part_cell _ _ _ w i64a a3, part_cell _ _ _ w i64a b3, Result.andThen_ok]
    rw [q0, Result.andThen_ok, enQ]
    cases decide (e.id = f.id) with
    | false => rfl
    | true =>
      simp only [Bool.not_true, Bool.false_eq_true, if_false, Bool.true_and, Sem.run_bind, part_cell _ _ _ w u8a a1, part_cell _ _ _ w u8a b1, Result.andThen_ok, q1]
      cases ((e.k.toNat : Int) == (f.k.toNat : Int)) with
      | false => rfl
      | true =>
        simp only [Bool.not_true, Bool.false_eq_true, if_false, Bool.true_and, Sem.run_bind, part_cell _ _ _ w i64a a2, part_cell _ _ _ w i64a b2, Result.andThen_ok, q2]
        cases ((e.off : Int) == (f.off : Int)) with
        | false => rfl
        | true =>
          simp only [Bool.not_true, Bool.false_eq_true, if_false, Bool.true_and, Sem.run_bind, part_cell _ _ _ w i64a a3, part_cell _ _ _ w i64a b3, Result.andThen_ok, q3]
          cases ((e.sz : Int) == (f.sz : Int)) with
          | false => rfl
          | true => rfl
theorem neq_enr (e f : Ent) (he : e.id.size = 32) (hf : f.id.size = 32) (w : World) : (binOp .neq 56 (.agg (enC e)) (.agg (enC f))).run Tryz.prog w = .ok (.bool (!enQ e f)) w := by
  rw [run_neq_struct, equalIn_enr e f he hf]; rfl
end Go.Proofs.YtpfknjnigcefgaaGreatDoor
/- Plain facts of packs that were built: each record, and what is told of what is left. -/
namespace Go.Proofs.YtpfknjnigcefgaaGreatDoor
open Go.RowKit
set_option linter.unusedSimpArgs false
set_option linter.unusedVariables false
theorem split_atP {l : List Ob} {i : Nat} {o : Ob} (hi : l[i]? = some o) : l = l.take i ++ o :: l.drop (i + 1) := by
  have hlt : i < l.length := (List.getElem?_eq_some_iff.1 hi).1
  conv => lhs; rw [← List.take_append_drop i l, List.drop_eq_getElem_cons hlt]
  rw [List.getElem?_eq_getElem hlt] at hi
  injection hi with hi
  rw [hi]
theorem rec_le {l : List Ob} (h : buE l = 0) (i : Nat) (o : Ob) (hi : l[i]? = some o) : 4 + lenL (l.take i) + (9 + o.p.size) < (buS l).size := by
  have e := lenL_take_succ l i o hi
  have e2 := lenL_take_le l (i + 1)
  rw [buS_size h, trl_size]
  omega
theorem rec_at {l : List Ob} (h : buE l = 0) (i : Nat) (o : Ob) (hi : l[i]? = some o) : (buS l).extract (4 + lenL (l.take i)) (4 + lenL (l.take i) + (9 + o.p.size)) = recO o := by
  apply bl_inj
  rw [bl_extract, List.drop_take, buS_ok h]
  have hA : (mk4 ++ recL (l.take i)).length = 4 + lenL (l.take i) := by rw [List.length_append, recL_length]; rfl
  have hw : mk4 ++ recL l ++ bl (trl l.length) = (mk4 ++ recL (l.take i)) ++ (bl (recO o) ++ (recL (l.drop (i + 1)) ++ bl (trl l.length))) := by
    have e : recL l = recL (l.take i) ++ (bl (recO o) ++ recL (l.drop (i + 1))) := by
      conv => lhs; rw [split_atP hi, recL_append, recL]
    rw [e]
    simp
  rw [show 4 + lenL (l.take i) + (9 + o.p.size) - (4 + lenL (l.take i)) = 9 + o.p.size from by omega, hw, ← hA, List.drop_left, List.take_append_of_le_length (by rw [bl_length, recO_size]; exact Nat.le_refl _), List.take_of_length_le (by rw [bl_length, recO_size]; exact Nat.le_refl _)]
theorem one_rec (o : Ob) (ho : okO o = true) : onO (recO o) = o ∧ onE (recO o) = 0 := by
  obtain ⟨h1, h2, h3⟩ := at_rec o (recO o) ⟨#[]⟩ (by apply bl_inj; rw [bl_append]; simp [bl]) ho
  rw [onO, onE, if_pos ⟨h1, h3⟩, if_pos ⟨h1, h3⟩, h2]
  exact ⟨rfl, rfl⟩
theorem read_rec {l : List Ob} (h : buE l = 0) (i : Nat) (o : Ob) (hi : l[i]? = some o) : rdO (buS l) ((4 + lenL (l.take i) : Nat) : Int) = o ∧ rdE (buS l) ((4 + lenL (l.take i) : Nat) : Int) = 0 := by
  obtain ⟨h1, h2⟩ := rd_bu h i o hi
  have hle := rec_le h i o hi
  obtain ⟨y1, _, y3⟩ := ft_yes h1
  have hc : (0 : Int) ≤ ((4 + lenL (l.take i) : Nat) : Int) ∧ ((4 + lenL (l.take i) : Nat) : Int) ≤ ((buS l).size : Int) := by omega
  rw [rdO, rdE, if_pos hc, if_pos hc, Int.toNat_natCast, y1, y3, h2]
  exact ⟨rfl, rfl⟩
theorem cut_bl (s : ByteArray) (q : Nat) (hq : q ≤ s.size) : bl (s.extract 0 q) = (bl s).take q := extract_take s q hq
theorem cut_size (s : ByteArray) (q : Nat) (hq : q ≤ s.size) : (s.extract 0 q).size = q := by rw [← bl_length, cut_bl s q hq, List.length_take, bl_length]; omega
theorem cwN_small {q : Nat} (h : q < 4) (l : List Ob) : cwN q 4 l = 0 := by
  cases l with
  | nil => rfl
  | cons o l => rw [cwN, if_neg (by omega)]
theorem cut_pm {l : List Ob} {q : Nat} (h : buE l = 0) (hq : q < (buS l).size) (h4 : 4 ≤ q) : pmB ((buS l).extract 0 q) = true := by
  refine pmB_bu (t := (recL l ++ bl (trl l.length)).take (q - 4)) ?_
  rw [cut_bl _ _ (by omega), buS_ok h, List.append_assoc, List.take_append, List.take_of_length_le (by rw [mk4_length]; exact h4)]
  rfl
/-- What is left of a pack tells all that are whole. -/
theorem cut_sv {l : List Ob} {m : List Ent} {q : Nat} (h : buE l = 0) (hq : q < (buS l).size) (hs : SvA ((buS l).extract 0 q) m) : m = ens 4 (l.take (cwN q 4 l)) := by
  have g := buE_ok h
  by_cases h4 : 4 ≤ q
  · have hp := cut_pm h hq h4
    rcases hs with ⟨h1, _⟩ | ⟨_, a, h2⟩
    · rw [hp] at h1; cases h1
    · obtain ⟨h3, _⟩ := stk_cut (tk := tkA) (s := (buS l).extract 0 q) q g (by rw [← buS_size h]; exact hq) h4 (by rw [cut_bl _ _ (by omega), buS_ok h]) (fun i o hi => g.tkA i o hi)
      exact (h2.one h3).2
  · have hz := cut_size (buS l) q (by omega)
    rcases hs with ⟨_, h1⟩ | ⟨h1, _⟩
    · rw [h1, cwN_small (by omega)]; rfl
    · have := pm4 h1; omega
/-- What is left of a pack is none. -/
theorem cut_sc {l : List Ob} {m : List Ent} {q : Nat} {er : Int} (h : buE l = 0) (hq : q < (buS l).size) (hs : ScA ((buS l).extract 0 q) m er) : er = 4 := by
  have g := buE_ok h
  rcases hs with ⟨_, h1⟩ | ⟨h1, _⟩
  rotate_left
  · exact h1
  exfalso
  obtain ⟨_, hp, a, h2, h3⟩ := h1
  have hz := cut_size (buS l) q (by omega)
  have h4 : 4 ≤ q := by have := pm4 hp; omega
  obtain ⟨h5, h6⟩ := stk_cut (tk := tkS) (s := (buS l).extract 0 q) q g (by rw [← buS_size h]; exact hq) h4 (by rw [cut_bl _ _ (by omega), buS_ok h]) (fun i o hi => g.tkS i o hi)
  obtain ⟨rfl, rfl⟩ := h2.one h5
  have := (at_trl (ens 4 (l.take (cwN q 4 l))).length (frmO ((buS l).extract 0 q) (4 + lenL (l.take (cwN q 4 l)))) ⟨#[]⟩ (by rw [ens_length, List.length_take]; have := g.len; omega) (by rw [h3]; apply bl_inj; rw [bl_append]; simp [bl])).2
  rw [h6] at this
  cases this
theorem ens_take (l : List Ob) (j i : Nat) (o : Ob) (hi : l[i]? = some o) (hj : i < j) : (ens 4 (l.take j))[i]? = some (enO (4 + lenL (l.take i)) o) := by
  have h1 : (l.take j)[i]? = some o := by rw [List.getElem?_take_of_lt hj]; exact hi
  rw [ens_get _ 4 i o h1, List.take_take, Nat.min_eq_left (by omega)]
/-- The load of an entry, in a class of worlds. -/
theorem quiet_en {o : Oper} {a : Act} {C : World → Prop} {K : Act → Prop} (x : Operand) (ho : o.op = .load 34 x) (g z : Nat) (D : Array Value) (e : Ent) (he : e.id.size = 32) (hx : a.eval x = .pointer (some ⟨g, z, none⟩))
    (hc : ∀ w, C w → Bk w g D 34) (hD : ∀ j v, (enC e)[j]? = some v → D[z + j]? = some v) (hn : K (a.put o.dst (.agg (enC e)))) : o.quiet Tryz.prog a C K :=
  quiet_val10 (.agg (enC e)) (fun w hw => by
    have h := hc w hw
    have hr := run_loadVar_mid (P := Tryz.prog) w g z 34 (enC e).toList _ (fun j v hv => by rw [h.cell]; exact hD j v (by rwa [Array.getElem?_toList] at hv)) Tryz.underlying34 rfl (by rw [Array.length_toList]; exact info_en (enC_size e he))
    unfold execOp
    simp [ho, hx, Instr.loadAt, Instr.sureAddr, hr]) hn
end Go.Proofs.YtpfknjnigcefgaaGreatDoor
/- Rows of objects read as lists; what a copied list gives. -/
namespace Go.Proofs.YtpfknjnigcefgaaGreatDoor
open Go.RowKit
set_option linter.unusedSimpArgs false
set_option linter.unusedVariables false
theorem obv_get : ∀ (l : List Ob) (i : Nat) (o : Ob), l[i]? = some o → (obv l)[i * 2]? = some (.int .u8 (o.k.toNat : Int)) ∧ (obv l)[i * 2 + 1]? = some (.string o.p)
  | [], _, _, h => by simp at h
  | a :: l, 0, o, h => by simp at h; subst h; simp [obv]
  | a :: l, i + 1, o, h => by
    obtain ⟨h1, h2⟩ := obv_get l i o (by simpa using h)
    have e : obv (a :: l) = Value.int .u8 (a.k.toNat : Int) :: Value.string a.p :: obv l := rfl
    rw [e, show (i + 1) * 2 = i * 2 + 1 + 1 from by omega, show i * 2 + 1 + 1 + 1 = i * 2 + 1 + 1 + 1 from rfl]
    simp only [List.getElem?_cons_succ]
    exact ⟨h1, h2⟩
theorem obv_length (l : List Ob) : (obv l).length = l.length * 2 := by
  induction l with
  | nil => rfl
  | cons a l ih =>
    have e : obv (a :: l) = Value.int .u8 (a.k.toNat : Int) :: Value.string a.p :: obv l := rfl
    rw [e, List.length_cons, List.length_cons, ih, List.length_cons]; omega
/-- Objects whose payloads are short enough to be at all. -/
def ObZ (l : List Ob) : Prop := ∀ o ∈ l, o.p.size ≤ 140737488351232
theorem ObL.sz {w : World} {a : Option Addr} {l : List Ob} (h : ObL w a l) : ObZ l := fun o ho => by
  obtain ⟨i, hi, e⟩ := List.getElem_of_mem ho
  obtain ⟨_, _, _, _, _, _, h6⟩ := h i o (by rw [List.getElem?_eq_getElem hi, e])
  exact h6
theorem row_obl {w : World} {B n m : Nat} {v : Value} {l x : List Ob} (h : w.ownsRow B 157 2 v m (obv (l ++ x))) (hz : ObZ l) (hm : (l ++ x).length = m) :
    ∃ a c, v = .slice a m c ∧ ObL w a l := by
  rcases h.2 with ⟨rfl, h0⟩ | ⟨g, cap, cur, rfl, hle, hg, hnc, _, hc, ht⟩
  · subst h0
    have : l = [] := by
      have := List.eq_nil_of_length_eq_zero hm
      exact (List.append_eq_nil_iff.1 this).1
    subst this
    exact ⟨none, 0, rfl, fun i o hi => by simp at hi⟩
  · refine ⟨some ⟨g, 0, none⟩, cap, rfl, fun i o hi => ⟨g, 0, rfl, (Array.getElem?_eq_some_iff.1 hg).1, ?_, ?_, hz o (List.mem_of_getElem? hi)⟩⟩
    all_goals
      have hil : i < l.length := (List.getElem?_eq_some_iff.1 hi).1
      have hil2 : i < m := by rw [← hm, List.length_append]; omega
      have hix : (l ++ x)[i]? = some o := by rw [List.getElem?_append_left hil]; exact hi
      obtain ⟨q1, q2⟩ := obv_get _ i o hix
      have hb : Bk w g cur 157 := hg
    · rw [← ht, List.getElem?_take, if_pos (by omega), Array.getElem?_toList] at q1
      rw [hb.cell, Nat.zero_add]; exact q1
    · rw [← ht, List.getElem?_take, if_pos (by omega), Array.getElem?_toList] at q2
      rw [hb.cell, Nat.zero_add]; exact q2
theorem row_obl0 {w : World} {B m : Nat} {v : Value} {l : List Ob} (h : w.ownsRow B 157 2 v m (obv l)) (hz : ObZ l) (hm : l.length = m) : ∃ a c, v = .slice a m c ∧ ObL w a l := by
  have := row_obl (x := []) (n := 0) (by rw [List.append_nil]; exact h) hz (by rw [List.append_nil]; exact hm)
  exact this
/-- What own gives is a list. -/
theorem own_list {w : World} {B n g cp : Nat} {l : List Ob} (h : w.ownsRow B 157 2 (.slice (some ⟨g, 0, none⟩) (n + 1) cp) (n + 1) (obv (l ++ [mkO]))) (hz : ObZ l) (hm : l.length = n) : ObL w (some ⟨g, 0, none⟩) l := by
  obtain ⟨a, c, h1, h2⟩ := row_obl (n := 0) h hz (by rw [List.length_append, List.length_singleton, hm])
  injection h1 with h1 _ _
  rw [h1]; exact h2
theorem neq_obj (k : UInt8) (p : ByteArray) (w : World) : (binOp .neq 157 (.agg #[.int .u8 (k.toNat : Int), .string p]) (.agg #[.int .u8 (k.toNat : Int), .string p])).run Tryz.prog w = .ok (.bool false) w := by
  have hu : Tryz.prog.underlying 157 = some (.struct (Tryz.prog.fieldsOf 157)) := by kernel_rfl
  have hst : Tryz.prog.stoodInHeld 157 = false := by kernel_rfl
  have hfs : (Tryz.prog.fieldsOf 157).toList.map (fun q => (q.name != "_", q.type, q.offset)) = [(true, 5, 0), (true, 9, 1)] := by kernel_rfl
  rw [run_neq_struct, run_equalIn_struct w 9999 157 _ _ hu hst]
  generalize (Tryz.prog.fieldsOf 157).toList = fs at hfs
  have hlen : fs.length = 2 := by have := congrArg List.length hfs; simpa using this
  match fs, hlen, hfs with
  | [f0, f1], _, hfs =>
    simp only [List.map_cons, List.map_nil, List.cons.injEq, Prod.mk.injEq, and_true, bne_iff_ne] at hfs
    obtain ⟨⟨n0, t0, o0⟩, n1, t1, o1⟩ := hfs
    have u8a : (isAgg 5).run Tryz.prog w = .ok false w := by kernel_rfl
    have sa : (isAgg 9).run Tryz.prog w = .ok false w := by kernel_rfl
    have q1 : (Op.equalIn 9999 5 (.int .u8 (k.toNat : Int)) (.int .u8 (k.toNat : Int))).run Tryz.prog w = .ok true w := by
      have := run_equalIn_int (P := Tryz.prog) w 9998 5 .u8 .u8 (k.toNat : Int) (k.toNat : Int) Tryz.underlying5
      rwa [beq_self_eq_true] at this
    have q2 : (Op.equalIn 9999 9 (.string p) (.string p)).run Tryz.prog w = .ok true w := by
      have := run_equalIn_string (P := Tryz.prog) w 9998 9 p p Tryz.underlying9
      rwa [beq_self_eq_true] at this
    have p1 : (part 5 #[.int .u8 (k.toNat : Int), .string p] 0).run Tryz.prog w = .ok (.int .u8 (k.toNat : Int)) w := part_cell _ _ _ w u8a rfl
    have p2 : (part 9 #[.int .u8 (k.toNat : Int), .string p] 1).run Tryz.prog w = .ok (.string p) w := part_cell _ _ _ w sa rfl
    simp only [Op.eqFields, n0, n1, t0, t1, o0, o1, ne_eq, not_false_eq_true, if_true, Sem.run_bind, p1, p2, Result.andThen_ok, q1, q2, Bool.not_true, Bool.false_eq_true, if_false, Sem.run_pure]
end Go.Proofs.YtpfknjnigcefgaaGreatDoor
