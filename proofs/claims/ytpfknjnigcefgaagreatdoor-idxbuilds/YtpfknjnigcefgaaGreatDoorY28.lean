import Derived.Test.YtpfknjnigcefgaaGreatDoorY27
import Derived.Test.YtpfknjnigcefgaaGreatDoorY20
import Derived.BigQuiet
import Derived.Test.YtpfknjnigcefgaaGreatDoorY13
import Derived.Deep.Cut
import Derived.Deep.CutRange
import Derived.Deep.DeepCutAuto
import Derived.Test.YtpfknjnigcefgaaGreatDoorY23
/- pack.Span, Read, One. -/
namespace Go.Proofs.YtpfknjnigcefgaaGreatDoor
open Go.RowKit
set_option linter.unusedSimpArgs false
set_option linter.unusedVariables false
/-- What Read tells. -/
def rdO (s : ByteArray) (off : Int) : Ob := if 0 ≤ off ∧ off ≤ s.size then ftO (frmO s off.toNat) else ⟨0, ⟨#[]⟩⟩
def rdE (s : ByteArray) (off : Int) : Int := if 0 ≤ off ∧ off ≤ s.size then ftE (frmO s off.toNat) else 1
theorem ret_oe {o : Ob} {k : Int} {p : ByteArray} {e e' : Int} (h : (o.k.toNat : Int) = k ∧ o.p = p ∧ e' = e) :
    Ending.returned (.tuple #[.agg #[.int .u8 k, .string p], .int .i64 e]) = .returned (.tuple #[.agg #[.int .u8 (o.k.toNat : Int), .string o.p], .int .i64 e']) := by
  obtain ⟨h1, h2, h3⟩ := h
  rw [h1, h2, h3]
theorem ftO_size (s : ByteArray) : (ftO s).p.size ≤ 2097152 := by
  unfold ftO
  split
  · rename_i h; exact (at_fits h).2.2
  · exact Nat.zero_le _
theorem str_some {x : ByteArray} (h : x ≠ ⟨#[]⟩) : x.toList.isEmpty = false := by
  rw [Lib.toList_data]
  cases hd : x.data.toList with
  | nil => exact absurd (bl_inj (show bl x = bl ⟨#[]⟩ from hd)) h
  | cons a r => rfl
/-- What One tells. -/
def onO (s : ByteArray) : Ob := if atB s = true ∧ ufR s = ⟨#[]⟩ then atO s else ⟨0, ⟨#[]⟩⟩
def onE (s : ByteArray) : Int := if atB s = true ∧ ufR s = ⟨#[]⟩ then 0 else 4
end Go.Proofs.YtpfknjnigcefgaaGreatDoor
/- strings.Builder: Len. -/
namespace Go.Proofs.YtpfknjnigcefgaaGreatDoor
open Go.RowKit
set_option linter.unusedSimpArgs false
set_option linter.unusedVariables false
end Go.Proofs.YtpfknjnigcefgaaGreatDoor
/- pack.Build. -/
namespace Go.Proofs.YtpfknjnigcefgaaGreatDoor
open Go.RowKit
set_option linter.unusedSimpArgs false
set_option linter.unusedVariables false
/-- Objects of a slice. -/
def ObL (w : World) (a : Option Addr) (l : List Ob) : Prop :=
  ∀ i o, l[i]? = some o → ∃ g z, a = some ⟨g, z, none⟩ ∧ g < w.heap.size ∧ w.cell? ⟨g, z + i * 2, none⟩ = some (.int .u8 (o.k.toNat : Int)) ∧ w.cell? ⟨g, z + i * 2 + 1, none⟩ = some (.string o.p) ∧ o.p.size ≤ 140737488351232
theorem ObL.below {w w' : World} {a : Option Addr} {l : List Ob} (h : ObL w a l) (hb : Below w.heap.size w w') : ObL w' a l := fun i x hx => by
  obtain ⟨g, o, h1, h2, h3, h4, h5⟩ := h i x hx
  exact ⟨g, o, h1, Nat.lt_of_lt_of_le h2 hb.size, by rw [hb.cell (p := ⟨g, o + i * 2, none⟩) h2]; exact h3, by rw [hb.cell (p := ⟨g, o + i * 2 + 1, none⟩) h2]; exact h4, h5⟩
/-- A pack under way. -/
structure BdS (w0 : World) (m : Nat) (d : List Ob) (w : World) : Prop where
  bld : Bld w0.heap.size w0.heap.size (mk4 ++ recL d) w
  st : St (fun v => v = .agg #[]) w m (d.map nmO)
  mlb : w0.heap.size < m
  bel : Below w0.heap.size w0 w
theorem BdS.keep {w0 w w' : World} {m : Nat} {d : List Ob} (h : BdS w0 m d w) (hb : Below w.heap.size w w') : BdS w0 m d w' :=
  ⟨bld_keep11 h.bld hb, h.st.below hb, h.mlb, h.bel.trans (hb.mono h.bel.size)⟩
theorem blw_drewN {B : Nat} {w w' : World} (h : Below B w w') : ∀ n, Below B w (w'.drewN n)
  | 0 => h
  | n + 1 => (blw_drewN h n).drew
theorem below_none {w w' : World} (h : w.grownBy w' none) : Below w.heap.size w w' := ⟨h.os, h.tape, h.output, h.size, fun k hk => h.block k hk (by simp)⟩
theorem onL_nm (d : List Ob) (x : ByteArray) : onL (d.map nmO) x = hasN d x := by rw [onL, hasN, List.any_map]; rfl
theorem bdE_step (l : List Ob) (k : Nat) (o : Ob) (hk : l[k]? = some o) : bdE (l.take k) (l.drop k) = (if okO o = false ∨ k = 65536 ∨ 67108864 < 4 + lenL (l.take k) + 9 + o.p.size + (trl (k + 1)).size then 1 else if hasN (l.take k) (nmO o) = true then 7 else bdE (l.take (k + 1)) (l.drop (k + 1))) := by
  have hlt : k < l.length := (List.getElem?_eq_some_iff.1 hk).1
  rw [List.drop_eq_getElem_cons hlt, bdE]
  have e : l[k] = o := by rw [List.getElem?_eq_getElem hlt] at hk; exact Option.some.inj hk
  have hl : (l.take k).length = k := by rw [List.length_take]; omega
  rw [e, hl, List.take_add_one, hk, Option.toList_some]
theorem GdP.step {l : List Ob} {k : Nat} {o : Ob} (h : GdP (l.take k)) (hk : l[k]? = some o) (h1 : ¬ (okO o = false ∨ k = 65536 ∨ 67108864 < 4 + lenL (l.take k) + 9 + o.p.size + (trl (k + 1)).size)) (h2 : hasN (l.take k) (nmO o) = false) : GdP (l.take (k + 1)) := by
  have hlt : k < l.length := (List.getElem?_eq_some_iff.1 hk).1
  have hl : (l.take k).length = k := by rw [List.length_take]; omega
  rw [List.take_add_one, hk, Option.toList_some]
  refine bdE_ok [o] (l.take k) h ?_
  rw [bdE, hl, if_neg h1, if_neg (by rw [h2]; simp)]; rfl
theorem ret_se11 {a b : ByteArray} {e e' : Int} (h : b = a ∧ e' = e) : Ending.returned (.tuple #[.string a, .int .i64 e]) = .returned (.tuple #[.string b, .int .i64 e']) := by rw [h.1, h.2]
theorem recL_snoc (d : List Ob) (o : Ob) : recL (d ++ [o]) = recL d ++ bl (recO o) := by rw [recL_append]; simp [recL]
theorem BdS.look {w0 w : World} {m : Nat} {d : List Ob} (h : BdS w0 m d w) (x : ByteArray) (hx : x.size = 32) : (Instr.lookup 57 (.map (some m)) (.agg (idc x)) true).run Tryz.prog w = .ok (.tuple #[.agg #[], .bool (hasN d x)]) w := by
  obtain ⟨v, h1, rfl⟩ := h.st.look Tryz.underlying57 (zero_unit _) rfl x hx
  rw [onL_nm] at h1
  exact h1
theorem BdS.put {w0 w : World} {m : Nat} {d : List Ob} (h : BdS w0 m d w) (hn : d.length < 1048576) (x : ByteArray) (hx : x.size = 32) :
    ∃ w', (Instr.mapUpdate 57 (.map (some m)) (.agg (idc x)) (.agg #[])).run Tryz.prog w = .ok () w' ∧ Bld w0.heap.size w0.heap.size (mk4 ++ recL d) w' ∧ St (fun v => v = .agg #[]) w' m (d.map nmO ++ [x]) ∧ Below w0.heap.size w0 w' ∧ (∀ b C T, Bk w b C T → Bk w' b C T) := by
  obtain ⟨w', h1, h2, h3⟩ := h.st.put Tryz.underlying57 (by rw [List.length_map]; exact hn) x hx (.agg #[]) rfl
  obtain ⟨es, c, hm⟩ := h.st.isMap
  refine ⟨w', h1, bld_apart h.bld h3 (fun C T F hc => ?_), h2, below_own h.bel h.bel.size h3 (Nat.le_of_lt h.mlb), fun b C T hb => hb.grown h3 (fun q => ?_)⟩
  · rw [hm] at hc; cases hc
  · injection q with q
    subst q
    have hb' : w.heap[m]? = some (.cells C T (0, 0)) := hb
    rw [hm] at hb'; cases hb'
theorem bd_mid {w0 w6 : World} {m q r : Nat} {d : List Ob} {x p : ByteArray} {k : UInt8} (h : BdS w0 m d w6) (hn : d.length < 1048576) (hx : x.size = 32) (ho : Bk w6 q #[.int .u8 (k.toNat : Int), .string p] 157) (hk : Bk w6 r (idc x) 23) :
    ∃ w8, (Instr.mapUpdate 57 (.map (some m)) (.agg (idc x)) (.agg #[])).run Tryz.prog (w6.alloc (.cells #[] 59)) = .ok () w8 ∧ w8.cell? ⟨q, 0, none⟩ = some (.int .u8 (k.toNat : Int)) ∧ w8.cell? ⟨q, 1, none⟩ = some (.string p) ∧
      (w8.alloc (.cells #[.int .u8 (k.toNat : Int)] 5)).cell? ⟨q, 1, none⟩ = some (.string p) ∧ (convert 82 9 (.slice (some ⟨w8.heap.size, 0, none⟩) 1 1)).run Tryz.prog (w8.alloc (.cells #[.int .u8 (k.toNat : Int)] 5)) = .ok (.string (strOfNums [(k.toNat : Int)])) (w8.alloc (.cells #[.int .u8 (k.toNat : Int)] 5)) ∧
      q < w8.heap.size ∧ Hid (Bk (w6.alloc (.cells #[] 59)) r (idc x) 23) ∧ Hid (Bld w0.heap.size w0.heap.size (mk4 ++ recL d) w8 ∧ St (fun v => v = .agg #[]) w8 m (d.map nmO ++ [x]) ∧ Below w0.heap.size w0 w8) := by
  have h7 : BdS w0 m d (w6.alloc (.cells #[] 59)) := h.keep ((Below.refl _ _).alloc (Nat.le_refl _) _)
  obtain ⟨w8, hput, hbl8, hst8, hbel8, hkk8⟩ := h7.put hn x hx
  have ho8 : Bk w8 q #[.int .u8 (k.toNat : Int), .string p] 157 := hkk8 _ _ _ (ho.alloc _)
  exact ⟨w8, hput, by rw [ho8.cell]; rfl, by rw [ho8.cell]; rfl, by rw [(ho8.alloc _).cell]; rfl, conv_any _ _ _ (World.cell?_alloc_new _ _ _ _), ho8.lt, hk.alloc _, hbl8, hst8, hbel8⟩
/-- The record of one more is written. -/
theorem bd_write {w0 w : World} {m : Nat} {d : List Ob} {o : Ob} (hb : Bld w0.heap.size w0.heap.size (mk4 ++ recL d) w) (hs : St (fun v => v = .agg #[]) w m (d.map nmO ++ [nmO o])) (hB : Below w0.heap.size w0 w) (hm : w0.heap.size < m) (hz : 4 + lenL d + (9 + o.p.size) ≤ 140737488355328) :
    Calls Tryz.prog 63 #[.pointer (some ⟨w0.heap.size, 0, none⟩), .string (recO o)] w fun e w' => e = .returned (.tuple #[.int .i64 (recO o).size, .nilIface]) ∧ BdS w0 m (d ++ [o]) w' := by
  refine (writeS w0.heap.size w0.heap.size _ (recO o) w hb (by rw [List.length_append, recL_length, recO_size, mk4_length]; exact hz) hB.size).mono ?_
  rintro e w' ⟨rfl, h1, h2, h3⟩
  refine ⟨rfl, ?_, ?_, hm, hB.trans h2⟩
  · rw [recL_snoc, ← List.append_assoc]; exact h1
  · obtain ⟨es, c, hm'⟩ := hs.isMap
    rw [List.map_append]
    exact hs.keep ((h3 m _ hm' (by simp; omega) (by simp)).trans hm'.symm)
end Go.Proofs.YtpfknjnigcefgaaGreatDoor
/- The law's own: a list of objects copied, with a mark behind it. -/
namespace Go.Proofs.YtpfknjnigcefgaaGreatDoor
open Go.RowKit
set_option linter.unusedSimpArgs false
set_option linter.unusedVariables false
/-- Objects as cells. -/
def obv (l : List Ob) : List Value := l.flatMap fun o => [Value.int .u8 (o.k.toNat : Int), Value.string o.p]
theorem obv_snoc (l : List Ob) (o : Ob) : obv (l ++ [o]) = obv l ++ [Value.int .u8 (o.k.toNat : Int), Value.string o.p] := by simp [obv]
theorem inf_obj : (Tryz.prog.info? 157).map (fun i => (i.zero, i.size, i.bytes)) = some (some (.agg #[.int .u8 0, .string ⟨#[]⟩]), 2, 24) := by kernel_rfl
theorem one_two_o (k : Int) (p : ByteArray) : ∀ u ∈ [Value.int .u8 k, Value.string p], u.oneCell' = true := by
  intro u hu
  simp only [List.mem_cons, List.not_mem_nil, or_false] at hu
  rcases hu with rfl | rfl <;> rfl
/-- The mark. -/
def mkO : Ob := ⟨77, ⟨#[]⟩⟩
structure OwS (w0 : World) (l : List Ob) (v : Value) (w : World) : Prop where
  ow : w.ownsRow w0.heap.size 157 2 v l.length (obv l)
  bel : Below w0.heap.size w0 w
theorem OwS.drew {w0 w : World} {l : List Ob} {v : Value} (h : OwS w0 l v w) : OwS w0 l v w.drew := ⟨h.ow, h.bel.drew⟩
end Go.Proofs.YtpfknjnigcefgaaGreatDoor
/- What is told of a pack that was built; lists of entries read; the law's awake. -/
namespace Go.Proofs.YtpfknjnigcefgaaGreatDoor
open Go.RowKit
set_option linter.unusedSimpArgs false
set_option linter.unusedVariables false
theorem buS_size {l : List Ob} (h : buE l = 0) : (buS l).size = 4 + lenL l + (trl l.length).size := by
  rw [← bl_length, buS_ok h, List.length_append, List.length_append, recL_length, mk4_length, bl_length]
theorem pmB_bu {s : ByteArray} {t : List UInt8} (h : bl s = mk4 ++ t) : pmB s = true := by
  have h4 : 4 ≤ s.size := by rw [← bl_length, h, List.length_append, mk4_length]; omega
  have : (bl s).take 4 = mk4 := by rw [h]; rfl
  simp [pmB, h4, this]
/-- A pack that was built is one. -/
theorem pkO_bu {l : List Ob} (h : buE l = 0) : PkO (buS l) (ens 4 l) := by
  have g := buE_ok h
  obtain ⟨h1, h2⟩ := stk_all (tk := tkS) g (buS_ok h) (fun i o hi => g.tkS i o hi)
  refine ⟨by rw [buS_size h]; exact g.sz, pmB_bu (t := recL l ++ bl (trl l.length)) (by rw [buS_ok h, List.append_assoc]), _, h1, ?_⟩
  rw [ens_length]; exact h2
theorem PkO.one {s : ByteArray} {l m : List Ent} (h : PkO s l) (h' : PkO s m) : l = m := by
  obtain ⟨_, _, a, h1, _⟩ := h
  obtain ⟨_, _, b, h2, _⟩ := h'
  exact (h1.one h2).2
theorem scA_bu {l : List Ob} {m : List Ent} {er : Int} (h : buE l = 0) (hs : ScA (buS l) m er) : er = 0 ∧ m = ens 4 l := by
  rcases hs with ⟨h1, h2⟩ | ⟨_, _, h3⟩
  · exact ⟨h1, h2.one (pkO_bu h)⟩
  · exact absurd (pkO_bu h) (h3 _)
/-- Where an object stands it is read. -/
theorem rd_bu {l : List Ob} (h : buE l = 0) (i : Nat) (o : Ob) (hi : l[i]? = some o) : atB (frmO (buS l) (4 + lenL (l.take i))) = true ∧ atO (frmO (buS l) (4 + lenL (l.take i))) = o := by
  have g := buE_ok h
  have hlt : i < l.length := (List.getElem?_eq_some_iff.1 hi).1
  have hsp : l = l.take i ++ o :: l.drop (i + 1) := by
    conv => lhs; rw [← List.take_append_drop i l, List.drop_eq_getElem_cons hlt]
    rw [List.getElem?_eq_getElem hlt] at hi
    injection hi with hi
    rw [hi]
  obtain ⟨h1, h2, _⟩ := at_place (s := buS l) (d := l.take i) (m := l.drop (i + 1)) (o := o) (t := bl (trl l.length)) (by rw [← hsp, buS_ok h, List.append_assoc]) (g.ok o (List.mem_of_getElem? hi))
  exact ⟨h1, h2⟩
/-- Entries of a slice. -/
def EnL (w : World) (a : Option Addr) (l : List Ent) : Prop :=
  ∀ i e, l[i]? = some e → ∃ g z C, a = some ⟨g, z, none⟩ ∧ Bk w g C 34 ∧ ∀ j x, (enC e)[j]? = some x → C[z + i * 35 + j]? = some x
theorem EnL.below {w w' : World} {a : Option Addr} {l : List Ent} (h : EnL w a l) (hb : Below w.heap.size w w') : EnL w' a l := fun i e he => by
  obtain ⟨g, z, C, h1, h2, h3⟩ := h i e he
  exact ⟨g, z, C, h1, h2.below hb h2.lt, h3⟩
theorem env_get : ∀ (l : List Ent) (i : Nat) (e : Ent), (∀ x ∈ l, x.id.size = 32) → l[i]? = some e → ∀ j x, (enC e)[j]? = some x → (env l)[i * 35 + j]? = some x
  | [], _, _, _, h, _, _, _ => by simp at h
  | a :: l, 0, e, ha, h, j, x, hj => by
    simp at h
    subst h
    have hlt : j < (enC a).toList.length := by rw [Array.length_toList]; exact (Array.getElem?_eq_some_iff.1 hj).1
    rw [env, List.flatMap_cons, Nat.zero_mul, Nat.zero_add, List.getElem?_append_left hlt, Array.getElem?_toList]
    exact hj
  | a :: l, i + 1, e, ha, h, j, x, hj => by
    have h35 : (enC a).toList.length = 35 := by rw [Array.length_toList, enC_size a (ha a (by simp))]
    rw [env, List.flatMap_cons, List.getElem?_append_right (by omega), h35, show (i + 1) * 35 + j - 35 = i * 35 + j from by omega]
    exact env_get l i e (fun x hx => ha x (by simp [hx])) (by simpa using h) j x hj
theorem row_enl {w : World} {B n : Nat} {v : Value} {l : List Ent} (h : w.ownsRow B 34 35 v n (env l)) (hn : l.length = n) (hi : ∀ x ∈ l, x.id.size = 32) : ∃ a c, v = .slice a n c ∧ EnL w a l := by
  rcases h.2 with ⟨rfl, h0⟩ | ⟨g, cap, cur, rfl, hle, hg, hnc, _, hc, ht⟩
  · subst h0
    have : l = [] := List.eq_nil_of_length_eq_zero hn
    subst this
    exact ⟨none, 0, rfl, fun i x hx => by simp at hx⟩
  · refine ⟨some ⟨g, 0, none⟩, cap, rfl, fun i e he => ⟨g, 0, cur, rfl, hg, fun j x hj => ?_⟩⟩
    have hil : i < l.length := (List.getElem?_eq_some_iff.1 he).1
    have hjl : j < 35 := by rw [← enC_size e (hi e (List.mem_of_getElem? he))]; exact (Array.getElem?_eq_some_iff.1 hj).1
    have q := env_get l i e hi he j x hj
    rw [← ht, List.getElem?_take, if_pos (by omega), Array.getElem?_toList] at q
    rw [Nat.zero_add]; exact q
theorem ens_ids : ∀ (l : List Ob) (a : Nat), ∀ x ∈ ens a l, x.id.size = 32
  | [], _, x, h => by simp [ens] at h
  | o :: l, a, x, h => by
    rw [ens, List.mem_cons] at h
    rcases h with rfl | h
    · exact nmO_size o
    · exact ens_ids l _ x h
theorem Rn.ids {tk : List Ent → Ent → Bool} {s : ByteArray} {a : Nat} {l : List Ent} (h : Rn tk s a l) : ∀ x ∈ l, x.id.size = 32 := by
  induction h with
  | z => simp
  | st h1 h2 h3 ih =>
    intro x hx
    rcases List.mem_append.1 hx with hx | hx
    · exact ih x hx
    · rw [List.mem_singleton.1 hx]; exact nmO_size _
/-- The law's own pack of one object. -/
def awO : Ob := ⟨1, ⟨#[97, 98]⟩⟩
theorem aw_ok : buE [awO] = 0 := by
  have h1 : okO awO = true := by decide
  have h2 : (trl 1).size ≤ 19 := by rw [trl_size]; have := encS_le 1 (by decide); omega
  have h3 : awO.p.size = 2 := rfl
  rw [buE, bdE, if_neg, if_neg, bdE]
  · simp [hasN]
  · rw [h1, h3]
    rintro (h | h | h)
    · cases h
    · simp at h
    · simp only [List.length_nil, lenL, Nat.zero_add] at h
      omega
theorem aw_scan {m : List Ent} {er : Int} (h : ScA (buS [awO]) m er) : er = 0 ∧ m = [⟨nmO awO, 1, 4, 2⟩] := by
  obtain ⟨h1, h2⟩ := scA_bu aw_ok h
  exact ⟨h1, by rw [h2]; rfl⟩
theorem aw_read : rdO (buS [awO]) 4 = awO ∧ rdE (buS [awO]) 4 = 0 := by
  obtain ⟨h1, h2⟩ := rd_bu aw_ok 0 awO rfl
  have e : 4 + lenL (List.take 0 [awO]) = 4 := rfl
  rw [e] at h1 h2
  have hz : 4 ≤ (buS [awO]).size := by rw [buS_size aw_ok]; omega
  have hc : (0 : Int) ≤ 4 ∧ (4 : Int) ≤ ((buS [awO]).size : Int) := by omega
  obtain ⟨y1, _, y3⟩ := ft_yes h1
  rw [rdO, rdE, if_pos hc, if_pos hc, show (4 : Int).toNat = 4 from rfl, y1, y3, h2]
  exact ⟨rfl, rfl⟩
end Go.Proofs.YtpfknjnigcefgaaGreatDoor
/- idx.From; a pack's entries as an index's. -/
namespace Go.Proofs.YtpfknjnigcefgaaGreatDoor
open Go.RowKit
set_option linter.unusedSimpArgs false
set_option linter.unusedVariables false
/-- A pack's entry as one that may be indexed. -/
def xeO (e : Ent) : Xe := ⟨e.id, e.k, (e.off : Int), (e.sz : Int)⟩
theorem xeC_xeO (e : Ent) : xeC (xeO e) = enC e := rfl
theorem EnL.xe {w : World} {a : Option Addr} {l : List Ent} (h : EnL w a l) (hi : ∀ x ∈ l, x.id.size = 32) : XeL w a (l.map xeO) := by
  intro i e he
  rw [List.getElem?_map] at he
  obtain ⟨d, hd, rfl⟩ := Option.map_eq_some_iff.1 he
  obtain ⟨g, z, C, h1, h2, h3⟩ := h i d hd
  exact ⟨hi d (List.mem_of_getElem? hd), g, z, h1, h2.lt, fun j v hv => by rw [h2.cell]; exact h3 j v hv⟩
/-- The entries of a pack that was built. -/
def exs (l : List Ob) : List Xe := (ens 4 l).map xeO
theorem ens_mem : ∀ (l : List Ob) (a : Nat) (e : Ent), e ∈ ens a l → ∃ i o, l[i]? = some o ∧ e = enO (a + lenL (l.take i)) o
  | [], _, e, h => by simp [ens] at h
  | o :: l, a, e, h => by
    rw [ens, List.mem_cons] at h
    rcases h with rfl | h
    · exact ⟨0, o, rfl, by simp [lenL]⟩
    · obtain ⟨i, o', h1, h2⟩ := ens_mem l _ e h
      refine ⟨i + 1, o', by simpa using h1, ?_⟩
      rw [h2, List.take_succ_cons, lenL]
      congr 1
      omega
theorem ens_names : ∀ (l : List Ob) (a : Nat), (ens a l).map (·.id) = l.map nmO
  | [], _ => rfl
  | o :: l, a => by rw [ens, List.map_cons, List.map_cons, ens_names l]; rfl
theorem exs_len (l : List Ob) : (exs l).length = l.length := by rw [exs, List.length_map, ens_length]
theorem exs_ids (l : List Ob) : ∀ e ∈ exs l, e.id.size = 32 := fun e he => by
  obtain ⟨d, hd, rfl⟩ := List.mem_map.1 he
  exact ens_ids l 4 d hd
theorem exs_get {l : List Ob} {i : Nat} {o : Ob} (h : l[i]? = some o) : (exs l)[i]? = some (xeO (enO (4 + lenL (l.take i)) o)) := by
  rw [exs, List.getElem?_map, ens_get l 4 i o h]; rfl
theorem exs_gd {l : List Ob} (h : buE l = 0) : GdX (exs l) := by
  have g := buE_ok h
  refine ⟨fun e he => ?_, ?_, by rw [exs_len]; exact g.len⟩
  · obtain ⟨d, hd, rfl⟩ := List.mem_map.1 he
    obtain ⟨i, o, h1, rfl⟩ := ens_mem l 4 d hd
    have ho := g.ok o (List.mem_of_getElem? h1)
    have h2 := lenL_take_le l i
    have h3 := g.sz
    simp only [okO, decide_eq_true_eq] at ho
    rw [okX_iff]
    simp only [xeO, enO]
    omega
  · have h1 : ((exs l).map (fun e : Xe => e.id)).Nodup := by
      have e : (exs l).map (fun e : Xe => e.id) = (ens 4 l).map (·.id) := by rw [exs, List.map_map]; rfl
      rw [e, ens_names]; exact g.nd
    exact List.pairwise_map.1 h1
/-- What From tells. -/
def FmS (S : ByteArray) (e : Ending) : Prop :=
  (∃ m R, PkO S m ∧ (∀ x ∈ m, x.id.size = 32) ∧ e = .returned (.tuple #[.string R, .int .i64 (bE (m.map xeO))]) ∧ BdX (sb (sha (byl S))) (m.map xeO) R) ∨
    ((∀ m, ¬ PkO S m) ∧ e = .returned (.tuple #[.string ⟨#[]⟩, .int .i64 4]))
theorem PkO.ids {S : ByteArray} {m : List Ent} (h : PkO S m) : ∀ x ∈ m, x.id.size = 32 := by
  obtain ⟨_, _, a, hs, _⟩ := h
  exact hs.1.ids
theorem row_slX {w : World} {B n : Nat} {v : Value} {xs : List Value} {T : TypeId} (h : w.ownsRow B T 35 v n xs) : ∃ a c, v = .slice a n c ∧ (a = none ∨ ∃ g o, a = some ⟨g, o, none⟩) := by
  rcases h.2 with ⟨h1, h0⟩ | ⟨g, cap, cur, h1, _⟩
  · exact ⟨none, 0, by rw [h1, h0], .inl rfl⟩
  · exact ⟨_, _, h1, .inr ⟨g, 0, rfl⟩⟩
set_option maxHeartbeats 2000000 in
set_option maxRecDepth 100000 in
theorem from_any (S : ByteArray) (w : World) (hS : S.size ≤ 140737488355328) (hL : Lst w) :
    Calls Tryz.prog 8 #[.string S] w fun e w' => FmS S e ∧ Below w.heap.size w w' := by
  have HL : Hid (Lst w) := hL
  have HSC : Hid (Calls Tryz.prog 33 #[.string S] w fun e w' => ∃ a n c er l, e = .returned (.tuple #[.slice a n c, .int .i64 er]) ∧ ScA S l er ∧ (er = 0 → XeL w' a (l.map xeO) ∧ l.length = n ∧ (a = none ∨ ∃ g o, a = some ⟨g, o, none⟩) ∧ n ≤ 65536) ∧ Below w.heap.size w w') := by
    refine (scan_any S w hS hL).mono ?_
    rintro e w' ⟨l, v, er, h1, h2, h3, h4⟩
    obtain ⟨a, c, rfl, hA⟩ := row_slX h3
    refine ⟨a, l.length, c, er, l, h1, h2, fun h0 => ?_, h4⟩
    rcases h2 with ⟨_, hp⟩ | ⟨q, _⟩
    · obtain ⟨a', c', hv, hE⟩ := row_enl h3 rfl hp.ids
      injection hv with hv _ _
      subst hv
      obtain ⟨_, _, z, hs, _⟩ := hp
      exact ⟨hE.xe hs.1.ids, rfl, hA, Rn.few hs.1 (fun l e h1 h2 => by simp [tkS] at h2; omega)⟩
    · omega
  have HSM : Hid (∀ W, Lst W → Calls Tryz.prog 34 #[.string S] W fun e w' => e = .returned (.agg (idc (sb (sha (byl S))))) ∧ Below W.heap.size W w') := fun W hW => sum_id S W hW (by omega)
  obtain ⟨X, hX⟩ : ∃ X, sb (sha (byl S)) = X := ⟨_, rfl⟩
  have HX : Hid (sb (sha (byl S)) = X) := hX
  have HX32 : Hid (X.size = 32) := by rw [← hX]; exact sha_size _
  rw [hX] at HSM
  clear hL hX
  go_enter Tryz.func8, Tryz.ntmps8
  go_wp2_with fail
  refine HSC.out.mono ?_
  rintro e w1 ⟨a, n, c, er, l, rfl, hSA, hXL, hb1⟩
  have HB1 : Hid (Below w.heap.size w w1) := hb1
  rcases hSA with ⟨rfl, hp⟩ | ⟨rfl, rfl, hno⟩
  · obtain ⟨h1, h2, h3, h4⟩ := hXL rfl
    have HP : Hid (PkO S l) := hp
    have HBD : Hid (∀ W, Below w1.heap.size w1 W → Calls Tryz.prog 6 #[.agg (idc X), .slice a n c] W fun e w' => ∃ R, e = .returned (.tuple #[.string R, .int .i64 (bE (l.map xeO))]) ∧ BdX X (l.map xeO) R ∧ Below W.heap.size W w') := fun W hW =>
      ibuild_any sort_none X (l.map xeO) a n c W HX32.out (h1.below hW) (by rw [List.length_map]; exact h2) h3 (by omega)
    clear h1 h2 h3 hp hXL hb1
    go_wp2_with (first
      | (go_at_call 34; refine (HSM.out _ (HL.out.below HB1.out)).mono ?_; rintro e w2 ⟨rfl, hb2⟩; have HB2 : Hid (Below w1.heap.size w1 w2) := hb2; clear hb2)
      | (go_at_call 6; refine (HBD.out w2 HB2.out).mono ?_; rintro e w3 ⟨R, rfl, hR, hb3⟩; have HR : Hid (BdX X (l.map xeO) R ∧ Below w2.heap.size w2 w3) := ⟨hR, hb3⟩; clear hR hb3)
      | fail)
    go_ret2
    refine ⟨.inl ⟨l, R, HP.out, HP.out.ids, rfl, by rw [HX.out]; exact HR.out.1⟩, ?_⟩
    have q := HB1.out.trans (HB2.out.mono HB1.out.size)
    exact q.trans (HR.out.2.mono q.size)
  · have HN : Hid (∀ m, ¬ PkO S m) := hno
    clear hno hXL hb1
    go_wp2
    go_ret2
    exact ⟨.inr ⟨HN.out, rfl⟩, HB1.out⟩
end Go.Proofs.YtpfknjnigcefgaaGreatDoor
