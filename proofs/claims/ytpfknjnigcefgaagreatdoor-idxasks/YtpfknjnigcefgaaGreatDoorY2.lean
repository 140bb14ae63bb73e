import Derived.Test.YtpfknjnigcefgaaGreatDoorY1
import Derived.Deep.WholeRow
import Derived.Laws.ResultCell
import Derived.Laws.CopyOwn
import Derived.Maps.AppendAt
import Derived.Deep.QuietTactic
import Derived.BigQuiet
import Derived.Deep.MidRow
import Derived.Lib.SmallJoins
import Derived.Lib.BufferOwn
import Derived.Lib.HexFns2
import Derived.BigRegion
import Derived.Maps.Range
/- Names in memory: a name's 32 cells. -/
namespace Go.Proofs.YtpfknjnigcefgaaGreatDoor
open Go.RowKit
set_option linter.unusedSimpArgs false
set_option linter.unusedVariables false
theorem sizeOf_u8' (w : World) : (sizeOf 5).run Tryz.prog w = .ok 1 w := by
  have h : (Tryz.prog.info? 5).map (·.size) = some 1 := by kernel_rfl
  cases hq : Tryz.prog.info? 5 with
  | none => simp [hq] at h
  | some i => simp [hq] at h; simp [sizeOf, typeInfo, hq, h]
/-- Bytes as cells. -/
def bvc (m : List Nat) : List Value := m.map fun x : Nat => Value.int .u8 (x : Int)
theorem Blk.grown {w w' : World} {b : Nat} {C : Array Value} {T : TypeId} {r : Option Nat} (h : Blk w b C T) (hg : w.grownBy w' r) (hr : r ≠ some b) : Blk w' b C T := by
  have hlt : b < w.heap.size := by
    by_cases e : b < w.heap.size
    · exact e
    · unfold Blk at h; rw [Array.getElem?_eq_none (by omega)] at h; cases h
  unfold Blk
  rw [hg.block b hlt (fun e => hr e.symm)]
  exact h
theorem Blk.lt {w : World} {b : Nat} {C : Array Value} {T : TypeId} (h : Blk w b C T) : b < w.heap.size := by
  by_cases e : b < w.heap.size
  · exact e
  · unfold Blk at h; rw [Array.getElem?_eq_none (by omega)] at h; cases h
theorem bvc_one (l : List Nat) : ∀ v ∈ bvc l, v.oneCell' = true := by
  intro v hv
  simp only [bvc, List.mem_map] at hv
  obtain ⟨x, _, rfl⟩ := hv
  rfl
/-- 32 noughts, as cells. -/
def z32c : Array Value := (bvc (List.replicate 32 0)).toArray
theorem z32c_size : z32c.size = 32 := by simp [z32c, bvc]
theorem info_id : (Tryz.prog.info? 23).map (·.size) = some 32 := by kernel_rfl
/-- A name's cells, of its 32 bytes. -/
def idc (s : ByteArray) : Array Value := (bvc (byl s)).toArray
theorem idc_size (s : ByteArray) : (idc s).size = s.size := by simp [idc, bvc, byl_length]
theorem byl_getD (s : ByteArray) (i : Nat) (h : i < s.size) : (byl s)[i]? = some (s[i].toNat) := by
  simp only [byl, List.getElem?_map]
  rw [List.getElem?_eq_getElem (by simpa using h)]
  rfl
theorem idc_get (s : ByteArray) (i : Nat) (h : i < s.size) : (idc s)[i]? = some (.int .u8 (s[i].toNat : Int)) := by
  rw [idc, List.getElem?_toArray, bvc, List.getElem?_map, byl_getD s i h]; rfl
theorem slice32 (g : Nat) (w : World) : (Instr.sliceAt 23 (.pointer (some ⟨g, 0, none⟩)) none none none).run Tryz.prog w = .ok (.slice (some ⟨g, 0, none⟩) 32 32) w := by
  have e1 : Tryz.prog.elem 23 = 5 := by kernel_rfl
  have e2 : Tryz.prog.arrayLen 23 = 32 := by kernel_rfl
  have e0 : Tryz.prog.underlying 23 = some (.array (Tryz.prog.arrayLen 23) (Tryz.prog.elem 23)) := by kernel_rfl
  rw [run_sliceAt_array_all (P := Tryz.prog) w 23 ⟨g, 0, none⟩ e0]
  rw [e1, e2, sizeOf_u8']
  simp [slicedAt, Result.andThen, Addr.add]
theorem conv32 (s : ByteArray) (g : Nat) (T : TypeId) (w : World) (hs : s.size = 32) (hB : Blk w g (idc s) T) :
    (convert 82 9 (.slice (some ⟨g, 0, none⟩) 32 32)).run Tryz.prog w = .ok (.string s) w := by
  have h := run_convert_bytes_arg w 82 5 Tryz.underlying82 Tryz.underlying5 g 0 32 32 ((byl s).map Int.ofNat) (by simp [byl_length, hs]) (fun i hi => by
    rw [Nat.zero_add, hB.cell, idc_get s i (by omega), List.getD, List.getElem?_map, byl_getD s i (by omega)]; rfl) 9 Tryz.underlying9
  rw [sb_nums, sb_byl] at h
  exact h
theorem info_32 {C : Array Value} (h : C.size = 32) : (Tryz.prog.info? 23).map (·.size) = some C.size := by rw [h]; exact info_id
theorem z32c_one : z32c.all (·.oneCell') = true := Array.all_eq_true_iff_forall_mem.2 (by intro v hv; exact bvc_one _ v (by simpa [z32c] using hv))
theorem zero_id : ∀ w, (zeroValue 23).run Tryz.prog w = .ok (.agg z32c) w :=
  (zero_of_info (n := 32) (by kernel_rfl)).1
/-- Cells laid over others from a place on. -/
def putA (C : Array Value) (o : Nat) : List Value → Array Value
  | [] => C
  | v :: r => putA (C.setIfInBounds o v) (o + 1) r
theorem Blk.puts {b : Nat} {T : TypeId} : ∀ (vs : List Value) (o : Nat) (C : Array Value) (w : World), Blk w b C T → Blk (w.setCells b o vs) b (putA C o vs) T
  | [], _, _, _, h => h
  | v :: r, o, C, w, h => by
    rw [World.setCells, putA]
    exact Blk.puts r (o + 1) _ _ (h.set o v)
theorem putA_get : ∀ (vs : List Value) (o : Nat) (C : Array Value) (i : Nat), o + vs.length ≤ C.size → (putA C o vs)[i]? = if o ≤ i ∧ i < o + vs.length then vs[i - o]? else C[i]?
  | [], o, C, i, _ => by rw [putA, if_neg (by simp)]
  | v :: r, o, C, i, h => by
    simp only [List.length_cons] at h
    rw [putA, putA_get r (o + 1) _ i (by rw [Array.size_setIfInBounds]; omega), Array.getElem?_setIfInBounds]
    by_cases e : o = i
    · subst e
      rw [if_neg (by omega), if_pos rfl, if_pos (by omega), if_pos (by simp), Nat.sub_self]; rfl
    · by_cases e2 : o + 1 ≤ i ∧ i < o + 1 + r.length
      · rw [if_pos e2, if_pos (by simp; omega)]
        rw [show i - o = (i - (o + 1)) + 1 from by omega, List.getElem?_cons_succ]
      · rw [if_neg e2, if_neg e, if_neg (by simp; omega)]
theorem putA_size : ∀ (vs : List Value) (o : Nat) (C : Array Value), (putA C o vs).size = C.size
  | [], _, _ => rfl
  | v :: r, o, C => by rw [putA, putA_size r, Array.size_setIfInBounds]
theorem putA_one : ∀ (vs : List Value) (o : Nat) (C : Array Value), (∀ v ∈ vs, v.oneCell' = true) → (∀ v ∈ C, v.oneCell' = true) → ∀ v ∈ putA C o vs, v.oneCell' = true
  | [], _, _, _, h => h
  | u :: r, o, C, h1, h2 => by
    rw [putA]
    refine putA_one r (o + 1) _ (fun v hv => h1 v (List.mem_cons_of_mem _ hv)) (fun v hv => ?_)
    rcases Array.mem_or_eq_of_mem_setIfInBounds hv with h | h
    · exact h2 v h
    · rw [h]; exact h1 u (List.mem_cons_self ..)
theorem copy_str (w : World) (dT sT ty elem : TypeId) (b o dLen dCap : Nat) (s : ByteArray) {P : Program}
    (hu : P.underlying dT = some (.slice elem)) (hs : (P.info? elem).map (·.size) = some 1)
    (hc : ∀ j, j < Nat.min s.size dLen → (w.cell? ⟨b, o + j, none⟩).isSome = true) (hf : ∀ j, j < Nat.min s.size dLen → w.frozen? ⟨b, o + j, none⟩ = false) :
    (Builtin.copy_ #[dT, sT] ty #[.slice (some ⟨b, o, none⟩) dLen dCap, .string s]).run P w = .ok (goInt (Nat.min s.size dLen)) (w.setCells b o (bvc ((byl s).take (Nat.min s.size dLen)))) := by
  have e : ((s.extract 0 (Nat.min s.size dLen)).data.map fun b => Value.int .u8 (b.toNat : Int)).toList = bvc ((byl s).take (Nat.min s.size dLen)) := by
    rw [ByteArray.data_extract, Array.toList_map, Array.toList_extract, List.extract_eq_take_drop, List.drop_zero, Nat.sub_zero, bvc, byl, ← List.map_take, List.map_map]
    rfl
  have hl : (bvc ((byl s).take (Nat.min s.size dLen))).length = Nat.min s.size dLen := by
    simp only [bvc, List.length_map, List.length_take, byl_length]
    exact Nat.min_eq_left (Nat.min_le_left _ _)
  have hst := run_storeCells_cells (P := P) b o (bvc ((byl s).take (Nat.min s.size dLen))) 0 w (by rw [hl]; simpa using hc) (by rw [hl]; simpa using hf) (by intro v hv; simp only [bvc, List.mem_map] at hv; obtain ⟨x, _, rfl⟩ := hv; rfl)
  cases hq : P.info? elem with
  | none => simp [hq] at hs
  | some i =>
    have hi : i.size = 1 := by simpa [hq] using hs
    simp only [Nat.add_zero] at hst
    simp [Builtin.copy_, run_underlying hu, Builtin.lenOf, Builtin.firstCells, sizeOf, typeInfo, hq, hi]
    have e2 : List.take (s.size.min dLen) (List.map (fun b => Value.int IntKind.u8 (b.toNat : Int)) s.data.toList) = bvc ((byl s).take (Nat.min s.size dLen)) := by
      rw [bvc, byl, ← List.map_take, ← List.map_take, List.map_map]; rfl
    rw [e2, hst]
    rfl
theorem grown_puts (b : Nat) : ∀ (vs : List Value) (o : Nat) {a w : World}, a.grownBy w (some b) → a.grownBy (w.setCells b o vs) (some b)
  | [], _, _, _, h => h
  | v :: r, o, a, w, h => by rw [World.setCells]; exact grown_puts b r (o + 1) (Lib.grownBy_setB h o v)
theorem wpList_store_new {P : Program} {ops : Array Oper} {rest : List Oper} {o : Oper} {a : Act} {w : World} {Q : Exit → Act → World → Prop} (hgd : o.guard = none) (ty : TypeId) (x y : Operand) (ho : o.op = .store ty x y)
    (cells old : Array Value) (t : TypeId) (H : Nat) (hH : w.heap.size = H) (hx : a.eval x = .pointer (some ⟨H, 0, none⟩)) (hy : a.eval y = .agg cells)
    (hi : (P.info? ty).map (·.size) = some cells.size) (hold : old.size = cells.size) (h1 : cells.all (·.oneCell') = true)
    (h : wpList P ops Q rest (a.put o.dst undef) (w.alloc (.cells cells t))) : wpList P ops Q (o :: rest) a (w.alloc (.cells old t)) :=
  wpList_store_row hgd ty x y ho w.heap.size cells (by rw [hH]; exact hx) hy t old (blk_new _ _) hi hold h1 (by rw [World.setRow_alloc_new]; exact h)
theorem results_cell_tmp_row {P : Program} {fn : Func} {p u : Tmp} {ty : TypeId} (h : fn.results = #[.cell p ty, .tmp u]) (tmps : Array Value) (w : World) (g : Nat) (t : TypeId) (cs : Array Value) (fr : Nat × Nat) (d : TypeDesc)
    (hp : tmps.getD p undef = .pointer (some ⟨g, 0, none⟩)) (hg : w.heap[g]? = some (.cells cs t fr))
    (hu : P.underlying ty = some d) (hd : (match d with | .struct _ | .array _ _ => true | _ => false) = true) (hi : (P.info? ty).map (·.size) = some cs.size) :
    (results fn tmps).run P w = .ok (.tuple #[.agg cs, tmps.getD u undef]) w := by
  have hp' : tmps[p]?.getD undef = .pointer (some ⟨g, 0, none⟩) := by simpa using hp
  simp [results, h, hp', asAddr, run_loadVar_row w g t ty cs fr d hg hu hd hi]
end Go.Proofs.YtpfknjnigcefgaaGreatDoor
/- The turns of bits: math/bits.RotateLeft32, digest.turned, the document's turn. -/
namespace Go.Proofs.YtpfknjnigcefgaaGreatDoor
open Go.RowKit
set_option linter.unusedSimpArgs false
set_option linter.unusedVariables false
theorem rot_s (n : Nat) (h0 : 1 ≤ n) (h1 : n ≤ 31) : bits .and .u64 (IntKind.u64.wrap (-(n : Int))) 31 = ((32 - n : Nat) : Int) := by
  have : ∀ k : Fin 32, 1 ≤ k.val → bits .and .u64 (IntKind.u64.wrap (-(k.val : Int))) 31 = ((32 - k.val : Nat) : Int) := by decide +kernel
  exact this ⟨n, by omega⟩ h0
set_option maxHeartbeats 400000 in
theorem rot_any (x : BitVec 32) (n : Nat) (w : World) (h0 : 1 ≤ n) (h1 : n ≤ 31) :
    Calls Tryz.prog 149 #[.int .u32 x.toNat, .int .i64 (-(n : Int))] w fun e w' => e = .returned (.int .u32 (rr n x).toNat) ∧ w' = w := by
  have hs := rot_s n h0 h1
  have h4 : (32 : Int) - ((32 - n : Nat) : Int) = (n : Int) := by omega
  have hx := x.isLt
  go_enter Tryz.func149, Tryz.ntmps149
  go_wp2
  go_ret
  exact ⟨ret_i32 (by rw [shl_raw, shr_raw, or32, rr, BitVec.or_comm]), rfl⟩
theorem rot_int (x : BitVec 32) (k : Int) (w : World) (h0 : -31 ≤ k) (h1 : k ≤ -1) :
    Calls Tryz.prog 149 #[.int .u32 x.toNat, .int .i64 k] w fun e w' => e = .returned (.int .u32 (rr (-k).toNat x).toNat) ∧ w' = w := by
  have h := rot_any x (-k).toNat w (by omega) (by omega)
  rwa [show (-(((-k).toNat : Nat) : Int)) = k from by omega] at h
/-- Three turns, joined. -/
def rr3 (i j k : Nat) (x : BitVec 32) : BitVec 32 := rr i x ^^^ rr j x ^^^ rr k x
set_option maxHeartbeats 400000 in
theorem turned_any (x : BitVec 32) (i j k : Nat) (w : World) (hi : 1 ≤ i) (hi' : i ≤ 31) (hj : 1 ≤ j) (hj' : j ≤ 31) (hk : 1 ≤ k) (hk' : k ≤ 31) :
    Calls Tryz.prog 137 #[.int .u32 x.toNat, .int .i64 i, .int .i64 j, .int .i64 k] w fun e w' => e = .returned (.int .u32 (rr3 i j k x).toNat) ∧ w' = w := by
  go_enter Tryz.func137, Tryz.ntmps137
  go_wp2_with (go_at_call 149; refine (rot_any _ _ _ (by omega) (by omega)).mono ?_; rintro e w' ⟨rfl, rfl⟩)
  go_ret
  exact ⟨ret_i32 (by rw [xor32, xor32, rr3]), rfl⟩
theorem turnedE (x : BitVec 32) (w : World) :
    Calls Tryz.prog 137 #[.int .u32 x.toNat, .int .i64 6, .int .i64 11, .int .i64 25] w fun e w' => e = .returned (.int .u32 (bsE x).toNat) ∧ w' = w :=
  turned_any x 6 11 25 w (by omega) (by omega) (by omega) (by omega) (by omega) (by omega)
theorem turnedA (x : BitVec 32) (w : World) :
    Calls Tryz.prog 137 #[.int .u32 x.toNat, .int .i64 2, .int .i64 13, .int .i64 22] w fun e w' => e = .returned (.int .u32 (bsA x).toNat) ∧ w' = w :=
  turned_any x 2 13 22 w (by omega) (by omega) (by omega) (by omega) (by omega) (by omega)
set_option maxHeartbeats 400000 in
theorem turn_any (x : BitVec 32) (n : Nat) (w : World) (h0 : 1 ≤ n) (h1 : n ≤ 31) :
    Calls Tryz.prog 89 #[.int .u32 x.toNat, .int .i64 n] w fun e w' => e = .returned (.int .u32 (rr n x).toNat) ∧ ∃ nq, w' = w.drewN nq := by
  have hx := x.isLt
  have h4 : (32 : Int) - (n : Int) = ((32 - n : Nat) : Int) := by omega
  go_enter Tryz.func89, Tryz.ntmps89
  go_wp2
  go_quiet (fail)
  go_wp2
  go_ret
  exact ⟨ret_i32 (by rw [shl_raw, shr_raw, or32, rr]), nq, rfl⟩
end Go.Proofs.YtpfknjnigcefgaaGreatDoor
/- One round of the program: the closure in digest.State.mix. -/
namespace Go.Proofs.YtpfknjnigcefgaaGreatDoor
open Go.RowKit
set_option linter.unusedSimpArgs false
set_option linter.unusedVariables false
def v8c (v : V8) : Array Value := #[c32 v.a, c32 v.b, c32 v.c, c32 v.d, c32 v.e, c32 v.f, c32 v.g, c32 v.h]
theorem v8_set (v : V8) (x0 x1 x2 x3 x4 x5 x6 x7 : Value) :
    ((((((((v8c v).setIfInBounds 0 x0).setIfInBounds 1 x1).setIfInBounds 2 x2).setIfInBounds 3 x3).setIfInBounds 4 x4).setIfInBounds 5 x5).setIfInBounds 6 x6).setIfInBounds 7 x7 = #[x0, x1, x2, x3, x4, x5, x6, x7] := by simp [v8c]
theorem set8 {w : World} {V : Nat} {v : V8} {T : TypeId} (h : Blk w V (v8c v) T) (n : Nat) (x0 x1 x2 x3 x4 x5 x6 x7 : Value) :
    Blk (((((((((w.drewN n).setCell ⟨V, 0, none⟩ x0).setCell ⟨V, 1, none⟩ x1).setCell ⟨V, 2, none⟩ x2).setCell ⟨V, 3, none⟩ x3).setCell ⟨V, 4, none⟩ x4).setCell ⟨V, 5, none⟩ x5).setCell ⟨V, 6, none⟩ x6).setCell ⟨V, 7, none⟩ x7) V #[x0, x1, x2, x3, x4, x5, x6, x7] T := by
  rw [← v8_set v x0 x1 x2 x3 x4 x5 x6 x7]
  exact ((((((((h.drewN n).set 0 x0).set 1 x1).set 2 x2).set 3 x3).set 4 x4).set 5 x5).set 6 x6).set 7 x7
theorem grown8 {w : World} {V : Nat} (n : Nat) (x0 x1 x2 x3 x4 x5 x6 x7 : Value) :
    w.grownBy (((((((((w.drewN n).setCell ⟨V, 0, none⟩ x0).setCell ⟨V, 1, none⟩ x1).setCell ⟨V, 2, none⟩ x2).setCell ⟨V, 3, none⟩ x3).setCell ⟨V, 4, none⟩ x4).setCell ⟨V, 5, none⟩ x5).setCell ⟨V, 6, none⟩ x6).setCell ⟨V, 7, none⟩ x7) (some V) :=
  Lib.grownBy_setB (Lib.grownBy_setB (Lib.grownBy_setB (Lib.grownBy_setB (Lib.grownBy_setB (Lib.grownBy_setB (Lib.grownBy_setB (Lib.grownBy_setB (grown_drewN w n _) 0 x0) 1 x1) 2 x2) 3 x3) 4 x4) 5 x5) 6 x6) 7 x7
theorem ch_raw (e f g : BitVec 32) : bits .xor .u32 (bits .and .u32 (e.toNat : Int) (f.toNat : Int)) (bits .and .u32 (bits .xor .u32 IntKind.u32.max (e.toNat : Int)) (g.toNat : Int)) = ((chE e f g).toNat : Int) := by
  rw [max32, not32, and32, and32, xor32, chE]
theorem mj_raw (a b c : BitVec 32) : bits .xor .u32 (bits .xor .u32 (bits .and .u32 (a.toNat : Int) (b.toNat : Int)) (bits .and .u32 (a.toNat : Int) (c.toNat : Int))) (bits .and .u32 (b.toNat : Int) (c.toNat : Int)) = ((mjA a b c).toNat : Int) := by
  rw [and32, and32, and32, xor32, xor32, mjA]
theorem new_a (v : V8) (k x : BitVec 32) : (((v.h.toNat : Int) + ((bsE v.e).toNat : Int) + ((chE v.e v.f v.g).toNat : Int) + (k.toNat : Int) + (x.toNat : Int) + (((bsA v.a).toNat : Int) + ((mjA v.a v.b v.c).toNat : Int))) % 4294967296) = ((v.t1 k x + v.t2).toNat : Int) := by
  simp only [V8.t1, V8.t2, BitVec.toNat_add]
  omega
theorem new_e (v : V8) (k x : BitVec 32) : (((v.d.toNat : Int) + ((v.h.toNat : Int) + ((bsE v.e).toNat : Int) + ((chE v.e v.f v.g).toNat : Int) + (k.toNat : Int) + (x.toNat : Int))) % 4294967296) = ((v.d + v.t1 k x).toNat : Int) := by
  simp only [V8.t1, BitVec.toNat_add]
  omega
set_option maxHeartbeats 1000000 in
set_option maxRecDepth 100000 in
theorem round_any (v : V8) (k x : BitVec 32) (t V X : Nat) (T : TypeId) (w : World) (ht : t < 64) (hV : Blk w V (v8c v) T)
    (hX : w.cell? ⟨X, t, none⟩ = some (c32 x)) (hK : w.cell? ⟨2, t, none⟩ = some (c32 k)) :
    Calls Tryz.prog 136 #[.int .i64 t, .pointer (some ⟨V, 0, none⟩), .pointer (some ⟨X, 0, none⟩)] w fun e w' =>
      e = .returned (.tuple #[]) ∧ Blk w' V (v8c (v.rnd k x)) T ∧ w.grownBy w' (some V) := by
  have a0 := hV.cell 0
  have a1 := hV.cell 1
  have a2 := hV.cell 2
  have a3 := hV.cell 3
  have a4 := hV.cell 4
  have a5 := hV.cell 5
  have a6 := hV.cell 6
  have a7 := hV.cell 7
  simp [v8c] at a0 a1 a2 a3 a4 a5 a6 a7
  have HV : Hid (Blk w V (v8c v) T) := hV
  have hf := fun j => hV.frozen j
  clear hV
  go_enter Tryz.func136, Tryz.ntmps136
  go_wp2
  go_quiet (fail)
  go_wp2
  go_quiet ((go_at_call 137; exact (turnedE _ _).mono (fun _ _ h => ⟨h.1, _, h.2⟩)))
  go_wp2_with (go_at_call 137; refine (turnedA _ _).mono ?_; rintro e w' ⟨rfl, rfl⟩)
  go_end0
  refine ⟨rfl, ?_, grown8 _ _ _ _ _ _ _ _ _⟩
  rw [ch_raw, mj_raw, new_a, new_e]
  exact set8 HV.out _ _ _ _ _ _ _ _ _
end Go.Proofs.YtpfknjnigcefgaaGreatDoor
/- digest.State.spread: a block's numbers. -/
namespace Go.Proofs.YtpfknjnigcefgaaGreatDoor
open Go.RowKit
set_option linter.unusedSimpArgs false
set_option linter.unusedVariables false
/-- What lies in memory while the numbers are made: k of them are there. -/
structure Sp (w : World) (m : List Nat) (k : Nat) (C : Array Value) (wr : World) : Prop where
  blk : Blk wr (w.heap.size + 1) C 100
  res : ∃ Z : Array Value, Blk wr w.heap.size Z 100 ∧ Z.size = 64
  size : wr.heap.size = w.heap.size + 2
  grown : w.grownBy wr none
  csz : C.size = 64
  got : ∀ j, j < k → C[j]? = some (c32 ((sch m 64).getD j 0))
  all : ∀ j, j < 64 → ∃ x : BitVec 32, C[j]? = some (c32 x)
theorem slice64 (b o k : Nat) (hk : k < 16) (w : World) :
    (Instr.sliceAt 130 (.pointer (some ⟨b, o, none⟩)) (some (.int .i64 (4 * (k : Int)))) (some (.int .i64 (4 * (k : Int) + 4))) none).run Tryz.prog w = .ok (.slice (some ⟨b, o + 4 * k, none⟩) 4 (64 - 4 * k)) w := by
  have e1 : Tryz.prog.elem 130 = 5 := by kernel_rfl
  have e2 : Tryz.prog.arrayLen 130 = 64 := by kernel_rfl
  have e0 : Tryz.prog.underlying 130 = some (.array (Tryz.prog.arrayLen 130) (Tryz.prog.elem 130)) := by kernel_rfl
  rw [run_sliceAt_array_lh (P := Tryz.prog) w 130 ⟨b, o, none⟩ e0 .i64 .i64 (4 * (k : Int)) (4 * (k : Int) + 4) (by omega) (by omega) (by rw [e2]; omega)]
  rw [e1, e2, sizeOf_u8']
  simp only [slicedAt, Result.andThen, Addr.add_mid]
  rw [show (4 * (k : Int) + 4).toNat = 4 * k + 4 from by omega, show (4 * (k : Int)).toNat = 4 * k from by omega]
  have e3 : ¬ 64 = 4 * k := by omega
  simp only [Nat.mul_one, Nat.add_sub_cancel_left, e3, if_false]
theorem sh_raw (a c k : Nat) (hc : c = 2 ^ k) : (a : Int) % 4294967296 * (c : Int) % 4294967296 = ((BitVec.ofNat 32 a <<< k).toNat : Int) := by
  rw [BitVec.toNat_shiftLeft, BitVec.toNat_ofNat, Nat.shiftLeft_eq, ← hc]
  show _ = ((a % 4294967296 * c % 4294967296 : Nat) : Int)
  simp only [Int.natCast_emod, Int.natCast_mul]
  rfl
theorem lo_raw (a : Nat) : (a : Int) % 4294967296 = ((BitVec.ofNat 32 a).toNat : Int) := by
  rw [BitVec.toNat_ofNat]; simp
theorem be4_raw (a b c d : Nat) : bits .or .u32 (bits .or .u32 (bits .or .u32 ((a : Int) % 4294967296 * 16777216 % 4294967296) ((b : Int) % 4294967296 * 65536 % 4294967296)) ((c : Int) % 4294967296 * 256 % 4294967296)) ((d : Int) % 4294967296) = ((be4 a b c d).toNat : Int) := by
  have h1 := sh_raw a 16777216 24 (by decide)
  have h2 := sh_raw b 65536 16 (by decide)
  have h3 := sh_raw c 256 8 (by decide)
  rw [show ((16777216 : Nat) : Int) = 16777216 from rfl] at h1
  rw [show ((65536 : Nat) : Int) = 65536 from rfl] at h2
  rw [show ((256 : Nat) : Int) = 256 from rfl] at h3
  rw [h1, h2, h3, lo_raw, or32, or32, or32, be4]
theorem Sp.drew {w : World} {m : List Nat} {k : Nat} {C : Array Value} {wr : World} (h : Sp w m k C wr) : Sp w m k C wr.drew :=
  ⟨h.blk, h.res, h.size, Lib.Hx.grownBy_drew h.grown, h.csz, h.got, h.all⟩
theorem Sp.drewN {w : World} {m : List Nat} {k : Nat} {C : Array Value} {wr : World} (h : Sp w m k C wr) (n : Nat) : Sp w m k C (wr.drewN n) := by
  induction n with
  | zero => exact h
  | succ n ih => exact ih.drew
/-- One number more is laid. -/
theorem Sp.put {w : World} {m : List Nat} {k : Nat} {C : Array Value} {wr : World} (h : Sp w m k C wr) (hk : k < 64) (x : BitVec 32) (hx : (sch m 64).getD k 0 = x) :
    Sp w m (k + 1) (C.setIfInBounds k (c32 x)) (wr.setCell ⟨w.heap.size + 1, k, none⟩ (c32 x)) where
  blk := h.blk.set k _
  res := by
    obtain ⟨Z, h1, h2⟩ := h.res
    exact ⟨Z, by unfold Blk; rw [heap_setCell_other _ _ _ _ (by simp)]; exact h1, h2⟩
  size := by rw [World.size_setCell]; exact h.size
  grown := by
    refine h.grown.andThen (row' := some (w.heap.size + 1)) (Lib.grownBy_setCell _ _ _ _) ?_
    intro j hj; left; simp at hj; omega
  csz := by rw [Array.size_setIfInBounds]; exact h.csz
  got := fun j hj => by
    rw [Array.getElem?_setIfInBounds]
    split
    · rename_i e; subst e; rw [if_pos (by rw [h.csz]; exact hk), hx]
    · exact h.got j (by omega)
  all := fun j hj => by
    rw [Array.getElem?_setIfInBounds]
    split
    · exact ⟨x, by rw [if_pos (by rw [h.csz]; omega)]⟩
    · exact h.all j hj
theorem Sp.word {w : World} {m : List Nat} {k : Nat} {C : Array Value} {wr : World} (h : Sp w m k C wr) (j : Nat) (hj : j < k) :
    ∃ y : BitVec 32, wr.cell? ⟨w.heap.size + 1, j, none⟩ = some (c32 y) ∧ Hid (y = (sch m 64).getD j 0) := ⟨_, by rw [h.blk.cell, h.got j hj], rfl⟩
theorem Sp.one {w : World} {m : List Nat} {k : Nat} {C : Array Value} {wr : World} (h : Sp w m k C wr) : C.all (·.oneCell') = true := by
  rw [Array.all_eq_true]
  intro i hi
  obtain ⟨x, hx⟩ := h.all i (by have := h.csz; omega)
  rw [Array.getElem?_eq_getElem hi] at hx
  rw [Option.some.inj hx]; rfl
theorem Sp.whole {w : World} {m : List Nat} {C : Array Value} {wr : World} (h : Sp w m 64 C wr) : C = ((sch m 64).map c32).toArray := by
  apply Array.ext_getElem?
  intro i
  by_cases hi : i < 64
  · rw [h.got i hi]
    simp only [List.getElem?_toArray, List.getElem?_map, List.getD]
    rw [List.getElem?_eq_getElem (by rw [sch_length]; exact hi)]
    rfl
  · rw [Array.getElem?_eq_none (by rw [h.csz]; omega), Array.getElem?_eq_none (by simp [sch_length]; omega)]
theorem sH_raw (y : BitVec 32) : bits .xor .u32 (bits .xor .u32 ((rr 17 y).toNat : Int) ((rr 19 y).toNat : Int)) ((y.toNat : Int) / 1024) = ((sgH y).toNat : Int) := by
  have h := shr_raw y 10
  rw [show ((2 : Int) ^ 10) = 1024 from by decide] at h
  rw [h, xor32, xor32, sgH]
theorem sL_raw (y : BitVec 32) : bits .xor .u32 (bits .xor .u32 ((rr 7 y).toNat : Int) ((rr 18 y).toNat : Int)) ((y.toNat : Int) / 8) = ((sgL y).toNat : Int) := by
  have h := shr_raw y 3
  rw [show ((2 : Int) ^ 3) = 8 from by decide] at h
  rw [h, xor32, xor32, sgL]
theorem wn_raw (y1 y2 y0 y3 : BitVec 32) : (bits .xor .u32 (bits .xor .u32 ((rr 17 y1).toNat : Int) ((rr 19 y1).toNat : Int)) ((y1.toNat : Int) / 1024) + (y2.toNat : Int) + bits .xor .u32 (bits .xor .u32 ((rr 7 y0).toNat : Int) ((rr 18 y0).toNat : Int)) ((y0.toNat : Int) / 8) + (y3.toNat : Int)) % 4294967296 = ((sgH y1 + y2 + sgL y0 + y3).toNat : Int) := by
  rw [sH_raw, sL_raw]
  simp only [BitVec.toNat_add]
  omega
theorem info_64 (C : Array Value) (h : C.size = 64) : (Tryz.prog.info? 100).map (·.size) = some C.size := by
  have : (Tryz.prog.info? 100).map (·.size) = some 64 := by kernel_rfl
  rw [this, h]
theorem blk_old (w : World) (o : Obj) (i : Nat) (h : i < w.heap.size) : (w.alloc o).heap[i]? = w.heap[i]? := by
  show (w.heap.push o)[i]? = w.heap[i]?
  rw [Array.getElem?_push, if_neg (by omega)]
theorem Sp.start (w : World) (m : List Nat) (Z : Array Value) (hZ : Z = Array.replicate 64 (c32 0)) : Sp w m 0 Z ((w.alloc (.cells Z 100)).alloc (.cells Z 100)) where
  blk := by
    have := blk_new (w.alloc (.cells Z 100)) (.cells Z 100)
    rwa [alloc_size] at this
  res := ⟨Z, by unfold Blk; rw [blk_old _ _ _ (by rw [alloc_size]; omega)]; exact blk_new _ _, by rw [hZ]; simp⟩
  size := by rw [alloc_size, alloc_size]
  grown := (World.grownBy_alloc w _ none).trans (World.grownBy_alloc _ _ none)
  csz := by rw [hZ]; simp
  got := fun j hj => by omega
  all := fun j hj => ⟨0, by rw [hZ]; simp [hj]⟩
theorem Sp.old {w : World} {m : List Nat} {k : Nat} {C : Array Value} {wr : World} (h : Sp w m k C wr) {a : Addr} {v : Value} (hc : w.cell? a = some v) : wr.cell? a = some v := h.grown.cell hc (by simp)
set_option maxHeartbeats 1000000 in
set_option maxRecDepth 100000 in
theorem spread_any (m : List Nat) (b : Nat) (w : World) (hm : m.length = 64) (hl : ∀ x ∈ m, x < 256)
    (hb : ∀ j, j < 64 → w.cell? ⟨b, 8 + j, none⟩ = some (.int .u8 (m.getD j 0 : Nat))) (hbz : b < w.heap.size) :
    Calls Tryz.prog 135 #[.pointer (some ⟨b, 0, none⟩)] w fun e w' =>
      e = .returned (.agg ((sch m 64).map c32).toArray) ∧ Below w.heap.size w w' := by
  have HB : Hid (∀ j, j < 64 → w.cell? ⟨b, 8 + j, none⟩ = some (.int .u8 (m.getD j 0 : Nat))) := hb
  clear hb
  go_enter Tryz.func135, Tryz.ntmps135
  go_wp2
  go_loopw [11] (fun i wr => ∃ (k : Nat) (C : Array Value), k ≤ 16 ∧ i = .int .i64 k ∧ Hid (Sp w m k C wr)) (fun i _ => 20 - (intOf i).toNat)
  case atStart => exact ⟨0, _, by omega, rfl, Sp.start w m _ rfl⟩
  case round =>
    obtain ⟨k, C, hk, rfl, HR⟩ := hrel
    by_cases hlt : k < 16
    · have hs := slice64 b 8 k hlt
      have h0 := HR.out.old (HB.out (4 * k) (by omega))
      have h1 := HR.out.old (HB.out (4 * k + 1) (by omega))
      have h2 := HR.out.old (HB.out (4 * k + 2) (by omega))
      have h3 := HR.out.old (HB.out (4 * k + 3) (by omega))
      simp only [← Nat.add_assoc] at h0 h1 h2 h3
      obtain ⟨x0, hx0⟩ := HR.out.all k (by omega)
      have h4 : wr.cell? ⟨w.heap.size + 1, k, none⟩ = some (c32 x0) := by rw [HR.out.blk.cell, hx0]
      have h5 := HR.out.blk.frozen k
      clear hx0
      obtain ⟨m0, hm0⟩ : ∃ x, x = m.getD (4 * k) 0 := ⟨_, rfl⟩
      obtain ⟨m1, hm1⟩ : ∃ x, x = m.getD (4 * k + 1) 0 := ⟨_, rfl⟩
      obtain ⟨m2, hm2⟩ : ∃ x, x = m.getD (4 * k + 2) 0 := ⟨_, rfl⟩
      obtain ⟨m3, hm3⟩ : ∃ x, x = m.getD (4 * k + 3) 0 := ⟨_, rfl⟩
      rw [← hm0] at h0
      rw [← hm1] at h1
      rw [← hm2] at h2
      rw [← hm3] at h3
      have HM : Hid ((m0 = m.getD (4 * k) 0 ∧ m1 = m.getD (4 * k + 1) 0) ∧ m2 = m.getD (4 * k + 2) 0 ∧ m3 = m.getD (4 * k + 3) 0) := ⟨⟨hm0, hm1⟩, hm2, hm3⟩
      clear hm0 hm1 hm2 hm3
      go_wp2
      go_region
      go_wp2
      go_roundw
      case rel =>
        refine ⟨k + 1, C.setIfInBounds k (c32 (be4 m0 m1 m2 m3)), by omega, by go_num, ?_⟩
        rw [be4_raw]
        refine (HR.out.put (by omega) _ ?_).drew
        rw [sch_get m k 64 (by omega), if_pos hlt, HM.out.1.1, HM.out.1.2, HM.out.2.1, HM.out.2.2, w16]
      case measure => simp [intOf]; omega
    · have hke : k = 16 := by omega
      subst hke
      clear hlt hk
      go_wp2
      go_loopw [6] (fun i wr => ∃ (k : Nat) (C : Array Value), 16 ≤ k ∧ k ≤ 64 ∧ i = .int .i64 k ∧ Hid (Sp w m k C wr)) (fun i _ => 70 - (intOf i).toNat)
      case atStart => exact ⟨16, _, by omega, by omega, rfl, HR⟩
      case round =>
        clear HR C
        obtain ⟨k, C, hk0, hk, rfl, HR⟩ := hrel
        by_cases hlt : k < 64
        · obtain ⟨x0, hx0⟩ := HR.out.all k (by omega)
          have h4 : wr.cell? ⟨w.heap.size + 1, k, none⟩ = some (c32 x0) := by rw [HR.out.blk.cell, hx0]
          have h5 := HR.out.blk.frozen k
          obtain ⟨y0, h0, Y0⟩ := HR.out.word (k - 15) (by omega)
          obtain ⟨y1, h1, Y1⟩ := HR.out.word (k - 2) (by omega)
          obtain ⟨y2, h2, Y2⟩ := HR.out.word (k - 7) (by omega)
          obtain ⟨y3, h3, Y3⟩ := HR.out.word (k - 16) (by omega)
          clear hx0
          have e0 : ((k : Int) - 15).toNat = k - 15 := by omega
          have e1 : ((k : Int) - 2).toNat = k - 2 := by omega
          have e2 : ((k : Int) - 7).toNat = k - 7 := by omega
          have e3 : ((k : Int) - 16).toNat = k - 16 := by omega
          go_wp2
          go_quiet (fail)
          go_wp2_with (go_at_call 149; refine (rot_int _ _ _ (by omega) (by omega)).mono ?_; rintro e w' ⟨rfl, rfl⟩)
          go_region
          go_wp2
          refine ⟨?_, ?measure⟩
          (repeat apply Exists.intro)
          refine ⟨?rel, rfl⟩
          case rel =>
            refine ⟨k + 1, C.setIfInBounds k (c32 (sgH y1 + y2 + sgL y0 + y3)), by omega, by omega, by go_num, ?_⟩
            rw [wn_raw]
            refine (HR.out.drewN _).put hlt _ ?_
            rw [sch_get m k 64 hlt, if_neg (by omega), wnext, Y0.out, Y1.out, Y2.out, Y3.out]
            simp only [sch_get m (k - 2) 64 (by omega), sch_get m (k - 7) 64 (by omega), sch_get m (k - 15) 64 (by omega), sch_get m (k - 16) 64 (by omega), sch_get m (k - 2) k (by omega), sch_get m (k - 7) k (by omega), sch_get m (k - 15) k (by omega), sch_get m (k - 16) k (by omega)]
          case measure => simp [intOf]; omega
        · have hke : k = 64 := by omega
          subst hke
          clear hlt hk hk0
          obtain ⟨Z, hZ, hZs⟩ := HR.out.res
          have HZ : Hid (Blk wr w.heap.size Z 100) := hZ
          clear hZ
          have HI : Hid ((Tryz.prog.info? 100).map (·.size) = some C.size) := info_64 C HR.out.csz
          go_wp2_with (first | (refine wpList_load_row rfl 100 (.tmp 3) rfl (w.heap.size + 1) rfl 100 C (0, 0) _ HR.out.blk Tryz.underlying100 rfl HI.out ?_) | (refine wpList_store_row rfl 100 (.tmp 2) (.tmp 91) rfl w.heap.size C rfl rfl 100 Z HZ.out HI.out (by rw [hZs, HR.out.csz]) HR.out.one ?_))
          refine bodyPost_ret (results_cell_row rfl _ _ w.heap.size 100 C (0, 0) _ rfl (setRow_heap _ _ _ _ _ _ HZ.out) Tryz.underlying100 rfl HI.out) rfl ⟨by rw [HR.out.whole], ?_⟩
          exact below_setRow (below_of_grown HR.out.grown) (Nat.le_refl _) _
end Go.Proofs.YtpfknjnigcefgaaGreatDoor
