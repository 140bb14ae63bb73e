import Derived.Test.YtbfoiocbmhhdbaaGreatY1
import Derived.Deep.MidRow
import Derived.Lib.SmallJoins
import Derived.Lib.BufferOwn
import Derived.Lib.HexFns2
import Derived.Deep.WholeRow
import Derived.Laws.ResultCell
import Derived.Laws.CopyOwn
import Derived.Maps.AppendAt
import Derived.ChangeKeysEq
import Derived.Laws.StructEq
import Derived.DeepKeys4
/- Numbers of 32 bits as cells; a variable of the call's own. -/
namespace Go.Proofs.YtbfoiocbmhhdbaaGreat
open Go.RowKit
set_option linter.unusedSimpArgs false
set_option linter.unusedVariables false
/-- A number of 32 bits as a cell. -/
abbrev c32 (x : BitVec 32) : Value := .int .u32 (x.toNat : Int)
/-- A variable of the call's own: its cells. -/
abbrev Blk (w : World) (b : Nat) (C : Array Value) (T : TypeId) : Prop := w.heap[b]? = some (.cells C T (0, 0))
theorem Blk.cell {w : World} {b : Nat} {C : Array Value} {T : TypeId} (h : Blk w b C T) (j : Nat) : w.cell? ⟨b, j, none⟩ = C[j]? := cell_of_row w b j C T (0, 0) h
theorem Blk.frozen {w : World} {b : Nat} {C : Array Value} {T : TypeId} (h : Blk w b C T) (j : Nat) : w.frozen? ⟨b, j, none⟩ = false := frozen_of_row w b j C T h
theorem Blk.drewN {w : World} {b : Nat} {C : Array Value} {T : TypeId} (h : Blk w b C T) (n : Nat) : Blk (w.drewN n) b C T := h
theorem Blk.set {w : World} {b : Nat} {C : Array Value} {T : TypeId} (h : Blk w b C T) (i : Nat) (v : Value) : Blk (w.setCell ⟨b, i, none⟩ v) b (C.setIfInBounds i v) T := Joins.block_setCell h v
theorem grown_drewN (w : World) (n : Nat) (r : Option Nat) : w.grownBy (w.drewN n) r := by
  induction n with
  | zero => exact World.grownBy.refl w r
  | succ n ih => exact Lib.Hx.grownBy_drew ih
theorem max32 : IntKind.u32.max = 4294967295 := by decide
theorem below_of_grown {w w' : World} (h : w.grownBy w' none) : Below w.heap.size w w' := ⟨h.os, h.tape, h.output, h.size, fun i hi => h.block i hi (by simp)⟩
theorem blk_new (w : World) (o : Obj) : (w.alloc o).heap[w.heap.size]? = some o := by
  show (w.heap.push o)[w.heap.size]? = some o
  simp
theorem alloc_size (w : World) (o : Obj) : (w.alloc o).heap.size = w.heap.size + 1 := by
  show (w.heap.push o).size = _
  simp
theorem grown_of_below {w w' : World} (h : Below w.heap.size w w') (r : Option Nat) : w.grownBy w' r := ⟨h.os, h.tape, h.output, h.size, fun i hi _ => h.block i hi⟩
theorem bcellD {W w1 : World} (hb : Below W.heap.size W w1) : (∀ b o, b < W.heap.size → w1.cell? ⟨b, o, none⟩ = W.cell? ⟨b, o, none⟩) ∧ (∀ b o, b < W.heap.size → w1.frozen? ⟨b, o, none⟩ = W.frozen? ⟨b, o, none⟩) :=
  ⟨fun b o h => hb.cell (p := ⟨b, o, none⟩) h, fun b o h => hb.frozen (p := ⟨b, o, none⟩) h⟩
theorem blk_lt {w : World} {b : Nat} {o : Obj} (h : w.heap[b]? = some o) : b < w.heap.size := by
  by_cases e : b < w.heap.size
  · exact e
  · rw [Array.getElem?_eq_none (by omega)] at h; cases h
end Go.Proofs.YtbfoiocbmhhdbaaGreat
/- Plain facts: a sum under way, piece by piece. -/
namespace Go.Proofs.YtbfoiocbmhhdbaaGreat
set_option linter.unusedSimpArgs false
set_option linter.unusedVariables false
/-- A string's bytes as numbers. -/
def byl (s : ByteArray) : List Nat := s.data.toList.map UInt8.toNat
theorem byl_length (s : ByteArray) : (byl s).length = s.size := by rw [byl, List.length_map, Array.length_toList]; rfl
theorem byl_lt (s : ByteArray) : ∀ x ∈ byl s, x < 256 := by
  intro x hx
  simp only [byl, List.mem_map] at hx
  obtain ⟨y, _, rfl⟩ := hx
  exact y.toNat_lt
theorem byl_drop (s : ByteArray) (n : Nat) : byl (s.extract n s.size) = (byl s).drop n := by
  have e : (s.extract n s.size).data.toList = s.data.toList.drop n := by
    rw [ByteArray.data_extract, Array.toList_extract]
    rw [List.extract_eq_take_drop, List.take_of_length_le (by rw [List.length_drop, Array.length_toList]; exact Nat.le_refl _)]
  simp only [byl, e, List.map_drop]
theorem sb_byl (s : ByteArray) : sb (byl s) = s := by
  have e : ((byl s).map UInt8.ofNat) = s.data.toList := by
    simp only [byl, List.map_map]
    have : (UInt8.ofNat ∘ UInt8.toNat) = id := by funext x; simp
    rw [this, List.map_id]
  unfold sb
  rw [e]
theorem byl_sb (l : List Nat) (h : ∀ x ∈ l, x < 256) : byl (sb l) = l := by
  simp only [byl, sb, List.map_map]
  have : l.map (UInt8.toNat ∘ UInt8.ofNat) = l.map id := by
    apply List.map_congr_left
    intro x hx
    simp [Nat.mod_eq_of_lt (h x hx)]
  simp [this]
/-- Bytes laid over others from a place on. -/
def putL (m : List Nat) (r : Nat) (xs : List Nat) : List Nat := m.take r ++ xs ++ m.drop (r + xs.length)
theorem putL_length (m : List Nat) (r : Nat) (xs : List Nat) (h : r + xs.length ≤ m.length) : (putL m r xs).length = m.length := by
  simp [putL]; omega
theorem putL_getD (m : List Nat) (r : Nat) (xs : List Nat) (h : r + xs.length ≤ m.length) (j : Nat) :
    (putL m r xs).getD j 0 = if j < r then m.getD j 0 else if j < r + xs.length then xs.getD (j - r) 0 else m.getD j 0 := by
  unfold putL
  simp only [List.getD]
  split
  · rw [List.append_assoc, List.getElem?_append_left (by simp; omega), List.getElem?_take_of_lt (by assumption)]
  · split
    · rw [List.append_assoc, List.getElem?_append_right (by simp; omega), List.getElem?_append_left (by simp; omega)]
      congr 2
      simp; omega
    · rw [List.getElem?_append_right (by simp; omega), List.getElem?_drop]
      congr 2
      simp; omega
theorem putL_lt (m : List Nat) (r : Nat) (xs : List Nat) (hm : ∀ x ∈ m, x < 256) (hx : ∀ x ∈ xs, x < 256) : ∀ x ∈ putL m r xs, x < 256 := by
  intro x h
  simp only [putL, List.mem_append] at h
  rcases h with (h | h) | h
  · exact hm x (List.mem_of_mem_take h)
  · exact hx x h
  · exact hm x (List.mem_of_mem_drop h)
theorem list_ext_getD (a b : List Nat) (h : a.length = b.length) (hj : ∀ j, j < a.length → a.getD j 0 = b.getD j 0) : a = b := by
  apply List.ext_getElem? 
  intro i
  by_cases hi : i < a.length
  · have := hj i hi
    simp only [List.getD, List.getElem?_eq_getElem hi, List.getElem?_eq_getElem (h ▸ hi), Option.getD_some] at this
    rw [List.getElem?_eq_getElem hi, List.getElem?_eq_getElem (h ▸ hi), this]
  · rw [List.getElem?_eq_none (by omega), List.getElem?_eq_none (by omega)]
/-- A sum under way: its numbers and its block are those of all that was written. -/
structure Sta (msg : List Nat) (h : V8) (m : List Nat) : Prop where
  len : m.length = 64
  lt : ∀ x ∈ m, x < 256
  num : h = hs msg (msg.length / 64)
  part : ∀ j, j < msg.length % 64 → m.getD j 0 = msg.getD (64 * (msg.length / 64) + j) 0
theorem Sta.part' {msg : List Nat} {h : V8} {m : List Nat} (S : Sta msg h m) (xs : List Nat) (hx : xs.length ≤ 64 - msg.length % 64) (j : Nat) (hj : j < msg.length % 64 + xs.length) :
    (putL m (msg.length % 64) xs).getD j 0 = (msg ++ xs).getD (64 * (msg.length / 64) + j) 0 := by
  rw [putL_getD _ _ _ (by rw [S.len]; omega)]
  by_cases e : j < msg.length % 64
  · rw [if_pos e, S.part j e]
    simp only [List.getD]
    rw [List.getElem?_append_left (by omega)]
  · rw [if_neg e, if_pos hj]
    simp only [List.getD]
    rw [List.getElem?_append_right (by omega)]
    congr 2
    omega
theorem Sta.more {msg : List Nat} {h : V8} {m : List Nat} (S : Sta msg h m) (xs : List Nat) (hb : ∀ x ∈ xs, x < 256) (hx : xs.length < 64 - msg.length % 64) :
    Sta (msg ++ xs) h (putL m (msg.length % 64) xs) := by
  have e1 : (msg.length + xs.length) / 64 = msg.length / 64 := by omega
  have e2 : (msg.length + xs.length) % 64 = msg.length % 64 + xs.length := by omega
  refine ⟨by rw [putL_length _ _ _ (by rw [S.len]; omega), S.len], putL_lt _ _ _ S.lt hb, ?_, fun j hj => ?_⟩
  · rw [List.length_append, e1, hs_append _ _ _ (by omega), S.num]
  · rw [List.length_append, e2] at hj
    rw [List.length_append, e1, S.part' xs (by omega) j hj]
theorem Sta.full {msg : List Nat} {h : V8} {m : List Nat} (S : Sta msg h m) (xs : List Nat) (hb : ∀ x ∈ xs, x < 256) (hx : xs.length = 64 - msg.length % 64) :
    Sta (msg ++ xs) (comp (putL m (msg.length % 64) xs) h) (putL m (msg.length % 64) xs) := by
  have e1 : (msg.length + xs.length) / 64 = msg.length / 64 + 1 := by omega
  have e2 : (msg.length + xs.length) % 64 = 0 := by omega
  refine ⟨by rw [putL_length _ _ _ (by rw [S.len]; omega), S.len], putL_lt _ _ _ S.lt hb, ?_, fun j hj => ?_⟩
  · rw [List.length_append, e1, hs, hs_append _ _ _ (by omega), ← S.num]
    congr 1
    apply list_ext_getD
    · rw [putL_length _ _ _ (by rw [S.len]; omega), S.len, blk]; simp; omega
    · intro j hj
      rw [putL_length _ _ _ (by rw [S.len]; omega), S.len] at hj
      rw [S.part' xs (by omega) j (by omega)]
      simp only [blk, List.getD]
      rw [List.getElem?_take_of_lt hj, List.getElem?_drop]
  · rw [List.length_append, e2] at hj; omega
theorem Sta.zero (m : List Nat) (hl : m.length = 64) (hm : ∀ x ∈ m, x < 256) : Sta [] H0 m := ⟨hl, hm, rfl, fun j hj => by simp at hj⟩
end Go.Proofs.YtbfoiocbmhhdbaaGreat
/- Names in memory: a name's 32 cells. -/
namespace Go.Proofs.YtbfoiocbmhhdbaaGreat
open Go.RowKit
set_option linter.unusedSimpArgs false
set_option linter.unusedVariables false
theorem sizeOf_u8' (w : World) : (sizeOf 5).run Tryz.prog w = .ok 1 w := by
  have h : (Tryz.prog.info? 5).map (·.size) = some 1 := by kernel_rfl
  cases hq : Tryz.prog.info? 5 with
  | none => simp [hq] at h
  | some i => simp [hq] at h; simp [sizeOf, typeInfo, hq, h]
/-- Bytes as cells. -/
def bvc (m : List Nat) : List Value := m.map fun x : Nat => Value.int .u8 (x : Int)
theorem Blk.grown {w w' : World} {b : Nat} {C : Array Value} {T : TypeId} {r : Option Nat} (h : Blk w b C T) (hg : w.grownBy w' r) (hr : r ≠ some b) : Blk w' b C T := by
  have hlt : b < w.heap.size := by
    by_cases e : b < w.heap.size
    · exact e
    · unfold Blk at h; rw [Array.getElem?_eq_none (by omega)] at h; cases h
  unfold Blk
  rw [hg.block b hlt (fun e => hr e.symm)]
  exact h
theorem Blk.lt {w : World} {b : Nat} {C : Array Value} {T : TypeId} (h : Blk w b C T) : b < w.heap.size := by
  by_cases e : b < w.heap.size
  · exact e
  · unfold Blk at h; rw [Array.getElem?_eq_none (by omega)] at h; cases h
theorem bvc_one (l : List Nat) : ∀ v ∈ bvc l, v.oneCell' = true := by
  intro v hv
  simp only [bvc, List.mem_map] at hv
  obtain ⟨x, _, rfl⟩ := hv
  rfl
/-- 32 noughts, as cells. -/
def z32c : Array Value := (bvc (List.replicate 32 0)).toArray
theorem z32c_size : z32c.size = 32 := by simp [z32c, bvc]
theorem info_id : (Tryz.prog.info? 48).map (·.size) = some 32 := by kernel_rfl
/-- A name's cells, of its 32 bytes. -/
def idc (s : ByteArray) : Array Value := (bvc (byl s)).toArray
theorem idc_size (s : ByteArray) : (idc s).size = s.size := by simp [idc, bvc, byl_length]
theorem byl_getD (s : ByteArray) (i : Nat) (h : i < s.size) : (byl s)[i]? = some (s[i].toNat) := by
  simp only [byl, List.getElem?_map]
  rw [List.getElem?_eq_getElem (by simpa using h)]
  rfl
theorem idc_get (s : ByteArray) (i : Nat) (h : i < s.size) : (idc s)[i]? = some (.int .u8 (s[i].toNat : Int)) := by
  rw [idc, List.getElem?_toArray, bvc, List.getElem?_map, byl_getD s i h]; rfl
theorem slice32 (g : Nat) (w : World) : (Instr.sliceAt 48 (.pointer (some ⟨g, 0, none⟩)) none none none).run Tryz.prog w = .ok (.slice (some ⟨g, 0, none⟩) 32 32) w := by
  have e1 : Tryz.prog.elem 48 = 5 := by kernel_rfl
  have e2 : Tryz.prog.arrayLen 48 = 32 := by kernel_rfl
  have e0 : Tryz.prog.underlying 48 = some (.array (Tryz.prog.arrayLen 48) (Tryz.prog.elem 48)) := by kernel_rfl
  rw [run_sliceAt_array_all (P := Tryz.prog) w 48 ⟨g, 0, none⟩ e0]
  rw [e1, e2, sizeOf_u8']
  simp [slicedAt, Result.andThen, Addr.add]
theorem conv32 (s : ByteArray) (g : Nat) (T : TypeId) (w : World) (hs : s.size = 32) (hB : Blk w g (idc s) T) :
    (convert 131 9 (.slice (some ⟨g, 0, none⟩) 32 32)).run Tryz.prog w = .ok (.string s) w := by
  have h := run_convert_bytes_arg w 131 5 Tryz.underlying131 Tryz.underlying5 g 0 32 32 ((byl s).map Int.ofNat) (by simp [byl_length, hs]) (fun i hi => by
    rw [Nat.zero_add, hB.cell, idc_get s i (by omega), List.getD, List.getElem?_map, byl_getD s i (by omega)]; rfl) 9 Tryz.underlying9
  rw [sb_nums, sb_byl] at h
  exact h
theorem info_32 {C : Array Value} (h : C.size = 32) : (Tryz.prog.info? 48).map (·.size) = some C.size := by rw [h]; exact info_id
theorem z32c_one : z32c.all (·.oneCell') = true := Array.all_eq_true_iff_forall_mem.2 (by intro v hv; exact bvc_one _ v (by simpa [z32c] using hv))
theorem zero_id : ∀ w, (zeroValue 48).run Tryz.prog w = .ok (.agg z32c) w :=
  (zero_of_info (n := 32) (by kernel_rfl)).1
/-- Cells laid over others from a place on. -/
def putA (C : Array Value) (o : Nat) : List Value → Array Value
  | [] => C
  | v :: r => putA (C.setIfInBounds o v) (o + 1) r
theorem Blk.puts {b : Nat} {T : TypeId} : ∀ (vs : List Value) (o : Nat) (C : Array Value) (w : World), Blk w b C T → Blk (w.setCells b o vs) b (putA C o vs) T
  | [], _, _, _, h => h
  | v :: r, o, C, w, h => by
    rw [World.setCells, putA]
    exact Blk.puts r (o + 1) _ _ (h.set o v)
theorem putA_get : ∀ (vs : List Value) (o : Nat) (C : Array Value) (i : Nat), o + vs.length ≤ C.size → (putA C o vs)[i]? = if o ≤ i ∧ i < o + vs.length then vs[i - o]? else C[i]?
  | [], o, C, i, _ => by rw [putA, if_neg (by simp)]
  | v :: r, o, C, i, h => by
    simp only [List.length_cons] at h
    rw [putA, putA_get r (o + 1) _ i (by rw [Array.size_setIfInBounds]; omega), Array.getElem?_setIfInBounds]
    by_cases e : o = i
    · subst e
      rw [if_neg (by omega), if_pos rfl, if_pos (by omega), if_pos (by simp), Nat.sub_self]; rfl
    · by_cases e2 : o + 1 ≤ i ∧ i < o + 1 + r.length
      · rw [if_pos e2, if_pos (by simp; omega)]
        rw [show i - o = (i - (o + 1)) + 1 from by omega, List.getElem?_cons_succ]
      · rw [if_neg e2, if_neg e, if_neg (by simp; omega)]
theorem putA_size : ∀ (vs : List Value) (o : Nat) (C : Array Value), (putA C o vs).size = C.size
  | [], _, _ => rfl
  | v :: r, o, C => by rw [putA, putA_size r, Array.size_setIfInBounds]
theorem putA_one : ∀ (vs : List Value) (o : Nat) (C : Array Value), (∀ v ∈ vs, v.oneCell' = true) → (∀ v ∈ C, v.oneCell' = true) → ∀ v ∈ putA C o vs, v.oneCell' = true
  | [], _, _, _, h => h
  | u :: r, o, C, h1, h2 => by
    rw [putA]
    refine putA_one r (o + 1) _ (fun v hv => h1 v (List.mem_cons_of_mem _ hv)) (fun v hv => ?_)
    rcases Array.mem_or_eq_of_mem_setIfInBounds hv with h | h
    · exact h2 v h
    · rw [h]; exact h1 u (List.mem_cons_self ..)
theorem copy_str (w : World) (dT sT ty elem : TypeId) (b o dLen dCap : Nat) (s : ByteArray) {P : Program}
    (hu : P.underlying dT = some (.slice elem)) (hs : (P.info? elem).map (·.size) = some 1)
    (hc : ∀ j, j < Nat.min s.size dLen → (w.cell? ⟨b, o + j, none⟩).isSome = true) (hf : ∀ j, j < Nat.min s.size dLen → w.frozen? ⟨b, o + j, none⟩ = false) :
    (Builtin.copy_ #[dT, sT] ty #[.slice (some ⟨b, o, none⟩) dLen dCap, .string s]).run P w = .ok (goInt (Nat.min s.size dLen)) (w.setCells b o (bvc ((byl s).take (Nat.min s.size dLen)))) := by
  have e : ((s.extract 0 (Nat.min s.size dLen)).data.map fun b => Value.int .u8 (b.toNat : Int)).toList = bvc ((byl s).take (Nat.min s.size dLen)) := by
    rw [ByteArray.data_extract, Array.toList_map, Array.toList_extract, List.extract_eq_take_drop, List.drop_zero, Nat.sub_zero, bvc, byl, ← List.map_take, List.map_map]
    rfl
  have hl : (bvc ((byl s).take (Nat.min s.size dLen))).length = Nat.min s.size dLen := by
    simp only [bvc, List.length_map, List.length_take, byl_length]
    exact Nat.min_eq_left (Nat.min_le_left _ _)
  have hst := run_storeCells_cells (P := P) b o (bvc ((byl s).take (Nat.min s.size dLen))) 0 w (by rw [hl]; simpa using hc) (by rw [hl]; simpa using hf) (by intro v hv; simp only [bvc, List.mem_map] at hv; obtain ⟨x, _, rfl⟩ := hv; rfl)
  cases hq : P.info? elem with
  | none => simp [hq] at hs
  | some i =>
    have hi : i.size = 1 := by simpa [hq] using hs
    simp only [Nat.add_zero] at hst
    simp [Builtin.copy_, run_underlying hu, Builtin.lenOf, Builtin.firstCells, sizeOf, typeInfo, hq, hi]
    have e2 : List.take (s.size.min dLen) (List.map (fun b => Value.int IntKind.u8 (b.toNat : Int)) s.data.toList) = bvc ((byl s).take (Nat.min s.size dLen)) := by
      rw [bvc, byl, ← List.map_take, ← List.map_take, List.map_map]; rfl
    rw [e2, hst]
    rfl
theorem grown_puts (b : Nat) : ∀ (vs : List Value) (o : Nat) {a w : World}, a.grownBy w (some b) → a.grownBy (w.setCells b o vs) (some b)
  | [], _, _, _, h => h
  | v :: r, o, a, w, h => by rw [World.setCells]; exact grown_puts b r (o + 1) (Lib.grownBy_setB h o v)
theorem wpList_store_new {P : Program} {ops : Array Oper} {rest : List Oper} {o : Oper} {a : Act} {w : World} {Q : Exit → Act → World → Prop} (hgd : o.guard = none) (ty : TypeId) (x y : Operand) (ho : o.op = .store ty x y)
    (cells old : Array Value) (t : TypeId) (H : Nat) (hH : w.heap.size = H) (hx : a.eval x = .pointer (some ⟨H, 0, none⟩)) (hy : a.eval y = .agg cells)
    (hi : (P.info? ty).map (·.size) = some cells.size) (hold : old.size = cells.size) (h1 : cells.all (·.oneCell') = true)
    (h : wpList P ops Q rest (a.put o.dst undef) (w.alloc (.cells cells t))) : wpList P ops Q (o :: rest) a (w.alloc (.cells old t)) :=
  wpList_store_row hgd ty x y ho w.heap.size cells (by rw [hH]; exact hx) hy t old (blk_new _ _) hi hold h1 (by rw [World.setRow_alloc_new]; exact h)
theorem results_cell_tmp_row {P : Program} {fn : Func} {p u : Tmp} {ty : TypeId} (h : fn.results = #[.cell p ty, .tmp u]) (tmps : Array Value) (w : World) (g : Nat) (t : TypeId) (cs : Array Value) (fr : Nat × Nat) (d : TypeDesc)
    (hp : tmps.getD p undef = .pointer (some ⟨g, 0, none⟩)) (hg : w.heap[g]? = some (.cells cs t fr))
    (hu : P.underlying ty = some d) (hd : (match d with | .struct _ | .array _ _ => true | _ => false) = true) (hi : (P.info? ty).map (·.size) = some cs.size) :
    (results fn tmps).run P w = .ok (.tuple #[.agg cs, tmps.getD u undef]) w := by
  have hp' : tmps[p]?.getD undef = .pointer (some ⟨g, 0, none⟩) := by simpa using hp
  simp [results, h, hp', asAddr, run_loadVar_row w g t ty cs fr d hg hu hd hi]
end Go.Proofs.YtbfoiocbmhhdbaaGreat
/- Two names compared with '=='. -/
namespace Go.Proofs.YtbfoiocbmhhdbaaGreat
open Go.RowKit
set_option linter.unusedSimpArgs false
set_option linter.unusedVariables false
theorem part_id (s : ByteArray) (i : Nat) (h : i < s.size) (w : World) : (part 5 (idc s) i).run Tryz.prog w = .ok (.int .u8 (s[i].toNat : Int)) w := by
  have ha : (isAgg 5).run Tryz.prog w = .ok false w := by kernel_rfl
  simp [part, ha, idc_get s i h]
theorem eqItems_ids (a b : ByteArray) (ha : a.size = 32) (hb : b.size = 32) (w : World) : ∀ is : List Nat, (∀ i ∈ is, i < 32) →
    (Op.eqItems 9999 5 1 (idc a) (idc b) is).run Tryz.prog w = .ok (is.all fun i => (byl a).getD i 0 == (byl b).getD i 0) w
  | [], _ => by simp [Op.eqItems]
  | i :: is, h => by
    have hi : i < 32 := h i (List.mem_cons_self ..)
    have ih := eqItems_ids a b ha hb w is (fun j hj => h j (List.mem_cons_of_mem _ hj))
    have e1 : (byl a).getD i 0 = a[i].toNat := by rw [List.getD, byl_getD a i (by omega)]; rfl
    have e2 : (byl b).getD i 0 = b[i].toNat := by rw [List.getD, byl_getD b i (by omega)]; rfl
    have e3 := run_equalIn_int (P := Tryz.prog) w 9998 5 .u8 .u8 (a[i].toNat : Int) (b[i].toNat : Int) Tryz.underlying5
    simp only [Op.eqItems, Sem.run_bind, Nat.mul_one, part_id a i (by omega), part_id b i (by omega), Result.andThen_ok, e3, List.all_cons, e1, e2]
    by_cases e : a[i].toNat = b[i].toNat
    · have e4 : ((a[i].toNat : Int) == (b[i].toNat : Int)) = true := by rw [e]; simp
      simp only [e4, Bool.not_true, Bool.false_eq_true, if_false, ih, e, beq_self_eq_true, Bool.true_and]
    · have e4 : ((a[i].toNat : Int) == (b[i].toNat : Int)) = false := by rw [beq_eq_false_iff_ne]; omega
      have e5 : (a[i].toNat == b[i].toNat) = false := by rw [beq_eq_false_iff_ne]; exact e
      simp only [e4, Bool.not_false, if_true, Sem.run_pure, e5, Bool.false_and]
theorem ids_all (a b : ByteArray) (ha : a.size = 32) (hb : b.size = 32) : ((List.range 32).all fun i => (byl a).getD i 0 == (byl b).getD i 0) = decide (a = b) := by
  rw [Bool.eq_iff_iff, List.all_eq_true, decide_eq_true_iff]
  constructor
  · intro h
    have : byl a = byl b := list_ext_getD _ _ (by rw [byl_length, byl_length, ha, hb]) (fun j hj => by
      have := h j (by rw [List.mem_range]; rw [byl_length, ha] at hj; exact hj)
      exact eq_of_beq this)
    rw [← sb_byl a, ← sb_byl b, this]
  · rintro rfl i _
    exact beq_self_eq_true _
theorem equalIn_ids (a b : ByteArray) (ha : a.size = 32) (hb : b.size = 32) (w : World) : (Op.equalIn 10000 48 (.agg (idc a)) (.agg (idc b))).run Tryz.prog w = .ok (decide (a = b)) w := by
  have hc : Tryz.prog.cellsOf 5 = 1 := by kernel_rfl
  obtain ⟨i0, hi⟩ := info_of_underlying Tryz.underlying5
  have hu : Tryz.prog.underlying 48 = some (.array 32 5) := Tryz.underlying48
  rw [run_equalIn_array w 9999 (idc a) (idc b) hu hi, hc, eqItems_ids a b ha hb w _ (fun i hi => by simpa using hi), ids_all a b ha hb]
theorem eql_ids (a b : ByteArray) (ha : a.size = 32) (hb : b.size = 32) (w : World) : (binOp .eql 48 (.agg (idc a)) (.agg (idc b))).run Tryz.prog w = .ok (.bool (decide (a = b))) w := by
  rw [run_eql_struct, equalIn_ids a b ha hb]; rfl
theorem neq_ids (a b : ByteArray) (ha : a.size = 32) (hb : b.size = 32) (w : World) : (binOp .neq 48 (.agg (idc a)) (.agg (idc b))).run Tryz.prog w = .ok (.bool (!decide (a = b))) w := by
  rw [run_neq_struct, equalIn_ids a b ha hb]; rfl
end Go.Proofs.YtbfoiocbmhhdbaaGreat
/- Names as keys; sets of names. -/
namespace Go.Proofs.YtbfoiocbmhhdbaaGreat
open Go.RowKit Go.Maps
set_option linter.unusedSimpArgs false
set_option linter.unusedVariables false
theorem laidOut11 : laidOutB Tryz.prog = true := by kernel_rfl
theorem idRow : (48 : TypeId) < Tryz.prog.types.size := of_decide_eq_true (by kernel_rfl)
theorem idLaw : WideMaps.KeyLaw Tryz.prog 48 := deep_law_laid laidOut11 (m := 2) (by omega) idRow (by kernel_rfl) (by kernel_rfl)
theorem idKey : Keyed Tryz.prog 48 := Keyed.of_law idLaw
theorem mapM_some {β : Type} (f : Nat → Option β) : ∀ l : List Nat, (∀ i ∈ l, ∃ y, f i = some y) → ∃ ys, l.mapM f = some ys
  | [], _ => ⟨[], rfl⟩
  | i :: l, h => by
    obtain ⟨y, hy⟩ := h i (by simp)
    obtain ⟨ys, hys⟩ := mapM_some f l (fun j hj => h j (by simp [hj]))
    exact ⟨y :: ys, by simp [List.mapM_cons, hy, hys]⟩
theorem u8wf (n : Nat) (h : n < 256) : (Lit.int .u8 (n : Int)).wf = true := by
  show (decide (IntKind.u8.min ≤ (n : Int)) && decide ((n : Int) ≤ IntKind.u8.max)) = true
  have e1 : IntKind.u8.min = 0 := by decide
  have e2 : IntKind.u8.max = 255 := by decide
  rw [e1, e2]; simp; omega
theorem lits_u8 {P : Program} {e : TypeId} (he : P.underlying e = some (.int .u8)) (d n : Nat) (h : n < 256) : P.keyLits (d + 1) e [.int .u8 (n : Int)] = some [.int .u8 (n : Int)] := by
  unfold Program.keyLits
  rw [he]
  simp [u8wf n h]
theorem lits_arr {P : Program} {k e : TypeId} (d : Nat) (cs ys) (hk : P.underlying k = some (.array 32 e)) (hc : cs.length = P.cellsOf k) (h : ((List.range 32).mapM fun i => P.keyLits d e ((cs.drop (i * P.cellsOf e)).take (P.cellsOf e))) = some ys) :
    P.keyLits (d + 1) k cs = some ys.flatten := by
  unfold Program.keyLits
  rw [hk]
  simp only [hc, if_true, h, Option.map_some]
theorem key_gen {P : Program} {k e : TypeId} (hu : P.underlying k = some (.array 32 e)) (he : P.underlying e = some (.int .u8)) (hk : P.keyType k = true) (c1 : P.cellsOf k = 32) (c2 : P.cellsOf e = 1) (hn : 0 < P.types.size) (s : ByteArray) (hs : s.size = 32) :
    ∃ l, keyOf P k (.agg (idc s)) = some l := by
  have hf : (Value.agg (idc s)).formed P k = true := by
    unfold Value.formed
    rw [hu]
    simp [idc_size, hs, c1]
  have hc : (idc s).toList.length = 32 := by rw [Array.length_toList, idc_size, hs]
  obtain ⟨m, hm⟩ : ∃ m, P.types.size = m + 1 := ⟨P.types.size - 1, by omega⟩
  obtain ⟨ys, hys⟩ := mapM_some (fun i => P.keyLits (m + 1) e (((idc s).toList.drop (i * P.cellsOf e)).take (P.cellsOf e))) (List.range 32) (fun i hi => by
    have hi' : i < 32 := List.mem_range.1 hi
    have hg := idc_get s i (by omega)
    have e1 : ((idc s).toList.drop (i * P.cellsOf e)).take (P.cellsOf e) = [.int .u8 (s[i].toNat : Int)] := by
      have h1 : i < (idc s).toList.length := by omega
      rw [c2, Nat.mul_one, List.drop_eq_getElem_cons h1]
      have : (idc s).toList[i]? = some (.int .u8 (s[i].toNat : Int)) := by rw [Array.getElem?_toList]; exact hg
      rw [List.getElem?_eq_getElem h1] at this
      injection this with this
      rw [this]; rfl
    rw [e1]
    exact ⟨_, lits_u8 he m _ s[i].toNat_lt⟩)
  refine ⟨.string (keyBytes ys.flatten), ?_⟩
  unfold keyOf
  rw [hu]
  simp only [hk, hf, Bool.and_self, if_true]
  rw [show (Value.agg (idc s)).cells.toList = (idc s).toList from rfl, lits_arr (P.types.size) _ ys hu (by rw [hc, c1]) (by rw [hm]; exact hys)]
  rfl
theorem key_some (s : ByteArray) (hs : s.size = 32) : ∃ l, keyOf Tryz.prog 48 (.agg (idc s)) = some l :=
  key_gen (P := Tryz.prog) (k := 48) (e := 5) (by kernel_rfl) Tryz.underlying5 (by kernel_rfl) (by kernel_rfl) (by kernel_rfl) (of_decide_eq_true (by kernel_rfl)) s hs
/-- A name as a key. -/
noncomputable def kI (s : ByteArray) : Lit := @Classical.epsilon Lit ⟨.bool true⟩ (fun l => keyOf Tryz.prog 48 (.agg (idc s)) = some l)
theorem kI_key (s : ByteArray) (hs : s.size = 32) : keyOf Tryz.prog 48 (.agg (idc s)) = some (kI s) := @Classical.epsilon_spec Lit (fun l => keyOf Tryz.prog 48 (.agg (idc s)) = some l) (key_some s hs)
theorem idc_inj {s t : ByteArray} (h : idc s = idc t) : s = t := by
  have hz : s.size = t.size := by rw [← idc_size, h, idc_size]
  apply bl_inj
  apply List.ext_getElem?
  intro i
  by_cases hi : i < s.size
  · have h1 := idc_get s i hi
    have h2 := idc_get t i (by omega)
    rw [h, h2] at h1
    have e : t[i].toNat = s[i].toNat := by
      simp only [Option.some.injEq, Value.int.injEq, true_and] at h1
      omega
    have e2 : s[i] = t[i]'(by omega) := UInt8.toNat.inj e.symm
    have h5 : i < s.data.size := hi
    have h6 : i < t.data.size := by have : i < t.size := by omega
                                    exact this
    rw [bl, bl, Array.getElem?_toList, Array.getElem?_toList, Array.getElem?_eq_getElem h5, Array.getElem?_eq_getElem h6]
    exact congrArg some e2
  · rw [List.getElem?_eq_none (by rw [bl_length]; omega), List.getElem?_eq_none (by rw [bl_length]; omega)]
theorem kI_inj {s t : ByteArray} (hs : s.size = 32) (ht : t.size = 32) (h : kI s = kI t) : s = t := by
  have h1 := kI_key s hs
  have h2 := kI_key t ht
  rw [h] at h1
  exact idc_inj (Value.agg.inj (idKey.inj h1 h2))
/-- Whether a name is on a list. -/
def onL (d : List ByteArray) (x : ByteArray) : Bool := d.any (fun y => bl y == bl x)
theorem onL_snoc (d : List ByteArray) (y x : ByteArray) : onL (d ++ [y]) x = (onL d x || (bl y == bl x)) := by simp [onL]
/-- Block m is a map whose keys are these names, each with an element as E says. -/
def St (E : Value → Prop) (w : World) (m : Nat) (d : List ByteArray) : Prop :=
  ∃ D, Mp w 48 m D ∧ Maps.size D ≤ d.length ∧ ∀ x, x.size = 32 → (hAt D (kI x)).isSome = onL d x ∧ ∀ v, hAt D (kI x) = some v → E v
theorem St.lt {E : Value → Prop} {w : World} {m : Nat} {d : List ByteArray} (h : St E w m d) : m < w.heap.size := by
  obtain ⟨D, h1, _⟩ := h; exact h1.lt
theorem St.keep {E : Value → Prop} {w w' : World} {m : Nat} {d : List ByteArray} (h : St E w m d) (hb : w'.heap[m]? = w.heap[m]?) : St E w' m d := by
  obtain ⟨D, ⟨es, c, h1, h2, h3, h4⟩, h5⟩ := h
  exact ⟨D, ⟨es, c, hb.trans h1, h2, h3, h4⟩, h5⟩
theorem St.grown {E : Value → Prop} {w w' : World} {m : Nat} {d : List ByteArray} {r : Option Nat} (h : St E w m d) (hg : w.grownBy w' r) (hr : some m ≠ r) : St E w' m d := h.keep (hg.block m h.lt hr)
theorem St.below {E : Value → Prop} {w w' : World} {m : Nat} {d : List ByteArray} (h : St E w m d) (hb : Below w.heap.size w w') : St E w' m d := h.keep (hb.block m h.lt)
theorem St.alloc {E : Value → Prop} {w : World} {m : Nat} {d : List ByteArray} (h : St E w m d) (o : Obj) : St E (w.alloc o) m d := h.grown (World.grownBy_alloc w o none) (by simp)
theorem St.isMap {E : Value → Prop} {w : World} {m : Nat} {d : List ByteArray} (h : St E w m d) : ∃ es c, w.heap[m]? = some (.map es c) := by
  obtain ⟨D, ⟨es, c, h1, _⟩, _⟩ := h
  exact ⟨es, c, h1⟩
theorem St.made (E : Value → Prop) (w : World) : St E (w.alloc (.map #[] 0)) w.heap.size [] :=
  ⟨.map [], Mp.made w _, Nat.le_refl _, fun x _ => ⟨rfl, fun v hv => by rw [hAt_empty] at hv; cases hv⟩⟩
theorem St.look {E : Value → Prop} {w : World} {m : Nat} {d : List ByteArray} {t e : TypeId} (h : St E w m d) (ht : Tryz.prog.underlying t = some (.map 48 e)) {z : Value} (hz : (zeroValue e).run Tryz.prog w = .ok z w) (hE : E z) (x : ByteArray) (hx : x.size = 32) :
    ∃ v, (Instr.lookup t (.map (some m)) (.agg (idc x)) true).run Tryz.prog w = .ok (.tuple #[v, .bool (onL d x)]) w ∧ E v := by
  obtain ⟨D, h1, _, h3⟩ := h
  obtain ⟨a, b⟩ := h3 x hx
  refine ⟨(hAt D (kI x)).getD z, ?_, ?_⟩
  · rw [← a]; exact (h1.at_held idKey ht hz (kI_key x hx)).1
  · cases hv : hAt D (kI x) with
    | none => exact hE
    | some v => exact b v hv
theorem St.put {E : Value → Prop} {w : World} {m : Nat} {d : List ByteArray} {t e : TypeId} (h : St E w m d) (ht : Tryz.prog.underlying t = some (.map 48 e)) (hn : d.length < 1048576) (x : ByteArray) (hx : x.size = 32) (v : Value) (hE : E v) :
    ∃ w', (Instr.mapUpdate t (.map (some m)) (.agg (idc x)) v).run Tryz.prog w = .ok () w' ∧ St E w' m (d ++ [x]) ∧ w.grownBy w' (some m) := by
  obtain ⟨D, h1, h2, h3⟩ := h
  obtain ⟨w', g1, g2, g3⟩ := h1.put idKey ht (by unfold maxLen; omega) (kI_key x hx) v
  have hk := idKey.key (kI_key x hx)
  have hD : IsMap D := World.ownsMap.isMap h1
  have htd : Tidy D := World.ownsMap.tidy h1 idKey
  refine ⟨w', g1, ⟨_, g2, ?_, ?_⟩, g3⟩
  · rw [Maps.size_put htd, List.length_append, List.length_singleton]
    split <;> omega
  · intro y hy
    rw [onL_snoc]
    by_cases e : y = x
    · subst e
      rw [hAt_put_same hD hk]
      refine ⟨by simp, fun u hu => ?_⟩
      injection hu with hu
      rw [← hu]; exact hE
    · have ne : kI y ≠ kI x := fun h => e (kI_inj hy hx h)
      rw [hAt_put_other ne]
      have : (bl x == bl y) = false := by
        rw [beq_eq_false_iff_ne]
        intro h
        exact e (bl_inj h).symm
      rw [this, Bool.or_false]
      exact h3 y hy
end Go.Proofs.YtbfoiocbmhhdbaaGreat
/- Plain facts: what a reader took, put again, is the bytes that it took. -/
namespace Go.Proofs.YtbfoiocbmhhdbaaGreat
set_option linter.unusedSimpArgs false
set_option linter.unusedVariables false
open Go
theorem slen_unique (n k : Nat) (h : n < 2 ^ 64) (hk : 1 ≤ k) (h1 : n < 128 ^ k) (h2 : 1 < k → 128 ^ (k - 1) ≤ n) : slen n = k := by
  have a := slen_pos n
  have b := slen_hi n h
  rcases Nat.lt_trichotomy (slen n) k with c | c | c
  · have d := h2 (by omega)
    have e : 128 ^ slen n ≤ 128 ^ (k - 1) := Nat.pow_le_pow_right (by omega) (by omega)
    omega
  · exact c
  · have d := slen_lo n h (by omega)
    have e : 128 ^ k ≤ 128 ^ (slen n - 1) := Nat.pow_le_pow_right (by omega) (by omega)
    omega
theorem enc_dec : ∀ (l : List UInt8) (i acc n k : Nat), dec i acc l = some (n, k) →
    ∃ v, n = acc + v * 128 ^ i ∧ i + 1 ≤ k ∧ by8 (encN (k - i - 1) v) = l.take (k - i) ∧ v < 128 ^ (k - i) ∧ (0 < i → 0 < v) ∧ (i + 1 < k → 128 ^ (k - i - 1) ≤ v)
  | [], i, acc, n, k, h => by simp [dec] at h
  | b :: r, i, acc, n, k, h => by
    rw [dec] at h
    split at h
    · simp at h
    · split at h
      · rename_i hb
        obtain ⟨v, e1, e2, e3, e4, e5, e6⟩ := enc_dec r (i + 1) _ n k h
        have hv := e5 (by omega)
        have hb2 := b.toNat_lt
        have hk : k - i = (k - (i + 1)) + 1 := by omega
        have hk1 : k - i - 1 = (k - (i + 1) - 1) + 1 := by omega
        refine ⟨b.toNat % 128 + 128 * v, ?_, by omega, ?_, ?_, fun _ => by omega, fun _ => ?_⟩
        · rw [e1, Nat.pow_succ, Nat.add_mul]
          have : v * (128 ^ i * 128) = 128 * v * 128 ^ i := by rw [Nat.mul_comm (128 ^ i) 128, ← Nat.mul_assoc, Nat.mul_comm v 128]
          omega
        · rw [hk1, hk, encN, List.take_succ_cons, ← e3]
          have q1 : (b.toNat % 128 + 128 * v) % 128 + 128 = b.toNat := by omega
          have q2 : (b.toNat % 128 + 128 * v) / 128 = v := by omega
          rw [q1, q2]
          show UInt8.ofNat b.toNat :: by8 (encN (k - (i + 1) - 1) v) = _
          simp
        · rw [hk, Nat.pow_succ]; omega
        · rcases Nat.lt_or_ge (i + 1 + 1) k with g | g
          · have := e6 g
            rw [hk1, Nat.pow_succ]; omega
          · have : k - i - 1 = 1 := by omega
            rw [this]; omega
      · rename_i hb
        split at h
        · simp at h
        · rename_i hc
          simp only [Option.some.injEq, Prod.mk.injEq] at h
          obtain ⟨rfl, rfl⟩ := h
          refine ⟨b.toNat, rfl, by omega, ?_, ?_, fun hi => by omega, fun g => by omega⟩
          · rw [show i + 1 - i - 1 = 0 from by omega, show i + 1 - i = 1 from by omega]
            show [UInt8.ofNat b.toNat] = [b]
            simp
          · rw [show i + 1 - i = 1 from by omega]; omega
/-- A short number that was read, put again, is the bytes that were read. -/
theorem sh_again (s : ByteArray) (h : shK s ≠ 0) : sb (encS (shN s)) = s.extract 0 (shK s) := by
  unfold shK shN at *
  cases e : decS (bl s) with
  | none => rw [e] at h; simp at h
  | some p =>
    obtain ⟨v, e1, e2, e3, e4, e5, e6⟩ := enc_dec (bl s) 0 0 p.1 p.2 e
    have bnd := dec_bounds (bl s) 0 0 p.1 p.2 e (by omega)
    simp only [Option.getD_some]
    have hv : p.1 = v := by simpa using e1
    have hs : slen p.1 = p.2 := slen_unique p.1 p.2 bnd.2.2.2 (by omega) (by rw [hv]; simpa using e4) (fun g => by rw [hv]; simpa using e6 (by omega))
    apply bl_inj
    rw [bl_sb, extract_take s p.2 (by rw [← bl_length]; omega), encS, hs, hv]
    simpa using e3
theorem fixN_fixV : ∀ (d : Nat) (l : List UInt8), l.length = d → by8 (fixN d (fixV l)) = l
  | 0, l, h => by have : l = [] := by cases l with | nil => rfl | cons a b => simp at h
                  subst this; rfl
  | d + 1, l, h => by
    obtain ⟨l', c, rfl⟩ : ∃ l' c, l = l' ++ [c] := ⟨l.dropLast, l.getLast (by intro e; subst e; simp at h), (List.dropLast_concat_getLast _).symm⟩
    have hc := c.toNat_lt
    have hl : l'.length = d := by simpa using h
    have e : by8 (fixN (d + 1) (fixV (l' ++ [c]))) = by8 (fixN d (fixV (l' ++ [c]) / 256)) ++ [UInt8.ofNat (fixV (l' ++ [c]) % 256)] := by simp [by8, fixN]
    rw [e, fixV_snoc, show (fixV l' * 256 + c.toNat) / 256 = fixV l' from by omega, show (fixV l' * 256 + c.toNat) % 256 = c.toNat from by omega, fixN_fixV d l' hl]
    simp
theorem fix_again (s : ByteArray) (d : Nat) (h : d ≤ s.size) : sb (fixN d (fixV ((bl s).take d))) = s.extract 0 d := by
  apply bl_inj
  rw [bl_sb, extract_take s d h]
  exact fixN_fixV d _ (by rw [List.length_take, bl_length]; omega)
theorem fix_lt (s : ByteArray) (d : Nat) (h : d ≤ s.size) : fixV ((bl s).take d) < 256 ^ d := by
  have := fixV_lt ((bl s).take d)
  rwa [List.length_take, bl_length, Nat.min_eq_left h] at this
theorem take_all (s : ByteArray) : (bl s).take s.size = bl s := List.take_of_length_le (by rw [bl_length]; exact Nat.le_refl _)
/-- Taken off the front: the two parts make the whole. -/
theorem split_at (s : ByteArray) (k : Nat) (h : k ≤ s.size) : s.extract 0 k ++ s.extract k s.size = s := by
  apply bl_inj
  rw [bl_append, extract_take s k h, bl_extract, take_all, List.take_append_drop]
theorem split_mid (s : ByteArray) (j k : Nat) (h : j ≤ k) (hk : k ≤ s.size) : s.extract 0 j ++ s.extract j k ++ s.extract k s.size = s := by
  apply bl_inj
  rw [bl_append, bl_append, extract_take s j (by omega), bl_extract, bl_extract, take_all]
  have e : (bl s).take j = ((bl s).take k).take j := by rw [List.take_take, Nat.min_eq_left h]
  rw [e, List.take_append_drop, List.take_append_drop]
theorem front_of (s a r : ByteArray) (h : s = a ++ r) : s.extract 0 (s.size - r.size) = a := by
  have hz : s.size = a.size + r.size := by subst h; simp
  apply bl_inj
  rw [extract_take s _ (by omega), show s.size - r.size = a.size from by omega]
  subst h
  rw [bl_append, List.take_append_of_le_length (by rw [bl_length]; exact Nat.le_refl _), List.take_of_length_le (by rw [bl_length]; exact Nat.le_refl _)]
theorem next_of (s a r p r' : ByteArray) (h : s = a ++ r) (hr : p ++ r' = r) : s = a ++ p ++ r' := by
  rw [h, ← hr]; apply bl_inj; simp [bl_append]
end Go.Proofs.YtbfoiocbmhhdbaaGreat
/- Plain facts on digits: bytes as digits and back. -/
namespace Go.Proofs.YtbfoiocbmhhdbaaGreat
set_option linter.unusedSimpArgs false
set_option linter.unusedVariables false
open Go
/-- The digit that stands for a number below 16. -/
def dg (v : Nat) : Nat := if v < 10 then 48 + v else 87 + v
/-- What a digit says. -/
def dvl (c : Nat) : Option Nat := if 48 ≤ c ∧ c ≤ 57 then some (c - 48) else if 97 ≤ c ∧ c ≤ 102 then some (c - 87) else none
theorem dg_lt (v : Nat) (h : v < 16) : dg v < 256 := by unfold dg; split <;> omega
theorem dvl_dg (v : Nat) (h : v < 16) : dvl (dg v) = some v := by
  have : ∀ v : Fin 16, dvl (dg v.val) = some v.val := by decide
  exact this ⟨v, h⟩
theorem dvl_some {c v : Nat} (h : dvl c = some v) : v < 16 ∧ dg v = c := by
  unfold dvl at h
  split at h
  · simp only [Option.some.injEq] at h; unfold dg; rw [if_pos (by omega)]; omega
  · split at h
    · simp only [Option.some.injEq] at h; unfold dg; rw [if_neg (by omega)]; omega
    · simp at h
theorem dvl_none {c : Nat} (h : dvl c = none) : ∀ v, v < 16 → dg v ≠ c := by
  intro v hv e
  rw [← e, dvl_dg v hv] at h
  simp at h
/-- Bytes as digits. -/
def hexL : List UInt8 → List Nat
  | [] => []
  | c :: r => dg (c.toNat / 16) :: dg (c.toNat % 16) :: hexL r
/-- Digits as bytes. -/
def unhexL : List UInt8 → Option (List Nat)
  | [] => some []
  | [_] => none
  | a :: b :: r => match dvl a.toNat, dvl b.toNat, unhexL r with
    | some x, some y, some m => some ((x * 16 + y) :: m)
    | _, _, _ => none
theorem hexL_append : ∀ (a b : List UInt8), hexL (a ++ b) = hexL a ++ hexL b
  | [], b => rfl
  | c :: r, b => by simp [hexL, hexL_append r b]
theorem hexL_length : ∀ l : List UInt8, (hexL l).length = 2 * l.length
  | [] => rfl
  | c :: r => by simp [hexL, hexL_length r]; omega
theorem unhex_hex : ∀ l : List UInt8, unhexL (by8 (hexL l)) = some (l.map UInt8.toNat)
  | [] => rfl
  | c :: r => by
    have hc := c.toNat_lt
    have e : by8 (hexL (c :: r)) = UInt8.ofNat (dg (c.toNat / 16)) :: UInt8.ofNat (dg (c.toNat % 16)) :: by8 (hexL r) := rfl
    rw [e, unhexL, toNat_ofNat8 _ (dg_lt _ (by omega)), toNat_ofNat8 _ (dg_lt _ (by omega)), dvl_dg _ (by omega), dvl_dg _ (by omega), unhex_hex r]
    simp only [List.map_cons]
    congr 2
    omega
theorem ofNat_toNat8 (c : UInt8) : UInt8.ofNat c.toNat = c := by simp
theorem by8_toNat : ∀ l : List UInt8, by8 (l.map UInt8.toNat) = l
  | [] => rfl
  | c :: r => by
    have e : by8 ((c :: r).map UInt8.toNat) = UInt8.ofNat c.toNat :: by8 (r.map UInt8.toNat) := rfl
    rw [e, ofNat_toNat8, by8_toNat r]
theorem hex_unhex : ∀ (n : Nat) (l : List UInt8), l.length ≤ n → ∀ m, unhexL l = some m → by8 (hexL (by8 m)) = l ∧ 2 * m.length = l.length
  | _, [], _, m, h => by simp [unhexL] at h; subst h; exact ⟨rfl, rfl⟩
  | _, [_], _, m, h => by simp [unhexL] at h
  | 0, a :: b :: r, hl, m, h => by simp at hl
  | n + 1, a :: b :: r, hl, m, h => by
    rw [unhexL] at h
    split at h
    · rename_i x y m' hx hy hm
      simp only [Option.some.injEq] at h
      subst h
      obtain ⟨i1, i2⟩ := hex_unhex n r (by simp at hl; omega) m' hm
      obtain ⟨x1, x2⟩ := dvl_some hx
      obtain ⟨y1, y2⟩ := dvl_some hy
      have e : by8 (hexL (by8 ((x * 16 + y) :: m'))) = UInt8.ofNat (dg ((UInt8.ofNat (x * 16 + y)).toNat / 16)) :: UInt8.ofNat (dg ((UInt8.ofNat (x * 16 + y)).toNat % 16)) :: by8 (hexL (by8 m')) := rfl
      rw [e, toNat_ofNat8 _ (by omega), show (x * 16 + y) / 16 = x from by omega, show (x * 16 + y) % 16 = y from by omega, x2, y2, i1, ofNat_toNat8, ofNat_toNat8]
      exact ⟨rfl, by simp; omega⟩
    · simp at h
/-- What Unhex answers. -/
def uhS (s : ByteArray) : ByteArray := ((unhexL (bl s)).map sb).getD ⟨#[]⟩
def uhE (s : ByteArray) : Int := if (unhexL (bl s)).isSome then 0 else 4
theorem unhexL_odd : ∀ (n : Nat) (l : List UInt8), l.length ≤ n → l.length % 2 = 1 → unhexL l = none
  | _, [], _, h => by simp at h
  | _, [_], _, _ => rfl
  | 0, a :: b :: r, hl, _ => by simp at hl
  | n + 1, a :: b :: r, hl, h => by
    rw [unhexL, unhexL_odd n r (by simp at hl; omega) (by simp at h; omega)]
    split <;> simp_all
theorem drop_two (s : ByteArray) (k : Nat) (h : k + 1 < s.size) : (bl s).drop k = s[k] :: s[k + 1] :: (bl s).drop (k + 2) := by
  rw [drop_at s k (by omega), drop_at s (k + 1) h]
/-- One more pair is read. -/
theorem unhex_step (s : ByteArray) (k : Nat) (m : List Nat) (x y : Nat) (h : k + 1 < s.size) (hm : unhexL (bl s) = (unhexL ((bl s).drop k)).map (m ++ ·)) (hx : dvl s[k].toNat = some x) (hy : dvl s[k + 1].toNat = some y) :
    unhexL (bl s) = (unhexL ((bl s).drop (k + 2))).map (m ++ [x * 16 + y] ++ ·) := by
  rw [hm, drop_two s k h, unhexL, hx, hy]
  cases unhexL ((bl s).drop (k + 2)) with
  | none => rfl
  | some r => simp
theorem unhex_bad (s : ByteArray) (k : Nat) (m : List Nat) (h : k + 1 < s.size) (hm : unhexL (bl s) = (unhexL ((bl s).drop k)).map (m ++ ·)) (hx : dvl s[k].toNat = none ∨ dvl s[k + 1].toNat = none) :
    unhexL (bl s) = none := by
  rw [hm, drop_two s k h, unhexL]
  rcases hx with e | e
  · rw [e]; rfl
  · rw [e]; split <;> simp_all
theorem unhex_all (s : ByteArray) (k : Nat) (m : List Nat) (h : s.size ≤ k) (hm : unhexL (bl s) = (unhexL ((bl s).drop k)).map (m ++ ·)) : unhexL (bl s) = some m := by
  rw [hm, List.drop_of_length_le (by rw [bl_length]; exact h)]; simp [unhexL]
theorem uh_some {s : ByteArray} {m : List Nat} (h : unhexL (bl s) = some m) : uhS s = sb m ∧ uhE s = 0 := by simp [uhS, uhE, h]
theorem uh_none {s : ByteArray} (h : unhexL (bl s) = none) : uhS s = ⟨#[]⟩ ∧ uhE s = 4 := by simp [uhS, uhE, h]
/-- Digits there and back. -/
theorem uh_hex (s : ByteArray) : uhS (sb (hexL (bl s))) = s ∧ uhE (sb (hexL (bl s))) = 0 := by
  have e : unhexL (bl (sb (hexL (bl s)))) = some ((bl s).map UInt8.toNat) := by rw [bl_sb]; exact unhex_hex _
  obtain ⟨a, b⟩ := uh_some e
  refine ⟨?_, b⟩
  rw [a]
  apply bl_inj
  rw [bl_sb, by8_toNat]
theorem hex_uh (s : ByteArray) (h : uhE s = 0) : sb (hexL (bl (uhS s))) = s := by
  cases e : unhexL (bl s) with
  | none => rw [(uh_none e).2] at h; cases h
  | some m =>
    rw [(uh_some e).1]
    apply bl_inj
    rw [bl_sb, bl_sb]
    exact (hex_unhex _ _ (Nat.le_refl _) m e).1
theorem uhE_cases (s : ByteArray) : uhE s = 0 ∨ uhE s = 4 := by unfold uhE; split <;> simp
theorem u8_shl4_or (x y : Nat) (hx : x < 16) (hy : y < 16) : bits .or .u8 (IntKind.u8.wrap ((x : Int) * 16)) (y : Int) = ((x * 16 + y : Nat) : Int) := by
  have h : ∀ x y : Fin 16, bits .or .u8 (IntKind.u8.wrap ((x.val : Int) * 16)) (y.val : Int) = ((x.val * 16 + y.val : Nat) : Int) := by decide +kernel
  exact h ⟨x, hx⟩ ⟨y, hy⟩
theorem u8_and_15 (b : Nat) (hb : b < 256) : bits .and .u8 (b : Int) 15 = ((b % 16 : Nat) : Int) := by
  have h : ∀ a : Fin 256, bits .and .u8 (a.val : Int) 15 = ((a.val % 16 : Nat) : Int) := by decide +kernel
  exact h ⟨b, hb⟩
end Go.Proofs.YtbfoiocbmhhdbaaGreat
