import Derived.Test.YtbfoiocbmhhdbaaGreatY8
import Derived.RegionTactic
import Derived.BigRegion
import Derived.Laws.MakeOwn
import Derived.Test.YtbfoiocbmhhdbaaGreatY6
import Derived.Test.YtbfoiocbmhhdbaaGreatY4
/- midx.take. -/
namespace Go.Proofs.YtbfoiocbmhhdbaaGreat
open Go.RowKit
set_option linter.unusedSimpArgs false
set_option linter.unusedVariables false
/-- What a reader does, whether or not there are so many bytes. -/
def rstT (t : ByteArray) (n : Nat) : ByteArray := if n ≤ t.size then t.extract n t.size else t
theorem bl_rstT (t : ByteArray) (n : Nat) : bl (rstT t n) = rstB (bl t) n := by
  unfold rstT rstB
  rw [bl_length]
  split
  · exact bl_ex t n
  · rfl
theorem rstT_le (t : ByteArray) (n : Nat) : (rstT t n).size ≤ t.size := by
  unfold rstT
  split
  · rw [ex_size]; omega
  · exact Nat.le_refl _
theorem take_if (s : ByteArray) (b : Nat) (w : World) (hs : s.size ≤ maxLen) (hc : w.cell? ⟨b, 0, none⟩ = some (.string s)) (hf : w.frozen? ⟨b, 0, none⟩ = false) (hb : b < w.heap.size) (n : Nat) (hn : n ≤ 4096) :
    Calls Tryz.prog 74 #[.pointer (some ⟨b, 0, none⟩), .int .i64 n] w fun e w' => ∃ v, e = .returned v ∧ Step b w w' (rstT s n) := by
  unfold rstT
  by_cases h : n ≤ s.size
  · rw [if_pos h]
    exact (take_ok s b w hs hc hf hb n h).mono fun e w' q => ⟨_, q.1, q.2⟩
  · rw [if_neg h]
    exact (take_no s b w hs hc hf hb n (by omega) (by omega)).mono fun e w' q => ⟨_, q.1, q.2⟩
theorem fixed_if (s : ByteArray) (b : Nat) (w : World) (hs : s.size ≤ maxLen) (hc : w.cell? ⟨b, 0, none⟩ = some (.string s)) (hf : w.frozen? ⟨b, 0, none⟩ = false) (hb : b < w.heap.size) :
    Calls Tryz.prog 75 #[.pointer (some ⟨b, 0, none⟩), .int .i64 4] w fun e w' => ∃ E, e = .returned (.tuple #[.int .u64 (tkV (bl s)), .int .i64 E]) ∧ Step b w w' (rstT s 4) := by
  unfold rstT tkV
  rw [bl_length]
  by_cases h : 4 ≤ s.size
  · rw [if_pos h, if_pos h]
    exact (fixed_ok s b w hs hc hf hb 4 (by omega) (by omega) h).mono fun e w' q => ⟨_, q.1, q.2⟩
  · rw [if_neg h, if_neg h]
    exact (fixed_no s b w hs hc hf hb 4 (by omega) (by omega) (by omega)).mono fun e w' q => ⟨_, q.1, q.2⟩
theorem tkV_lt (s : ByteArray) : tkV (bl s) < 4294967296 := by
  unfold tkV
  rw [bl_length]
  split
  · have := fix_lt s 4 (by omega); omega
  · omega
/-- Names that are being taken. -/
structure TkP (w : World) (b g m : Nat) (t : ByteArray) (l : List ByteArray) (wr : World) : Prop where
  rc : wr.cell? ⟨b, 0, none⟩ = some (.string t)
  rf : wr.frozen? ⟨b, 0, none⟩ = false
  rl : b < wr.heap.size
  row : ∃ C, Bk wr g C 48 ∧ C.size = m * 32 ∧ ∀ i s, l[i]? = some s → ∀ j, j < 32 → C[i * 32 + j]? = (idc s)[j]?
  bel : Below w.heap.size w wr
  hb : w.heap.size ≤ b
  hg : b < g
theorem TkP.step {w wr w' : World} {t t' : ByteArray} {b g m : Nat} {l : List ByteArray} (h : TkP w b g m t l wr) (hs : Step b wr w' t') : TkP w b g m t' l w' := by
  have h1 := h.hb
  have h2 := h.hg
  obtain ⟨C, c1, c2⟩ := h.row
  refine ⟨hs.cell, hs.frozen, Nat.lt_of_lt_of_le h.rl hs.size, ⟨C, ?_, c2⟩, h.bel.trans (hs.below h1 h.bel.size), h.hb, h.hg⟩
  unfold Bk; rw [hs.block _ c1.lt (by omega)]; exact c1
theorem TkP.put {w wr w' : World} {t : ByteArray} {b g m : Nat} {l : List ByteArray} {C' : Array Value} {e : ByteArray} (h : TkP w b g m t l wr) (hg : wr.grownBy w' (some g)) (hC : Bk w' g C' 48) (hz : C'.size = m * 32) (hn : ∀ i e', (l ++ [e])[i]? = some e' → ∀ j, j < 32 → C'[i * 32 + j]? = (idc e')[j]?) : TkP w b g m t (l ++ [e]) w' := by
  have h1 := h.hb
  have h2 := h.hg
  have q := cell_blkX (j := 0) (hg.block b h.rl (fun e => by injection e with e; omega))
  exact ⟨by rw [q.1]; exact h.rc, by rw [q.2]; exact h.rf, Nat.lt_of_lt_of_le h.rl hg.size, ⟨C', hC, hz, hn⟩, below_own h.bel h.bel.size hg (by omega), h.hb, h.hg⟩
theorem TkP.nml {w wr : World} {t : ByteArray} {b g m : Nat} {l : List ByteArray} (h : TkP w b g m t l wr) (hs : ∀ s ∈ l, s.size = 32) : NmL wr (some ⟨g, 0, none⟩) l := fun i s hi => by
  obtain ⟨C, c1, c2, c3⟩ := h.row
  have h32 := hs s (List.mem_of_getElem? hi)
  refine ⟨h32, g, 0, rfl, c1.lt, fun j v hv => ?_⟩
  have hj : j < 32 := by
    have := (Array.getElem?_eq_some_iff.1 hv).1
    rw [idc_size, h32] at this; exact this
  rw [c1.cell, Nat.zero_add, c3 i s hi j hj, hv]
theorem take_snocN {l : List ByteArray} {k : Nat} {e : ByteArray} (h : l[k]? = some e) : l.take (k + 1) = l.take k ++ [e] := by
  rw [List.take_add_one, h]; rfl
theorem take_snocM {l : List Mr} {k : Nat} {e : Mr} (h : l[k]? = some e) : l.take (k + 1) = l.take k ++ [e] := by
  rw [List.take_add_one, h]; rfl
theorem inf_id3 : (Tryz.prog.info? 48).map (fun i => (i.zero, i.size, i.bytes)) = some (some (.agg z32c), 32, 32) := by kernel_rfl
theorem make_idk (n : Nat) (hn : n ≤ 4096) (u : World) : (Instr.makeSlice 42 (.int .u64 (n : Int)) (.int .u64 (n : Int))).run Tryz.prog u = .ok (.slice (some ⟨u.heap.size, 0, none⟩) n n) (u.alloc (.cells (madeCells (Value.agg z32c).cells (n * 32)) 48)) := by
  obtain ⟨i0, hi, hz0, hz1, hz2⟩ := info_parts inf_id3
  have h := run_makeSlice u 42 48 i0 (.agg z32c) Tryz.underlying42 hi hz0 .u64 .u64 (n : Int) (n : Int) (by omega) (Int.le_refl _) (by rw [hz1]; omega) (by rw [hz2]; omega) (by omega)
  rw [hz1, Int.toNat_natCast] at h
  exact h
theorem make_mrk (n : Nat) (hn : n ≤ 1048576) (u : World) : (Instr.makeSlice 58 (.int .i64 (n : Int)) (.int .i64 (n : Int))).run Tryz.prog u = .ok (.slice (some ⟨u.heap.size, 0, none⟩) n n) (u.alloc (.cells (madeCells (Value.agg z67).cells (n * 67)) 52)) := by
  obtain ⟨i0, hi, hz0, hz1, hz2⟩ := info_parts inf_mr
  have h := run_make u 58 52 i0 (.agg z67) Tryz.underlying58 hi hz0 .i64 .i64 (n : Int) (n : Int) (by omega) (Int.le_refl _) (by rw [hz2]; omega) (by omega)
  rw [hz1, Int.toNat_natCast] at h
  exact h
/-- Rows that are being taken, of packs that stand where they were put. -/
structure TkM (w : World) (b gp g m : Nat) (ps : List ByteArray) (t : ByteArray) (l : List Mr) (wr : World) : Prop where
  rc : wr.cell? ⟨b, 0, none⟩ = some (.string t)
  rf : wr.frozen? ⟨b, 0, none⟩ = false
  rl : b < wr.heap.size
  row : ∃ C, Bk wr g C 52 ∧ C.size = m * 67 ∧ ∀ i s, l[i]? = some s → ∀ j, j < 67 → C[i * 67 + j]? = (mrC s)[j]?
  bel : Below w.heap.size w wr
  hb : w.heap.size ≤ b
  hp : b < gp
  hg : gp < g
  nm : NmL wr (some ⟨gp, 0, none⟩) ps
theorem NmL.grown {w w' : World} {g k : Nat} {l : List ByteArray} (h : NmL w (some ⟨g, 0, none⟩) l) (hg : w.grownBy w' (some k)) (hk : g ≠ k) : NmL w' (some ⟨g, 0, none⟩) l := fun i s hi => by
  obtain ⟨h1, g', o, h2, h3, h4⟩ := h i s hi
  simp only [Option.some.injEq, Addr.mk.injEq] at h2
  obtain ⟨rfl, rfl, _⟩ := h2
  refine ⟨h1, g, 0, rfl, Nat.lt_of_lt_of_le h3 hg.size, fun j v hv => ?_⟩
  have := hg.block g h3 (fun e => by injection e with e; omega)
  rw [show w'.cell? ⟨g, 0 + i * 32 + j, none⟩ = w.cell? ⟨g, 0 + i * 32 + j, none⟩ from (cell_blkX this).1]
  exact h4 j v hv
theorem TkM.step {w wr w' : World} {t t' : ByteArray} {b gp g m : Nat} {ps : List ByteArray} {l : List Mr} (h : TkM w b gp g m ps t l wr) (hs : Step b wr w' t') : TkM w b gp g m ps t' l w' := by
  have h1 := h.hb
  have h2 := h.hg
  have h3 := h.hp
  obtain ⟨C, c1, c2⟩ := h.row
  refine ⟨hs.cell, hs.frozen, Nat.lt_of_lt_of_le h.rl hs.size, ⟨C, ?_, c2⟩, h.bel.trans (hs.below h1 h.bel.size), h.hb, h.hp, h.hg, h.nm.step hs (fun p hp => by injection hp with hp; rw [← hp]; show gp ≠ b; omega)⟩
  unfold Bk; rw [hs.block _ c1.lt (by omega)]; exact c1
theorem TkM.put {w wr w' : World} {t : ByteArray} {b gp g m : Nat} {ps : List ByteArray} {l : List Mr} {C' : Array Value} {e : Mr} (h : TkM w b gp g m ps t l wr) (hg : wr.grownBy w' (some g)) (hC : Bk w' g C' 52) (hz : C'.size = m * 67) (hn : ∀ i e', (l ++ [e])[i]? = some e' → ∀ j, j < 67 → C'[i * 67 + j]? = (mrC e')[j]?) : TkM w b gp g m ps t (l ++ [e]) w' := by
  have h1 := h.hb
  have h2 := h.hg
  have h3 := h.hp
  have q := cell_blkX (j := 0) (hg.block b h.rl (fun e => by injection e with e; omega))
  exact ⟨by rw [q.1]; exact h.rc, by rw [q.2]; exact h.rf, Nat.lt_of_lt_of_le h.rl hg.size, ⟨C', hC, hz, hn⟩, below_own h.bel h.bel.size hg (by omega), h.hb, h.hp, h.hg, h.nm.grown hg (by omega)⟩
theorem TkM.mrl {w wr : World} {t : ByteArray} {b gp g m : Nat} {ps : List ByteArray} {l : List Mr} (h : TkM w b gp g m ps t l wr) (hs : ∀ s ∈ l, s.p.size = 32 ∧ s.e.id.size = 32) : MrL wr (some ⟨g, 0, none⟩) l := fun i s hi => by
  obtain ⟨C, c1, c2, c3⟩ := h.row
  have h32 := hs s (List.mem_of_getElem? hi)
  refine ⟨h32, g, 0, rfl, c1.lt, fun j v hv => ?_⟩
  have hj : j < 67 := by
    have := (Array.getElem?_eq_some_iff.1 hv).1
    rw [mrC_size s h32.1 h32.2] at this; exact this
  rw [c1.cell, Nat.zero_add, c3 i s hi j hj, hv]
end Go.Proofs.YtbfoiocbmhhdbaaGreat
/- midx.take: the walk. -/
namespace Go.Proofs.YtbfoiocbmhhdbaaGreat
open Go.RowKit
set_option linter.unusedSimpArgs false
set_option linter.unusedVariables false
/-- A merged index in memory. -/
structure MxS (w : World) (g : Nat) (ps : List ByteArray) (l : List Mr) : Prop where
  row : ∃ gp gr, Bk w g #[.slice (some ⟨gp, 0, none⟩) ps.length ps.length, .slice (some ⟨gr, 0, none⟩) l.length l.length] 101 ∧ NmL w (some ⟨gp, 0, none⟩) ps ∧ MrL w (some ⟨gr, 0, none⟩) l
  pl : ps.length ≤ 4096
  ll : l.length ≤ 1048576
theorem MxS.below {w w' : World} {g : Nat} {ps : List ByteArray} {l : List Mr} (h : MxS w g ps l) (hb : Below w.heap.size w w') : MxS w' g ps l := by
  obtain ⟨gp, gr, h1, h2, h3⟩ := h.row
  exact ⟨⟨gp, gr, h1.below hb h1.lt, h2.below hb, h3.below hb⟩, h.pl, h.ll⟩
theorem rdPk_size (n : Nat) (t : List UInt8) (h : 32 * n ≤ t.length) : ∀ s ∈ rdPk n t, s.size = 32 := fun s hs => by
  obtain ⟨i, hi⟩ := List.getElem?_of_mem hs
  have hl : i < n := by rw [← rdPk_len n t]; exact (List.getElem?_eq_some_iff.1 hi).1
  rw [rdPk_get _ _ _ hl] at hi
  injection hi with hi
  rw [← hi]
  show ((t.drop (32 * i)).take 32).toArray.size = 32
  rw [List.size_toArray, List.length_take, List.length_drop]; omega
theorem rdM_size (ps : List ByteArray) (hp : ∀ p ∈ ps, p.size = 32) (n : Nat) (t : List UInt8) (h : 45 * n ≤ t.length) : ∀ s ∈ rdM ps n t, s.p.size = 32 ∧ s.e.id.size = 32 := fun s hs => by
  obtain ⟨i, hi⟩ := List.getElem?_of_mem hs
  have hl : i < n := by rw [← rdM_len ps n t]; exact (List.getElem?_eq_some_iff.1 hi).1
  rw [rdM_get _ _ _ _ hl] at hi
  injection hi with hi
  rw [← hi]
  cases hq : ps[rdNm (t.drop (45 * i))]? with
  | none => rw [rdMr, hq]; exact ⟨rfl, rfl⟩
  | some p =>
    rw [rdMr_some hq]
    refine ⟨hp p (List.mem_of_getElem? hq), ?_⟩
    show ((t.drop (45 * i)).take 32).toArray.size = 32
    rw [List.size_toArray, List.length_take, List.length_drop]; omega
theorem wpList_min3 {P : Program} {ops : Array Oper} {rest : List Oper} {o : Oper} {a : Act} {w : World} {Q : Exit → Act → World → Prop} (hgd : o.guard = none) (x y z : Operand) (ts : Array TypeId)
    (ho : o.op = .call { callee := .builtin .min, args := #[x, y, z], argTypes := ts }) (vx vy vz v' : Value) (hx : a.eval x = vx) (hy : a.eval y = vy) (hz : a.eval z = vz) (hr : ∀ ty, (Builtin.min_ ts ty #[vx, vy, vz]).run P w = .ok v' w)
    (h : wpList P ops Q rest (a.put o.dst v') w) : wpList P ops Q (o :: rest) a w := by
  refine wpList_plain hgd fun K hK => ?_
  unfold Oper.wp execOp
  simp only [ho, resolve, invoke, builtin, Sem.run_bind, Sem.run_pure, Result.andThen_ok, List.map_toArray, List.map_cons, List.map_nil, hx, hy, hz, hr]
  exact hK _ _ h
theorem wpList_min2 {P : Program} {ops : Array Oper} {rest : List Oper} {o : Oper} {a : Act} {w : World} {Q : Exit → Act → World → Prop} (hgd : o.guard = none) (x y : Operand) (ts : Array TypeId)
    (ho : o.op = .call { callee := .builtin .min, args := #[x, y], argTypes := ts }) (vx vy v' : Value) (hx : a.eval x = vx) (hy : a.eval y = vy) (hr : ∀ ty, (Builtin.min_ ts ty #[vx, vy]).run P w = .ok v' w)
    (h : wpList P ops Q rest (a.put o.dst v') w) : wpList P ops Q (o :: rest) a w := by
  refine wpList_plain hgd fun K hK => ?_
  unfold Oper.wp execOp
  simp only [ho, resolve, invoke, builtin, Sem.run_bind, Sem.run_pure, Result.andThen_ok, List.map_toArray, List.map_cons, List.map_nil, hx, hy, hr]
  exact hK _ _ h
theorem min3_run {P : Program} {w : World} (ts : Array TypeId) (ty : TypeId) (k : IntKind) (x y z n : Nat) (h : n = min (min x y) z) : (Builtin.min_ ts ty #[.int k (x : Int), .int k (y : Int), .int k (z : Int)]).run P w = .ok (.int k (n : Int)) w := by
  have e : (Builtin.min_ ts ty #[.int k (x : Int), .int k (y : Int), .int k (z : Int)]).run P w = .ok (.int k (if (z : Int) < (if (y : Int) < x then (y : Int) else x) then (z : Int) else (if (y : Int) < x then (y : Int) else x))) w := by simp [Builtin.min_, Builtin.min2]
  rw [e]
  congr 2
  split <;> split at * <;> omega
theorem min2_run {P : Program} {w : World} (ts : Array TypeId) (ty : TypeId) (k : IntKind) (x y n : Nat) (h : n = min x y) : (Builtin.min_ ts ty #[.int k (x : Int), .int k (y : Int)]).run P w = .ok (.int k (n : Int)) w := by
  have e : (Builtin.min_ ts ty #[.int k (x : Int), .int k (y : Int)]).run P w = .ok (.int k (if (y : Int) < x then (y : Int) else x)) w := by simp [Builtin.min_, Builtin.min2]
  rw [e]
  congr 2
  split <;> omega
set_option maxHeartbeats 4000000 in
set_option maxRecDepth 100000 in
theorem mtake_any (S : ByteArray) (w : World) (hS : S.size ≤ 140737488351232) :
    Calls Tryz.prog 32 #[.string S] w fun e w' => ∃ g, e = .returned (.pointer (some ⟨g, 0, none⟩)) ∧ w.heap.size ≤ g ∧ MxS w' g (tkPs (bl S)) (tkMs (bl S)) ∧ Below w.heap.size w w' := by
  have hm : ∀ {n : Nat}, n ≤ 140737488351232 → n ≤ maxLen := fun h => by unfold maxLen; omega
  obtain ⟨S1, hS1⟩ : ∃ S1, rstT S 4 = S1 := ⟨_, rfl⟩
  obtain ⟨S2, hS2⟩ : ∃ S2, rstT S1 4 = S2 := ⟨_, rfl⟩
  have z1 : S1.size ≤ 140737488351232 := by rw [← hS1]; exact Nat.le_trans (rstT_le _ _) hS
  have z2 : S2.size ≤ 140737488351232 := by rw [← hS2]; exact Nat.le_trans (rstT_le _ _) z1
  have b1 : bl S1 = rstB (bl S) 4 := by rw [← hS1]; exact bl_rstT S 4
  have b2 : bl S2 = tk2 (bl S) := by rw [← hS2, bl_rstT, b1, tk2]
  obtain ⟨nv, hnv⟩ : ∃ n, tkV (bl S1) = n := ⟨_, rfl⟩
  have lnv : nv < 4294967296 := by rw [← hnv]; exact tkV_lt S1
  obtain ⟨n, hn⟩ : ∃ n, tkPn (bl S) = n := ⟨_, rfl⟩
  have hne : n = min (min nv 4096) (S2.size / 32) := by rw [← hn, tkPn, ← b1, hnv, ← b2, bl_length]
  have hn4 : n ≤ 4096 ∧ 32 * n ≤ S2.size := by omega
  obtain ⟨L, hL⟩ : ∃ L, tkPs (bl S) = L := ⟨_, rfl⟩
  have hLl : L.length = n := by rw [← hL, tkPs_len, hn]
  have HLg : Hid (∀ k, k < n → L[k]? = some ⟨(((bl S2).drop (32 * k)).take 32).toArray⟩) := fun k hk => by
    rw [← hL, tkPs, hn, ← b2, rdPk_get _ _ _ hk]
  have HL32 : Hid (∀ s ∈ L, s.size = 32) := by
    rw [← hL, tkPs, hn, ← b2]
    exact rdPk_size _ _ (by rw [bl_length]; exact hn4.2)
  obtain ⟨m, hmm⟩ : ∃ m, tkMn (bl S) = m := ⟨_, rfl⟩
  obtain ⟨M, hM⟩ : ∃ M, tkMs (bl S) = M := ⟨_, rfl⟩
  have hMl : M.length = m := by rw [← hM, tkMs_len, hmm]
  have HMe : Hid (∀ t : ByteArray, bl t = (bl S2).drop (32 * n) → m = min 1048576 ((rstT t 1028).size / 45) ∧ M = rdM L m (bl (rstT t 1028))) := fun t ht => by
    have e4 : bl (rstT t 1028) = tk4 (bl S) := by rw [bl_rstT, ht, tk4, b2, hn]
    refine ⟨by rw [← hmm, tkMn, ← e4, bl_length], by rw [← hM, tkMs, hL, hmm, e4]⟩
  have hm1 : m ≤ 1048576 := by rw [← hmm]; exact (tkMn_le _).1
  rw [hL, hM]
  have HS : Hid (rstT S 4 = S1 ∧ rstT S1 4 = S2 ∧ tkV (bl S1) = nv) := ⟨hS1, hS2, hnv⟩
  have HLL : Hid (L.length = n ∧ M.length = m) := ⟨hLl, hMl⟩
  clear hS1 hS2 b1 b2 hnv hn hL hLl hmm hM hMl
  go_enter Tryz.func32, Tryz.ntmps32
  go_wp2_with fail
  refine (new_any S w).mono ?_
  rintro e w2 ⟨rfl, rfl⟩
  have H2 : Hid (Bk (w.alloc (.cells #[.string S] 182)) w.heap.size #[.string S] 182) := bk_new _ _ _
  have HR0 : Hid ((w.alloc (.cells #[.string S] 182)).cell? ⟨w.heap.size, 0, none⟩ = some (.string S) ∧ (w.alloc (.cells #[.string S] 182)).frozen? ⟨w.heap.size, 0, none⟩ = false ∧ Below w.heap.size w (w.alloc (.cells #[.string S] 182))) := ⟨by rw [H2.out.cell]; rfl, H2.out.frozen _, (Below.refl _ _).alloc (Nat.le_refl _) _⟩
  go_wp2_with fail
  refine (take_if S w.heap.size _ (hm hS) HR0.out.1 HR0.out.2.1 H2.out.lt 4 (by omega)).mono ?_
  rintro e w3 ⟨v3, rfl, hst3⟩
  rw [HS.out.1] at hst3
  have K3 : Hid (Step w.heap.size (w.alloc (.cells #[.string S] 182)) w3 S1) := hst3
  have l0 : w.heap.size < (w.alloc (.cells #[.string S] 182)).heap.size := H2.out.lt
  clear hst3
  go_wp2_with fail
  refine (fixed_if S1 w.heap.size w3 (hm z1) K3.out.cell K3.out.frozen (Nat.lt_of_lt_of_le l0 K3.out.size)).mono ?_
  rintro e w4 ⟨E4, rfl, hst4⟩
  rw [HS.out.2.1] at hst4
  rw [HS.out.2.2]
  have K4 : Hid (Step w.heap.size (w.alloc (.cells #[.string S] 182)) w4 S2) := K3.out.then hst4
  clear hst4 K3
  go_wp2_with fail
  refine (left_any S2 w.heap.size w4 (hm z2) K4.out.cell).mono ?_
  rintro e w5 ⟨rfl, hw5⟩
  obtain rfl := hw5.symm
  obtain ⟨q2, hq2⟩ : ∃ q, S2.size / 32 = q := ⟨_, rfl⟩
  have hdv : (S2.size : Int) / 32 = (q2 : Int) := by omega
  have hwr : IntKind.u64.wrap (q2 : Int) = (q2 : Int) := by simp [IntKind.wrap, IntKind.bits, IntKind.signed]; omega
  have hmk := make_idk n hn4.1
  have HNE : Hid (n = min (min nv 4096) q2) := by show _ = _; rw [hne, hq2]
  clear hne hq2
  go_wp2_with (first
    | (refine wpList_min3 rfl (.tmp 19) (.const (.int .u64 4096)) (.tmp 23) _ rfl (.int .u64 (nv : Int)) (.int .u64 ((4096 : Nat) : Int)) (.int .u64 (q2 : Int)) (.int .u64 (n : Int)) rfl rfl rfl (fun ty => min3_run _ ty .u64 nv 4096 q2 n HNE.out) ?_)
    | fail)
  have T0 : Hid (TkP w w.heap.size w4.heap.size n S2 (L.take 0) (w4.alloc (.cells (madeCells (Value.agg z32c).cells (n * 32)) 48))) := by
    have q := bk_new w4 (madeCells (Value.agg z32c).cells (n * 32)) 48
    have hlt : w.heap.size < w4.heap.size := Nat.lt_of_lt_of_le l0 K4.out.size
    have hk := cell_blkX (j := 0) (Below.heap_alloc w4 (.cells (madeCells (Value.agg z32c).cells (n * 32)) 48) _ hlt)
    exact ⟨hk.1.trans K4.out.cell, hk.2.trans K4.out.frozen, by rw [al_size]; omega, ⟨_, q, by simp [madeCells], fun i e he => by simp at he⟩, (HR0.out.2.2.trans (K4.out.below (Nat.le_refl _) HR0.out.2.2.size)).alloc (by omega) _, Nat.le_refl _, hlt⟩
  obtain ⟨b, hb⟩ : ∃ b, w.heap.size = b := ⟨_, rfl⟩
  obtain ⟨gp, hgp⟩ : ∃ g, w4.heap.size = g := ⟨_, rfl⟩
  have HGP : Hid (w.heap.size = b ∧ w4.heap.size = gp) := ⟨hb, hgp⟩
  have T1 : Hid (TkP w b gp n S2 (L.take 0) (w4.alloc (.cells (madeCells (Value.agg z32c).cells (n * 32)) 48))) := by rw [← hb, ← hgp]; exact T0.out
  rw [hb, hgp]
  clear hb hgp T0 HR0 K4 H2 l0 hmk hdv hwr
  go_loopw [28] (fun v wr => ∃ (k : Nat) (t : ByteArray), v = .int .i64 k ∧ k ≤ n ∧ Hid (TkP w b gp n t (L.take k) wr) ∧ Hid (bl t = (bl S2).drop (32 * k))) (fun v _ => n - (intOf v).toNat)
  case atStart => exact ⟨0, S2, rfl, Nat.zero_le _, T1.out, rfl⟩
  case round =>
    obtain ⟨k, t, rfl, hk, HR, HT⟩ := hrel
    clear T1
    by_cases hlt : k < n
    · have hkz : (k : Int) < (n : Nat) := by omega
      have ht : t.size = S2.size - 32 * k := by
        have := congrArg List.length HT.out
        rw [List.length_drop, bl_length, bl_length] at this
        exact this
      obtain ⟨E, hE⟩ : ∃ E, (⟨((bl t).take 32).toArray⟩ : ByteArray) = E := ⟨_, rfl⟩
      have HE : Hid (L[k]? = some E) := by rw [← hE, HT.out]; exact HLg.out k hlt
      have hid : E.size = 32 := HL32.out E (List.mem_of_getElem? HE.out)
      have HCA : Hid (Calls Tryz.prog 77 #[.pointer (some ⟨b, 0, none⟩)] wr fun e w' => e = .returned (.agg (idc E)) ∧ Step b wr w' (t.extract 32 t.size)) := by
        rw [← hE]
        exact takeId_any t b wr HR.out.rc HR.out.rf HR.out.rl (by omega) (hm (by omega))
      obtain ⟨X, hX⟩ : ∃ X, idc E = X := ⟨_, rfl⟩
      rw [hX] at HCA
      have HIX : Hid ((Tryz.prog.info? 48).map (·.size) = some X.size ∧ X.all (·.oneCell') = true ∧ X.size = 32) := by rw [← hX]; exact ⟨info_32 (by rw [idc_size, hid]), idc_allX _, by rw [idc_size, hid]⟩
      have HXE : Hid (idc E = X) := hX
      have HT2 : Hid (bl (t.extract 32 t.size) = (bl S2).drop (32 * (k + 1))) := by
        show _ = _
        rw [bl_ex, HT.out, List.drop_drop]; congr 1
      clear hE hX hid ht
      go_wp2_with fail
      refine HCA.out.mono ?_
      rintro e w6 ⟨rfl, hst⟩
      have HR2 : Hid (TkP w b gp n (t.extract 32 t.size) (L.take k) w6) := HR.out.step hst
      obtain ⟨C, hC1, hC2, hC3⟩ := HR2.out.row
      have HC : Hid (Bk w6 gp C 48 ∧ C.size = n * 32 ∧ ∀ i e, (L.take k)[i]? = some e → ∀ j, j < 32 → C[i * 32 + j]? = (idc e)[j]?) := ⟨hC1, hC2, hC3⟩
      have hle : k * 32 + X.size ≤ C.size := by rw [HIX.out.2.2, hC2]; omega
      clear HR hst HCA hC1 hC2 hC3
      go_wp2_with (first
        | (refine wpList_put rfl 48 (.tmp 35) (.tmp 34) rfl gp (k * 32) C X 48 rfl rfl HC.out.1 HIX.out.1 hle HIX.out.2.1 ?_; intro w7 HB7 HG7 hz7)
        | fail)
      have hk32 : k * 32 + X.toList.length ≤ C.size := by rw [Array.length_toList]; exact hle
      have HR5 : Hid (TkP w b gp n (t.extract 32 t.size) (L.take (k + 1)) w7) := by
        have e1 : L.take (k + 1) = L.take k ++ [E] := take_snocN HE.out
        rw [e1]
        refine HR2.out.put HG7.out HB7.out (by rw [putC_size]; exact HC.out.2.1) (fun i e' he' j hj => ?_)
        rw [putC_get _ _ _ _ hk32, Array.length_toList, HIX.out.2.2]
        have hlk : (L.take k).length = k := by rw [List.length_take, HLL.out.1]; omega
        by_cases hi : i < k
        · rw [List.getElem?_append_left (by rw [hlk]; exact hi)] at he'
          rw [if_neg (by omega)]
          exact HC.out.2.2 i e' he' j hj
        · have hi2 : i = k := by
            have := (List.getElem?_eq_some_iff.1 he').1
            rw [List.length_append, hlk, List.length_singleton] at this
            omega
          subst hi2
          rw [List.getElem?_append_right (by omega), hlk, Nat.sub_self, List.getElem?_cons_zero] at he'
          injection he' with he'
          subst he'
          rw [if_pos ⟨by omega, by omega⟩, Array.getElem?_toList, HXE.out, show i * 32 + j - i * 32 = j by omega]
      clear HR2 HB7 HG7 hz7 HC hk32 hle
      go_wp2
      go_roundw
      case rel => exact ⟨k + 1, _, by go_num, by omega, HR5.out, HT2.out⟩
      case measure => simp [intOf]; omega
    · have hkz : ¬ (k : Int) < (n : Nat) := by omega
      obtain rfl : k = n := by omega
      have HR9 : Hid (TkP w b gp k t L wr) := by
        have := HR.out
        rw [List.take_of_length_le (by rw [HLL.out.1]; exact Nat.le_refl _)] at this
        exact this
      obtain ⟨T4, hT4⟩ : ∃ T4, rstT t 1028 = T4 := ⟨_, rfl⟩
      obtain ⟨hme, hMe⟩ := HMe.out t HT.out
      rw [hT4] at hme hMe
      have ht : t.size ≤ 140737488351232 := by
        have := congrArg List.length HT.out
        rw [List.length_drop, bl_length, bl_length] at this
        omega
      have hs4 : T4.size ≤ 140737488351232 := by rw [← hT4]; exact Nat.le_trans (rstT_le _ _) ht
      have HT4 : Hid (rstT t 1028 = T4) := hT4
      have HMM : Hid (m = min 1048576 (T4.size / 45) ∧ M = rdM L m (bl T4)) := ⟨hme, hMe⟩
      clear HR hT4 hme hMe HT HMe HLg
      go_wp2_with fail
      refine (take_if t b wr (hm ht) HR9.out.rc HR9.out.rf HR9.out.rl 1028 (by omega)).mono ?_
      rintro e w8 ⟨v8, rfl, hst8⟩
      rw [HT4.out] at hst8
      have HR10 : Hid (TkP w b gp k T4 L w8) := HR9.out.step hst8
      clear hst8 HR9
      go_wp2_with fail
      refine (left_any T4 b w8 (hm hs4) HR10.out.rc).mono ?_
      rintro e w9 ⟨rfl, hw9⟩
      obtain rfl := hw9.symm
      obtain ⟨q4, hq4⟩ : ∃ q, T4.size / 45 = q := ⟨_, rfl⟩
      have hdv4 : (T4.size : Int) / 45 = (q4 : Int) := by omega
      have hmk4 := make_mrk m hm1
      have HNE4 : Hid (m = min 1048576 q4) := by show _ = _; rw [← hq4]; exact HMM.out.1
      have HM45 : Hid (45 * m ≤ T4.size) := by show _ ≤ _; have := HNE4.out; omega
      clear hq4
      go_wp2_with (first
        | (refine wpList_min2 rfl (.const (.int .i64 1048576)) (.tmp 41) _ rfl (.int .i64 ((1048576 : Nat) : Int)) (.int .i64 (q4 : Int)) (.int .i64 (m : Int)) rfl rfl (fun ty => min2_run _ ty .i64 1048576 q4 m HNE4.out) ?_)
        | fail)
      have U0 : Hid (TkM w b gp w8.heap.size m L T4 (M.take 0) (w8.alloc (.cells (madeCells (Value.agg z67).cells (m * 67)) 52))) := by
        have q := bk_new w8 (madeCells (Value.agg z67).cells (m * 67)) 52
        have h9 := HR10.out
        obtain ⟨C, c1, c2⟩ := h9.row
        have hk := cell_blkX (j := 0) (Below.heap_alloc w8 (.cells (madeCells (Value.agg z67).cells (m * 67)) 52) _ h9.rl)
        exact ⟨hk.1.trans h9.rc, hk.2.trans h9.rf, by rw [al_size]; have := h9.rl; omega, ⟨_, q, by simp [madeCells], fun i e he => by simp at he⟩, h9.bel.alloc h9.bel.size _, h9.hb, h9.hg, c1.lt, (h9.nml HL32.out).below ((Below.refl _ _).alloc (Nat.le_refl _) _)⟩
      obtain ⟨gr, hgr⟩ : ∃ g, w8.heap.size = g := ⟨_, rfl⟩
      rw [hgr] at U0 ⊢
      clear hgr HR10 hmk4 hdv4
      go_loopw [46] (fun v wr => ∃ (i : Nat) (t : ByteArray), v = .int .i64 i ∧ i ≤ m ∧ Hid (TkM w b gp gr m L t (M.take i) wr) ∧ Hid (bl t = (bl T4).drop (45 * i))) (fun v _ => m - (intOf v).toNat)
      case atStart => exact ⟨0, T4, rfl, Nat.zero_le _, U0.out, rfl⟩
      case round =>
        obtain ⟨i, u, rfl, hi, HU, HV⟩ := hrel
        clear U0
        by_cases hlt2 : i < m
        · have hiz : (i : Int) < (m : Nat) := by omega
          have hu : u.size = T4.size - 45 * i := by
            have := congrArg List.length HV.out
            rw [List.length_drop, bl_length, bl_length] at this
            exact this
          have h45 := HM45.out
          obtain ⟨E, hE⟩ : ∃ E, rdMr L (bl u) = E := ⟨_, rfl⟩
          have HE : Hid (M[i]? = some E) := by
            show _ = _
            rw [← hE, HV.out, HMM.out.2, rdM_get _ _ _ _ hlt2]
          have hid : E.p.size = 32 ∧ E.e.id.size = 32 := by
            have := List.mem_of_getElem? HE.out
            rw [HMM.out.2] at this
            exact rdM_size L HL32.out m (bl T4) (by rw [bl_length]; exact h45) E this
          have HCA : Hid (Calls Tryz.prog 78 #[.pointer (some ⟨b, 0, none⟩), .slice (some ⟨gp, 0, none⟩) k k] wr fun e w' => e = .returned (.agg (mrC E)) ∧ Step b wr w' (u.extract 45 u.size)) := by
            rw [← hE]
            exact takeRow_any L (some ⟨gp, 0, none⟩) k k u b wr HU.out.rc HU.out.rf HU.out.rl (by omega) (hm (by omega)) HU.out.nm HLL.out.1 hn4.1 (fun p hp => by injection hp with hp; rw [← hp]; show gp ≠ b; have := HU.out.hp; omega)
          obtain ⟨X, hX⟩ : ∃ X, mrC E = X := ⟨_, rfl⟩
          rw [hX] at HCA
          have HIX : Hid ((Tryz.prog.info? 52).map (·.size) = some X.size ∧ X.all (·.oneCell') = true ∧ X.size = 67) := by rw [← hX]; exact ⟨info_mr (mrC_size _ hid.1 hid.2), mrC_all _, mrC_size _ hid.1 hid.2⟩
          have HXE : Hid (mrC E = X) := hX
          have HV2 : Hid (bl (u.extract 45 u.size) = (bl T4).drop (45 * (i + 1))) := by
            show _ = _
            rw [bl_ex, HV.out, List.drop_drop]; congr 1
          clear hE hX hid hu h45
          go_wp2_with fail
          refine HCA.out.mono ?_
          rintro e w6 ⟨rfl, hst⟩
          have HR2 : Hid (TkM w b gp gr m L (u.extract 45 u.size) (M.take i) w6) := HU.out.step hst
          obtain ⟨C, hC1, hC2, hC3⟩ := HR2.out.row
          have HC : Hid (Bk w6 gr C 52 ∧ C.size = m * 67 ∧ ∀ i' e, (M.take i)[i']? = some e → ∀ j, j < 67 → C[i' * 67 + j]? = (mrC e)[j]?) := ⟨hC1, hC2, hC3⟩
          have hle : i * 67 + X.size ≤ C.size := by rw [HIX.out.2.2, hC2]; omega
          clear HU hst HCA hC1 hC2 hC3
          go_wp2_with (first
            | (refine wpList_put rfl 52 (.tmp 54) (.tmp 53) rfl gr (i * 67) C X 52 rfl rfl HC.out.1 HIX.out.1 hle HIX.out.2.1 ?_; intro w7 HB7 HG7 hz7)
            | fail)
          have hk67 : i * 67 + X.toList.length ≤ C.size := by rw [Array.length_toList]; exact hle
          have HR5 : Hid (TkM w b gp gr m L (u.extract 45 u.size) (M.take (i + 1)) w7) := by
            have e1 : M.take (i + 1) = M.take i ++ [E] := take_snocM HE.out
            rw [e1]
            refine HR2.out.put HG7.out HB7.out (by rw [putC_size]; exact HC.out.2.1) (fun i' e' he' j hj => ?_)
            rw [putC_get _ _ _ _ hk67, Array.length_toList, HIX.out.2.2]
            have hlk : (M.take i).length = i := by rw [List.length_take, HLL.out.2]; omega
            by_cases hi' : i' < i
            · rw [List.getElem?_append_left (by rw [hlk]; exact hi')] at he'
              rw [if_neg (by omega)]
              exact HC.out.2.2 i' e' he' j hj
            · have hi2 : i' = i := by
                have := (List.getElem?_eq_some_iff.1 he').1
                rw [List.length_append, hlk, List.length_singleton] at this
                omega
              subst hi2
              rw [List.getElem?_append_right (by omega), hlk, Nat.sub_self, List.getElem?_cons_zero] at he'
              injection he' with he'
              subst he'
              rw [if_pos ⟨by omega, by omega⟩, Array.getElem?_toList, HXE.out, show i' * 67 + j - i' * 67 = j by omega]
          clear HR2 HB7 HG7 hz7 HC hk67 hle
          go_wp2
          go_roundw
          case rel => exact ⟨i + 1, _, by go_num, by omega, HR5.out, HV2.out⟩
          case measure => simp [intOf]; omega
        · have hiz : ¬ (i : Int) < (m : Nat) := by omega
          obtain rfl : i = m := by omega
          have HU9 : Hid (TkM w b gp gr i L u M wr) := by
            have := HU.out
            rw [List.take_of_length_le (by rw [HLL.out.2]; exact Nat.le_refl _)] at this
            exact this
          have HM9 : Hid (∀ s ∈ M, s.p.size = 32 ∧ s.e.id.size = 32) := by
            show ∀ s ∈ M, _
            rw [HMM.out.2]
            exact rdM_size L HL32.out i (bl T4) (by rw [bl_length]; exact HM45.out)
          clear HU
          go_wp2
          go_ret
          have h9 := HU9.out
          have nb := bk_new wr #[.slice (some ⟨gp, 0, none⟩) k k, .slice (some ⟨gr, 0, none⟩) i i] 101
          have hal : Below wr.heap.size wr (wr.alloc (.cells #[.slice (some ⟨gp, 0, none⟩) k k, .slice (some ⟨gr, 0, none⟩) i i] 101)) := (Below.refl _ _).alloc (Nat.le_refl _) _
          refine ⟨wr.heap.size, rfl, h9.bel.size, ⟨⟨gp, gr, ?_, h9.nm.below hal, (h9.mrl HM9.out).below hal⟩, by rw [HLL.out.1]; exact hn4.1, by rw [HLL.out.2]; exact hm1⟩, h9.bel.alloc h9.bel.size _⟩
          rw [HLL.out.1, HLL.out.2]
          exact nb
end Go.Proofs.YtbfoiocbmhhdbaaGreat
/- midx.mayBeIndexed, midx.rise. -/
namespace Go.Proofs.YtbfoiocbmhhdbaaGreat
open Go.RowKit
set_option linter.unusedSimpArgs false
set_option linter.unusedVariables false
set_option maxHeartbeats 4000000 in
set_option maxRecDepth 100000 in
theorem mmay_any (e : Xe) (w : World) (h : e.id.size = 32) : Calls Tryz.prog 80 #[.agg (xeC e)] w fun r w' => r = .returned (.bool (okX e)) ∧ w' = w.alloc (.cells (xeC e) 50) := by
  obtain ⟨c1, c2, c3⟩ := xeC_at e h
  have hb := bk_new w (xeC e) 50
  have k1 : (w.alloc (.cells (xeC e) 50)).cell? ⟨w.heap.size, 32, none⟩ = some (.int .u8 (e.k.toNat : Int)) := by rw [hb.cell]; exact c1
  have k2 : (w.alloc (.cells (xeC e) 50)).cell? ⟨w.heap.size, 33, none⟩ = some (.int .i64 e.off) := by rw [hb.cell]; exact c2
  have k3 : (w.alloc (.cells (xeC e) 50)).cell? ⟨w.heap.size, 34, none⟩ = some (.int .i64 e.sz) := by rw [hb.cell]; exact c3
  clear hb c1 c2 c3
  have HE := okX_eq e
  obtain ⟨r, hr⟩ : ∃ r, okX e = r := ⟨_, rfl⟩
  rw [hr] at HE ⊢
  obtain ⟨C, hC⟩ : ∃ C, xeC e = C := ⟨_, rfl⟩
  rw [hC] at k1 k2 k3 ⊢
  obtain ⟨ei, ek, eo, ez⟩ := e
  simp only at k1 k2 k3 HE
  obtain ⟨K, hK⟩ : ∃ K : Int, (ek.toNat : Int) = K := ⟨_, rfl⟩
  rw [hK] at k1 HE
  have HH : Hid (∀ (q : Bool), (q = true ↔ 1 ≤ K ∧ K ≤ 5 ∧ 4 ≤ eo ∧ eo ≤ 67108864 ∧ 0 ≤ ez ∧ ez ≤ 2097152) → q = r) := HE
  clear HE hr hC h hK
  by_cases g1 : 1 ≤ K
  · by_cases g2 : K ≤ 5
    · by_cases g3 : 4 ≤ eo
      · by_cases g4 : eo ≤ 67108864
        · by_cases g5 : 0 ≤ ez
          · go_enter Tryz.func80, Tryz.ntmps80
            go_wp2
            go_ret
            exact ⟨retBX (HH.out _ (by simp [g1, g2, g3, g4, g5] <;> omega)), rfl⟩
          · go_enter Tryz.func80, Tryz.ntmps80
            go_wp2
            go_ret
            exact ⟨retBX (HH.out _ (by simp [g1, g2, g3, g4, g5] <;> omega)), rfl⟩
        · go_enter Tryz.func80, Tryz.ntmps80
          go_wp2
          go_ret
          exact ⟨retBX (HH.out _ (by simp [g1, g2, g3, g4] <;> omega)), rfl⟩
      · go_enter Tryz.func80, Tryz.ntmps80
        go_wp2
        go_ret
        exact ⟨retBX (HH.out _ (by simp [g1, g2, g3] <;> omega)), rfl⟩
    · go_enter Tryz.func80, Tryz.ntmps80
      go_wp2
      go_ret
      exact ⟨retBX (HH.out _ (by simp [g1, g2] <;> omega)), rfl⟩
  · go_enter Tryz.func80, Tryz.ntmps80
    go_wp2
    go_ret
    exact ⟨retBX (HH.out _ (by simp [g1] <;> omega)), rfl⟩
theorem rin_chain {l : List ByteArray} (h : ∀ j a b, l[j]? = some a → l[j + 1]? = some b → ltN a b = true) : RiN l := by
  induction l with
  | nil => exact List.Pairwise.nil
  | cons a l ih =>
    have ih2 : RiN l := ih (fun j x y hx hy => h (j + 1) x y (by rwa [List.getElem?_cons_succ]) (by rwa [List.getElem?_cons_succ]))
    refine List.Pairwise.cons (fun b hb => ?_) ih2
    cases l with
    | nil => cases hb
    | cons c l =>
      have hc : ltN a c = true := h 0 a c rfl rfl
      rcases List.mem_cons.1 hb with e | e
      · rw [e]; exact hc
      · exact ltN_trans hc ((List.pairwise_cons.1 ih2).1 b e)
theorem rin_step {l : List ByteArray} (h : RiN l) {j : Nat} {a b : ByteArray} (ha : l[j]? = some a) (hb : l[j + 1]? = some b) : ltN a b = true := by
  obtain ⟨i1, e1⟩ := List.getElem?_eq_some_iff.1 ha
  obtain ⟨i2, e2⟩ := List.getElem?_eq_some_iff.1 hb
  rw [RiN, List.pairwise_iff_getElem] at h
  have := h j (j + 1) i1 i2 (by omega)
  rwa [e1, e2] at this
/-- What rise answers. -/
def RsE (l : List ByteArray) (e : Ending) : Prop := ∃ b, e = .returned (.bool b) ∧ (b = true ↔ RiN l)
set_option maxHeartbeats 4000000 in
set_option maxRecDepth 100000 in
theorem rise_any (l : List ByteArray) (F : Nat) (cs : Array Value) (w : World) (hl : l.length ≤ 1048576) (h32 : ∀ s ∈ l, s.size = 32)
    (hen : ∀ args u, (callFunc F args).run Tryz.prog u = .ok (.enter F args) u) (hF : ∀ i s W, l[i]? = some s → Below w.heap.size w W → Calls Tryz.prog F (#[.int .i64 ((i : Nat) : Int)] ++ cs) W fun e w' => e = .returned (.agg (idc s)) ∧ Below W.heap.size W w') :
    Calls Tryz.prog 81 #[.int .i64 (l.length : Int), .func (.func F) #[] cs] w fun e w' => RsE l e ∧ Below w.heap.size w w' := by
  obtain ⟨N, hN⟩ : ∃ N, l.length = N := ⟨_, rfl⟩
  have HF : Hid (∀ i s W, l[i]? = some s → Below w.heap.size w W → Calls Tryz.prog F (#[.int .i64 ((i : Nat) : Int)] ++ cs) W fun e w' => e = .returned (.agg (idc s)) ∧ Below W.heap.size W w') := hF
  have HL : Hid (l.length = N ∧ ∀ s ∈ l, s.size = 32) := ⟨hN, h32⟩
  rw [hN] at hl ⊢
  have HEN : Hid (∀ args u, (callFunc F args).run Tryz.prog u = .ok (.enter F args) u) := hen
  clear hN h32 hF hen
  go_enter Tryz.func81, Tryz.ntmps81
  go_wp2
  go_loopw [5] (fun v wr => ∃ j : Nat, v = .int .i64 ((j : Int) + 1) ∧ (j + 1 ≤ N ∨ j = 0) ∧ Hid (Below w.heap.size w wr) ∧ Hid (∀ i a b, i + 1 < j + 1 → l[i]? = some a → l[i + 1]? = some b → ltN a b = true)) (fun v _ => N - (intOf v).toNat)
  case atStart => exact ⟨0, by simp, by omega, Below.refl _ _, fun i a b hi => by omega⟩
  case round =>
    obtain ⟨j, rfl, hj, HB, HC⟩ := hrel
    by_cases hlt : j + 1 < N
    · have hz : (j : Int) + 1 < (N : Int) := by omega
      obtain ⟨a, ha⟩ : ∃ a, l[j]? = some a := ⟨_, List.getElem?_eq_getElem (by have := HL.out.1; omega)⟩
      obtain ⟨b, hb⟩ : ∃ b, l[j + 1]? = some b := ⟨_, List.getElem?_eq_getElem (by have := HL.out.1; omega)⟩
      have HAB : Hid (l[j]? = some a ∧ l[j + 1]? = some b ∧ a.size = 32 ∧ b.size = 32) := ⟨ha, hb, HL.out.2 a (List.mem_of_getElem? ha), HL.out.2 b (List.mem_of_getElem? hb)⟩
      have HA : Hid (∀ W, Below w.heap.size w W → Calls Tryz.prog F (#[.int .i64 (j : Int)] ++ cs) W fun e w' => e = .returned (.agg (idc a)) ∧ Below W.heap.size W w') := fun W hW => HF.out j a W ha hW
      have HBB : Hid (∀ W, Below w.heap.size w W → Calls Tryz.prog F (#[.int .i64 ((j : Int) + 1)] ++ cs) W fun e w' => e = .returned (.agg (idc b)) ∧ Below W.heap.size W w') := fun W hW => by
        have := HF.out (j + 1) b W hb hW
        rwa [show ((j + 1 : Nat) : Int) = (j : Int) + 1 from by omega] at this
      have HLS : Hid (∀ u, Calls Tryz.prog 43 #[.agg (idc a), .agg (idc b)] u fun e w' => e = .returned (.bool (ltN a b)) ∧ Below u.heap.size u w') := fun u => (less_grow a b u HAB.out.2.2.1 HAB.out.2.2.2).mono fun e w' q => ⟨q.1, by obtain ⟨_, q1, os, rfl⟩ := q; exact grow_below _ _ _⟩
      obtain ⟨A, hA⟩ : ∃ A, idc a = A := ⟨_, rfl⟩
      obtain ⟨B, hB⟩ : ∃ B, idc b = B := ⟨_, rfl⟩
      rw [hA] at HA HLS
      rw [hB] at HBB HLS
      clear ha hb hA hB
      go_wp2_with fail
      rw [HEN.out, Oper.upon_enter]
      refine Calls.mono (HA.out _ HB.out) ?_
      rintro e w3 ⟨rfl, hb3⟩
      have HB3 : Hid (Below w.heap.size w w3) := HB.out.trans (hb3.mono HB.out.size)
      clear hb3
      go_wp2_with fail
      rw [HEN.out, Oper.upon_enter]
      refine Calls.mono (HBB.out _ HB3.out) ?_
      rintro e w4 ⟨rfl, hb4⟩
      have HB4 : Hid (Below w.heap.size w w4) := HB3.out.trans (hb4.mono HB3.out.size)
      clear hb4 HB3
      go_wp2_with fail
      refine (HLS.out w4).mono ?_
      rintro e w5 ⟨rfl, hb5⟩
      have HB5 : Hid (Below w.heap.size w w5) := HB4.out.trans (hb5.mono HB4.out.size)
      clear hb5 HB4 HA HBB HLS
      by_cases hq : ltN a b = true
      · rw [hq]
        have HQ : Hid (ltN a b = true) := hq
        clear hq
        go_wp2
        go_roundw
        case rel =>
          refine ⟨j + 1, by go_num, by omega, HB5.out, fun i x y hi hx hy => ?_⟩
          by_cases he : i = j
          · subst he
            have e1 := HAB.out.1
            have e2 := HAB.out.2.1
            rw [hx] at e1
            rw [hy] at e2
            injection e1 with e1
            injection e2 with e2
            rw [e1, e2]
            exact HQ.out
          · exact HC.out i x y (by omega) hx hy
        case measure => simp [intOf]; omega
      · have hq2 : ltN a b = false := by cases h : ltN a b <;> simp_all
        rw [hq2]
        have HQ : Hid (ltN a b = false) := hq2
        clear hq hq2
        go_wp2
        go_ret
        refine ⟨⟨false, rfl, ⟨fun q => (by cases q), fun q => ?_⟩⟩, HB5.out⟩
        have := rin_step q HAB.out.1 HAB.out.2.1
        rw [HQ.out] at this
        cases this
    · have hz : ¬ (j : Int) + 1 < (N : Int) := by omega
      go_wp2
      go_ret
      refine ⟨⟨true, rfl, ⟨fun _ => rin_chain (fun i a b ha hb => ?_), fun _ => rfl⟩⟩, HB.out⟩
      have := (List.getElem?_eq_some_iff.1 hb).1
      exact HC.out i a b (by have := HL.out.1; omega) ha hb
end Go.Proofs.YtbfoiocbmhhdbaaGreat
