/- digest.State.mix: a full block is taken into the eight numbers. -/
import Derived.Test.YtbfdggkoildfkaaDoorD3
import Derived.Deep.WholeRow
namespace Go.Proofs.YtbfdggkoildfkaaDoor
open Go.RowKit
set_option linter.unusedSimpArgs false
set_option linter.unusedVariables false
/-- Bytes as cells. -/
def bvc (m : List Nat) : List Value := m.map fun x : Nat => Value.int .u8 (x : Int)
/-- A state's cells: eight numbers, a block, how many bytes. -/
def stc (h : V8) (m : List Nat) (n : Nat) : Array Value := (v8c h ++ (bvc m).toArray).push (.int .u64 (n : Int))
theorem v8c_size (h : V8) : (v8c h).size = 8 := rfl
theorem stc_size (h : V8) (m : List Nat) (n : Nat) (hm : m.length = 64) : (stc h m n).size = 73 := by simp [stc, v8c_size, bvc, hm]
theorem v8c_get (h : V8) (j : Nat) (hj : j < 8) : (v8c h)[j]? = some (c32 (h.list.getD j 0)) := by
  have : j = 0 ∨ j = 1 ∨ j = 2 ∨ j = 3 ∨ j = 4 ∨ j = 5 ∨ j = 6 ∨ j = 7 := by omega
  rcases this with rfl | rfl | rfl | rfl | rfl | rfl | rfl | rfl <;> rfl
theorem stc_num (h : V8) (m : List Nat) (n j : Nat) (hj : j < 8) : (stc h m n)[j]? = some (c32 (h.list.getD j 0)) := by
  rw [stc, Array.getElem?_push, if_neg (by simp [v8c_size]; omega), Array.getElem?_append_left (by rw [v8c_size]; omega), v8c_get h j hj]
theorem stc_byte (h : V8) (m : List Nat) (n j : Nat) (hj : j < m.length) : (stc h m n)[8 + j]? = some (.int .u8 (m.getD j 0 : Nat)) := by
  rw [stc, Array.getElem?_push, if_neg (by simp [v8c_size, bvc]; omega), Array.getElem?_append_right (by rw [v8c_size]; omega), v8c_size]
  simp [bvc, List.getD, hj]
theorem stc_wrote (h : V8) (m : List Nat) (n : Nat) (hm : m.length = 64) : (stc h m n)[72]? = some (.int .u64 (n : Int)) := by
  rw [stc, Array.getElem?_push, if_pos (by simp [v8c_size, bvc, hm])]
/-- The listed constants. -/
def KIs (w : World) : Prop := ∀ t, t < 64 → w.cell? ⟨2, t, none⟩ = some (c32 (KT t))
theorem KIs.grown {w w' : World} {r : Option Nat} (h : KIs w) (hg : w.grownBy w' r) (hr : r ≠ some 2) : KIs w' := fun t ht => hg.cell (h t ht) (fun e => hr e.symm)
theorem Blk.grown {w w' : World} {b : Nat} {C : Array Value} {T : TypeId} {r : Option Nat} (h : Blk w b C T) (hg : w.grownBy w' r) (hr : r ≠ some b) : Blk w' b C T := by
  have hlt : b < w.heap.size := by
    by_cases e : b < w.heap.size
    · exact e
    · unfold Blk at h; rw [Array.getElem?_eq_none (by omega)] at h; cases h
  unfold Blk
  rw [hg.block b hlt (fun e => hr e.symm)]
  exact h
theorem Blk.lt {w : World} {b : Nat} {C : Array Value} {T : TypeId} (h : Blk w b C T) : b < w.heap.size := by
  by_cases e : b < w.heap.size
  · exact e
  · unfold Blk at h; rw [Array.getElem?_eq_none (by omega)] at h; cases h
theorem wpList_store_new {P : Program} {ops : Array Oper} {rest : List Oper} {o : Oper} {a : Act} {w : World} {Q : Exit → Act → World → Prop} (hgd : o.guard = none) (ty : TypeId) (x y : Operand) (ho : o.op = .store ty x y)
    (cells old : Array Value) (t : TypeId) (H : Nat) (hH : w.heap.size = H) (hx : a.eval x = .pointer (some ⟨H, 0, none⟩)) (hy : a.eval y = .agg cells)
    (hi : (P.info? ty).map (·.size) = some cells.size) (hold : old.size = cells.size) (h1 : cells.all (·.oneCell') = true)
    (h : wpList P ops Q rest (a.put o.dst undef) (w.alloc (.cells cells t))) : wpList P ops Q (o :: rest) a (w.alloc (.cells old t)) :=
  wpList_store_row hgd ty x y ho w.heap.size cells (by rw [hH]; exact hx) hy t old (blk_new _ _) hi hold h1 (by rw [World.setRow_alloc_new]; exact h)
def w64c (m : List Nat) : Array Value := ((sch m 64).map c32).toArray
theorem w64c_size (m : List Nat) : (w64c m).size = 64 := by simp [w64c, sch_length]
theorem w64c_one (m : List Nat) : (w64c m).all (·.oneCell') = true := by
  simp [w64c, List.all_eq_true, Value.oneCell']
theorem w64c_get (m : List Nat) (t : Nat) (ht : t < 64) : (w64c m)[t]? = some (c32 (wt m t)) := by
  simp only [w64c, List.getElem?_toArray, List.getElem?_map, wt, List.getD]
  rw [List.getElem?_eq_getElem (by rw [sch_length]; exact ht)]
  rfl
theorem spread_blk (h : V8) (m : List Nat) (n b : Nat) (T : TypeId) (w : World) (hm : m.length = 64) (hl : ∀ x ∈ m, x < 256) (hB : Blk w b (stc h m n) T) :
    Calls Tryd.prog 47 #[.pointer (some ⟨b, 0, none⟩)] w fun e w' => e = .returned (.agg (w64c m)) ∧ Below w.heap.size w w' :=
  spread_any m b w hm hl (fun j hj => by rw [hB.cell, stc_byte h m n j (by omega)]) hB.lt
theorem v8c_one (v : V8) : (v8c v).all (·.oneCell') = true := by simp [v8c, Value.oneCell']
theorem info_8 {v : V8} : (Tryd.prog.info? 49).map (·.size) = some (v8c v).size := by
  have : (Tryd.prog.info? 49).map (·.size) = some 8 := by kernel_rfl
  rw [this, v8c_size]
theorem wpList_load_v8 {ops : Array Oper} {rest : List Oper} {o : Oper} {a : Act} {w : World} {Q : Exit → Act → World → Prop} (hgd : o.guard = none) (x : Operand) (ho : o.op = .load 49 x)
    (b f : Nat) (hx : a.eval x = .pointer (some ⟨b, f, none⟩)) (v : V8) (hc : ∀ j, j < 8 → w.cell? ⟨b, f + j, none⟩ = some (c32 (v.list.getD j 0)))
    (h : wpList Tryd.prog ops Q rest (a.put o.dst (.agg (v8c v))) w) : wpList Tryd.prog ops Q (o :: rest) a w := by
  refine wpList_load_mid hgd 49 x ho b f hx (v8c v).toList _ (fun j u hj => ?_) Tryd.underlying49 rfl info_8 h
  have hj8 : j < 8 := by
    by_cases e : j < 8
    · exact e
    · rw [List.getElem?_eq_none (by show (8 : Nat) ≤ j; omega)] at hj; cases hj
  rw [hc j hj8, ← hj, Array.getElem?_toList, v8c_get v j hj8]
theorem num_old {w w1 : World} {b : Nat} {h : V8} {m : List Nat} {n : Nat} {T : TypeId} (hB : Blk w b (stc h m n) T) (hb1 : Below w.heap.size w w1) (o : Obj) :
    ∀ j, j < 8 → (w1.alloc o).cell? ⟨b, 0 + j, none⟩ = some (c32 (h.list.getD j 0)) := fun j hj => by
  have h1 := (hB.grown (grown_of_below hb1 none) (by simp)).grown (World.grownBy_alloc w1 o none) (by simp)
  rw [h1.cell, Nat.zero_add, stc_num _ _ _ _ hj]
def V8.setk (h : V8) (k : Nat) (x : BitVec 32) : V8 :=
  ⟨if k = 0 then x else h.a, if k = 1 then x else h.b, if k = 2 then x else h.c, if k = 3 then x else h.d, if k = 4 then x else h.e, if k = 5 then x else h.f, if k = 6 then x else h.g, if k = 7 then x else h.h⟩
theorem setk_get (h : V8) (k : Nat) (x : BitVec 32) (j : Nat) (hj : j < 8) : (h.setk k x).list.getD j 0 = if k = j then x else h.list.getD j 0 := by
  have : j = 0 ∨ j = 1 ∨ j = 2 ∨ j = 3 ∨ j = 4 ∨ j = 5 ∨ j = 6 ∨ j = 7 := by omega
  rcases this with rfl | rfl | rfl | rfl | rfl | rfl | rfl | rfl <;> rfl
theorem stc_far (h g : V8) (m : List Nat) (n i : Nat) (hi : ¬ i < 8) : (stc h m n)[i]? = (stc g m n)[i]? := by
  rw [stc, stc, Array.getElem?_push, Array.getElem?_push, Array.getElem?_append_right (by rw [v8c_size]; omega), Array.getElem?_append_right (by rw [v8c_size]; omega)]
  simp only [Array.size_append, v8c_size]
theorem stc_set (h : V8) (m : List Nat) (n k : Nat) (x : BitVec 32) (hk : k < 8) (hm : m.length = 64) : (stc h m n).setIfInBounds k (c32 x) = stc (h.setk k x) m n := by
  apply Array.ext_getElem?
  intro i
  rw [Array.getElem?_setIfInBounds, stc_size _ _ _ hm]
  by_cases hi : i < 8
  · rw [stc_num _ _ _ _ hi, stc_num _ _ _ _ hi, setk_get _ _ _ _ hi]
    split
    · rw [if_pos (by omega)]
    · rfl
  · rw [if_neg (by omega)]
    exact stc_far _ _ _ _ _ hi
theorem v8_ext (u v : V8) (h : ∀ j, j < 8 → u.list.getD j 0 = v.list.getD j 0) : u = v := by
  have h0 := h 0 (by omega)
  have h1 := h 1 (by omega)
  have h2 := h 2 (by omega)
  have h3 := h 3 (by omega)
  have h4 := h 4 (by omega)
  have h5 := h 5 (by omega)
  have h6 := h 6 (by omega)
  have h7 := h 7 (by omega)
  simp [V8.list] at h0 h1 h2 h3 h4 h5 h6 h7
  cases u; cases v
  simp_all
theorem add_get (h v : V8) (j : Nat) (hj : j < 8) : (h.add v).list.getD j 0 = h.list.getD j 0 + v.list.getD j 0 := by
  have : j = 0 ∨ j = 1 ∨ j = 2 ∨ j = 3 ∨ j = 4 ∨ j = 5 ∨ j = 6 ∨ j = 7 := by omega
  rcases this with rfl | rfl | rfl | rfl | rfl | rfl | rfl | rfl <;> rfl
theorem index_v8 (v : V8) (k : Nat) (hk : k < 8) (w : World) : (Instr.index 49 (.agg (v8c v)) (.int .i64 (k : Int))).run Tryd.prog w = .ok (c32 (v.list.getD k 0)) w := by
  have hs : (sizeOf 48).run Tryd.prog w = .ok 1 w := by kernel_rfl
  have ha : (isAgg 48).run Tryd.prog w = .ok false w := by kernel_rfl
  have h1 : (0 : Int) ≤ (k : Int) ∧ (k : Int) < 8 := by omega
  simp [Instr.index, run_underlying Tryd.underlying49, asIntOf, h1, hs, ha, part, v8c_get v k hk, go_sem]
  omega
/-- What lies in memory while the numbers are added: k of them are. -/
structure Ad (w : World) (b : Nat) (T : TypeId) (h v : V8) (m : List Nat) (n k : Nat) (g : V8) (wr : World) : Prop where
  st : Blk wr b (stc g m n) T
  grown : w.grownBy wr (some b)
  done : ∀ j, j < 8 → g.list.getD j 0 = if j < k then h.list.getD j 0 + v.list.getD j 0 else h.list.getD j 0
theorem Ad.drew {w : World} {b : Nat} {T : TypeId} {h v : V8} {m : List Nat} {n k : Nat} {g : V8} {wr : World} (H : Ad w b T h v m n k g wr) : Ad w b T h v m n k g wr.drew := ⟨H.st, Lib.Hx.grownBy_drew H.grown, H.done⟩
theorem Ad.put {w : World} {b : Nat} {T : TypeId} {h v : V8} {m : List Nat} {n k : Nat} {g : V8} {wr : World} (H : Ad w b T h v m n k g wr) (hk : k < 8) (hm : m.length = 64) :
    Ad w b T h v m n (k + 1) (g.setk k (g.list.getD k 0 + v.list.getD k 0)) (wr.setCell ⟨b, k, none⟩ (c32 (g.list.getD k 0 + v.list.getD k 0))) where
  st := by rw [← stc_set _ _ _ _ _ hk hm]; exact H.st.set k _
  grown := Lib.grownBy_setB H.grown k _
  done := fun j hj => by
    rw [setk_get _ _ _ _ hj]
    split
    · rename_i e; subst e; rw [if_pos (by omega), H.done k hk, if_neg (by omega)]
    · rw [H.done j hj]
      by_cases e : j < k
      · rw [if_pos e, if_pos (by omega)]
      · rw [if_neg e, if_neg (by omega)]
/-- What lies in memory while the rounds go on: v the numbers so far. -/
structure Mx (w : World) (b : Nat) (T : TypeId) (X : Nat) (h : V8) (m : List Nat) (n : Nat) (v : V8) (wr : World) : Prop where
  x : Blk wr X (w64c m) 58
  v : Blk wr (X + 1) (v8c v) 49
  st : Blk wr b (stc h m n) T
  k : KIs wr
  grown : w.grownBy wr none
theorem KIs.lt {w : World} (h : KIs w) : 2 < w.heap.size := World.block_lt_of_cell? w _ (h 0 (by omega))
theorem Mx.start {w w1 : World} {b n : Nat} {T : TypeId} {h : V8} {m : List Nat} (hB : Blk w b (stc h m n) T) (hK : KIs w) (hb1 : Below w.heap.size w w1) :
    Mx w b T w1.heap.size h m n h ((w1.alloc (.cells (w64c m) 58)).alloc (.cells (v8c h) 49)) := by
  have g1 := grown_of_below hb1 none
  have g2 := World.grownBy_alloc w1 (.cells (w64c m) 58) none
  have g3 := World.grownBy_alloc (w1.alloc (.cells (w64c m) 58)) (.cells (v8c h) 49) none
  refine ⟨Blk.grown (blk_new _ _) g3 (by simp), ?_, ((hB.grown g1 (by simp)).grown g2 (by simp)).grown g3 (by simp), ((hK.grown g1 (by simp)).grown g2 (by simp)).grown g3 (by simp), (g1.trans g2).trans g3⟩
  have e := blk_new (w1.alloc (.cells (w64c m) 58)) (.cells (v8c h) 49)
  rwa [alloc_size] at e
theorem Mx.next {w wr w2 : World} {b n X : Nat} {T : TypeId} {h v v' : V8} {m : List Nat} (H : Mx w b T X h m n v wr) (hX : w.heap.size ≤ X) (hbz : b < w.heap.size) (hk : 2 < w.heap.size)
    (hv : Blk w2 (X + 1) (v8c v') 49) (hg : wr.grownBy w2 (some (X + 1))) : Mx w b T X h m n v' w2 :=
  ⟨H.x.grown hg (by simp), hv, H.st.grown hg (by simp; omega), H.k.grown hg (by simp; omega), H.grown.andThen hg (fun j hj => by left; simp at hj; omega)⟩
set_option maxHeartbeats 300000 in
set_option maxRecDepth 100000 in
theorem mix_any (h : V8) (m : List Nat) (n b : Nat) (T : TypeId) (w : World) (hm : m.length = 64) (hl : ∀ x ∈ m, x < 256) (hB : Blk w b (stc h m n) T) (hK : KIs w) (hb2 : b ≠ 2) :
    Calls Tryd.prog 40 #[.pointer (some ⟨b, 0, none⟩)] w fun e w' =>
      e = .returned (.tuple #[]) ∧ Blk w' b (stc (comp m h) m n) T ∧ w.grownBy w' (some b) := by
  have HB : Hid (Blk w b (stc h m n) T) := hB
  have HK : Hid (KIs w) := hK
  have hbz := hB.lt
  have HI : Hid ((Tryd.prog.info? 58).map (·.size) = some (w64c m).size) := info_64 _ (w64c_size m)
  clear hB hK
  go_enter Tryd.func40, Tryd.ntmps40
  go_wp2_with (first
    | (go_at_call 47; refine (spread_blk h m n b T _ hm hl HB.out).mono ?_; rintro e w1 ⟨rfl, hb1⟩; obtain ⟨hc, hf⟩ := bcellD hb1; have hz := hb1.size)
    | (refine wpList_store_new rfl 58 (.tmp 2) (.tmp 9) rfl (w64c m) _ 58 w1.heap.size rfl rfl rfl HI.out (by rw [w64c_size]; rfl) (w64c_one m) ?_)
    | (refine wpList_load_v8 rfl (.tmp 12) rfl b 0 rfl h (num_old HB.out hb1 _) ?_)
    | (refine wpList_store_new rfl 49 (.tmp 3) (.tmp 13) rfl (v8c h) _ 49 (w1.heap.size + 1) (alloc_size _ _) rfl rfl info_8 rfl (v8c_one h) ?_))
  have hkz := HK.out.lt
  have HS : Hid (Mx w b T w1.heap.size h m n h ((w1.alloc (.cells (w64c m) 58)).alloc (.cells (v8c h) 49))) := Mx.start HB.out HK.out hb1
  go_loopw [15] (fun i wr => ∃ k : Nat, k ≤ 64 ∧ i = .int .i64 k ∧ Hid (Mx w b T w1.heap.size h m n (rds m h k) wr)) (fun i _ => 70 - (intOf i).toNat)
  case atStart => exact ⟨0, by omega, rfl, HS⟩
  case round =>
    obtain ⟨k, hk, rfl, HR⟩ := hrel
    by_cases hlt : k < 64
    · have hxc : wr.cell? ⟨w1.heap.size, k, none⟩ = some (c32 (wt m k)) := by rw [HR.out.x.cell, w64c_get m k hlt]
      have hkc := HR.out.k k hlt
      go_wp2_with (go_at_call 48; refine (round_any (rds m h k) (KT k) (wt m k) k (w1.heap.size + 1) w1.heap.size 49 _ hlt HR.out.v hxc hkc).mono ?_; rintro e w2 ⟨rfl, hv2, hg2⟩)
      go_roundw
      case rel => exact ⟨k + 1, by omega, by go_num, HR.out.next hz hbz hkz hv2 hg2⟩
      case measure => simp [intOf]; omega
    · have hke : k = 64 := by omega
      subst hke
      clear HS hlt hk
      go_wp2_with (refine wpList_load_v8 rfl (.tmp 3) rfl (w1.heap.size + 1) 0 rfl (rds m h 64) (fun j hj => by rw [HR.out.v.cell, Nat.zero_add, v8c_get _ _ hj]) ?_)
      have HA : Hid (Ad w b T h (rds m h 64) m n 0 h wr) := ⟨HR.out.st, ⟨HR.out.grown.os, HR.out.grown.tape, HR.out.grown.output, HR.out.grown.size, fun i hi _ => HR.out.grown.block i hi (by simp)⟩, fun j hj => by rw [if_neg (by omega)]⟩
      clear HR
      go_loopw [23] (fun i wr => ∃ (k : Nat) (g : V8), k ≤ 8 ∧ i = .int .i64 k ∧ Hid (Ad w b T h (rds m h 64) m n k g wr)) (fun i _ => 20 - (intOf i).toNat)
      case atStart => exact ⟨0, h, by omega, rfl, HA⟩
      case round =>
        clear HA
        obtain ⟨k, g, hk, rfl, HR⟩ := hrel
        by_cases hlt : k < 8
        · obtain ⟨x, hx⟩ : ∃ x, x = g.list.getD k 0 := ⟨_, rfl⟩
          obtain ⟨y, hy⟩ : ∃ y, y = (rds m h 64).list.getD k 0 := ⟨_, rfl⟩
          have h1 := HR.out.st.cell k
          rw [stc_num _ _ _ _ hlt, ← hx] at h1
          have h2 := HR.out.st.frozen k
          have h3 := v8c_get (rds m h 64) k hlt
          rw [← hy] at h3
          have h4 := index_v8 (rds m h 64) k hlt
          rw [← hy] at h4
          have HX : Hid (x = g.list.getD k 0 ∧ y = (rds m h 64).list.getD k 0) := ⟨hx, hy⟩
          clear hx hy
          go_wp2
          go_region
          go_wp2
          refine ⟨?_, ?measure⟩
          · refine ⟨k + 1, g.setk k (x + y), by omega, by go_num, ?_⟩
            rw [add32, HX.out.1, HX.out.2]
            exact (HR.out.put hlt hm).drew
          case measure => simp [intOf]; omega
        · have hke : k = 8 := by omega
          subst hke
          have he : g = comp m h := v8_ext _ _ (fun j hj => by rw [HR.out.done j hj, if_pos hj, comp, add_get _ _ _ hj])
          go_wp2
          go_end0
          exact ⟨rfl, by rw [← he]; exact HR.out.st, HR.out.grown⟩
end Go.Proofs.YtbfdggkoildfkaaDoor
