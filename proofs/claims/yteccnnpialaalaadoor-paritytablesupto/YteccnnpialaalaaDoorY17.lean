import Derived.Test.YteccnnpialaalaaDoorY16
import Derived.Test.YteccnnpialaalaaDoorY7
import Derived.Test.YteccnnpialaalaaDoorY13
import Derived.Test.YteccnnpialaalaaDoorY14
/- The walks of the document's own reader (munimentref01): Uint, Text. -/
namespace Go.Proofs.YteccnnpialaalaaDoor
open Go.RowKit
set_option linter.unusedSimpArgs false
set_option linter.unusedVariables false
set_option maxHeartbeats 400000 in
theorem ruint_no (s : ByteArray) (b : Nat) (w : World) (hs : s.size ≤ maxLen) (hc : w.cell? ⟨b, 0, none⟩ = some (.string s)) (hf : w.frozen? ⟨b, 0, none⟩ = false) (hb : b < w.heap.size) (hk : shK s = 0) :
    Calls Tryd.prog 44 #[.pointer (some ⟨b, 0, none⟩)] w fun e w' => e = .returned (.tuple #[.int .u64 0, .int .i64 4]) ∧ Step b w w' s := by
  have HS := still hb hc hf
  have hk' : ((shK s : Int) == 0) = true := by simp [hk]
  clear hk
  go_enter Tryd.func44, Tryd.ntmps44
  go_wp2_with (go_at_call 62; refine (rshort_any s _ hs).mono ?_; rintro e w' ⟨rfl, rfl⟩)
  go_ret2
  exact ⟨rfl, HS⟩
set_option maxHeartbeats 400000 in
theorem ruint_ok (s : ByteArray) (b : Nat) (w : World) (hs : s.size ≤ maxLen) (hc : w.cell? ⟨b, 0, none⟩ = some (.string s)) (hf : w.frozen? ⟨b, 0, none⟩ = false) (hb : b < w.heap.size) (hk : shK s ≠ 0) :
    Calls Tryd.prog 44 #[.pointer (some ⟨b, 0, none⟩)] w fun e w' => e = .returned (.tuple #[.int .u64 (shN s), .int .i64 0]) ∧ Step b w w' (s.extract (shK s) s.size) := by
  have hs' := hs
  unfold maxLen at hs'
  have hk2 := shK_le s
  have hk' : ((shK s : Int) == 0) = false := by simp [hk]
  have HS : Hid (Step b w (w.setCell ⟨b, 0, none⟩ (.string (s.extract (shK s) s.size))) (s.extract (shK s) s.size)) := set_step hb hc hf
  clear hk
  go_enter Tryd.func44, Tryd.ntmps44
  go_wp2_with (go_at_call 62; refine (rshort_any s _ hs).mono ?_; rintro e w' ⟨rfl, rfl⟩)
  go_ret2
  exact ⟨rfl, HS.out⟩
end Go.Proofs.YteccnnpialaalaaDoor
/- The document's payload of a table: what lies in memory while it is taken. -/
namespace Go.Proofs.YteccnnpialaalaaDoor
open Go.RowKit
set_option linter.unusedSimpArgs false
set_option linter.unusedVariables false
theorem ruint17 (b : Nat) (t : ByteArray) (W : World) (hc : W.cell? ⟨b, 0, none⟩ = some (.string t)) (hf : W.frozen? ⟨b, 0, none⟩ = false) (hb : b < W.heap.size) (ht : t.size ≤ maxLen) : Calls Tryd.prog 44 #[.pointer (some ⟨b, 0, none⟩)] W fun e w' => e = .returned (.tuple #[.int .u64 ((unN17 t : Nat) : Int), .int .i64 (unE17 t)]) ∧ Step b W w' (unR17 t) := by
  by_cases hk : shK t = 0
  · refine (ruint_no t b W ht hc hf hb hk).mono ?_
    rintro e w' ⟨rfl, hs⟩
    exact ⟨by rw [unN17, unE17, if_pos hk, if_pos hk]; rfl, by rw [unR17, if_pos hk]; exact hs⟩
  · refine (ruint_ok t b W ht hc hf hb hk).mono ?_
    rintro e w' ⟨rfl, hs⟩
    exact ⟨by rw [unN17, unE17, if_neg hk, if_neg hk], by rw [unR17, if_neg hk]; exact hs⟩
theorem inf_tbR : (Tryd.prog.info? 25).map (·.size) = some 4 := by kernel_rfl
theorem bd_zR (w : World) : (Instr.build 25 #[]).run Tryd.prog w = .ok (.agg zT17) w := by kernel_rfl
theorem bd_tbR (d p z : Int) (w : World) : (Instr.build 25 #[(0, .int .i64 d), (1, .int .i64 p), (2, .int .i64 z)]).run Tryd.prog w = .ok (.agg #[.int .i64 d, .int .i64 p, .int .i64 z, .slice none 0 0]) w := by
  refine run_build w _ _ _ ?_
  kernel_rfl
/-- The answer. -/
def TkB (p : ByteArray) (B : Nat) (C : Array Value) (ok : Bool) (W : World) : Prop := (Tk17 p ∧ TbR p B C W ∧ ok = true) ∨ (¬ Tk17 p ∧ C = zT17 ∧ ok = false)
/-- While numbers are taken. -/
structure PyW (w : World) (t : ByteArray) (C4 : Array Value) (W : World) : Prop where
  b2 : Bk W w.heap.size zT17 25
  cell : W.cell? ⟨w.heap.size + 1, 0, none⟩ = some (.string t)
  frz : W.frozen? ⟨w.heap.size + 1, 0, none⟩ = false
  b4 : Bk W (w.heap.size + 2) C4 53
  bel : Below w.heap.size w W
theorem PyW.new (w : World) (t : ByteArray) : PyW w t (c417 t 0) (((w.alloc (.cells zT17 25)).alloc (.cells #[.string t] 86)).alloc (.cells #[.int .i64 0, .int .i64 0, .int .i64 0, .int .i64 0] 53)) := by
  have h1 := bk_new (w.alloc (.cells zT17 25)) #[.string t] 86
  have h2 := bk_new ((w.alloc (.cells zT17 25)).alloc (.cells #[.string t] 86)) #[.int .i64 0, .int .i64 0, .int .i64 0, .int .i64 0] 53
  rw [al_size] at h1
  rw [al_size, al_size] at h2
  have h1' := h1.alloc (.cells #[.int .i64 0, .int .i64 0, .int .i64 0, .int .i64 0] 53)
  exact ⟨((bk_new _ _ _).alloc _).alloc _, by rw [h1'.cell]; rfl, h1'.frozen 0, h2, (((Below.refl _ _).alloc (Nat.le_refl _) _).alloc (by rw [al_size]; omega) _).alloc (by rw [al_size, al_size]; omega) _⟩
theorem PyW.lt {w W : World} {t : ByteArray} {C : Array Value} (h : PyW w t C W) : w.heap.size + 2 < W.heap.size := h.b4.lt
theorem PyW.step {w W W' : World} {t t' : ByteArray} {C : Array Value} (h : PyW w t C W) (hs : Step (w.heap.size + 1) W W' t') : PyW w t' C W' := by
  have hl := h.lt
  refine ⟨?_, hs.cell, hs.frozen, ?_, h.bel.trans (hs.below (by omega) (by omega))⟩
  · unfold Bk; rw [hs.block _ (by omega) (by omega)]; exact h.b2
  · unfold Bk; rw [hs.block _ (by omega) (by omega)]; exact h.b4
theorem PyW.next {w W W' : World} {t : ByteArray} {C : Array Value} (h : PyW w t C W) (hb : Below W.heap.size W W') : PyW w t C W' :=
  h.step (Step.of_below hb (by have := h.lt; omega) h.cell h.frz)
theorem PyW.up {w W W' : World} {B : Nat} {t : ByteArray} {C : Array Value} (h : PyW w t C W) (hb : Below B W W') (hB : w.heap.size + 2 < B) (hB2 : B ≤ W.heap.size) : PyW w t C W' := by
  have q := cell_blkX (j := 0) (hb.block (w.heap.size + 1) (by omega))
  exact ⟨h.b2.below hb (by omega), by rw [q.1]; exact h.cell, by rw [q.2]; exact h.frz, h.b4.below hb hB, h.bel.trans (hb.mono (by omega))⟩
theorem PyW.other {w W W' : World} {g : Nat} {t : ByteArray} {C : Array Value} (h : PyW w t C W) (hg : W.grownBy W' (some g)) (hle : w.heap.size + 2 < g) : PyW w t C W' := by
  have hl := h.lt
  have q := cell_blkX (j := 0) (hg.block (w.heap.size + 1) (by omega) (fun e => by injection e with e; omega))
  exact ⟨h.b2.grown hg (fun e => by injection e with e; omega), by rw [q.1]; exact h.cell, by rw [q.2]; exact h.frz, h.b4.grown hg (fun e => by injection e with e; omega), h.bel.grown hg h.bel.size (fun b hk => by injection hk with hk; omega)⟩
theorem PyW.set {w W : World} {t : ByteArray} {C : Array Value} (h : PyW w t C W) (i : Nat) (v : Value) : PyW w t (C.setIfInBounds i v) (W.setCell ⟨w.heap.size + 2, i, none⟩ v) := by
  have hl := h.lt
  have hg : W.grownBy (W.setCell ⟨w.heap.size + 2, i, none⟩ v) (some (w.heap.size + 2)) := Lib.grownBy_setB (World.grownBy.refl W _) i _
  have q := cell_blkX (j := 0) (hg.block (w.heap.size + 1) (by omega) (fun e => by injection e with e; omega))
  exact ⟨h.b2.grown hg (fun e => by injection e with e; omega), by rw [q.1]; exact h.cell, by rw [q.2]; exact h.frz, h.b4.set i v, h.bel.grown hg h.bel.size (fun b hk => by injection hk with hk; omega)⟩
/-- While names are taken. -/
structure PyV (w : World) (t : ByteArray) (C4 : Array Value) (g8 : Nat) (d p z : Int) (v : Value) (l : List ByteArray) (W : World) : Prop where
  tw : PyW w t C4 W
  b8 : Bk W g8 #[.int .i64 d, .int .i64 p, .int .i64 z, v] 25
  ow : W.ownsRow (g8 + 1) 27 32 v l.length (ivs l)
  g8 : w.heap.size + 2 < g8
theorem PyV.next {w W W' : World} {g8 : Nat} {t : ByteArray} {C : Array Value} {d p z : Int} {v : Value} {l : List ByteArray} (h : PyV w t C g8 d p z v l W) (hb : Below W.heap.size W W') : PyV w t C g8 d p z v l W' :=
  ⟨h.tw.next hb, h.b8.below hb h.b8.lt, rows_keep h.ow (fun g _ hg => hb.block g hg), h.g8⟩
theorem PyV.cells {w W : World} {g8 : Nat} {t : ByteArray} {C : Array Value} {d p z : Int} {v : Value} {l : List ByteArray} (h : PyV w t C g8 d p z v l W) : W.cell? ⟨g8, 0, none⟩ = some (.int .i64 d) ∧ W.cell? ⟨g8, 1, none⟩ = some (.int .i64 p) ∧ W.cell? ⟨g8, 2, none⟩ = some (.int .i64 z) ∧ W.cell? ⟨g8, 3, none⟩ = some v ∧ W.frozen? ⟨g8, 3, none⟩ = false := by
  refine ⟨?_, ?_, ?_, ?_, h.b8.frozen 3⟩ <;> rw [h.b8.cell] <;> rfl
/-- The names' row has grown, the table not yet. -/
structure PyU (w : World) (t : ByteArray) (C4 : Array Value) (g8 : Nat) (d p z : Int) (v0 v : Value) (l : List ByteArray) (W : World) : Prop where
  tw : PyW w t C4 W
  b8 : Bk W g8 #[.int .i64 d, .int .i64 p, .int .i64 z, v0] 25
  ow : W.ownsRow (g8 + 1) 27 32 v l.length (ivs l)
  g8 : w.heap.size + 2 < g8
theorem PyV.app {w W : World} {g8 k o : Nat} {t : ByteArray} {C : Array Value} {d p z : Int} {v : Value} {l : List ByteArray} {x : ByteArray} (h : PyV w t C g8 d p z v l W) (hx : x.size = 32) (hk : ∀ j u, (idc x)[j]? = some u → W.cell? ⟨k, o + j, none⟩ = some u) (hn : (l.length + 1) * 32 ≤ 140737488355328) :
    ∃ g cp W7, (Builtin.append_ #[23, 23] 23 #[v, .slice (some ⟨k, o, none⟩) 1 1]).run Tryd.prog W = .ok (.slice (some ⟨g, 0, none⟩) (l.length + 1) cp) W7 ∧
      PyU w t C g8 d p z v (.slice (some ⟨g, 0, none⟩) (l.length + 1) cp) (l ++ [x]) W7 := by
  have h8 := h.g8
  have hlt := h.b8.lt
  obtain ⟨g, cp, w7, hr, ho, hc, hg⟩ := ids_app h.ow (by omega) hx hk hn
  refine ⟨g, cp, w7, hr, ?_⟩
  have hb : Below (g8 + 1) W w7 := rows_bel (Below.refl _ _) (by omega) h.ow (Nat.le_refl _) hg
  refine ⟨h.tw.up hb (by omega) (by omega), h.b8.below hb (by omega), ?_, h8⟩
  rw [List.length_append]
  exact ho
theorem PyU.put {w W : World} {g8 : Nat} {t : ByteArray} {C : Array Value} {d p z : Int} {v0 v : Value} {l : List ByteArray} (h : PyU w t C g8 d p z v0 v l W) : PyV w t C g8 d p z v l (W.setCell ⟨g8, 3, none⟩ v) := by
  have hg : W.grownBy (W.setCell ⟨g8, 3, none⟩ v) (some g8) := Lib.grownBy_setB (World.grownBy.refl W _) 3 _
  have h8 := h.g8
  exact ⟨h.tw.other hg h8, h.b8.set 3 v, rows_keep h.ow (fun g hle hlt => hg.block g hlt (fun e => by injection e with e; omega)), h8⟩
/-- A name while it is laid, above all else. -/
structure PyX (w0 : World) (x : ByteArray) (j : Nat) (W : World) : Prop where
  bel : Below w0.heap.size w0 W
  out : Bk W w0.heap.size (idK x j) 27
theorem PyX.new (w0 : World) (x : ByteArray) : PyX w0 x 0 (w0.alloc (.cells z32c 27)) := ⟨(Below.refl _ _).alloc (Nat.le_refl _) _, bk_new _ _ _⟩
theorem PyX.put {w0 W : World} {x : ByteArray} {j : Nat} (h : PyX w0 x j W) (hj : j < x.size) (h32 : j < 32) : PyX w0 x (j + 1) (W.setCell ⟨w0.heap.size, j, none⟩ (.int .u8 (((byl x).getD j 0 : Nat) : Int))) := by
  have hg : W.grownBy (W.setCell ⟨w0.heap.size, j, none⟩ (.int .u8 (((byl x).getD j 0 : Nat) : Int))) (some w0.heap.size) := Lib.grownBy_setB (World.grownBy.refl W _) j _
  refine ⟨below_own h.bel h.bel.size hg (Nat.le_refl _), ?_⟩
  rw [← idK_next x j hj h32]
  exact h.out.set j _
theorem idF_32 {x : ByteArray} (h : x.size = 32) : idF x = x := by
  apply bl_inj
  have hl : x.data.toList.length = 32 := by rw [Array.length_toList]; exact h
  show (x.data.toList.take 32 ++ List.replicate (32 - x.size) (0 : UInt8)) = x.data.toList
  rw [h, List.take_of_length_le (by omega)]
  simp
theorem idK_32 {x : ByteArray} (h : x.size = 32) : idK x 32 = idc x := by rw [idK_end x 32 (by omega), idF_32 h]
/-- The byte that the document reads. -/
theorem row17_byte (T : ByteArray) (i j : Nat) (h : 32 * i + 32 ≤ T.size) (hj : j < 32) (hm : 32 * i + j < T.size) : (byl (row17 T i)).getD j 0 = T[32 * i + j].toNat := by
  have hz := row17_size T i h
  rw [List.getD, byl_getD _ j (by omega)]
  show ((row17 T i)[j]'(by omega)).toNat = _
  simp [row17, ByteArray.getElem_extract]
end Go.Proofs.YteccnnpialaalaaDoor
