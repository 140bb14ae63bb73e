import Derived.Test.YteccnnpialaalaaDoorY3
import Derived.Test.YteccnnpialaalaaDoorY4
import Derived.OpenShut
import Derived.ProofKit
import Derived.Deep.Slices
import Derived.Deep.Strs
import Derived.Test.YteccnnpialaalaaDoorY1
import Derived.Deep.QuietTactic
import Derived.BigQuiet
import Derived.Deep.MidRow
import Derived.Lib.SmallJoins
import Derived.Lib.BufferOwn
import Derived.Lib.HexFns2
import Derived.BigRegion
import Derived.Laws.CopyOwn
import Derived.Maps.AppendAt
import Derived.Maps.Range
import Derived.Deep.WholeRow
import Derived.Test.YteccnnpialaalaaDoorY2
import Derived.Laws.ResultCell
import Derived.Lib.LaidTab
/- Lists of the document's entries, and of names, that came in, opened. -/
namespace Go.Proofs.YteccnnpialaalaaDoor
open Go.ChangeShapes Go.WideShapes Go.ChangeAt Go.RowKit Go.Joins
set_option linter.unusedSimpArgs false
set_option linter.unusedVariables false
section
variable {H : Type} {enc : TypeId × Value → H} {P : Program} {w : World} {base : Nat} {spare : Nat → Bool} {held : Bool}
theorem trod4x {t : TypeId} {f0 f1 f2 f3 : Field} {fuel : Nat} {cs : List Value} {x : DataW H × List MemPlace} (ht : P.underlying t = some (.struct #[f0, f1, f2, f3])) (h : DataW.trod enc P w base spare held fuel t cs = some x) :
    ∃ y0 y1 y2 y3 n, x.1 = .agg [y0.1, y1.1, y2.1, y3.1] ∧ cs.length = P.cellsOf t ∧ DataW.trod enc P w base spare held n f0.type ((cs.drop f0.offset).take (P.cellsOf f0.type)) = some y0 ∧
      DataW.trod enc P w base spare held n f1.type ((cs.drop f1.offset).take (P.cellsOf f1.type)) = some y1 ∧ DataW.trod enc P w base spare held n f2.type ((cs.drop f2.offset).take (P.cellsOf f2.type)) = some y2 ∧
      DataW.trod enc P w base spare held n f3.type ((cs.drop f3.offset).take (P.cellsOf f3.type)) = some y3 := by
  obtain ⟨xs, n, _, rfl, hl, hlen, hf⟩ := DataW.trod_struct ht h
  match xs, hlen with
  | [y0, y1, y2, y3], _ => exact ⟨y0, y1, y2, y3, n, by simp, hl, by simpa using hf 0 f0 rfl, by simpa using hf 1 f1 rfl, by simpa using hf 2 f2 rfl, by simpa using hf 3 f3 rfl⟩
theorem open_lenx {t e : TypeId} {d : DataW H} {ps : List MemPlace} {a0 : Option Addr} {len cap : Nat} (ht : P.underlying t = some (.slice e)) (h : DataW.Trod enc P w 0 (fun _ => true) true t (.slice a0 len cap) d ps)
    (hsz : ∀ q ∈ d.weights P t, q ≤ reachBytes) : len * P.bytesOf e ≤ reachBytes := by
  obtain ⟨fuel, hf⟩ := h
  have hcs : (Value.slice a0 len cap).cells.toList = [.slice a0 len cap] := by simp [Value.cells]
  rw [hcs] at hf
  rcases Go.Deep.open_slice ht hf with ⟨h1, _⟩ | ⟨a, l, c, m, n, D, Pl, h1, _, hl, hm, hmm, hx, hi⟩
  · simp only [List.cons.injEq, Value.slice.injEq, and_true] at h1
    obtain ⟨rfl, rfl, rfl⟩ := h1
    simp
  · simp only [List.cons.injEq, Value.slice.injEq, and_true] at h1
    obtain ⟨rfl, rfl, rfl⟩ := h1
    simp only [Prod.mk.injEq] at hx
    have := hsz _ (by rw [hx.1]; simp only [DataW.weights, ht]; exact List.mem_cons_self ..)
    refine Nat.le_trans ?_ this
    simp only [List.length_map, List.length_range]
    exact Nat.mul_le_mul_right _ (by omega)
end
theorem u8_valx (a : Int) (h : (Lit.int .u8 a).wf = true) : ∃ x : UInt8, a = (x.toNat : Int) := by
  have h' : 0 ≤ a ∧ a ≤ 255 := by simpa [Lit.wf, IntKind.min, IntKind.max, IntKind.signed, IntKind.bits] using h
  refine ⟨UInt8.ofNat a.toNat, ?_⟩
  simp
  omega
theorem cells_idx (cs : List Value) (hsz : cs.length = 32) (h : ∀ i, i < 32 → ∃ n : Nat, cs[i]? = some (.int .u8 (n : Int)) ∧ n < 256) : ∃ s : ByteArray, s.size = 32 ∧ cs = (idc s).toList := by
  obtain ⟨f, hf⟩ := Go.Deep.choose_lt h
  have hl : ∀ x ∈ (List.range 32).map f, x < 256 := by
    intro x hx
    simp only [List.mem_map, List.mem_range] at hx
    obtain ⟨i, hi, rfl⟩ := hx
    exact (hf i hi).2
  refine ⟨sb ((List.range 32).map f), by rw [sb_size]; simp, ?_⟩
  unfold idc
  rw [byl_sb _ hl]
  apply List.ext_getElem?
  intro i
  by_cases hi : i < 32
  · rw [(hf i hi).1]
    simp [bvc, hi]
  · rw [List.getElem?_eq_none (by omega), List.getElem?_eq_none (by simp [bvc]; omega)]
/-- The cells of a name. -/
theorem trod_idx {H : Type} {enc : TypeId × Value → H} {w : World} {base : Nat} {spare : Nat → Bool} {held : Bool} {fuel : Nat} {cs : List Value} {x : DataW H × List MemPlace}
    (h : DataW.trod enc Tryd.prog w base spare held fuel 27 cs = some x) : ∃ s : ByteArray, s.size = 32 ∧ cs = (idc s).toList := by
  have hu : Tryd.prog.underlying 27 = some (.array 32 5) := Tryd.underlying27
  have hc : Tryd.prog.cellsOf 5 = 1 := by kernel_rfl
  have hct : Tryd.prog.cellsOf 27 = 32 := by kernel_rfl
  obtain ⟨xs, m, _, _, hl, hn, hi⟩ := DataW.trod_array hu h
  rw [hct] at hl
  refine cells_idx cs hl (fun i hlt => ?_)
  have := hi i hlt
  rw [hc, Nat.mul_one, List.getElem?_eq_getElem (by omega)] at this
  have e1 : (cs.drop i).take 1 = [cs[i]'(by omega)] := by
    rw [List.drop_eq_getElem_cons (by omega), List.take_succ_cons, List.take_zero]
  rw [e1] at this
  obtain ⟨n, e, _, wn⟩ := DataW.trod_int Tryd.underlying5 this
  have hb : 0 ≤ n ∧ n ≤ 255 := by simpa [Lit.wf, IntKind.min, IntKind.max, IntKind.signed, IntKind.bits] using wn
  simp at e
  refine ⟨n.toNat, ?_, by omega⟩
  rw [List.getElem?_eq_getElem (by omega), e, show ((n.toNat : Nat) : Int) = n from by omega]
/-- Names of a slice. -/
def NmL (w : World) (a : Option Addr) (l : List ByteArray) : Prop := ∀ i s, l[i]? = some s → s.size = 32 ∧ ∃ g o, a = some ⟨g, o, none⟩ ∧ g < w.heap.size ∧ ∀ j v, (idc s)[j]? = some v → w.cell? ⟨g, o + i * 32 + j, none⟩ = some v
theorem NmL.below {w w' : World} {a : Option Addr} {l : List ByteArray} (h : NmL w a l) (hb : Below w.heap.size w w') : NmL w' a l := fun i s hs => by
  obtain ⟨h1, g, o, h2, h3, h4⟩ := h i s hs
  exact ⟨h1, g, o, h2, Nat.lt_of_lt_of_le h3 hb.size, fun j v hv => by rw [hb.cell h3]; exact h4 j v hv⟩
theorem open_nms {H : Type} {enc : TypeId × Value → H} {w : World} {d : DataW H} {ps : List MemPlace} {a0 : Option Addr} {len cap : Nat}
    (h : DataW.Trod enc Tryd.prog w 0 (fun _ => true) true 23 (.slice a0 len cap) d ps) :
    ∃ l, l.length = len ∧ NmL w a0 l ∧ len ≤ maxLen := by
  have ce : Tryd.prog.cellsOf 27 = 32 := by kernel_rfl
  obtain ⟨hl, hall⟩ := open_elem Tryd.underlying23 (by rw [ce]; omega) h
  have one : ∀ i, i < len → ∃ x : ByteArray, x.size = 32 ∧ ∃ g o, a0 = some ⟨g, o, none⟩ ∧ g < w.heap.size ∧ ∀ j v, (idc x)[j]? = some v → w.cell? ⟨g, o + i * 32 + j, none⟩ = some v := by
    intro i hi
    obtain ⟨b, off, cs, D, Pl, n, ha, hb, hlen, hcell, htrod, hw⟩ := hall i hi
    rw [ce] at hlen hcell
    obtain ⟨s, hs, rfl⟩ := trod_idx htrod
    exact ⟨s, hs, b, off, ha, hb, fun j v hv => by
      have hj : j < 32 := by
        have := (Array.getElem?_eq_some_iff.1 hv).1
        rw [idc_size, hs] at this
        exact this
      rw [hcell j hj, Array.getElem?_toList, hv]⟩
  haveI : Inhabited ByteArray := ⟨⟨#[]⟩⟩
  obtain ⟨q, hq⟩ := Go.Deep.choose_lt one
  refine ⟨(List.range len).map q, by simp, fun i x hx => ?_, hl⟩
  rw [List.getElem?_map] at hx
  obtain ⟨j, hj, rfl⟩ := Option.map_eq_some_iff.1 hx
  have hi : i < len := by have := (List.getElem?_eq_some_iff.1 hj).1; simpa using this
  have : j = i := by rw [List.getElem?_range hi] at hj; cases hj; rfl
  subst this
  exact hq j hi
end Go.Proofs.YteccnnpialaalaaDoor
/- The turns of bits: math/bits.RotateLeft32, digest.turned, the document's turn. -/
namespace Go.Proofs.YteccnnpialaalaaDoor
open Go.RowKit
set_option linter.unusedSimpArgs false
set_option linter.unusedVariables false
theorem rot_s (n : Nat) (h0 : 1 ≤ n) (h1 : n ≤ 31) : bits .and .u64 (IntKind.u64.wrap (-(n : Int))) 31 = ((32 - n : Nat) : Int) := by
  have : ∀ k : Fin 32, 1 ≤ k.val → bits .and .u64 (IntKind.u64.wrap (-(k.val : Int))) 31 = ((32 - k.val : Nat) : Int) := by decide +kernel
  exact this ⟨n, by omega⟩ h0
/-- Three turns, joined. -/
def rr3 (i j k : Nat) (x : BitVec 32) : BitVec 32 := rr i x ^^^ rr j x ^^^ rr k x
end Go.Proofs.YteccnnpialaalaaDoor
/- One round of the program: the closure in digest.State.mix. -/
namespace Go.Proofs.YteccnnpialaalaaDoor
open Go.RowKit
set_option linter.unusedSimpArgs false
set_option linter.unusedVariables false
def v8c (v : V8) : Array Value := #[c32 v.a, c32 v.b, c32 v.c, c32 v.d, c32 v.e, c32 v.f, c32 v.g, c32 v.h]
theorem v8_set (v : V8) (x0 x1 x2 x3 x4 x5 x6 x7 : Value) :
    ((((((((v8c v).setIfInBounds 0 x0).setIfInBounds 1 x1).setIfInBounds 2 x2).setIfInBounds 3 x3).setIfInBounds 4 x4).setIfInBounds 5 x5).setIfInBounds 6 x6).setIfInBounds 7 x7 = #[x0, x1, x2, x3, x4, x5, x6, x7] := by simp [v8c]
theorem set8 {w : World} {V : Nat} {v : V8} {T : TypeId} (h : Blk w V (v8c v) T) (n : Nat) (x0 x1 x2 x3 x4 x5 x6 x7 : Value) :
    Blk (((((((((w.drewN n).setCell ⟨V, 0, none⟩ x0).setCell ⟨V, 1, none⟩ x1).setCell ⟨V, 2, none⟩ x2).setCell ⟨V, 3, none⟩ x3).setCell ⟨V, 4, none⟩ x4).setCell ⟨V, 5, none⟩ x5).setCell ⟨V, 6, none⟩ x6).setCell ⟨V, 7, none⟩ x7) V #[x0, x1, x2, x3, x4, x5, x6, x7] T := by
  rw [← v8_set v x0 x1 x2 x3 x4 x5 x6 x7]
  exact ((((((((h.drewN n).set 0 x0).set 1 x1).set 2 x2).set 3 x3).set 4 x4).set 5 x5).set 6 x6).set 7 x7
theorem grown8 {w : World} {V : Nat} (n : Nat) (x0 x1 x2 x3 x4 x5 x6 x7 : Value) :
    w.grownBy (((((((((w.drewN n).setCell ⟨V, 0, none⟩ x0).setCell ⟨V, 1, none⟩ x1).setCell ⟨V, 2, none⟩ x2).setCell ⟨V, 3, none⟩ x3).setCell ⟨V, 4, none⟩ x4).setCell ⟨V, 5, none⟩ x5).setCell ⟨V, 6, none⟩ x6).setCell ⟨V, 7, none⟩ x7) (some V) :=
  Lib.grownBy_setB (Lib.grownBy_setB (Lib.grownBy_setB (Lib.grownBy_setB (Lib.grownBy_setB (Lib.grownBy_setB (Lib.grownBy_setB (Lib.grownBy_setB (grown_drewN w n _) 0 x0) 1 x1) 2 x2) 3 x3) 4 x4) 5 x5) 6 x6) 7 x7
theorem ch_raw (e f g : BitVec 32) : bits .xor .u32 (bits .and .u32 (e.toNat : Int) (f.toNat : Int)) (bits .and .u32 (bits .xor .u32 IntKind.u32.max (e.toNat : Int)) (g.toNat : Int)) = ((chE e f g).toNat : Int) := by
  rw [max32, not32, and32, and32, xor32, chE]
theorem mj_raw (a b c : BitVec 32) : bits .xor .u32 (bits .xor .u32 (bits .and .u32 (a.toNat : Int) (b.toNat : Int)) (bits .and .u32 (a.toNat : Int) (c.toNat : Int))) (bits .and .u32 (b.toNat : Int) (c.toNat : Int)) = ((mjA a b c).toNat : Int) := by
  rw [and32, and32, and32, xor32, xor32, mjA]
theorem new_a (v : V8) (k x : BitVec 32) : (((v.h.toNat : Int) + ((bsE v.e).toNat : Int) + ((chE v.e v.f v.g).toNat : Int) + (k.toNat : Int) + (x.toNat : Int) + (((bsA v.a).toNat : Int) + ((mjA v.a v.b v.c).toNat : Int))) % 4294967296) = ((v.t1 k x + v.t2).toNat : Int) := by
  simp only [V8.t1, V8.t2, BitVec.toNat_add]
  omega
theorem new_e (v : V8) (k x : BitVec 32) : (((v.d.toNat : Int) + ((v.h.toNat : Int) + ((bsE v.e).toNat : Int) + ((chE v.e v.f v.g).toNat : Int) + (k.toNat : Int) + (x.toNat : Int))) % 4294967296) = ((v.d + v.t1 k x).toNat : Int) := by
  simp only [V8.t1, BitVec.toNat_add]
  omega
end Go.Proofs.YteccnnpialaalaaDoor
/- digest.State.spread: a block's numbers. -/
namespace Go.Proofs.YteccnnpialaalaaDoor
open Go.RowKit
set_option linter.unusedSimpArgs false
set_option linter.unusedVariables false
theorem sh_raw (a c k : Nat) (hc : c = 2 ^ k) : (a : Int) % 4294967296 * (c : Int) % 4294967296 = ((BitVec.ofNat 32 a <<< k).toNat : Int) := by
  rw [BitVec.toNat_shiftLeft, BitVec.toNat_ofNat, Nat.shiftLeft_eq, ← hc]
  show _ = ((a % 4294967296 * c % 4294967296 : Nat) : Int)
  simp only [Int.natCast_emod, Int.natCast_mul]
  rfl
theorem lo_raw (a : Nat) : (a : Int) % 4294967296 = ((BitVec.ofNat 32 a).toNat : Int) := by
  rw [BitVec.toNat_ofNat]; simp
theorem be4_raw (a b c d : Nat) : bits .or .u32 (bits .or .u32 (bits .or .u32 ((a : Int) % 4294967296 * 16777216 % 4294967296) ((b : Int) % 4294967296 * 65536 % 4294967296)) ((c : Int) % 4294967296 * 256 % 4294967296)) ((d : Int) % 4294967296) = ((be4 a b c d).toNat : Int) := by
  have h1 := sh_raw a 16777216 24 (by decide)
  have h2 := sh_raw b 65536 16 (by decide)
  have h3 := sh_raw c 256 8 (by decide)
  rw [show ((16777216 : Nat) : Int) = 16777216 from rfl] at h1
  rw [show ((65536 : Nat) : Int) = 65536 from rfl] at h2
  rw [show ((256 : Nat) : Int) = 256 from rfl] at h3
  rw [h1, h2, h3, lo_raw, or32, or32, or32, be4]
theorem sH_raw (y : BitVec 32) : bits .xor .u32 (bits .xor .u32 ((rr 17 y).toNat : Int) ((rr 19 y).toNat : Int)) ((y.toNat : Int) / 1024) = ((sgH y).toNat : Int) := by
  have h := shr_raw y 10
  rw [show ((2 : Int) ^ 10) = 1024 from by decide] at h
  rw [h, xor32, xor32, sgH]
theorem sL_raw (y : BitVec 32) : bits .xor .u32 (bits .xor .u32 ((rr 7 y).toNat : Int) ((rr 18 y).toNat : Int)) ((y.toNat : Int) / 8) = ((sgL y).toNat : Int) := by
  have h := shr_raw y 3
  rw [show ((2 : Int) ^ 3) = 8 from by decide] at h
  rw [h, xor32, xor32, sgL]
theorem wn_raw (y1 y2 y0 y3 : BitVec 32) : (bits .xor .u32 (bits .xor .u32 ((rr 17 y1).toNat : Int) ((rr 19 y1).toNat : Int)) ((y1.toNat : Int) / 1024) + (y2.toNat : Int) + bits .xor .u32 (bits .xor .u32 ((rr 7 y0).toNat : Int) ((rr 18 y0).toNat : Int)) ((y0.toNat : Int) / 8) + (y3.toNat : Int)) % 4294967296 = ((sgH y1 + y2 + sgL y0 + y3).toNat : Int) := by
  rw [sH_raw, sL_raw]
  simp only [BitVec.toNat_add]
  omega
theorem blk_old (w : World) (o : Obj) (i : Nat) (h : i < w.heap.size) : (w.alloc o).heap[i]? = w.heap[i]? := by
  show (w.heap.push o)[i]? = w.heap[i]?
  rw [Array.getElem?_push, if_neg (by omega)]
end Go.Proofs.YteccnnpialaalaaDoor
/- digest.State.mix: a full block is taken into the eight numbers. -/
namespace Go.Proofs.YteccnnpialaalaaDoor
open Go.RowKit
set_option linter.unusedSimpArgs false
set_option linter.unusedVariables false
/-- A state's cells: eight numbers, a block, how many bytes. -/
def stc (h : V8) (m : List Nat) (n : Nat) : Array Value := (v8c h ++ (bvc m).toArray).push (.int .u64 (n : Int))
theorem v8c_size (h : V8) : (v8c h).size = 8 := rfl
theorem stc_size (h : V8) (m : List Nat) (n : Nat) (hm : m.length = 64) : (stc h m n).size = 73 := by simp [stc, v8c_size, bvc, hm]
theorem v8c_get (h : V8) (j : Nat) (hj : j < 8) : (v8c h)[j]? = some (c32 (h.list.getD j 0)) := by
  have : j = 0 ∨ j = 1 ∨ j = 2 ∨ j = 3 ∨ j = 4 ∨ j = 5 ∨ j = 6 ∨ j = 7 := by omega
  rcases this with rfl | rfl | rfl | rfl | rfl | rfl | rfl | rfl <;> rfl
theorem stc_num (h : V8) (m : List Nat) (n j : Nat) (hj : j < 8) : (stc h m n)[j]? = some (c32 (h.list.getD j 0)) := by
  rw [stc, Array.getElem?_push, if_neg (by simp [v8c_size]; omega), Array.getElem?_append_left (by rw [v8c_size]; omega), v8c_get h j hj]
theorem stc_byte (h : V8) (m : List Nat) (n j : Nat) (hj : j < m.length) : (stc h m n)[8 + j]? = some (.int .u8 (m.getD j 0 : Nat)) := by
  rw [stc, Array.getElem?_push, if_neg (by simp [v8c_size, bvc]; omega), Array.getElem?_append_right (by rw [v8c_size]; omega), v8c_size]
  simp [bvc, List.getD, hj]
theorem stc_wrote (h : V8) (m : List Nat) (n : Nat) (hm : m.length = 64) : (stc h m n)[72]? = some (.int .u64 (n : Int)) := by
  rw [stc, Array.getElem?_push, if_pos (by simp [v8c_size, bvc, hm])]
def w64c (m : List Nat) : Array Value := ((sch m 64).map c32).toArray
theorem w64c_size (m : List Nat) : (w64c m).size = 64 := by simp [w64c, sch_length]
theorem w64c_one (m : List Nat) : (w64c m).all (·.oneCell') = true := by
  simp [w64c, List.all_eq_true, Value.oneCell']
theorem w64c_get (m : List Nat) (t : Nat) (ht : t < 64) : (w64c m)[t]? = some (c32 (wt m t)) := by
  simp only [w64c, List.getElem?_toArray, List.getElem?_map, wt, List.getD]
  rw [List.getElem?_eq_getElem (by rw [sch_length]; exact ht)]
  rfl
theorem v8c_one (v : V8) : (v8c v).all (·.oneCell') = true := by simp [v8c, Value.oneCell']
theorem num_old {w w1 : World} {b : Nat} {h : V8} {m : List Nat} {n : Nat} {T : TypeId} (hB : Blk w b (stc h m n) T) (hb1 : Below w.heap.size w w1) (o : Obj) :
    ∀ j, j < 8 → (w1.alloc o).cell? ⟨b, 0 + j, none⟩ = some (c32 (h.list.getD j 0)) := fun j hj => by
  have h1 := (hB.grown (grown_of_below hb1 none) (by simp)).grown (World.grownBy_alloc w1 o none) (by simp)
  rw [h1.cell, Nat.zero_add, stc_num _ _ _ _ hj]
def V8.setk (h : V8) (k : Nat) (x : BitVec 32) : V8 :=
  ⟨if k = 0 then x else h.a, if k = 1 then x else h.b, if k = 2 then x else h.c, if k = 3 then x else h.d, if k = 4 then x else h.e, if k = 5 then x else h.f, if k = 6 then x else h.g, if k = 7 then x else h.h⟩
theorem setk_get (h : V8) (k : Nat) (x : BitVec 32) (j : Nat) (hj : j < 8) : (h.setk k x).list.getD j 0 = if k = j then x else h.list.getD j 0 := by
  have : j = 0 ∨ j = 1 ∨ j = 2 ∨ j = 3 ∨ j = 4 ∨ j = 5 ∨ j = 6 ∨ j = 7 := by omega
  rcases this with rfl | rfl | rfl | rfl | rfl | rfl | rfl | rfl <;> rfl
theorem stc_far (h g : V8) (m : List Nat) (n i : Nat) (hi : ¬ i < 8) : (stc h m n)[i]? = (stc g m n)[i]? := by
  rw [stc, stc, Array.getElem?_push, Array.getElem?_push, Array.getElem?_append_right (by rw [v8c_size]; omega), Array.getElem?_append_right (by rw [v8c_size]; omega)]
  simp only [Array.size_append, v8c_size]
theorem stc_set (h : V8) (m : List Nat) (n k : Nat) (x : BitVec 32) (hk : k < 8) (hm : m.length = 64) : (stc h m n).setIfInBounds k (c32 x) = stc (h.setk k x) m n := by
  apply Array.ext_getElem?
  intro i
  rw [Array.getElem?_setIfInBounds, stc_size _ _ _ hm]
  by_cases hi : i < 8
  · rw [stc_num _ _ _ _ hi, stc_num _ _ _ _ hi, setk_get _ _ _ _ hi]
    split
    · rw [if_pos (by omega)]
    · rfl
  · rw [if_neg (by omega)]
    exact stc_far _ _ _ _ _ hi
theorem v8_ext (u v : V8) (h : ∀ j, j < 8 → u.list.getD j 0 = v.list.getD j 0) : u = v := by
  have h0 := h 0 (by omega)
  have h1 := h 1 (by omega)
  have h2 := h 2 (by omega)
  have h3 := h 3 (by omega)
  have h4 := h 4 (by omega)
  have h5 := h 5 (by omega)
  have h6 := h 6 (by omega)
  have h7 := h 7 (by omega)
  simp [V8.list] at h0 h1 h2 h3 h4 h5 h6 h7
  cases u; cases v
  simp_all
theorem add_get (h v : V8) (j : Nat) (hj : j < 8) : (h.add v).list.getD j 0 = h.list.getD j 0 + v.list.getD j 0 := by
  have : j = 0 ∨ j = 1 ∨ j = 2 ∨ j = 3 ∨ j = 4 ∨ j = 5 ∨ j = 6 ∨ j = 7 := by omega
  rcases this with rfl | rfl | rfl | rfl | rfl | rfl | rfl | rfl <;> rfl
/-- What lies in memory while the numbers are added: k of them are. -/
structure Ad (w : World) (b : Nat) (T : TypeId) (h v : V8) (m : List Nat) (n k : Nat) (g : V8) (wr : World) : Prop where
  st : Blk wr b (stc g m n) T
  grown : w.grownBy wr (some b)
  done : ∀ j, j < 8 → g.list.getD j 0 = if j < k then h.list.getD j 0 + v.list.getD j 0 else h.list.getD j 0
theorem Ad.drew {w : World} {b : Nat} {T : TypeId} {h v : V8} {m : List Nat} {n k : Nat} {g : V8} {wr : World} (H : Ad w b T h v m n k g wr) : Ad w b T h v m n k g wr.drew := ⟨H.st, Lib.Hx.grownBy_drew H.grown, H.done⟩
theorem Ad.put {w : World} {b : Nat} {T : TypeId} {h v : V8} {m : List Nat} {n k : Nat} {g : V8} {wr : World} (H : Ad w b T h v m n k g wr) (hk : k < 8) (hm : m.length = 64) :
    Ad w b T h v m n (k + 1) (g.setk k (g.list.getD k 0 + v.list.getD k 0)) (wr.setCell ⟨b, k, none⟩ (c32 (g.list.getD k 0 + v.list.getD k 0))) where
  st := by rw [← stc_set _ _ _ _ _ hk hm]; exact H.st.set k _
  grown := Lib.grownBy_setB H.grown k _
  done := fun j hj => by
    rw [setk_get _ _ _ _ hj]
    split
    · rename_i e; subst e; rw [if_pos (by omega), H.done k hk, if_neg (by omega)]
    · rw [H.done j hj]
      by_cases e : j < k
      · rw [if_pos e, if_pos (by omega)]
      · rw [if_neg e, if_neg (by omega)]
end Go.Proofs.YteccnnpialaalaaDoor
/- digest.State.take: bytes go into a sum. -/
namespace Go.Proofs.YteccnnpialaalaaDoor
open Go.RowKit
set_option linter.unusedSimpArgs false
set_option linter.unusedVariables false
theorem putA_stc (h : V8) (m : List Nat) (n r : Nat) (xs : List Nat) (hm : m.length = 64) (hr : r + xs.length ≤ 64) : putA (stc h m n) (8 + r) (bvc xs) = stc h (putL m r xs) n := by
  have hp := putL_length m r xs (by omega)
  apply Array.ext_getElem?
  intro i
  rw [putA_get _ _ _ _ (by rw [stc_size _ _ _ hm]; simp [bvc]; omega)]
  by_cases h8 : i < 8
  · rw [if_neg (by omega), stc_num _ _ _ _ h8, stc_num _ _ _ _ h8]
  · by_cases h72 : i < 72
    · obtain ⟨j, rfl⟩ : ∃ j, i = 8 + j := ⟨i - 8, by omega⟩
      rw [stc_byte h m n j (by omega), stc_byte h (putL m r xs) n j (by omega), putL_getD _ _ _ (by omega)]
      by_cases e : r ≤ j ∧ j < r + xs.length
      · rw [if_pos (by simp [bvc]; omega), if_neg (by omega), if_pos e.2, show 8 + j - (8 + r) = j - r from by omega]
        simp only [bvc, List.getElem?_map, List.getD]
        rw [List.getElem?_eq_getElem (by omega)]
        rfl
      · rw [if_neg (by simp [bvc]; omega)]
        by_cases e1 : j < r
        · rw [if_pos e1]
        · rw [if_neg e1, if_neg (by omega)]
    · rw [if_neg (by simp [bvc]; omega)]
      by_cases e : i = 72
      · subst e; rw [stc_wrote _ _ _ hm, stc_wrote _ _ _ (by omega)]
      · rw [Array.getElem?_eq_none (by rw [stc_size _ _ _ hm]; omega), Array.getElem?_eq_none (by rw [stc_size _ _ _ (by omega)]; omega)]
theorem stc_setw (h : V8) (m : List Nat) (n n' : Nat) (hm : m.length = 64) : (stc h m n).setIfInBounds 72 (.int .u64 (n' : Int)) = stc h m n' := by
  have e : (v8c h ++ (bvc m).toArray).size = 72 := by simp [v8c_size, bvc, hm]
  apply Array.ext_getElem?
  intro i
  rw [Array.getElem?_setIfInBounds, stc, stc, Array.getElem?_push, Array.getElem?_push, Array.size_push, e]
  by_cases h1 : 72 = i
  · subst h1; simp
  · rw [if_neg h1, if_neg (by omega), if_neg (by omega)]
/-- A sum under way, as it lies in memory. -/
structure Stt (w : World) (b : Nat) (T : TypeId) (msg : List Nat) (m : List Nat) : Prop where
  blk : Blk w b (stc (hs msg (msg.length / 64)) m msg.length) T
  sta : Sta msg (hs msg (msg.length / 64)) m
theorem Stt.of_more {M xs m : List Nat} {h : V8} {n c b : Nat} {T : TypeId} {W : World} (S : Sta M h m) (hn : n = M.length) (hxb : ∀ x ∈ xs, x < 256) (hxl : xs.length = c) (hc : c < 64 - M.length % 64)
    (hB : Blk W b (stc h (putL m (n % 64) xs) (n + c)) T) : Stt W b T (M ++ xs) (putL m (n % 64) xs) := by
  subst hn
  have S' := S.more xs hxb (by omega)
  exact ⟨by rw [← S'.num, List.length_append, hxl]; exact hB, by rw [← S'.num]; exact S'⟩
theorem Stt.of_full {M xs m : List Nat} {h : V8} {n c b : Nat} {T : TypeId} {W : World} (S : Sta M h m) (hn : n = M.length) (hxb : ∀ x ∈ xs, x < 256) (hxl : xs.length = c) (hc : c = 64 - M.length % 64)
    (hB : Blk W b (stc (comp (putL m (n % 64) xs) h) (putL m (n % 64) xs) (n + c)) T) : Stt W b T (M ++ xs) (putL m (n % 64) xs) := by
  subst hn
  have S' := S.full xs hxb (by omega)
  exact ⟨by rw [← S'.num, List.length_append, hxl]; exact hB, by rw [← S'.num]; exact S'⟩
theorem copy_at {w : World} {b : Nat} {T : TypeId} {h : V8} {m : List Nat} {k : Nat} (hB : Blk w b (stc h m k) T) (hm : m.length = 64) (s : ByteArray) (n : Nat) (ty : TypeId) :
    (Builtin.copy_ #[48, 9] ty #[.slice (some ⟨b, 8 + n % 64, none⟩) (64 - n % 64) (64 - n % 64), .string s]).run Tryd.prog w = .ok (goInt (Nat.min s.size (64 - n % 64))) (w.setCells b (8 + n % 64) (bvc ((byl s).take (Nat.min s.size (64 - n % 64))))) := by
  have hi : (Tryd.prog.info? 5).map (·.size) = some 1 := by kernel_rfl
  refine copy_str w 48 9 ty 5 b (8 + n % 64) _ _ s Tryd.underlying48 hi (fun j hj => ?_) (fun j hj => ?_)
  · rw [hB.cell]
    have hj2 := Nat.lt_of_lt_of_le hj (Nat.min_le_right _ _)
    rw [show 8 + n % 64 + j = 8 + (n % 64 + j) from by omega, stc_byte _ _ _ _ (by omega)]; rfl
  · exact hB.frozen _
end Go.Proofs.YteccnnpialaalaaDoor
/- digest.begin, digest.State.end. -/
namespace Go.Proofs.YteccnnpialaalaaDoor
open Go.RowKit
set_option linter.unusedSimpArgs false
set_option linter.unusedVariables false
/-- 64 noughts. -/
def z64 : List Nat := List.replicate 64 0
def V0 : V8 := ⟨0, 0, 0, 0, 0, 0, 0, 0⟩
/-- A state of noughts. -/
def zst : Array Value := stc V0 z64 0
theorem zst_size : zst.size = 73 := stc_size _ _ _ rfl
theorem stc_one (h : V8) (m : List Nat) (n : Nat) : (stc h m n).all (·.oneCell') = true := by
  rw [Array.all_eq_true_iff_forall_mem]
  intro x hx
  simp only [stc, Array.mem_push, Array.mem_append, List.mem_toArray, v8c, bvc, List.mem_map] at hx
  rcases hx with (hx | ⟨y, _, rfl⟩) | rfl
  · simp at hx
    rcases hx with rfl | rfl | rfl | rfl | rfl | rfl | rfl | rfl <;> rfl
  · rfl
  · rfl
theorem bld0 : Array.foldl (fun (cs : Array Value) (x : Value × Nat) => cs.setIfInBounds x.snd x.fst) zst (v8c H0).zipIdx 0 (v8c H0).size = stc H0 z64 0 := by kernel_rfl
end Go.Proofs.YteccnnpialaalaaDoor
/- digest.State.end: the sum of what was written. -/
namespace Go.Proofs.YteccnnpialaalaaDoor
open Go.RowKit
set_option linter.unusedSimpArgs false
set_option linter.unusedVariables false
theorem Stt.grown {w w' : World} {b : Nat} {T : TypeId} {msg m : List Nat} {r : Option Nat} (h : Stt w b T msg m) (hg : w.grownBy w' r) (hr : r ≠ some b) : Stt w' b T msg m := ⟨h.blk.grown hg hr, h.sta⟩
theorem byl_80 : byl ⟨#[128]⟩ = [128] := by decide
theorem byl_00 : byl ⟨#[0]⟩ = [0] := by decide
theorem Stt.wrote {w : World} {b : Nat} {T : TypeId} {msg m : List Nat} (h : Stt w b T msg m) : w.cell? ⟨b, 72, none⟩ = some (.int .u64 (msg.length : Int)) := by
  rw [h.blk.cell, stc_wrote _ _ _ h.sta.len]
theorem lenstr (x : Nat) : ((⟨#[]⟩ : ByteArray) ++ sb (fixN 8 x)).size = 8 := by
  rw [ByteArray.size_append, sb_size, fixN_length]; rfl
theorem fixN_lt : ∀ k n, ∀ x ∈ fixN k n, x < 256
  | 0, _, x, h => by simp [fixN] at h
  | k + 1, n, x, h => by
    simp only [fixN, List.mem_append, List.mem_singleton] at h
    rcases h with h | rfl
    · exact fixN_lt k _ x h
    · exact Nat.mod_lt _ (by omega)
theorem byl_len (x : Nat) : byl ((⟨#[]⟩ : ByteArray) ++ sb (fixN 8 x)) = fixN 8 x := by
  rw [show ((⟨#[]⟩ : ByteArray) ++ sb (fixN 8 x)) = sb (fixN 8 x) from ByteArray.empty_append]
  exact byl_sb _ (fixN_lt 8 x)
theorem num_end {w3 : World} {b n k : Nat} {T : TypeId} {msg : List Nat} (hk : k = pads n) (hn : n = msg.length) (hS : ∃ m', Stt w3 b T (msg ++ [128] ++ List.replicate k 0 ++ byl ((⟨#[]⟩ : ByteArray) ++ sb (fixN 8 (8 * n)))) m') (o : Obj) :
    ∀ j, j < 8 → (w3.alloc o).cell? ⟨b, 0 + j, none⟩ = some (c32 ((shaV msg).list.getD j 0)) := fun j hj => by
  obtain ⟨m', hS⟩ := hS
  subst hk
  subst hn
  have e : msg ++ [128] ++ List.replicate (pads msg.length) 0 ++ byl ((⟨#[]⟩ : ByteArray) ++ sb (fixN 8 (8 * msg.length))) = padded msg := by rw [byl_len, padded]
  rw [e] at hS
  have h1 := hS.blk.grown (World.grownBy_alloc w3 o none) (by simp)
  rw [h1.cell, Nat.zero_add, stc_num _ _ _ _ hj, shaV]
theorem z32c_get (j : Nat) (hj : j < 32) : z32c[j]? = some (.int .u8 0) := by
  rw [z32c, bvc, List.map_replicate, List.getElem?_toArray, List.getElem?_replicate, if_pos hj]; rfl
theorem outB_get (v : V8) (k i : Nat) (hk : k < 8) (hi : i < 4) : (outB v).getD (4 * k + i) 0 = (by4 (v.list.getD k 0)).getD i 0 := by
  have h1 : k = 0 ∨ k = 1 ∨ k = 2 ∨ k = 3 ∨ k = 4 ∨ k = 5 ∨ k = 6 ∨ k = 7 := by omega
  have h2 : i = 0 ∨ i = 1 ∨ i = 2 ∨ i = 3 := by omega
  rcases h1 with rfl | rfl | rfl | rfl | rfl | rfl | rfl | rfl <;> rcases h2 with rfl | rfl | rfl | rfl <;> rfl
/-- What lies in memory while the sum's bytes are laid: those of k numbers are. -/
structure Ou (w : World) (v : V8) (k : Nat) (C : Array Value) (wr : World) : Prop where
  blk : Blk wr w.heap.size C 27
  csz : C.size = 32
  got : ∀ j, j < 4 * k → C[j]? = some (.int .u8 ((outB v).getD j 0 : Nat))
  all : ∀ j, j < 32 → ∃ z : Int, C[j]? = some (.int .u8 z)
  grown : w.grownBy wr none
theorem Ou.start (w : World) (v : V8) : Ou w v 0 z32c (w.alloc (.cells z32c 27)) :=
  ⟨blk_new _ _, z32c_size, fun j hj => by omega, fun j hj => ⟨0, z32c_get j hj⟩, World.grownBy_alloc _ _ none⟩
theorem Ou.there {w : World} {v : V8} {k : Nat} {C : Array Value} {wr : World} (H : Ou w v k C wr) (j : Nat) (hj : j < 32) : ∃ z : Int, wr.cell? ⟨w.heap.size, j, none⟩ = some (.int .u8 z) := by
  obtain ⟨z, hz⟩ := H.all j hj
  exact ⟨z, by rw [H.blk.cell, hz]⟩
theorem Ou.put {w : World} {v : V8} {k : Nat} {C : Array Value} {wr : World} (H : Ou w v k C wr) (hk : k < 8) (x : BitVec 32) (hx : x = v.list.getD k 0) :
    Ou w v (k + 1) ((((C.setIfInBounds (4 * k) (.int .u8 ((x.toNat : Int) / 16777216))).setIfInBounds (4 * k + 1) (.int .u8 ((x.toNat : Int) / 65536 % 256))).setIfInBounds (4 * k + 2) (.int .u8 ((x.toNat : Int) / 256 % 256))).setIfInBounds (4 * k + 3) (.int .u8 ((x.toNat : Int) % 256)))
      ((((wr.setCell ⟨w.heap.size, 4 * k, none⟩ (.int .u8 ((x.toNat : Int) / 16777216))).setCell ⟨w.heap.size, 4 * k + 1, none⟩ (.int .u8 ((x.toNat : Int) / 65536 % 256))).setCell ⟨w.heap.size, 4 * k + 2, none⟩ (.int .u8 ((x.toNat : Int) / 256 % 256))).setCell ⟨w.heap.size, 4 * k + 3, none⟩ (.int .u8 ((x.toNat : Int) % 256))) where
  blk := (((H.blk.set _ _).set _ _).set _ _).set _ _
  csz := by simp only [Array.size_setIfInBounds]; exact H.csz
  got := fun j hj => by
    simp only [Array.getElem?_setIfInBounds, Array.size_setIfInBounds, H.csz]
    by_cases e : j < 4 * k
    · rw [if_neg (by omega), if_neg (by omega), if_neg (by omega), if_neg (by omega), H.got j e]
    · obtain ⟨i, rfl⟩ : ∃ i, j = 4 * k + i := ⟨j - 4 * k, by omega⟩
      rw [outB_get v k i hk (by omega), ← hx]
      have h2 : i = 0 ∨ i = 1 ∨ i = 2 ∨ i = 3 := by omega
      rcases h2 with rfl | rfl | rfl | rfl
      · rw [if_neg (by omega), if_neg (by omega), if_neg (by omega), if_pos (by omega), if_pos (by omega)]; rfl
      · rw [if_neg (by omega), if_neg (by omega), if_pos (by omega), if_pos (by omega)]; rfl
      · rw [if_neg (by omega), if_pos (by omega), if_pos (by omega)]; rfl
      · rw [if_pos (by omega), if_pos (by omega)]; rfl
  all := fun j hj => by
    simp only [Array.getElem?_setIfInBounds, Array.size_setIfInBounds, H.csz]
    split
    · exact ⟨_, by rw [if_pos (by omega)]⟩
    · split
      · exact ⟨_, by rw [if_pos (by omega)]⟩
      · split
        · exact ⟨_, by rw [if_pos (by omega)]⟩
        · split
          · exact ⟨_, by rw [if_pos (by omega)]⟩
          · exact H.all j hj
  grown := by
    have hs : ∀ {W : World} (i : Nat) (u : Value), w.grownBy W none → w.grownBy (W.setCell ⟨w.heap.size, i, none⟩ u) none := fun i u h => h.andThen (Lib.grownBy_setCell _ _ _ _) (fun j hj => by left; simp at hj; omega)
    exact hs _ _ (hs _ _ (hs _ _ (hs _ _ H.grown)))
theorem Ou.whole {w : World} {v : V8} {C : Array Value} {wr : World} (H : Ou w v 8 C wr) : C = (bvc (outB v)).toArray := by
  apply Array.ext_getElem?
  intro i
  by_cases hi : i < 32
  · rw [H.got i (by omega)]
    simp only [List.getElem?_toArray, bvc, List.getElem?_map, List.getD]
    rw [List.getElem?_eq_getElem (by rw [outB_length]; exact hi)]
    rfl
  · rw [Array.getElem?_eq_none (by rw [H.csz]; omega), Array.getElem?_eq_none (by simp [bvc, outB_length]; omega)]
theorem Ou.one {w : World} {v : V8} {k : Nat} {C : Array Value} {wr : World} (H : Ou w v k C wr) : C.all (·.oneCell') = true := by
  rw [Array.all_eq_true]
  intro i hi
  obtain ⟨x, hx⟩ := H.all i (by have := H.csz; omega)
  rw [Array.getElem?_eq_getElem hi] at hx
  rw [Option.some.inj hx]; rfl
end Go.Proofs.YteccnnpialaalaaDoor
/- digest.Sum. -/
namespace Go.Proofs.YteccnnpialaalaaDoor
open Go.RowKit
set_option linter.unusedSimpArgs false
set_option linter.unusedVariables false
theorem wpList_store_abs {P : Program} {ops : Array Oper} {rest : List Oper} {o : Oper} {a : Act} {w : World} {Q : Exit → Act → World → Prop} (hgd : o.guard = none) (ty : TypeId) (x y : Operand) (ho : o.op = .store ty x y)
    (cells old : Array Value) (t : TypeId) (H : Nat) (hH : w.heap.size = H) (hx : a.eval x = .pointer (some ⟨H, 0, none⟩)) (hy : a.eval y = .agg cells)
    (hi : (P.info? ty).map (·.size) = some cells.size) (hold : old.size = cells.size) (h1 : cells.all (·.oneCell') = true)
    (h : ∀ w', Hid (Blk w' H cells t) → Hid (w.grownBy w' none) → w'.heap.size = H + 1 → wpList P ops Q rest (a.put o.dst undef) w') : wpList P ops Q (o :: rest) a (w.alloc (.cells old t)) :=
  wpList_store_new hgd ty x y ho cells old t H hH hx hy hi hold h1 (h _ (by rw [← hH]; exact blk_new _ _) (World.grownBy_alloc _ _ none) (by rw [alloc_size, hH]))
theorem zst_st : zst.size = (stc H0 z64 0).size := by rw [zst_size, stc_size _ _ _ rfl]
/-- A sum's 32 bytes as a value's cells. -/
def shc (m : List Nat) : Array Value := (bvc (sha m)).toArray
theorem shc_size (m : List Nat) : (shc m).size = 32 := by simp [shc, bvc, sha_length]
theorem shc_one (m : List Nat) : (shc m).all (·.oneCell') = true := by
  rw [Array.all_eq_true_iff_forall_mem]
  intro x hx
  simp only [shc, bvc, List.mem_toArray, List.mem_map] at hx
  obtain ⟨y, _, rfl⟩ := hx
  rfl
theorem info_sh (m : List Nat) : (Tryd.prog.info? 27).map (·.size) = some (shc m).size := by rw [shc_size]; exact info_id
end Go.Proofs.YteccnnpialaalaaDoor
/- A result of a row and a number. -/
namespace Go.Proofs.YteccnnpialaalaaDoor
open Go.RowKit
set_option linter.unusedSimpArgs false
set_option linter.unusedVariables false
end Go.Proofs.YteccnnpialaalaaDoor
/- The walk of wire.digitValue and of the document's own digit. -/
set_option maxRecDepth 100000
namespace Go.Proofs.YteccnnpialaalaaDoor
open Go.RowKit
set_option linter.unusedSimpArgs false
set_option linter.unusedVariables false
/-- The table of digits, as a value. -/
abbrev DIG : Value := .agg #[.int .u8 48, .int .u8 49, .int .u8 50, .int .u8 51, .int .u8 52, .int .u8 53, .int .u8 54, .int .u8 55, .int .u8 56, .int .u8 57, .int .u8 97, .int .u8 98, .int .u8 99, .int .u8 100, .int .u8 101, .int .u8 102]
/-- The cells of the table of digits, in their block. -/
def TabIs (w : World) : Prop := ∀ v, v < 16 → w.cell? ⟨0, v, none⟩ = some (.int .u8 (dg v))
theorem TabIs.below {B : Nat} {w w' : World} (h : TabIs w) (hb : Below B w w') (hB : 0 < B) : TabIs w' := fun v hv => (hb.cell (p := ⟨0, v, none⟩) hB).trans (h v hv)
theorem idx16 (w : World) : ∀ (k : Nat) (_ : k < 16), (Instr.index 111 DIG (.int .i64 k)).run Tryd.prog w = .ok (.int .u8 (dg k)) w
  | 0, _ => by kernel_rfl
  | 1, _ => by kernel_rfl
  | 2, _ => by kernel_rfl
  | 3, _ => by kernel_rfl
  | 4, _ => by kernel_rfl
  | 5, _ => by kernel_rfl
  | 6, _ => by kernel_rfl
  | 7, _ => by kernel_rfl
  | 8, _ => by kernel_rfl
  | 9, _ => by kernel_rfl
  | 10, _ => by kernel_rfl
  | 11, _ => by kernel_rfl
  | 12, _ => by kernel_rfl
  | 13, _ => by kernel_rfl
  | 14, _ => by kernel_rfl
  | 15, _ => by kernel_rfl
  | k + 16, h => absurd h (by omega)
theorem dvl_found {c k : Nat} (hk : k < 16) (h : dg k = c) : dvl c = some k := by rw [← h]; exact dvl_dg k hk
theorem dvl_missed {c : Nat} (h : ∀ v, v < 16 → dg v ≠ c) : dvl c = none := by
  cases e : dvl c with
  | none => rfl
  | some v => obtain ⟨a, b⟩ := dvl_some e; exact absurd b (h v a)
theorem ret_dv {c : Nat} {a : Int} {b : Bool} (h : a = ((dvl c).getD 0 : Nat) ∧ b = (dvl c).isSome) : Ending.returned (.tuple #[.int .u8 a, .bool b]) = .returned (.tuple #[.int .u8 ((dvl c).getD 0 : Nat), .bool (dvl c).isSome]) := by rw [h.1, h.2]
set_option maxHeartbeats 400000 in
theorem digitValue_any (c : Nat) (w : World) (hc : c < 256) (hT : TabIs w) :
    Calls Tryd.prog 71 #[.int .u8 c] w fun e w' => e = .returned (.tuple #[.int .u8 ((dvl c).getD 0 : Nat), .bool (dvl c).isSome]) ∧ w' = w := by
  have t0 : w.cell? ⟨0, 0, none⟩ = some (.int .u8 48) := hT 0 (by omega)
  have t1 : w.cell? ⟨0, 1, none⟩ = some (.int .u8 49) := hT 1 (by omega)
  have t2 : w.cell? ⟨0, 2, none⟩ = some (.int .u8 50) := hT 2 (by omega)
  have t3 : w.cell? ⟨0, 3, none⟩ = some (.int .u8 51) := hT 3 (by omega)
  have t4 : w.cell? ⟨0, 4, none⟩ = some (.int .u8 52) := hT 4 (by omega)
  have t5 : w.cell? ⟨0, 5, none⟩ = some (.int .u8 53) := hT 5 (by omega)
  have t6 : w.cell? ⟨0, 6, none⟩ = some (.int .u8 54) := hT 6 (by omega)
  have t7 : w.cell? ⟨0, 7, none⟩ = some (.int .u8 55) := hT 7 (by omega)
  have t8 : w.cell? ⟨0, 8, none⟩ = some (.int .u8 56) := hT 8 (by omega)
  have t9 : w.cell? ⟨0, 9, none⟩ = some (.int .u8 57) := hT 9 (by omega)
  have t10 : w.cell? ⟨0, 10, none⟩ = some (.int .u8 97) := hT 10 (by omega)
  have t11 : w.cell? ⟨0, 11, none⟩ = some (.int .u8 98) := hT 11 (by omega)
  have t12 : w.cell? ⟨0, 12, none⟩ = some (.int .u8 99) := hT 12 (by omega)
  have t13 : w.cell? ⟨0, 13, none⟩ = some (.int .u8 100) := hT 13 (by omega)
  have t14 : w.cell? ⟨0, 14, none⟩ = some (.int .u8 101) := hT 14 (by omega)
  have t15 : w.cell? ⟨0, 15, none⟩ = some (.int .u8 102) := hT 15 (by omega)
  clear hT
  go_enter Tryd.func71, Tryd.ntmps71
  go_wp2
  clear t0 t1 t2 t3 t4 t5 t6 t7 t8 t9 t10 t11 t12 t13 t14 t15
  go_loop [7] (fun i => ∃ (k : Nat), k ≤ 16 ∧ i = .int .i64 k ∧ Hid (∀ v, v < k → dg v ≠ c)) (fun i => 16 - (intOf i).toNat)
  case atStart => exact ⟨0, by omega, rfl, fun v hv => by omega⟩
  case round =>
    obtain ⟨k, hk, rfl, HR⟩ := hrel
    by_cases hlt : k < 16
    · have hi := idx16 w k hlt
      by_cases he : dg k = c
      · have he' : ((dg k : Int) == (c : Int)) = true := by rw [beq_iff_eq]; omega
        have HE : Hid (dg k = c) := he
        clear he
        go_wp2
        go_ret2
        refine ⟨ret_dv ?_, rfl⟩
        rw [dvl_found hlt HE.out]
        exact ⟨by simp, rfl⟩
      · have he' : ((dg k : Int) == (c : Int)) = false := by rw [beq_eq_false_iff_ne]; omega
        have HE : Hid (¬ dg k = c) := he
        clear he
        go_wp2
        go_round
        case rel => exact ⟨k + 1, by omega, by go_num, fun v hv => by
          rcases Nat.lt_succ_iff_lt_or_eq.1 hv with h | h
          · exact HR.out v h
          · subst h; exact HE.out⟩
        case measure => simp [intOf]; omega
    · go_wp2
      go_ret2
      refine ⟨ret_dv ?_, rfl⟩
      rw [dvl_missed (fun v hv => HR.out v (by omega))]
      exact ⟨by simp, rfl⟩
set_option maxHeartbeats 400000 in
theorem digit_any (c : Nat) (w : World) (hc : c < 256) :
    Calls Tryd.prog 67 #[.int .u8 c] w fun e w' => e = .returned (.int .u8 ((dvl c).getD 16 : Nat)) ∧ w' = w := by
  by_cases h1 : 48 ≤ c
  · by_cases h2 : c ≤ 57
    · have e : (dvl c).getD 16 = c - 48 := by unfold dvl; rw [if_pos ⟨h1, h2⟩]; rfl
      rw [e]
      clear e
      go_enter Tryd.func67, Tryd.ntmps67
      go_wp2
      go_ret
      exact ⟨ret_int (by omega), rfl⟩
    · by_cases h3 : 97 ≤ c
      · by_cases h4 : c ≤ 102
        · have e : (dvl c).getD 16 = c - 87 := by unfold dvl; rw [if_neg (by omega), if_pos ⟨h3, h4⟩]; rfl
          rw [e]
          clear e
          go_enter Tryd.func67, Tryd.ntmps67
          go_wp2
          go_ret
          exact ⟨ret_int (by omega), rfl⟩
        · have e : (dvl c).getD 16 = 16 := by unfold dvl; rw [if_neg (by omega), if_neg (by omega)]; rfl
          rw [e]
          clear e
          go_enter Tryd.func67, Tryd.ntmps67
          go_wp2
          go_ret
          exact ⟨rfl, rfl⟩
      · have e : (dvl c).getD 16 = 16 := by unfold dvl; rw [if_neg (by omega), if_neg (by omega)]; rfl
        rw [e]
        clear e
        go_enter Tryd.func67, Tryd.ntmps67
        go_wp2
        go_ret
        exact ⟨rfl, rfl⟩
  · have e : (dvl c).getD 16 = 16 := by unfold dvl; rw [if_neg (by omega), if_neg (by omega)]; rfl
    rw [e]
    clear e
    go_enter Tryd.func67, Tryd.ntmps67
    go_wp2
    go_ret
    exact ⟨rfl, rfl⟩
end Go.Proofs.YteccnnpialaalaaDoor
