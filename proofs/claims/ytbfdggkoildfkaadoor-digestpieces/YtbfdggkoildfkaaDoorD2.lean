/- One round of the program: the closure in digest.State.mix. -/
import Derived.Test.YtbfdggkoildfkaaDoorD1
import Derived.Test.YtbfdggkoildfkaaDoorE0
import Derived.Deep.MidRow
import Derived.Lib.SmallJoins
import Derived.Lib.BufferOwn
import Derived.Lib.HexFns2
namespace Go.Proofs.YtbfdggkoildfkaaDoor
open Go.RowKit
set_option linter.unusedSimpArgs false
set_option linter.unusedVariables false
def v8c (v : V8) : Array Value := #[c32 v.a, c32 v.b, c32 v.c, c32 v.d, c32 v.e, c32 v.f, c32 v.g, c32 v.h]
theorem v8_set (v : V8) (x0 x1 x2 x3 x4 x5 x6 x7 : Value) :
    ((((((((v8c v).setIfInBounds 0 x0).setIfInBounds 1 x1).setIfInBounds 2 x2).setIfInBounds 3 x3).setIfInBounds 4 x4).setIfInBounds 5 x5).setIfInBounds 6 x6).setIfInBounds 7 x7 = #[x0, x1, x2, x3, x4, x5, x6, x7] := by simp [v8c]
theorem set8 {w : World} {V : Nat} {v : V8} {T : TypeId} (h : Blk w V (v8c v) T) (n : Nat) (x0 x1 x2 x3 x4 x5 x6 x7 : Value) :
    Blk (((((((((w.drewN n).setCell ⟨V, 0, none⟩ x0).setCell ⟨V, 1, none⟩ x1).setCell ⟨V, 2, none⟩ x2).setCell ⟨V, 3, none⟩ x3).setCell ⟨V, 4, none⟩ x4).setCell ⟨V, 5, none⟩ x5).setCell ⟨V, 6, none⟩ x6).setCell ⟨V, 7, none⟩ x7) V #[x0, x1, x2, x3, x4, x5, x6, x7] T := by
  rw [← v8_set v x0 x1 x2 x3 x4 x5 x6 x7]
  exact ((((((((h.drewN n).set 0 x0).set 1 x1).set 2 x2).set 3 x3).set 4 x4).set 5 x5).set 6 x6).set 7 x7
theorem grown8 {w : World} {V : Nat} (n : Nat) (x0 x1 x2 x3 x4 x5 x6 x7 : Value) :
    w.grownBy (((((((((w.drewN n).setCell ⟨V, 0, none⟩ x0).setCell ⟨V, 1, none⟩ x1).setCell ⟨V, 2, none⟩ x2).setCell ⟨V, 3, none⟩ x3).setCell ⟨V, 4, none⟩ x4).setCell ⟨V, 5, none⟩ x5).setCell ⟨V, 6, none⟩ x6).setCell ⟨V, 7, none⟩ x7) (some V) :=
  Lib.grownBy_setB (Lib.grownBy_setB (Lib.grownBy_setB (Lib.grownBy_setB (Lib.grownBy_setB (Lib.grownBy_setB (Lib.grownBy_setB (Lib.grownBy_setB (grown_drewN w n _) 0 x0) 1 x1) 2 x2) 3 x3) 4 x4) 5 x5) 6 x6) 7 x7
theorem ch_raw (e f g : BitVec 32) : bits .xor .u32 (bits .and .u32 (e.toNat : Int) (f.toNat : Int)) (bits .and .u32 (bits .xor .u32 IntKind.u32.max (e.toNat : Int)) (g.toNat : Int)) = ((chE e f g).toNat : Int) := by
  rw [max32, not32, and32, and32, xor32, chE]
theorem mj_raw (a b c : BitVec 32) : bits .xor .u32 (bits .xor .u32 (bits .and .u32 (a.toNat : Int) (b.toNat : Int)) (bits .and .u32 (a.toNat : Int) (c.toNat : Int))) (bits .and .u32 (b.toNat : Int) (c.toNat : Int)) = ((mjA a b c).toNat : Int) := by
  rw [and32, and32, and32, xor32, xor32, mjA]
theorem new_a (v : V8) (k x : BitVec 32) : (((v.h.toNat : Int) + ((bsE v.e).toNat : Int) + ((chE v.e v.f v.g).toNat : Int) + (k.toNat : Int) + (x.toNat : Int) + (((bsA v.a).toNat : Int) + ((mjA v.a v.b v.c).toNat : Int))) % 4294967296) = ((v.t1 k x + v.t2).toNat : Int) := by
  simp only [V8.t1, V8.t2, BitVec.toNat_add]
  omega
theorem new_e (v : V8) (k x : BitVec 32) : (((v.d.toNat : Int) + ((v.h.toNat : Int) + ((bsE v.e).toNat : Int) + ((chE v.e v.f v.g).toNat : Int) + (k.toNat : Int) + (x.toNat : Int))) % 4294967296) = ((v.d + v.t1 k x).toNat : Int) := by
  simp only [V8.t1, BitVec.toNat_add]
  omega
set_option maxHeartbeats 1000000 in
set_option maxRecDepth 100000 in
theorem round_any (v : V8) (k x : BitVec 32) (t V X : Nat) (T : TypeId) (w : World) (ht : t < 64) (hV : Blk w V (v8c v) T)
    (hX : w.cell? ⟨X, t, none⟩ = some (c32 x)) (hK : w.cell? ⟨2, t, none⟩ = some (c32 k)) :
    Calls Tryd.prog 48 #[.int .i64 t, .pointer (some ⟨V, 0, none⟩), .pointer (some ⟨X, 0, none⟩)] w fun e w' =>
      e = .returned (.tuple #[]) ∧ Blk w' V (v8c (v.rnd k x)) T ∧ w.grownBy w' (some V) := by
  have a0 := hV.cell 0
  have a1 := hV.cell 1
  have a2 := hV.cell 2
  have a3 := hV.cell 3
  have a4 := hV.cell 4
  have a5 := hV.cell 5
  have a6 := hV.cell 6
  have a7 := hV.cell 7
  simp [v8c] at a0 a1 a2 a3 a4 a5 a6 a7
  have HV : Hid (Blk w V (v8c v) T) := hV
  have hf := fun j => hV.frozen j
  clear hV
  go_enter Tryd.func48, Tryd.ntmps48
  go_wp2
  go_quiet (fail)
  go_wp2
  go_quiet ((go_at_call 49; exact (turnedE _ _).mono (fun _ _ h => ⟨h.1, _, h.2⟩)))
  go_wp2_with (go_at_call 49; refine (turnedA _ _).mono ?_; rintro e w' ⟨rfl, rfl⟩)
  go_end0
  refine ⟨rfl, ?_, grown8 _ _ _ _ _ _ _ _ _⟩
  rw [ch_raw, mj_raw, new_a, new_e]
  exact set8 HV.out _ _ _ _ _ _ _ _ _
end Go.Proofs.YtbfdggkoildfkaaDoor
