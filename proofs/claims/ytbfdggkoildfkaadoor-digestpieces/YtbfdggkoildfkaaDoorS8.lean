/- The document's own sum: how it begins: the message filled up. -/
import Derived.Test.YtbfdggkoildfkaaDoorS5
import Derived.Test.YtbfdggkoildfkaaDoorS6
import Derived.Test.YtbfdggkoildfkaaDoorS7
import Derived.Test.YtbfdggkoildfkaaDoorR4F
import Derived.Test.YtbfdggkoildfkaaDoorD8
namespace Go.Proofs.YtbfdggkoildfkaaDoor
open Go.RowKit
set_option linter.unusedSimpArgs false
set_option linter.unusedVariables false
/-- The rounds' constants as cells. -/
def kcs : Array Value := (KL.map c32).toArray
theorem kcs_get (t : Nat) (ht : t < 64) : kcs[t]? = some (c32 (KT t)) := by
  have hl : KL.length = 64 := rfl
  unfold kcs KT
  rw [List.getElem?_toArray, List.getElem?_map, List.getD, List.getElem?_eq_getElem (by omega)]
  rfl
/-- The world behind the parameters' boxes and the result's. -/
abbrev sumW (w : World) : World := ((w.alloc (.cells (v8c H0) 49)).alloc (.cells kcs 58)).alloc (.cells z32c 23)
/-- What stands while blocks are taken: the eight numbers, the constants, the result's box. -/
structure Su (w : World) (n0 : Nat) (h : V8) (wr : World) : Prop where
  st : Blk wr n0 (v8c h) 49
  k : Blk wr (n0 + 1) kcs 58
  res : Blk wr (n0 + 2) z32c 23
  below : Below n0 w wr
theorem Su.start (w : World) : Su w w.heap.size H0 (sumW w) := by
  have z1 := alloc_size w (.cells (v8c H0) 49)
  have z2 := alloc_size (w.alloc (.cells (v8c H0) 49)) (.cells kcs 58)
  have g2 := World.grownBy_alloc (w.alloc (.cells (v8c H0) 49)) (.cells kcs 58) none
  have g3 := World.grownBy_alloc ((w.alloc (.cells (v8c H0) 49)).alloc (.cells kcs 58)) (.cells z32c 23) none
  refine ⟨Blk.grown (Blk.grown (blk_new _ _) g2 (by simp)) g3 (by simp), ?_, ?_, (((Below.refl _ _).alloc (Nat.le_refl _) _).alloc (by omega) _).alloc (by omega) _⟩
  · have e := blk_new (w.alloc (.cells (v8c H0) 49)) (.cells kcs 58)
    rw [z1] at e
    exact Blk.grown e g3 (by simp)
  · have e := blk_new ((w.alloc (.cells (v8c H0) 49)).alloc (.cells kcs 58)) (.cells z32c 23)
    rw [z2, z1] at e
    exact e
theorem sumW_size (w : World) : (sumW w).heap.size = w.heap.size + 3 := by rw [alloc_size, alloc_size, alloc_size]
theorem Su.more {w : World} {n0 : Nat} {h : V8} {wr wr' : World} (H : Su w n0 h wr) (hb : Below (n0 + 3) wr wr') : Su w n0 h wr' := by
  refine ⟨?_, ?_, ?_, H.below.trans (hb.mono (by omega))⟩
  · unfold Blk; rw [hb.block n0 (by omega)]; exact H.st
  · unfold Blk; rw [hb.block (n0 + 1) (by omega)]; exact H.k
  · unfold Blk; rw [hb.block (n0 + 2) (by omega)]; exact H.res
theorem cells_byl (s : ByteArray) : Lib.strCells s = bvc (byl s) := by
  simp [Lib.strCells, bvc, byl]
theorem bvc_append (a b : List Nat) : bvc (a ++ b) = bvc a ++ bvc b := by simp [bvc]
theorem bvc_length (a : List Nat) : (bvc a).length = a.length := by simp [bvc]
theorem byl_app (a b : ByteArray) : byl (a ++ b) = byl a ++ byl b := by simp [byl]
theorem free_below {B : Nat} {w wr w' : World} {v : Value} (hb : Below B w wr) (hz : B ≤ wr.heap.size) (hg : wr.grownBy w' v.ownBlock) (hv : ∀ k, v.ownBlock = some k → B ≤ k) : Below B w w' :=
  hb.grown hg hz (fun k hk => hv k hk)
/-- The message, filled up to k noughts. -/
def padTo (m : List Nat) (k : Nat) : List Nat := m ++ [128] ++ List.replicate k 0
theorem padTo_succ (m : List Nat) (k : Nat) : padTo m (k + 1) = padTo m k ++ [0] := by
  simp [padTo, List.replicate_succ']
theorem padTo_length (m : List Nat) (k : Nat) : (padTo m k).length = m.length + 1 + k := by simp [padTo]; omega
def slLen : Value → Nat
  | .slice _ n _ => n
  | _ => 0
theorem fix_cells (n : Nat) (h : n < 18446744073709551616) : Lib.strCells ((⟨#[]⟩ : ByteArray) ++ sb (fixN 8 n)) = bvc (fixN 8 n) := by
  rw [show ((⟨#[]⟩ : ByteArray) ++ sb (fixN 8 n)) = sb (fixN 8 n) from ByteArray.empty_append, cells_byl, byl_sb _ (fixN_lt 8 n)]
theorem fix_size (n : Nat) : ((⟨#[]⟩ : ByteArray) ++ sb (fixN 8 n)).size = 8 := by
  rw [show ((⟨#[]⟩ : ByteArray) ++ sb (fixN 8 n)) = sb (fixN 8 n) from ByteArray.empty_append, sb_size, fixN_length]
/-- What stands while blocks are taken: i of them are. -/
structure Sv (w : World) (n0 g : Nat) (pm : List Nat) (i : Nat) (wr : World) : Prop where
  su : Su w n0 (hs pm i) wr
  m : ∀ j, j < pm.length → wr.cell? ⟨g, j, none⟩ = some (.int .u8 (pm.getD j 0 : Nat))
  ge : n0 + 3 ≤ g
  lt : g < wr.heap.size
theorem bvc_getD (m : List Nat) (j : Nat) (h : j < m.length) : (bvc m)[j]? = some (.int .u8 (m.getD j 0 : Nat)) := by
  rw [bvc, List.getElem?_map, List.getD, List.getElem?_eq_getElem h]; rfl
theorem blk_getD (pm : List Nat) (i j : Nat) (hj : j < 64) : (blk pm i).getD j 0 = pm.getD (64 * i + j) 0 := by
  simp only [blk, List.getD]
  rw [List.getElem?_take_of_lt hj, List.getElem?_drop]
theorem Sv.next {w wr w8 w9 : World} {n0 g i : Nat} {pm : List Nat} (H : Sv w n0 g pm i wr) (h8 : Below wr.heap.size wr w8) (h9 : w8.grownBy w9 (some n0)) (hst : Blk w9 n0 (v8c (hs pm (i + 1))) 49) : Sv w n0 g pm (i + 1) w9 := by
  have hlt := H.lt
  have hge := H.ge
  have hz8 := h8.size
  have hz9 := h9.size
  have blk : ∀ b, b < wr.heap.size → b ≠ n0 → w9.heap[b]? = wr.heap[b]? := fun b hb hn => by
    rw [h9.block b (by omega) (by simpa using hn), h8.block b hb]
  refine ⟨⟨hst, ?_, ?_, ?_⟩, fun j hj => ?_, hge, by omega⟩
  · unfold Blk; rw [blk (n0 + 1) (by omega) (by omega)]; exact H.su.k
  · unfold Blk; rw [blk (n0 + 2) (by omega) (by omega)]; exact H.su.res
  · exact (H.su.below.trans (h8.mono (by omega))).grown h9 (by omega) (fun k hk => by cases hk; exact Nat.le_refl _)
  · have e : w9.cell? ⟨g, j, none⟩ = wr.cell? ⟨g, j, none⟩ := by
      simp only [World.cell?, blk g hlt (by omega)]
    rw [e]; exact H.m j hj
theorem below_blk {w w' : World} {B b : Nat} {C : Array Value} {T : TypeId} (hb : Below B w w') (h : Blk w b C T) (hlt : b < B) : Blk w' b C T := by
  unfold Blk; rw [hb.block b hlt]; exact h
theorem z32c_rep : z32c = Array.replicate 32 (Value.int .u8 0) := rfl
end Go.Proofs.YtbfdggkoildfkaaDoor
