/- The document's own sum, cut into its loops; what lies in memory while a block's numbers are made. -/
import Derived.Test.YtbfdggkoildfkaaDoorD7
import Derived.Test.YtbfdggkoildfkaaDoorS1
import Derived.Test.YtbfdggkoildfkaaDoorS0
namespace Go.Proofs.YtbfdggkoildfkaaDoor
open Go.RowKit
set_option linter.unusedSimpArgs false
set_option linter.unusedVariables false
/-- The bodies of a text's loops, the outer ones first. -/
def loopsOf : Code → List Code
  | .loop c => c :: loopsOf c
  | .seq a b => loopsOf a ++ loopsOf b
  | .block _ c => loopsOf c
  | .scope c => loopsOf c
  | .cond _ a b => loopsOf a ++ loopsOf b
  | _ => []
noncomputable def sumLoop (k : Nat) : Code := ((Tryd.f31.body.map loopsOf).getD []).getD k .skip
/-- k of a block's numbers are laid. -/
structure Sq (w : World) (X : Nat) (m : List Nat) (k : Nat) (C : Array Value) (wr : World) : Prop where
  blk : Blk wr X C 58
  grown : w.grownBy wr (some X)
  csz : C.size = 64
  got : ∀ j, j < k → C[j]? = some (c32 ((sch m 64).getD j 0))
  all : ∀ j, j < 64 → ∃ x : BitVec 32, C[j]? = some (c32 x)
theorem Sq.drew {w : World} {X : Nat} {m : List Nat} {k : Nat} {C : Array Value} {wr : World} (h : Sq w X m k C wr) : Sq w X m k C wr.drew :=
  ⟨h.blk, Lib.Hx.grownBy_drew h.grown, h.csz, h.got, h.all⟩
theorem Sq.drewN {w : World} {X : Nat} {m : List Nat} {k : Nat} {C : Array Value} {wr : World} (h : Sq w X m k C wr) (n : Nat) : Sq w X m k C (wr.drewN n) := by
  induction n with
  | zero => exact h
  | succ n ih => exact ih.drew
theorem Sq.put {w : World} {X : Nat} {m : List Nat} {k : Nat} {C : Array Value} {wr : World} (h : Sq w X m k C wr) (hk : k < 64) (x : BitVec 32) (hx : (sch m 64).getD k 0 = x) :
    Sq w X m (k + 1) (C.setIfInBounds k (c32 x)) (wr.setCell ⟨X, k, none⟩ (c32 x)) where
  blk := h.blk.set k _
  grown := Lib.grownBy_setB h.grown k _
  csz := by rw [Array.size_setIfInBounds]; exact h.csz
  got := fun j hj => by
    rw [Array.getElem?_setIfInBounds]
    split
    · rename_i e; subst e; rw [if_pos (by rw [h.csz]; exact hk), hx]
    · exact h.got j (by omega)
  all := fun j hj => by
    rw [Array.getElem?_setIfInBounds]
    split
    · exact ⟨x, by rw [if_pos (by rw [h.csz]; omega)]⟩
    · exact h.all j hj
theorem Sq.word {w : World} {X : Nat} {m : List Nat} {k : Nat} {C : Array Value} {wr : World} (h : Sq w X m k C wr) (j : Nat) (hj : j < k) :
    ∃ y : BitVec 32, wr.cell? ⟨X, j, none⟩ = some (c32 y) ∧ Hid (y = (sch m 64).getD j 0) := ⟨_, by rw [h.blk.cell, h.got j hj], rfl⟩
theorem Sq.whole {w : World} {X : Nat} {m : List Nat} {C : Array Value} {wr : World} (h : Sq w X m 64 C wr) : C = w64c m := by
  unfold w64c
  apply Array.ext_getElem?
  intro i
  by_cases hi : i < 64
  · rw [h.got i hi]
    simp only [List.getElem?_toArray, List.getElem?_map, List.getD]
    rw [List.getElem?_eq_getElem (by rw [sch_length]; exact hi)]
    rfl
  · rw [Array.getElem?_eq_none (by rw [h.csz]; omega), Array.getElem?_eq_none (by simp [sch_length]; omega)]
theorem Sq.start (w : World) (X : Nat) (m : List Nat) (Z : Array Value) (hZ : Z = Array.replicate 64 (c32 0)) (h : Blk w X Z 58) : Sq w X m 0 Z w :=
  ⟨h, World.grownBy.refl _ _, by rw [hZ]; simp, fun j hj => by omega, fun j hj => ⟨0, by rw [hZ]; simp [hj]⟩⟩
theorem drewN_more {w w' : World} {n : Nat} (h : ∃ m, w' = (w.drewN n).drewN m) : ∃ k, w' = w.drewN k := by
  obtain ⟨m, rfl⟩ := h
  refine ⟨n + m, ?_⟩
  simp [World.drewN, Nat.add_assoc]
theorem turn_int (x : BitVec 32) (k : Int) (w : World) (h0 : 1 ≤ k) (h1 : k ≤ 31) :
    Calls Tryd.prog 42 #[.int .u32 x.toNat, .int .i64 k] w fun e w' => e = .returned (.int .u32 (rr k.toNat x).toNat) ∧ ∃ nq, w' = w.drewN nq := by
  have h := turn_any x k.toNat w (by omega) (by omega)
  rwa [show ((k.toNat : Nat) : Int) = k from by omega] at h
/-- k of the numbers are added. -/
structure Aq (w : World) (HB : Nat) (h v : V8) (k : Nat) (g : V8) (wr : World) : Prop where
  st : Blk wr HB (v8c g) 49
  grown : w.grownBy wr (some HB)
  done : ∀ j, j < 8 → g.list.getD j 0 = if j < k then h.list.getD j 0 + v.list.getD j 0 else h.list.getD j 0
theorem Aq.drewN {w : World} {HB : Nat} {h v : V8} {k : Nat} {g : V8} {wr : World} (H : Aq w HB h v k g wr) (n : Nat) : Aq w HB h v k g (wr.drewN n) := ⟨H.st, H.grown.trans (grown_drewN wr n _), H.done⟩
theorem v8c_setk (g : V8) (k : Nat) (x : BitVec 32) (hk : k < 8) : (v8c g).setIfInBounds k (c32 x) = v8c (g.setk k x) := by
  apply Array.ext_getElem?
  intro i
  rw [Array.getElem?_setIfInBounds, v8c_size]
  by_cases hi : i < 8
  · rw [v8c_get _ _ hi, v8c_get _ _ hi, setk_get _ _ _ _ hi]
    split
    · rfl
    · rfl
  · rw [if_neg (by omega), Array.getElem?_eq_none (by rw [v8c_size]; omega), Array.getElem?_eq_none (by rw [v8c_size]; omega)]
theorem Aq.put {w : World} {HB : Nat} {h v : V8} {k : Nat} {g : V8} {wr : World} (H : Aq w HB h v k g wr) (hk : k < 8) :
    Aq w HB h v (k + 1) (g.setk k (g.list.getD k 0 + v.list.getD k 0)) (wr.setCell ⟨HB, k, none⟩ (c32 (g.list.getD k 0 + v.list.getD k 0))) where
  st := by rw [← v8c_setk _ _ _ hk]; exact H.st.set k _
  grown := Lib.grownBy_setB H.grown k _
  done := fun j hj => by
    rw [setk_get _ _ _ _ hj]
    split
    · rename_i e; subst e; rw [if_pos (by omega), H.done k hk, if_neg (by omega)]
    · rw [H.done j hj]
      by_cases e : j < k
      · rw [if_pos e, if_pos (by omega)]
      · rw [if_neg e, if_neg (by omega)]
theorem t1_raw (v : V8) (k x : BitVec 32) : ((((v.h.toNat : Int) + bits .xor .u32 (bits .xor .u32 ((rr 6 v.e).toNat : Int) ((rr 11 v.e).toNat : Int)) ((rr 25 v.e).toNat : Int) + bits .xor .u32 (bits .and .u32 (v.e.toNat : Int) (v.f.toNat : Int)) (bits .and .u32 (bits .xor .u32 IntKind.u32.max (v.e.toNat : Int)) (v.g.toNat : Int)) + (k.toNat : Int)) % 4294967296 + (x.toNat : Int)) % 4294967296) = ((v.t1 k x).toNat : Int) := by
  rw [ch_raw, xor32, xor32]
  simp only [V8.t1, bsE, BitVec.toNat_add]
  omega
theorem t2_raw (v : V8) : (bits .xor .u32 (bits .xor .u32 ((rr 2 v.a).toNat : Int) ((rr 13 v.a).toNat : Int)) ((rr 22 v.a).toNat : Int) + bits .xor .u32 (bits .xor .u32 (bits .and .u32 (v.a.toNat : Int) (v.b.toNat : Int)) (bits .and .u32 (v.a.toNat : Int) (v.c.toNat : Int))) (bits .and .u32 (v.b.toNat : Int) (v.c.toNat : Int))) % 4294967296 = (v.t2.toNat : Int) := by
  rw [mj_raw, xor32, xor32]
  simp only [V8.t2, bsA, BitVec.toNat_add]
  omega
theorem grown_setRow (w : World) (g : Nat) (C : Array Value) : w.grownBy (w.setRow g C) (some g) :=
  ⟨rfl, rfl, rfl, by simp, fun k _ hk => setRow_other w g k _ (fun e => hk (by rw [e]))⟩
theorem info_8v : (Tryd.prog.info? 49).map (·.size) = some 8 := by kernel_rfl
end Go.Proofs.YtbfdggkoildfkaaDoor
