/- The walk of what split.Cut hands its cutter. -/
import Derived.Test.YthfggejdeodinaaU3
import Derived.Laws.AppendOwn
namespace Go.Proofs.Ythfggejdeodinaa
open Go.RowKit
set_option linter.unusedSimpArgs false
set_option linter.unusedVariables false
/-- Blocks of other types than these are as they were. -/
def Kp (ts : List TypeId) (w w' : World) : Prop := ∀ b C T, T ∉ ts → Bk w b C T → Bk w' b C T
theorem Kp.refl (ts : List TypeId) (w : World) : Kp ts w w := fun _ _ _ _ h => h
theorem Kp.trans {ts : List TypeId} {a b c : World} (h1 : Kp ts a b) (h2 : Kp ts b c) : Kp ts a c := fun g C T ht h => h2 g C T ht (h1 g C T ht h)
theorem Kp.mono {ts us : List TypeId} {a b : World} (h : Kp ts a b) (hs : ∀ t ∈ ts, t ∈ us) : Kp us a b := fun g C T ht hb => h g C T (fun hm => ht (hs T hm)) hb
theorem kp_alloc (ts : List TypeId) (w : World) (o : Obj) : Kp ts w (w.alloc o) := fun b C T _ h => h.alloc o
theorem kp_drew (ts : List TypeId) (w : World) : Kp ts w w.drew := fun b C T _ h => h
theorem kp_below (ts : List TypeId) {w w' : World} (h : Below w.heap.size w w') : Kp ts w w' := fun b C T _ hb => hb.below h hb.lt
theorem kp_grown {ts : List TypeId} {w w' : World} {r : Nat} {C : Array Value} {T : TypeId} (hb : Bk w r C T) (hT : T ∈ ts) (hg : w.grownBy w' (some r)) : Kp ts w w' := fun b D U hU h => h.grown hg (by
  intro e
  cases e
  exact hU ((bk_apart_ty h hb) ▸ hT))
theorem kp_none {ts : List TypeId} {w w' : World} (hg : w.grownBy w' none) : Kp ts w w' := fun b D U hU h => h.grown hg (by simp)
theorem kp_set {ts : List TypeId} {w : World} {r : Nat} {C : Array Value} {T : TypeId} (hb : Bk w r C T) (hT : T ∈ ts) (j : Nat) (v : Value) : Kp ts w (w.setCell ⟨r, j, none⟩ v) := kp_grown hb hT (Lib.grownBy_setB (World.grownBy.refl _ _) j v)
theorem kp_own {ts : List TypeId} {w w' : World} {B n k : Nat} {e : TypeId} {v : Value} {xs : List Value} (ho : w.ownsRow B e k v n xs) (he : e ∈ ts) (hg : w.grownBy w' v.ownBlock) : Kp ts w w' := by
  rcases ho.2 with ⟨rfl, _⟩ | ⟨g, cap, cur, rfl, _, hc, _⟩
  · exact kp_none hg
  · exact kp_grown (show Bk w g cur e from hc) he hg
/-- A row of the call's own stays where its type is not among those. -/
theorem own_kp {ts : List TypeId} {w w' : World} {B n k : Nat} {e : TypeId} {v : Value} {xs : List Value} (ho : w.ownsRow B e k v n xs) (he : e ∉ ts) (h : Kp ts w w') : w'.ownsRow B e k v n xs := by
  refine ⟨ho.1, ?_⟩
  rcases ho.2 with h1 | ⟨g, cap, cur, h1, h2, hc, h3⟩
  · exact .inl h1
  · exact .inr ⟨g, cap, cur, h1, h2, h g cur e he hc, h3⟩
theorem own_bel {B n k : Nat} {w0 w w' : World} {v : Value} {xs : List Value} {e : TypeId} (hb : Below B w0 w) (hz : B ≤ w.heap.size) (ho : w.ownsRow B e k v n xs) (hg : w.grownBy w' v.ownBlock) : Below B w0 w' := by
  refine hb.grown hg hz (fun b hk => ?_)
  rcases ho.2 with ⟨rfl, _⟩ | ⟨g, cap, cur, rfl, hle, _⟩
  · cases hk
  · simp [Value.ownBlock] at hk; omega
/-- Chunks as cells. -/
def ckv (l : List (Nat × Nat)) : List Value := l.flatMap fun x => [Value.int .i64 (x.1 : Int), Value.int .i64 (x.2 : Int)]
theorem ckv_app (a b : List (Nat × Nat)) : ckv (a ++ b) = ckv a ++ ckv b := by simp [ckv]
theorem ckv_len (a : List (Nat × Nat)) : (ckv a).length = a.length * 2 := by
  induction a with
  | nil => rfl
  | cons x r ih =>
    have : ckv (x :: r) = [Value.int .i64 (x.1 : Int), Value.int .i64 (x.2 : Int)] ++ ckv r := rfl
    rw [this, List.length_append, ih]; simp; omega
theorem news_twoU (w : World) (p q : Value) (T : TypeId) : ∀ (j : Nat) (u : Value), [p, q][j]? = some u → (w.alloc (.cells #[p, q] T)).cell? ((⟨w.heap.size, 0, none⟩ : Addr).add j) = some u := by
  intro j u h
  rw [WideShapes.add_plain, Nat.zero_add, World.cell?_alloc_new]
  simpa using h
theorem one_twoU (a b : Int) : ∀ u ∈ [Value.int .i64 a, Value.int .i64 b], u.oneCell' = true := by
  intro u hu
  simp at hu
  rcases hu with rfl | rfl <;> rfl
theorem pcs_le {α β : Type} (ct : List α → Option β) : ∀ (a h : List α), (pcs ct h a).length ≤ a.length
  | [], h => by simp [pcs]
  | x :: r, h => by
    rw [pcs]
    cases ct (h ++ [x]) with
    | some v => have := pcs_le ct r []; simp only [List.length_cons]; omega
    | none => have := pcs_le ct r (h ++ [x]); simp only [List.length_cons]; omega
theorem lft_le {α β : Type} (ct : List α → Option β) : ∀ (a h : List α), (lft ct h a).length ≤ h.length + a.length
  | [], h => by simp [lft]
  | x :: r, h => by
    rw [lft]
    cases ct (h ++ [x]) with
    | some v => have := lft_le ct r []; simp only [List.length_cons, List.length_nil] at *; omega
    | none => have := lft_le ct r (h ++ [x]); simp only [List.length_cons, List.length_append, List.length_nil] at *; omega
/-- The sizes and levels of pieces. -/
def szs {α : Type} (l : List (List α × Nat)) : List (Nat × Nat) := l.map fun x => (x.1.length, x.2)
end Go.Proofs.Ythfggejdeodinaa
