/- What a list is while it grows. -/
import Derived.Test.YtblmblbkfdcbjaaF7
import Derived.Test.YtblmblbkfdcbjaaM3
import Derived.ArgAppend
namespace Go.Proofs.Ytblmblbkfdcbjaa
open Go.RowKit
set_option linter.unusedSimpArgs false
set_option linter.unusedVariables false
/-- Texts that lie elsewhere stay. -/
theorem TxL.grown {w w' : World} {a : Option Addr} {xs : List ByteArray} {r : Option Nat} (h : TxL w a xs) (hg : w.grownBy w' r) (hr : ∀ b o s, a = some ⟨b, o, s⟩ → r ≠ some b) : TxL w' a xs := by
  intro i x hx
  obtain ⟨g, o, e, hlt, hc⟩ := h i x hx
  refine ⟨g, o, e, Nat.lt_of_lt_of_le hlt hg.size, ?_⟩
  rw [← hc]
  unfold World.cell?
  simp only
  rw [hg.block g hlt (fun q => hr g o none e q.symm)]
theorem gr_new {w wr w1 : World} {r r' : Option Nat} (h : w.grownBy wr r) (h1 : wr.grownBy w1 r') (hr : ∀ g, r' = some g → r = some g ∨ w.heap.size ≤ g) : w.grownBy w1 r := by
  refine ⟨by rw [h1.os, h.os], by rw [h1.tape, h.tape], by rw [h1.output, h.output], Nat.le_trans h.size h1.size, fun k hk hkr => ?_⟩
  rw [h1.block k (Nat.lt_of_lt_of_le hk h.size) (fun e => ?_), h.block k hk hkr]
  rcases hr k e.symm with h2 | h2
  · exact hkr h2.symm
  · omega
theorem own_block {w : World} {B n : Nat} {v : Value} {xs : List Value} {e : TypeId} (h : w.ownsRow B e 1 v n xs) : ∀ g, v.ownBlock = some g → B ≤ g := by
  intro g hg
  rcases h.2 with ⟨rfl, _⟩ | ⟨g2, cap, cur, rfl, hle, _⟩
  · cases hg
  · simp [Value.ownBlock] at hg; omega
theorem own_slice {w : World} {B n : Nat} {v : Value} {xs : List Value} {e : TypeId} (h : w.ownsRow B e 1 v n xs) : ∃ a c, v = .slice a n c := by
  rcases h.2 with ⟨rfl, h0⟩ | ⟨g2, cap, cur, rfl, hle, _⟩
  · exact ⟨none, 0, by rw [h0]⟩
  · exact ⟨_, _, rfl⟩
/-- A list under growth: as it was told, or a new one. -/
def Grw (w : World) (ao : Option Addr) (n k : Nat) (v : Value) (wr : World) : Prop :=
  (k = 0 ∧ v = .slice ao n n ∧ ∃ ys : List ByteArray, ys.length = n ∧ TxL wr ao ys) ∨ (1 ≤ k ∧ ∃ xs, wr.ownsRow w.heap.size 9 1 v (n + k) xs)
end Go.Proofs.Ytblmblbkfdcbjaa
