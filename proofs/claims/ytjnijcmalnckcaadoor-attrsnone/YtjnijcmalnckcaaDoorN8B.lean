/- strings.Builder. -/
import Derived.Test.YtjnijcmalnckcaaDoorN1
import Derived.Test.YtjnijcmalnckcaaDoorH1B
import Derived.Test.YtjnijcmalnckcaaDoorN8S
namespace Go.Proofs.YtjnijcmalnckcaaDoor
open Go.RowKit
set_option linter.unusedSimpArgs false
set_option linter.unusedVariables false
theorem writeB (B b : Nat) (l : List UInt8) (c : UInt8) (w : World) (h : Bld B b l w) (hlen : l.length + 1 ≤ 140737488355328) (hBw : B ≤ w.heap.size) :
    Calls Tryd.prog 27 #[.pointer (some ⟨b, 0, none⟩), .int .u8 (c.toNat : Int)] w fun e w' => e = .returned .nilIface ∧ Bld B b (l ++ [c]) w' ∧ Below B w w' ∧ Oth b w w' :=
  (Any.Builder_WriteByte_k lays167 extra167 B b (Lib.byteCells l) (c.toNat : Int) w h (by rw [Lib.byteCells_length]; exact hlen) hBw).mono fun e w' ⟨he, h1, h2, h3⟩ =>
    ⟨he, by rw [Bld, Lib.byteCells_append]; exact Or.inr h1, h2, h3⟩
end Go.Proofs.YtjnijcmalnckcaaDoor
