/- fresh, at lists that were made. -/
import Derived.Test.YtblmblbkfdcbjaaF16
import Derived.Test.YtblmblbkfdcbjaaM4
namespace Go.Proofs.Ytblmblbkfdcbjaa
open Go.RowKit
set_option linter.unusedSimpArgs false
set_option linter.unusedVariables false
theorem fresh_of {w0 w1 w2 w : World} {ao a2 a3 : Option Addr} {c2 c3 : Nat} {xs : List ByteArray} {n : Nat} (hl : xs.length = n) (hn : n ≤ 64) (h3 : Ans w0 a3 xs w) (h1 : Mad w1 ao xs w) (h2 : Mad w2 a2 xs w)
    (s3 : ∀ b o s, a3 = some ⟨b, o, s⟩ → b < w1.heap.size) (s1 : ∀ b o s, ao = some ⟨b, o, s⟩ → b < w2.heap.size) :
    Calls Try.prog 13 #[.slice ao n n, .slice a2 n c2, .slice a3 n c3] w fun e w' => e = .returned (.bool true) ∧ w.grownBy w' (ao.map (·.block)) := by
  refine fresh_any w ao a2 a3 c2 c3 n xs hl hn ?_ h2.txl h3.1 (fun b o s e e2 => ?_) (fun b o s e e2 => ?_)
  · rcases h1 with ⟨e, h0⟩ | ⟨g, e, _, hB⟩
    · exact .inl ⟨e, by omega⟩
    · exact .inr ⟨g, e, hB⟩
  · cases ao with
    | none => cases e2
    | some q =>
      obtain ⟨bb, oo, ss⟩ := q
      simp at e2
      have := s1 bb oo ss rfl
      have := (h2.lo b o s e).1
      omega
  · cases ao with
    | none => cases e2
    | some q =>
      obtain ⟨bb, oo, ss⟩ := q
      simp at e2
      have := s3 b o s e
      have := (h1.lo bb oo ss rfl).1
      omega
end Go.Proofs.Ytblmblbkfdcbjaa
