/-
  No cell of these rows narrows 'for every input' (looked for: loops, veiled, ifaces, maps, wideKeys, modest, calm, conditions, laid).
  DERIVED. THE GIVEN ROWS OF THIS SEAT. 4 by the template 'for every input the law returns true; each argument reads behind the call as it read before'; 0 by the template 'total and deterministic' (their statements: YtbfoiocbmhhdbaaGreatTotals.lean).
  GIVEN WITH THE SEED: the statements are not yours to turn. If you find one false, say at which input.
  Laid BY PROGRAM, IN A SANDBOX (cutbox-rows.mjs): the forced cells as the released guide's own fill.sh prints them over the translation e1b11c4ef5d45821… (all of the seat's roots in one cut). By AI agents, Wed Nov 11 2026. No macro, syntax, notation, axiom, sorry.
-/
import Derived.Test.YtbfoiocbmhhdbaaGreatChecked
import GoSem.Claim
import GoSem.ClaimJoined
import GoSem.ClaimMapViews
import Derived.JoinedTies
import Derived.KernelRfl
namespace Go.Proofs.YtbfoiocbmhhdbaaGreat
/- THE CELL 'sum', in the pinned program and in every row, IS THE sha256 OF THE DUMP (.gsa) THAT YtbfoiocbmhhdbaaGreatProg.lean LOADS. Nothing in Lean hashes anything: it is a label: what it is worth is what the hold of that sum in a sandbox is worth. -/
noncomputable def Tryz.pinned : Pinned := { name := "ytbfoiocbmhhdbaagreat", sum := "e1b11c4ef5d4582123857298edf178ef878c4a8bf76eba6336bd9337fed412be", checked := Tryz.checked }
namespace Rows
def none {H : Type} : Left H := { results := [], args := [] }

/-- 'munimentlaw15.MidxMerges': WHATEVER THE INPUT: true; the input reads as it did. -/
def midxMergesSpec : ChangeSpec := { name := "midxMerges", fn := fun _ => fun
  | [d1, d2] => { results := [.lit (.bool true)], args := [d1, d2] }
  | _ => none }
def midxMergesRow : OpenClaim := { program := "ytbfoiocbmhhdbaagreat", sum := "e1b11c4ef5d4582123857298edf178ef878c4a8bf76eba6336bd9337fed412be", func := "muniment/munimentlaw15.MidxMerges", spec := "midxMerges", inPlace := ["internal/bytealg.Compare", "internal/abi.NoEscape", "internal/bytealg.MakeNoZero"], unfollowed := true, recurses := true, plainKeys := false, apart := false }
def MidxMergesSaid : Prop := midxMergesRow.holds Tryz.pinned (OpenSpec.ofChange midxMergesSpec)

/-- ITS FALSE NEIGHBOUR: 'it returns false'. Refute it at one input. -/
def midxMergesWrong : ChangeSpec := { name := "midxMerges", fn := fun _ => fun
  | [d1, d2] => { results := [.lit (.bool false)], args := [d1, d2] }
  | _ => none }
def MidxMergesWrongFalsely : Prop := midxMergesRow.holds Tryz.pinned (OpenSpec.ofChange midxMergesWrong)

/-- 'munimentlaw15.MidxFound': WHATEVER THE INPUT: true; the input reads as it did. -/
def midxFoundSpec : ChangeSpec := { name := "midxFound", fn := fun _ => fun
  | [d1, d2] => { results := [.lit (.bool true)], args := [d1, d2] }
  | _ => none }
def midxFoundRow : OpenClaim := { program := "ytbfoiocbmhhdbaagreat", sum := "e1b11c4ef5d4582123857298edf178ef878c4a8bf76eba6336bd9337fed412be", func := "muniment/munimentlaw15.MidxFound", spec := "midxFound", inPlace := ["internal/bytealg.Compare", "internal/abi.NoEscape", "internal/bytealg.MakeNoZero"], unfollowed := true, recurses := true, plainKeys := false, apart := false }
def MidxFoundSaid : Prop := midxFoundRow.holds Tryz.pinned (OpenSpec.ofChange midxFoundSpec)

/-- ITS FALSE NEIGHBOUR: 'it returns false'. Refute it at one input. -/
def midxFoundWrong : ChangeSpec := { name := "midxFound", fn := fun _ => fun
  | [d1, d2] => { results := [.lit (.bool false)], args := [d1, d2] }
  | _ => none }
def MidxFoundWrongFalsely : Prop := midxFoundRow.holds Tryz.pinned (OpenSpec.ofChange midxFoundWrong)

/-- 'munimentlaw15.MidxOne': WHATEVER THE INPUT: true; the input reads as it did. -/
def midxOneSpec : ChangeSpec := { name := "midxOne", fn := fun _ => fun
  | [d1, d2, d3] => { results := [.lit (.bool true)], args := [d1, d2, d3] }
  | _ => none }
def midxOneRow : OpenClaim := { program := "ytbfoiocbmhhdbaagreat", sum := "e1b11c4ef5d4582123857298edf178ef878c4a8bf76eba6336bd9337fed412be", func := "muniment/munimentlaw15.MidxOne", spec := "midxOne", inPlace := ["internal/bytealg.Compare", "internal/abi.NoEscape", "internal/bytealg.MakeNoZero"], unfollowed := true, recurses := true, plainKeys := false, apart := false }
def MidxOneSaid : Prop := midxOneRow.holds Tryz.pinned (OpenSpec.ofChange midxOneSpec)

/-- ITS FALSE NEIGHBOUR: 'it returns false'. Refute it at one input. -/
def midxOneWrong : ChangeSpec := { name := "midxOne", fn := fun _ => fun
  | [d1, d2, d3] => { results := [.lit (.bool false)], args := [d1, d2, d3] }
  | _ => none }
def MidxOneWrongFalsely : Prop := midxOneRow.holds Tryz.pinned (OpenSpec.ofChange midxOneWrong)

/-- 'munimentlaw15.MidxWithout': WHATEVER THE INPUT: true; the input reads as it did. -/
def midxWithoutSpec : ChangeSpec := { name := "midxWithout", fn := fun _ => fun
  | [d1, d2] => { results := [.lit (.bool true)], args := [d1, d2] }
  | _ => none }
def midxWithoutRow : OpenClaim := { program := "ytbfoiocbmhhdbaagreat", sum := "e1b11c4ef5d4582123857298edf178ef878c4a8bf76eba6336bd9337fed412be", func := "muniment/munimentlaw15.MidxWithout", spec := "midxWithout", inPlace := ["internal/bytealg.Compare", "internal/abi.NoEscape", "internal/bytealg.MakeNoZero"], unfollowed := true, recurses := true, plainKeys := false, apart := false }
def MidxWithoutSaid : Prop := midxWithoutRow.holds Tryz.pinned (OpenSpec.ofChange midxWithoutSpec)

/-- ITS FALSE NEIGHBOUR: 'it returns false'. Refute it at one input. -/
def midxWithoutWrong : ChangeSpec := { name := "midxWithout", fn := fun _ => fun
  | [d1, d2] => { results := [.lit (.bool false)], args := [d1, d2] }
  | _ => none }
def MidxWithoutWrongFalsely : Prop := midxWithoutRow.holds Tryz.pinned (OpenSpec.ofChange midxWithoutWrong)

/- THE SECOND FORM. 'bulk': how many values and letters a reading holds, each counted each time it is reached (what is shared counts as often as it is met; a slice's spare places count too). A statement '..UptoSaid' is the law's where the arguments, and the package variables that the reading takes, are together of bulk at most 1048576: NARROWER than '..Said'. Prove '..Said' where nothing that the law and all that it calls make is longer than what came in: it says more and counts as full. Else prove '..UptoSaid'. A law counts once. -/
mutual
def uptoBulk {H : Type} : DataW H → Nat
  | .lit (.string bytes) => bytes.length + 1
  | .lit _ => 1
  | .nil => 1
  | .ptr d => uptoBulk d + 1
  | .slice elems spare => uptoBulkAll elems + uptoBulkAll spare + 1
  | .agg parts => uptoBulkAll parts + 1
  | .iface _ d => uptoBulk d + 1
  | .map entries => uptoBulkEntries entries + 1
  | .held _ => 1
def uptoBulkAll {H : Type} : List (DataW H) → Nat
  | [] => 0
  | d :: r => uptoBulk d + uptoBulkAll r
def uptoBulkEntries {H : Type} : List (Lit × DataW H) → Nat
  | [] => 0
  | x :: r => uptoBulkEntry x + uptoBulkEntries r
def uptoBulkEntry {H : Type} : Lit × DataW H → Nat
  | (.string bytes, d) => bytes.length + uptoBulk d + 1
  | (_, d) => uptoBulk d + 1
 end
def uptoSmall : (H : Type) → List (DataW H) → Bool := fun _ ds => decide (uptoBulkAll ds ≤ 1048576)
def OpenSpec.upto (s : _root_.Go.ChangeSpec) : _root_.Go.OpenSpec := { _root_.Go.OpenSpec.ofChange s with cond := some uptoSmall }

/-- 'munimentlaw15.MidxMerges', WHERE WHAT IT READS IS OF BULK AT MOST 1048576: true; the input reads as it did. -/
def midxMergesUptoRow : OpenClaim := { program := "ytbfoiocbmhhdbaagreat", sum := "e1b11c4ef5d4582123857298edf178ef878c4a8bf76eba6336bd9337fed412be", func := "muniment/munimentlaw15.MidxMerges", spec := "midxMerges", inPlace := ["internal/bytealg.Compare", "internal/abi.NoEscape", "internal/bytealg.MakeNoZero"], unfollowed := true, recurses := true, plainKeys := false, apart := false, narrowed := true }
def MidxMergesUptoSaid : Prop := midxMergesUptoRow.holds Tryz.pinned (OpenSpec.upto midxMergesSpec)

/-- 'munimentlaw15.MidxFound', WHERE WHAT IT READS IS OF BULK AT MOST 1048576: true; the input reads as it did. -/
def midxFoundUptoRow : OpenClaim := { program := "ytbfoiocbmhhdbaagreat", sum := "e1b11c4ef5d4582123857298edf178ef878c4a8bf76eba6336bd9337fed412be", func := "muniment/munimentlaw15.MidxFound", spec := "midxFound", inPlace := ["internal/bytealg.Compare", "internal/abi.NoEscape", "internal/bytealg.MakeNoZero"], unfollowed := true, recurses := true, plainKeys := false, apart := false, narrowed := true }
def MidxFoundUptoSaid : Prop := midxFoundUptoRow.holds Tryz.pinned (OpenSpec.upto midxFoundSpec)

/-- 'munimentlaw15.MidxOne', WHERE WHAT IT READS IS OF BULK AT MOST 1048576: true; the input reads as it did. -/
def midxOneUptoRow : OpenClaim := { program := "ytbfoiocbmhhdbaagreat", sum := "e1b11c4ef5d4582123857298edf178ef878c4a8bf76eba6336bd9337fed412be", func := "muniment/munimentlaw15.MidxOne", spec := "midxOne", inPlace := ["internal/bytealg.Compare", "internal/abi.NoEscape", "internal/bytealg.MakeNoZero"], unfollowed := true, recurses := true, plainKeys := false, apart := false, narrowed := true }
def MidxOneUptoSaid : Prop := midxOneUptoRow.holds Tryz.pinned (OpenSpec.upto midxOneSpec)

/-- 'munimentlaw15.MidxWithout', WHERE WHAT IT READS IS OF BULK AT MOST 1048576: true; the input reads as it did. -/
def midxWithoutUptoRow : OpenClaim := { program := "ytbfoiocbmhhdbaagreat", sum := "e1b11c4ef5d4582123857298edf178ef878c4a8bf76eba6336bd9337fed412be", func := "muniment/munimentlaw15.MidxWithout", spec := "midxWithout", inPlace := ["internal/bytealg.Compare", "internal/abi.NoEscape", "internal/bytealg.MakeNoZero"], unfollowed := true, recurses := true, plainKeys := false, apart := false, narrowed := true }
def MidxWithoutUptoSaid : Prop := midxWithoutUptoRow.holds Tryz.pinned (OpenSpec.upto midxWithoutSpec)

end Rows
end Go.Proofs.YtbfoiocbmhhdbaaGreat
