/-
  No cell of these rows narrows 'for every input' (looked for: loops, veiled, ifaces, maps, wideKeys, modest, calm, conditions, laid).
  DERIVED. THE GIVEN ROWS OF THIS SEAT. 6 by the template 'for every input the law returns true; each argument reads behind the call as it read before'; 0 by the template 'total and deterministic' (their statements: YtblmblbkfdcbjaaTotals.lean).
  GIVEN WITH THE SEED: the statements are not yours to turn. If you find one false, say at which input.
  Laid BY PROGRAM, IN A SANDBOX (cutbox-rows.mjs): the forced cells as the released guide's own fill.sh prints them over the translation d0cbfba7133ce633… (all of the seat's roots in one cut). By AI agents, Wed Nov 11 2026. No macro, syntax, notation, axiom, sorry.
-/
import Derived.Test.YtblmblbkfdcbjaaChecked
import GoSem.Claim
import GoSem.ClaimJoined
import GoSem.ClaimMapViews
import Derived.JoinedTies
import Derived.KernelRfl
namespace Go.Proofs.Ytblmblbkfdcbjaa
/- THE CELL 'sum', in the pinned program and in every row, IS THE sha256 OF THE DUMP (.gsa) THAT YtblmblbkfdcbjaaProg.lean LOADS. Nothing in Lean hashes anything: it is a label: what it is worth is what the hold of that sum in a sandbox is worth. -/
noncomputable def Try.pinned : Pinned := { name := "ytblmblbkfdcbjaa", sum := "d0cbfba7133ce633b0c6415714bc755a68a16cfd311b2b2ff8d596363e3ca512", checked := Try.checked }
namespace Rows
def none {H : Type} : Left H := { results := [], args := [] }

/-- 'munimentlaw06.FieldMatrices': WHATEVER THE INPUT: true; the input reads as it did. -/
def fieldMatricesSpec : ChangeSpec := { name := "fieldMatrices", fn := fun _ => fun
  | [d1, d2] => { results := [.lit (.bool true)], args := [d1, d2] }
  | _ => none }
def fieldMatricesRow : OpenClaim := { program := "ytblmblbkfdcbjaa", sum := "d0cbfba7133ce633b0c6415714bc755a68a16cfd311b2b2ff8d596363e3ca512", func := "muniment/munimentlaw06.FieldMatrices", spec := "fieldMatrices", apart := false }
def FieldMatricesSaid : Prop := fieldMatricesRow.holds Try.pinned (OpenSpec.ofChange fieldMatricesSpec)

/-- ITS FALSE NEIGHBOUR: 'it returns false'. Refute it at one input. -/
def fieldMatricesWrong : ChangeSpec := { name := "fieldMatrices", fn := fun _ => fun
  | [d1, d2] => { results := [.lit (.bool false)], args := [d1, d2] }
  | _ => none }
def FieldMatricesWrongFalsely : Prop := fieldMatricesRow.holds Try.pinned (OpenSpec.ofChange fieldMatricesWrong)

/-- 'munimentlaw07.ShardsCut': WHATEVER THE INPUT: true; the input reads as it did. -/
def shardsCutSpec : ChangeSpec := { name := "shardsCut", fn := fun _ => fun
  | [d1, d2, d3, d4, d5] => { results := [.lit (.bool true)], args := [d1, d2, d3, d4, d5] }
  | _ => none }
def shardsCutRow : OpenClaim := { program := "ytblmblbkfdcbjaa", sum := "d0cbfba7133ce633b0c6415714bc755a68a16cfd311b2b2ff8d596363e3ca512", func := "muniment/munimentlaw07.ShardsCut", spec := "shardsCut", apart := false }
def ShardsCutSaid : Prop := shardsCutRow.holds Try.pinned (OpenSpec.ofChange shardsCutSpec)

/-- ITS FALSE NEIGHBOUR: 'it returns false'. Refute it at one input. -/
def shardsCutWrong : ChangeSpec := { name := "shardsCut", fn := fun _ => fun
  | [d1, d2, d3, d4, d5] => { results := [.lit (.bool false)], args := [d1, d2, d3, d4, d5] }
  | _ => none }
def ShardsCutWrongFalsely : Prop := shardsCutRow.holds Try.pinned (OpenSpec.ofChange shardsCutWrong)

/-- 'munimentlaw07.ShardsRebuilt': WHATEVER THE INPUT: true; the input reads as it did. -/
def shardsRebuiltSpec : ChangeSpec := { name := "shardsRebuilt", fn := fun _ => fun
  | [d1, d2, d3] => { results := [.lit (.bool true)], args := [d1, d2, d3] }
  | _ => none }
def shardsRebuiltRow : OpenClaim := { program := "ytblmblbkfdcbjaa", sum := "d0cbfba7133ce633b0c6415714bc755a68a16cfd311b2b2ff8d596363e3ca512", func := "muniment/munimentlaw07.ShardsRebuilt", spec := "shardsRebuilt", unfollowed := true, recurses := true, apart := false }
def ShardsRebuiltSaid : Prop := shardsRebuiltRow.holds Try.pinned (OpenSpec.ofChange shardsRebuiltSpec)

/-- ITS FALSE NEIGHBOUR: 'it returns false'. Refute it at one input. -/
def shardsRebuiltWrong : ChangeSpec := { name := "shardsRebuilt", fn := fun _ => fun
  | [d1, d2, d3] => { results := [.lit (.bool false)], args := [d1, d2, d3] }
  | _ => none }
def ShardsRebuiltWrongFalsely : Prop := shardsRebuiltRow.holds Try.pinned (OpenSpec.ofChange shardsRebuiltWrong)

/-- 'munimentlaw07.ShardsNames': WHATEVER THE INPUT: true; the input reads as it did. -/
def shardsNamesSpec : ChangeSpec := { name := "shardsNames", fn := fun _ => fun
  | [] => { results := [.lit (.bool true)], args := [] }
  | _ => none }
def shardsNamesRow : OpenClaim := { program := "ytblmblbkfdcbjaa", sum := "d0cbfba7133ce633b0c6415714bc755a68a16cfd311b2b2ff8d596363e3ca512", func := "muniment/munimentlaw07.ShardsNames", spec := "shardsNames", unfollowed := true, recurses := true, apart := false }
def ShardsNamesSaid : Prop := shardsNamesRow.holds Try.pinned (OpenSpec.ofChange shardsNamesSpec)

/-- ITS FALSE NEIGHBOUR: 'it returns false'. Refute it at one input. -/
def shardsNamesWrong : ChangeSpec := { name := "shardsNames", fn := fun _ => fun
  | [] => { results := [.lit (.bool false)], args := [] }
  | _ => none }
def ShardsNamesWrongFalsely : Prop := shardsNamesRow.holds Try.pinned (OpenSpec.ofChange shardsNamesWrong)

/-- 'munimentlaw07.ShardsBack': WHATEVER THE INPUT: true; the input reads as it did. -/
def shardsBackSpec : ChangeSpec := { name := "shardsBack", fn := fun _ => fun
  | [d1, d2, d3, d4, d5] => { results := [.lit (.bool true)], args := [d1, d2, d3, d4, d5] }
  | _ => none }
def shardsBackRow : OpenClaim := { program := "ytblmblbkfdcbjaa", sum := "d0cbfba7133ce633b0c6415714bc755a68a16cfd311b2b2ff8d596363e3ca512", func := "muniment/munimentlaw07.ShardsBack", spec := "shardsBack", unfollowed := true, recurses := true, apart := false }
def ShardsBackSaid : Prop := shardsBackRow.holds Try.pinned (OpenSpec.ofChange shardsBackSpec)

/-- ITS FALSE NEIGHBOUR: 'it returns false'. Refute it at one input. -/
def shardsBackWrong : ChangeSpec := { name := "shardsBack", fn := fun _ => fun
  | [d1, d2, d3, d4, d5] => { results := [.lit (.bool false)], args := [d1, d2, d3, d4, d5] }
  | _ => none }
def ShardsBackWrongFalsely : Prop := shardsBackRow.holds Try.pinned (OpenSpec.ofChange shardsBackWrong)

/-- 'munimentlaw07.ShardsLinear': WHATEVER THE INPUT: true; the input reads as it did. -/
def shardsLinearSpec : ChangeSpec := { name := "shardsLinear", fn := fun _ => fun
  | [d1, d2, d3, d4, d5, d6, d7, d8] => { results := [.lit (.bool true)], args := [d1, d2, d3, d4, d5, d6, d7, d8] }
  | _ => none }
def shardsLinearRow : OpenClaim := { program := "ytblmblbkfdcbjaa", sum := "d0cbfba7133ce633b0c6415714bc755a68a16cfd311b2b2ff8d596363e3ca512", func := "muniment/munimentlaw07.ShardsLinear", spec := "shardsLinear", unfollowed := true, recurses := true, apart := false }
def ShardsLinearSaid : Prop := shardsLinearRow.holds Try.pinned (OpenSpec.ofChange shardsLinearSpec)

/-- ITS FALSE NEIGHBOUR: 'it returns false'. Refute it at one input. -/
def shardsLinearWrong : ChangeSpec := { name := "shardsLinear", fn := fun _ => fun
  | [d1, d2, d3, d4, d5, d6, d7, d8] => { results := [.lit (.bool false)], args := [d1, d2, d3, d4, d5, d6, d7, d8] }
  | _ => none }
def ShardsLinearWrongFalsely : Prop := shardsLinearRow.holds Try.pinned (OpenSpec.ofChange shardsLinearWrong)

/- THE SECOND FORM. 'bulk': how many values and letters a reading holds, each counted each time it is reached (what is shared counts as often as it is met; a slice's spare places count too). A statement '..UptoSaid' is the law's where the arguments, and the package variables that the reading takes, are together of bulk at most 1048576: NARROWER than '..Said'. Prove '..Said' where nothing that the law and all that it calls make is longer than what came in: it says more and counts as full. Else prove '..UptoSaid'. A law counts once. -/
mutual
def uptoBulk {H : Type} : DataW H → Nat
  | .lit (.string bytes) => bytes.length + 1
  | .lit _ => 1
  | .nil => 1
  | .ptr d => uptoBulk d + 1
  | .slice elems spare => uptoBulkAll elems + uptoBulkAll spare + 1
  | .agg parts => uptoBulkAll parts + 1
  | .iface _ d => uptoBulk d + 1
  | .map entries => uptoBulkEntries entries + 1
  | .held _ => 1
def uptoBulkAll {H : Type} : List (DataW H) → Nat
  | [] => 0
  | d :: r => uptoBulk d + uptoBulkAll r
def uptoBulkEntries {H : Type} : List (Lit × DataW H) → Nat
  | [] => 0
  | x :: r => uptoBulkEntry x + uptoBulkEntries r
def uptoBulkEntry {H : Type} : Lit × DataW H → Nat
  | (.string bytes, d) => bytes.length + uptoBulk d + 1
  | (_, d) => uptoBulk d + 1
 end
def uptoSmall : (H : Type) → List (DataW H) → Bool := fun _ ds => decide (uptoBulkAll ds ≤ 1048576)
def OpenSpec.upto (s : _root_.Go.ChangeSpec) : _root_.Go.OpenSpec := { _root_.Go.OpenSpec.ofChange s with cond := some uptoSmall }

/-- 'munimentlaw06.FieldMatrices', WHERE WHAT IT READS IS OF BULK AT MOST 1048576: true; the input reads as it did. -/
def fieldMatricesUptoRow : OpenClaim := { program := "ytblmblbkfdcbjaa", sum := "d0cbfba7133ce633b0c6415714bc755a68a16cfd311b2b2ff8d596363e3ca512", func := "muniment/munimentlaw06.FieldMatrices", spec := "fieldMatrices", apart := false, narrowed := true }
def FieldMatricesUptoSaid : Prop := fieldMatricesUptoRow.holds Try.pinned (OpenSpec.upto fieldMatricesSpec)

/-- 'munimentlaw07.ShardsCut', WHERE WHAT IT READS IS OF BULK AT MOST 1048576: true; the input reads as it did. -/
def shardsCutUptoRow : OpenClaim := { program := "ytblmblbkfdcbjaa", sum := "d0cbfba7133ce633b0c6415714bc755a68a16cfd311b2b2ff8d596363e3ca512", func := "muniment/munimentlaw07.ShardsCut", spec := "shardsCut", apart := false, narrowed := true }
def ShardsCutUptoSaid : Prop := shardsCutUptoRow.holds Try.pinned (OpenSpec.upto shardsCutSpec)

/-- 'munimentlaw07.ShardsRebuilt', WHERE WHAT IT READS IS OF BULK AT MOST 1048576: true; the input reads as it did. -/
def shardsRebuiltUptoRow : OpenClaim := { program := "ytblmblbkfdcbjaa", sum := "d0cbfba7133ce633b0c6415714bc755a68a16cfd311b2b2ff8d596363e3ca512", func := "muniment/munimentlaw07.ShardsRebuilt", spec := "shardsRebuilt", unfollowed := true, recurses := true, apart := false, narrowed := true }
def ShardsRebuiltUptoSaid : Prop := shardsRebuiltUptoRow.holds Try.pinned (OpenSpec.upto shardsRebuiltSpec)

/-- 'munimentlaw07.ShardsNames', WHERE WHAT IT READS IS OF BULK AT MOST 1048576: true; the input reads as it did. -/
def shardsNamesUptoRow : OpenClaim := { program := "ytblmblbkfdcbjaa", sum := "d0cbfba7133ce633b0c6415714bc755a68a16cfd311b2b2ff8d596363e3ca512", func := "muniment/munimentlaw07.ShardsNames", spec := "shardsNames", unfollowed := true, recurses := true, apart := false, narrowed := true }
def ShardsNamesUptoSaid : Prop := shardsNamesUptoRow.holds Try.pinned (OpenSpec.upto shardsNamesSpec)

/-- 'munimentlaw07.ShardsBack', WHERE WHAT IT READS IS OF BULK AT MOST 1048576: true; the input reads as it did. -/
def shardsBackUptoRow : OpenClaim := { program := "ytblmblbkfdcbjaa", sum := "d0cbfba7133ce633b0c6415714bc755a68a16cfd311b2b2ff8d596363e3ca512", func := "muniment/munimentlaw07.ShardsBack", spec := "shardsBack", unfollowed := true, recurses := true, apart := false, narrowed := true }
def ShardsBackUptoSaid : Prop := shardsBackUptoRow.holds Try.pinned (OpenSpec.upto shardsBackSpec)

/-- 'munimentlaw07.ShardsLinear', WHERE WHAT IT READS IS OF BULK AT MOST 1048576: true; the input reads as it did. -/
def shardsLinearUptoRow : OpenClaim := { program := "ytblmblbkfdcbjaa", sum := "d0cbfba7133ce633b0c6415714bc755a68a16cfd311b2b2ff8d596363e3ca512", func := "muniment/munimentlaw07.ShardsLinear", spec := "shardsLinear", unfollowed := true, recurses := true, apart := false, narrowed := true }
def ShardsLinearUptoSaid : Prop := shardsLinearUptoRow.holds Try.pinned (OpenSpec.upto shardsLinearSpec)

end Rows
end Go.Proofs.Ytblmblbkfdcbjaa
