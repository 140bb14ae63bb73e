/-
  No cell of these rows narrows 'for every input' (looked for: loops, veiled, ifaces, maps, wideKeys, modest, calm, conditions, laid).
  DERIVED. THE GIVEN ROWS OF THIS SEAT. 6 by the template 'for every input the law returns true; each argument reads behind the call as it read before'; 0 by the template 'total and deterministic' (their statements: YtdinhnpobdfnoaaTotals.lean).
  GIVEN WITH THE SEED: the statements are not yours to turn. If you find one false, say at which input.
  Laid BY PROGRAM, IN A SANDBOX (cutbox-rows.mjs): the forced cells as the released guide's own fill.sh prints them over the translation 45986a5eddbc1195… (all of the seat's roots in one cut). By AI agents, Wed Nov 11 2026. No macro, syntax, notation, axiom, sorry.
-/
import Derived.Test.YtdinhnpobdfnoaaChecked
import GoSem.Claim
import GoSem.ClaimJoined
import GoSem.ClaimMapViews
import Derived.JoinedTies
import Derived.KernelRfl
namespace Go.Proofs.Ytdinhnpobdfnoaa
/- THE CELL 'sum', in the pinned program and in every row, IS THE sha256 OF THE DUMP (.gsa) THAT YtdinhnpobdfnoaaProg.lean LOADS. Nothing in Lean hashes anything: it is a label: what it is worth is what the hold of that sum in a sandbox is worth. -/
noncomputable def Try.pinned : Pinned := { name := "ytdinhnpobdfnoaa", sum := "45986a5eddbc1195f24ef373ac19d23a693d6bfb165277154904f49c87ba3581", checked := Try.checked }
namespace Rows
def none {H : Type} : Left H := { results := [], args := [] }

/-- 'munimentlaw09.SplitCuts': WHATEVER THE INPUT: true; the input reads as it did. -/
def splitCutsSpec : ChangeSpec := { name := "splitCuts", fn := fun _ => fun
  | [d1, d2] => { results := [.lit (.bool true)], args := [d1, d2] }
  | _ => none }
def splitCutsRow : OpenClaim := { program := "ytdinhnpobdfnoaa", sum := "45986a5eddbc1195f24ef373ac19d23a693d6bfb165277154904f49c87ba3581", func := "muniment/munimentlaw09.SplitCuts", spec := "splitCuts", unfollowed := true, recurses := true, apart := false }
def SplitCutsSaid : Prop := splitCutsRow.holds Try.pinned (OpenSpec.ofChange splitCutsSpec)

/-- ITS FALSE NEIGHBOUR: 'it returns false'. Refute it at one input. -/
def splitCutsWrong : ChangeSpec := { name := "splitCuts", fn := fun _ => fun
  | [d1, d2] => { results := [.lit (.bool false)], args := [d1, d2] }
  | _ => none }
def SplitCutsWrongFalsely : Prop := splitCutsRow.holds Try.pinned (OpenSpec.ofChange splitCutsWrong)

/-- 'munimentlaw09.SplitRuns': WHATEVER THE INPUT: true; the input reads as it did. -/
def splitRunsSpec : ChangeSpec := { name := "splitRuns", fn := fun _ => fun
  | [d1, d2, d3] => { results := [.lit (.bool true)], args := [d1, d2, d3] }
  | _ => none }
def splitRunsRow : OpenClaim := { program := "ytdinhnpobdfnoaa", sum := "45986a5eddbc1195f24ef373ac19d23a693d6bfb165277154904f49c87ba3581", func := "muniment/munimentlaw09.SplitRuns", spec := "splitRuns", unfollowed := true, recurses := true, apart := false }
def SplitRunsSaid : Prop := splitRunsRow.holds Try.pinned (OpenSpec.ofChange splitRunsSpec)

/-- ITS FALSE NEIGHBOUR: 'it returns false'. Refute it at one input. -/
def splitRunsWrong : ChangeSpec := { name := "splitRuns", fn := fun _ => fun
  | [d1, d2, d3] => { results := [.lit (.bool false)], args := [d1, d2, d3] }
  | _ => none }
def SplitRunsWrongFalsely : Prop := splitRunsRow.holds Try.pinned (OpenSpec.ofChange splitRunsWrong)

/-- 'munimentlaw09.SplitTiers': WHATEVER THE INPUT: true; the input reads as it did. -/
def splitTiersSpec : ChangeSpec := { name := "splitTiers", fn := fun _ => fun
  | [d1, d2] => { results := [.lit (.bool true)], args := [d1, d2] }
  | _ => none }
def splitTiersRow : OpenClaim := { program := "ytdinhnpobdfnoaa", sum := "45986a5eddbc1195f24ef373ac19d23a693d6bfb165277154904f49c87ba3581", func := "muniment/munimentlaw09.SplitTiers", spec := "splitTiers", apart := false }
def SplitTiersSaid : Prop := splitTiersRow.holds Try.pinned (OpenSpec.ofChange splitTiersSpec)

/-- ITS FALSE NEIGHBOUR: 'it returns false'. Refute it at one input. -/
def splitTiersWrong : ChangeSpec := { name := "splitTiers", fn := fun _ => fun
  | [d1, d2] => { results := [.lit (.bool false)], args := [d1, d2] }
  | _ => none }
def SplitTiersWrongFalsely : Prop := splitTiersRow.holds Try.pinned (OpenSpec.ofChange splitTiersWrong)

/-- 'munimentlaw09.SplitNames': WHATEVER THE INPUT: true; the input reads as it did. -/
def splitNamesSpec : ChangeSpec := { name := "splitNames", fn := fun _ => fun
  | [] => { results := [.lit (.bool true)], args := [] }
  | _ => none }
def splitNamesRow : OpenClaim := { program := "ytdinhnpobdfnoaa", sum := "45986a5eddbc1195f24ef373ac19d23a693d6bfb165277154904f49c87ba3581", func := "muniment/munimentlaw09.SplitNames", spec := "splitNames", unfollowed := true, recurses := true, apart := false }
def SplitNamesSaid : Prop := splitNamesRow.holds Try.pinned (OpenSpec.ofChange splitNamesSpec)

/-- ITS FALSE NEIGHBOUR: 'it returns false'. Refute it at one input. -/
def splitNamesWrong : ChangeSpec := { name := "splitNames", fn := fun _ => fun
  | [] => { results := [.lit (.bool false)], args := [] }
  | _ => none }
def SplitNamesWrongFalsely : Prop := splitNamesRow.holds Try.pinned (OpenSpec.ofChange splitNamesWrong)

/-- 'munimentlaw09.SplitAll': WHATEVER THE INPUT: true; the input reads as it did. -/
def splitAllSpec : ChangeSpec := { name := "splitAll", fn := fun _ => fun
  | [d1, d2, d3] => { results := [.lit (.bool true)], args := [d1, d2, d3] }
  | _ => none }
def splitAllRow : OpenClaim := { program := "ytdinhnpobdfnoaa", sum := "45986a5eddbc1195f24ef373ac19d23a693d6bfb165277154904f49c87ba3581", func := "muniment/munimentlaw09.SplitAll", spec := "splitAll", unfollowed := true, recurses := true, apart := false }
def SplitAllSaid : Prop := splitAllRow.holds Try.pinned (OpenSpec.ofChange splitAllSpec)

/-- ITS FALSE NEIGHBOUR: 'it returns false'. Refute it at one input. -/
def splitAllWrong : ChangeSpec := { name := "splitAll", fn := fun _ => fun
  | [d1, d2, d3] => { results := [.lit (.bool false)], args := [d1, d2, d3] }
  | _ => none }
def SplitAllWrongFalsely : Prop := splitAllRow.holds Try.pinned (OpenSpec.ofChange splitAllWrong)

/-- 'munimentlaw09.SplitAsBefore': WHATEVER THE INPUT: true; the input reads as it did. -/
def splitAsBeforeSpec : ChangeSpec := { name := "splitAsBefore", fn := fun _ => fun
  | [d1, d2, d3, d4] => { results := [.lit (.bool true)], args := [d1, d2, d3, d4] }
  | _ => none }
def splitAsBeforeRow : OpenClaim := { program := "ytdinhnpobdfnoaa", sum := "45986a5eddbc1195f24ef373ac19d23a693d6bfb165277154904f49c87ba3581", func := "muniment/munimentlaw09.SplitAsBefore", spec := "splitAsBefore", unfollowed := true, recurses := true, apart := false }
def SplitAsBeforeSaid : Prop := splitAsBeforeRow.holds Try.pinned (OpenSpec.ofChange splitAsBeforeSpec)

/-- ITS FALSE NEIGHBOUR: 'it returns false'. Refute it at one input. -/
def splitAsBeforeWrong : ChangeSpec := { name := "splitAsBefore", fn := fun _ => fun
  | [d1, d2, d3, d4] => { results := [.lit (.bool false)], args := [d1, d2, d3, d4] }
  | _ => none }
def SplitAsBeforeWrongFalsely : Prop := splitAsBeforeRow.holds Try.pinned (OpenSpec.ofChange splitAsBeforeWrong)

/- THE SECOND FORM. 'bulk': how many values and letters a reading holds, each counted each time it is reached (what is shared counts as often as it is met; a slice's spare places count too). A statement '..UptoSaid' is the law's where the arguments, and the package variables that the reading takes, are together of bulk at most 1048576: NARROWER than '..Said'. Prove '..Said' where nothing that the law and all that it calls make is longer than what came in: it says more and counts as full. Else prove '..UptoSaid'. A law counts once. -/
mutual
def uptoBulk {H : Type} : DataW H → Nat
  | .lit (.string bytes) => bytes.length + 1
  | .lit _ => 1
  | .nil => 1
  | .ptr d => uptoBulk d + 1
  | .slice elems spare => uptoBulkAll elems + uptoBulkAll spare + 1
  | .agg parts => uptoBulkAll parts + 1
  | .iface _ d => uptoBulk d + 1
  | .map entries => uptoBulkEntries entries + 1
  | .held _ => 1
def uptoBulkAll {H : Type} : List (DataW H) → Nat
  | [] => 0
  | d :: r => uptoBulk d + uptoBulkAll r
def uptoBulkEntries {H : Type} : List (Lit × DataW H) → Nat
  | [] => 0
  | x :: r => uptoBulkEntry x + uptoBulkEntries r
def uptoBulkEntry {H : Type} : Lit × DataW H → Nat
  | (.string bytes, d) => bytes.length + uptoBulk d + 1
  | (_, d) => uptoBulk d + 1
 end
def uptoSmall : (H : Type) → List (DataW H) → Bool := fun _ ds => decide (uptoBulkAll ds ≤ 1048576)
def OpenSpec.upto (s : _root_.Go.ChangeSpec) : _root_.Go.OpenSpec := { _root_.Go.OpenSpec.ofChange s with cond := some uptoSmall }

/-- 'munimentlaw09.SplitCuts', WHERE WHAT IT READS IS OF BULK AT MOST 1048576: true; the input reads as it did. -/
def splitCutsUptoRow : OpenClaim := { program := "ytdinhnpobdfnoaa", sum := "45986a5eddbc1195f24ef373ac19d23a693d6bfb165277154904f49c87ba3581", func := "muniment/munimentlaw09.SplitCuts", spec := "splitCuts", unfollowed := true, recurses := true, apart := false, narrowed := true }
def SplitCutsUptoSaid : Prop := splitCutsUptoRow.holds Try.pinned (OpenSpec.upto splitCutsSpec)

/-- 'munimentlaw09.SplitRuns', WHERE WHAT IT READS IS OF BULK AT MOST 1048576: true; the input reads as it did. -/
def splitRunsUptoRow : OpenClaim := { program := "ytdinhnpobdfnoaa", sum := "45986a5eddbc1195f24ef373ac19d23a693d6bfb165277154904f49c87ba3581", func := "muniment/munimentlaw09.SplitRuns", spec := "splitRuns", unfollowed := true, recurses := true, apart := false, narrowed := true }
def SplitRunsUptoSaid : Prop := splitRunsUptoRow.holds Try.pinned (OpenSpec.upto splitRunsSpec)

/-- 'munimentlaw09.SplitTiers', WHERE WHAT IT READS IS OF BULK AT MOST 1048576: true; the input reads as it did. -/
def splitTiersUptoRow : OpenClaim := { program := "ytdinhnpobdfnoaa", sum := "45986a5eddbc1195f24ef373ac19d23a693d6bfb165277154904f49c87ba3581", func := "muniment/munimentlaw09.SplitTiers", spec := "splitTiers", apart := false, narrowed := true }
def SplitTiersUptoSaid : Prop := splitTiersUptoRow.holds Try.pinned (OpenSpec.upto splitTiersSpec)

/-- 'munimentlaw09.SplitNames', WHERE WHAT IT READS IS OF BULK AT MOST 1048576: true; the input reads as it did. -/
def splitNamesUptoRow : OpenClaim := { program := "ytdinhnpobdfnoaa", sum := "45986a5eddbc1195f24ef373ac19d23a693d6bfb165277154904f49c87ba3581", func := "muniment/munimentlaw09.SplitNames", spec := "splitNames", unfollowed := true, recurses := true, apart := false, narrowed := true }
def SplitNamesUptoSaid : Prop := splitNamesUptoRow.holds Try.pinned (OpenSpec.upto splitNamesSpec)

/-- 'munimentlaw09.SplitAll', WHERE WHAT IT READS IS OF BULK AT MOST 1048576: true; the input reads as it did. -/
def splitAllUptoRow : OpenClaim := { program := "ytdinhnpobdfnoaa", sum := "45986a5eddbc1195f24ef373ac19d23a693d6bfb165277154904f49c87ba3581", func := "muniment/munimentlaw09.SplitAll", spec := "splitAll", unfollowed := true, recurses := true, apart := false, narrowed := true }
def SplitAllUptoSaid : Prop := splitAllUptoRow.holds Try.pinned (OpenSpec.upto splitAllSpec)

/-- 'munimentlaw09.SplitAsBefore', WHERE WHAT IT READS IS OF BULK AT MOST 1048576: true; the input reads as it did. -/
def splitAsBeforeUptoRow : OpenClaim := { program := "ytdinhnpobdfnoaa", sum := "45986a5eddbc1195f24ef373ac19d23a693d6bfb165277154904f49c87ba3581", func := "muniment/munimentlaw09.SplitAsBefore", spec := "splitAsBefore", unfollowed := true, recurses := true, apart := false, narrowed := true }
def SplitAsBeforeUptoSaid : Prop := splitAsBeforeUptoRow.holds Try.pinned (OpenSpec.upto splitAsBeforeSpec)

end Rows
end Go.Proofs.Ytdinhnpobdfnoaa
