/-
  No cell of these rows narrows 'for every input' (looked for: loops, veiled, ifaces, maps, wideKeys, modest, calm, conditions, laid).
  DERIVED. THE GIVEN ROWS OF THIS SEAT. 6 by the template 'for every input the law returns true; each argument reads behind the call as it read before'; 0 by the template 'total and deterministic' (their statements: YtadcibenikpfgaaTotals.lean).
  GIVEN WITH THE SEED: the statements are not yours to turn. If you find one false, say at which input.
  Laid BY PROGRAM, IN A SANDBOX (cutbox-rows.mjs): the forced cells as the released guide's own fill.sh prints them over the translation a9371ba49034f0d8… (all of the seat's roots in one cut). By AI agents, Wed Nov 11 2026. No macro, syntax, notation, axiom, sorry.
-/
import Derived.Test.YtadcibenikpfgaaChecked
import GoSem.Claim
import GoSem.ClaimJoined
import GoSem.ClaimMapViews
import Derived.JoinedTies
import Derived.KernelRfl
namespace Go.Proofs.Ytadcibenikpfgaa
/- THE CELL 'sum', in the pinned program and in every row, IS THE sha256 OF THE DUMP (.gsa) THAT YtadcibenikpfgaaProg.lean LOADS. Nothing in Lean hashes anything: it is a label: what it is worth is what the hold of that sum in a sandbox is worth. -/
noncomputable def Try.pinned : Pinned := { name := "ytadcibenikpfgaa", sum := "a9371ba49034f0d899ee720a59404ff34422883f05643fd628afb249c80e3347", checked := Try.checked }
namespace Rows
def none {H : Type} : Left H := { results := [], args := [] }

/-- 'munimentlaw08.RollOf': WHATEVER THE INPUT: true; the input reads as it did. -/
def rollOfSpec : ChangeSpec := { name := "rollOf", fn := fun _ => fun
  | [d1, d2] => { results := [.lit (.bool true)], args := [d1, d2] }
  | _ => none }
def rollOfRow : OpenClaim := { program := "ytadcibenikpfgaa", sum := "a9371ba49034f0d899ee720a59404ff34422883f05643fd628afb249c80e3347", func := "muniment/munimentlaw08.RollOf", spec := "rollOf", apart := false }
def RollOfSaid : Prop := rollOfRow.holds Try.pinned (OpenSpec.ofChange rollOfSpec)

/-- ITS FALSE NEIGHBOUR: 'it returns false'. Refute it at one input. -/
def rollOfWrong : ChangeSpec := { name := "rollOf", fn := fun _ => fun
  | [d1, d2] => { results := [.lit (.bool false)], args := [d1, d2] }
  | _ => none }
def RollOfWrongFalsely : Prop := rollOfRow.holds Try.pinned (OpenSpec.ofChange rollOfWrong)

/-- 'munimentlaw08.RollRuns': WHATEVER THE INPUT: true; the input reads as it did. -/
def rollRunsSpec : ChangeSpec := { name := "rollRuns", fn := fun _ => fun
  | [d] => { results := [.lit (.bool true)], args := [d] }
  | _ => none }
def rollRunsRow : OpenClaim := { program := "ytadcibenikpfgaa", sum := "a9371ba49034f0d899ee720a59404ff34422883f05643fd628afb249c80e3347", func := "muniment/munimentlaw08.RollRuns", spec := "rollRuns", apart := false }
def RollRunsSaid : Prop := rollRunsRow.holds Try.pinned (OpenSpec.ofChange rollRunsSpec)

/-- ITS FALSE NEIGHBOUR: 'it returns false'. Refute it at one input. -/
def rollRunsWrong : ChangeSpec := { name := "rollRuns", fn := fun _ => fun
  | [d] => { results := [.lit (.bool false)], args := [d] }
  | _ => none }
def RollRunsWrongFalsely : Prop := rollRunsRow.holds Try.pinned (OpenSpec.ofChange rollRunsWrong)

/-- 'munimentlaw08.RollNames': WHATEVER THE INPUT: true; the input reads as it did. -/
def rollNamesSpec : ChangeSpec := { name := "rollNames", fn := fun _ => fun
  | [] => { results := [.lit (.bool true)], args := [] }
  | _ => none }
def rollNamesRow : OpenClaim := { program := "ytadcibenikpfgaa", sum := "a9371ba49034f0d899ee720a59404ff34422883f05643fd628afb249c80e3347", func := "muniment/munimentlaw08.RollNames", spec := "rollNames", apart := false }
def RollNamesSaid : Prop := rollNamesRow.holds Try.pinned (OpenSpec.ofChange rollNamesSpec)

/-- ITS FALSE NEIGHBOUR: 'it returns false'. Refute it at one input. -/
def rollNamesWrong : ChangeSpec := { name := "rollNames", fn := fun _ => fun
  | [] => { results := [.lit (.bool false)], args := [] }
  | _ => none }
def RollNamesWrongFalsely : Prop := rollNamesRow.holds Try.pinned (OpenSpec.ofChange rollNamesWrong)

/-- 'munimentlaw08.RollWindow': WHATEVER THE INPUT: true; the input reads as it did. -/
def rollWindowSpec : ChangeSpec := { name := "rollWindow", fn := fun _ => fun
  | [d1, d2, d3, d4] => { results := [.lit (.bool true)], args := [d1, d2, d3, d4] }
  | _ => none }
def rollWindowRow : OpenClaim := { program := "ytadcibenikpfgaa", sum := "a9371ba49034f0d899ee720a59404ff34422883f05643fd628afb249c80e3347", func := "muniment/munimentlaw08.RollWindow", spec := "rollWindow", apart := false }
def RollWindowSaid : Prop := rollWindowRow.holds Try.pinned (OpenSpec.ofChange rollWindowSpec)

/-- ITS FALSE NEIGHBOUR: 'it returns false'. Refute it at one input. -/
def rollWindowWrong : ChangeSpec := { name := "rollWindow", fn := fun _ => fun
  | [d1, d2, d3, d4] => { results := [.lit (.bool false)], args := [d1, d2, d3, d4] }
  | _ => none }
def RollWindowWrongFalsely : Prop := rollWindowRow.holds Try.pinned (OpenSpec.ofChange rollWindowWrong)

/-- 'munimentlaw08.RollUnlike': WHATEVER THE INPUT: true; the input reads as it did. -/
def rollUnlikeSpec : ChangeSpec := { name := "rollUnlike", fn := fun _ => fun
  | [d1, d2, d3, d4] => { results := [.lit (.bool true)], args := [d1, d2, d3, d4] }
  | _ => none }
def rollUnlikeRow : OpenClaim := { program := "ytadcibenikpfgaa", sum := "a9371ba49034f0d899ee720a59404ff34422883f05643fd628afb249c80e3347", func := "muniment/munimentlaw08.RollUnlike", spec := "rollUnlike", apart := false }
def RollUnlikeSaid : Prop := rollUnlikeRow.holds Try.pinned (OpenSpec.ofChange rollUnlikeSpec)

/-- ITS FALSE NEIGHBOUR: 'it returns false'. Refute it at one input. -/
def rollUnlikeWrong : ChangeSpec := { name := "rollUnlike", fn := fun _ => fun
  | [d1, d2, d3, d4] => { results := [.lit (.bool false)], args := [d1, d2, d3, d4] }
  | _ => none }
def RollUnlikeWrongFalsely : Prop := rollUnlikeRow.holds Try.pinned (OpenSpec.ofChange rollUnlikeWrong)

/-- 'munimentlaw08.RollRolls': WHATEVER THE INPUT: true; the input reads as it did. -/
def rollRollsSpec : ChangeSpec := { name := "rollRolls", fn := fun _ => fun
  | [d] => { results := [.lit (.bool true)], args := [d] }
  | _ => none }
def rollRollsRow : OpenClaim := { program := "ytadcibenikpfgaa", sum := "a9371ba49034f0d899ee720a59404ff34422883f05643fd628afb249c80e3347", func := "muniment/munimentlaw08.RollRolls", spec := "rollRolls", apart := false }
def RollRollsSaid : Prop := rollRollsRow.holds Try.pinned (OpenSpec.ofChange rollRollsSpec)

/-- ITS FALSE NEIGHBOUR: 'it returns false'. Refute it at one input. -/
def rollRollsWrong : ChangeSpec := { name := "rollRolls", fn := fun _ => fun
  | [d] => { results := [.lit (.bool false)], args := [d] }
  | _ => none }
def RollRollsWrongFalsely : Prop := rollRollsRow.holds Try.pinned (OpenSpec.ofChange rollRollsWrong)

/- THE SECOND FORM. 'bulk': how many values and letters a reading holds, each counted each time it is reached (what is shared counts as often as it is met; a slice's spare places count too). A statement '..UptoSaid' is the law's where the arguments, and the package variables that the reading takes, are together of bulk at most 1048576: NARROWER than '..Said'. Prove '..Said' where nothing that the law and all that it calls make is longer than what came in: it says more and counts as full. Else prove '..UptoSaid'. A law counts once. -/
mutual
def uptoBulk {H : Type} : DataW H → Nat
  | .lit (.string bytes) => bytes.length + 1
  | .lit _ => 1
  | .nil => 1
  | .ptr d => uptoBulk d + 1
  | .slice elems spare => uptoBulkAll elems + uptoBulkAll spare + 1
  | .agg parts => uptoBulkAll parts + 1
  | .iface _ d => uptoBulk d + 1
  | .map entries => uptoBulkEntries entries + 1
  | .held _ => 1
def uptoBulkAll {H : Type} : List (DataW H) → Nat
  | [] => 0
  | d :: r => uptoBulk d + uptoBulkAll r
def uptoBulkEntries {H : Type} : List (Lit × DataW H) → Nat
  | [] => 0
  | x :: r => uptoBulkEntry x + uptoBulkEntries r
def uptoBulkEntry {H : Type} : Lit × DataW H → Nat
  | (.string bytes, d) => bytes.length + uptoBulk d + 1
  | (_, d) => uptoBulk d + 1
 end
def uptoSmall : (H : Type) → List (DataW H) → Bool := fun _ ds => decide (uptoBulkAll ds ≤ 1048576)
def OpenSpec.upto (s : _root_.Go.ChangeSpec) : _root_.Go.OpenSpec := { _root_.Go.OpenSpec.ofChange s with cond := some uptoSmall }

/-- 'munimentlaw08.RollOf', WHERE WHAT IT READS IS OF BULK AT MOST 1048576: true; the input reads as it did. -/
def rollOfUptoRow : OpenClaim := { program := "ytadcibenikpfgaa", sum := "a9371ba49034f0d899ee720a59404ff34422883f05643fd628afb249c80e3347", func := "muniment/munimentlaw08.RollOf", spec := "rollOf", apart := false, narrowed := true }
def RollOfUptoSaid : Prop := rollOfUptoRow.holds Try.pinned (OpenSpec.upto rollOfSpec)

/-- 'munimentlaw08.RollRuns', WHERE WHAT IT READS IS OF BULK AT MOST 1048576: true; the input reads as it did. -/
def rollRunsUptoRow : OpenClaim := { program := "ytadcibenikpfgaa", sum := "a9371ba49034f0d899ee720a59404ff34422883f05643fd628afb249c80e3347", func := "muniment/munimentlaw08.RollRuns", spec := "rollRuns", apart := false, narrowed := true }
def RollRunsUptoSaid : Prop := rollRunsUptoRow.holds Try.pinned (OpenSpec.upto rollRunsSpec)

/-- 'munimentlaw08.RollNames', WHERE WHAT IT READS IS OF BULK AT MOST 1048576: true; the input reads as it did. -/
def rollNamesUptoRow : OpenClaim := { program := "ytadcibenikpfgaa", sum := "a9371ba49034f0d899ee720a59404ff34422883f05643fd628afb249c80e3347", func := "muniment/munimentlaw08.RollNames", spec := "rollNames", apart := false, narrowed := true }
def RollNamesUptoSaid : Prop := rollNamesUptoRow.holds Try.pinned (OpenSpec.upto rollNamesSpec)

/-- 'munimentlaw08.RollWindow', WHERE WHAT IT READS IS OF BULK AT MOST 1048576: true; the input reads as it did. -/
def rollWindowUptoRow : OpenClaim := { program := "ytadcibenikpfgaa", sum := "a9371ba49034f0d899ee720a59404ff34422883f05643fd628afb249c80e3347", func := "muniment/munimentlaw08.RollWindow", spec := "rollWindow", apart := false, narrowed := true }
def RollWindowUptoSaid : Prop := rollWindowUptoRow.holds Try.pinned (OpenSpec.upto rollWindowSpec)

/-- 'munimentlaw08.RollUnlike', WHERE WHAT IT READS IS OF BULK AT MOST 1048576: true; the input reads as it did. -/
def rollUnlikeUptoRow : OpenClaim := { program := "ytadcibenikpfgaa", sum := "a9371ba49034f0d899ee720a59404ff34422883f05643fd628afb249c80e3347", func := "muniment/munimentlaw08.RollUnlike", spec := "rollUnlike", apart := false, narrowed := true }
def RollUnlikeUptoSaid : Prop := rollUnlikeUptoRow.holds Try.pinned (OpenSpec.upto rollUnlikeSpec)

/-- 'munimentlaw08.RollRolls', WHERE WHAT IT READS IS OF BULK AT MOST 1048576: true; the input reads as it did. -/
def rollRollsUptoRow : OpenClaim := { program := "ytadcibenikpfgaa", sum := "a9371ba49034f0d899ee720a59404ff34422883f05643fd628afb249c80e3347", func := "muniment/munimentlaw08.RollRolls", spec := "rollRolls", apart := false, narrowed := true }
def RollRollsUptoSaid : Prop := rollRollsUptoRow.holds Try.pinned (OpenSpec.upto rollRollsSpec)

end Rows
end Go.Proofs.Ytadcibenikpfgaa
