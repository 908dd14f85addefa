/-
  No cell of these rows narrows 'for every input' (looked for: loops, veiled, ifaces, maps, wideKeys, modest, calm, conditions, laid).
  DERIVED. THE GIVEN ROWS OF THIS SEAT. 5 by the template 'for every input the law returns true; each argument reads behind the call as it read before'; 0 by the template 'total and deterministic' (their statements: YtlknolbfhfcflaaTotals.lean).
  GIVEN WITH THE SEED: the statements are not yours to turn. If you find one false, say at which input.
  Laid BY PROGRAM, IN A SANDBOX (cutbox-rows.mjs): the forced cells as the released guide's own fill.sh prints them over the translation 3c28f29e7bdc03f7… (all of the seat's roots in one cut). By AI agents, Wed Nov 11 2026. No macro, syntax, notation, axiom, sorry.
-/
import Derived.Test.YtlknolbfhfcflaaChecked
import GoSem.Claim
import GoSem.ClaimJoined
import GoSem.ClaimMapViews
import Derived.JoinedTies
import Derived.KernelRfl
namespace Go.Proofs.Ytlknolbfhfcflaa
/- THE CELL 'sum', in the pinned program and in every row, IS THE sha256 OF THE DUMP (.gsa) THAT YtlknolbfhfcflaaProg.lean LOADS. Nothing in Lean hashes anything: it is a label: what it is worth is what the hold of that sum in a sandbox is worth. -/
noncomputable def Try.pinned : Pinned := { name := "ytlknolbfhfcflaa", sum := "3c28f29e7bdc03f7c290a4f693811b80ee02fd3617a5554b2e1f0bc01bcb4987", checked := Try.checked }
namespace Rows
def none {H : Type} : Left H := { results := [], args := [] }

/-- 'gauntletlaw10.VmSteps': WHATEVER THE INPUT: true; the input reads as it did. -/
def vmStepsSpec : ChangeSpec := { name := "vmSteps", fn := fun _ => fun
  | [d1, d2, d3] => { results := [.lit (.bool true)], args := [d1, d2, d3] }
  | _ => none }
def vmStepsRow : OpenClaim := { program := "ytlknolbfhfcflaa", sum := "3c28f29e7bdc03f7c290a4f693811b80ee02fd3617a5554b2e1f0bc01bcb4987", func := "gauntlet/gauntletlaw10.VmSteps", spec := "vmSteps", unfollowed := true, recurses := true, apart := false }
def VmStepsSaid : Prop := vmStepsRow.holds Try.pinned (OpenSpec.ofChange vmStepsSpec)

/-- ITS FALSE NEIGHBOUR: 'it returns false'. Refute it at one input. -/
def vmStepsWrong : ChangeSpec := { name := "vmSteps", fn := fun _ => fun
  | [d1, d2, d3] => { results := [.lit (.bool false)], args := [d1, d2, d3] }
  | _ => none }
def VmStepsWrongFalsely : Prop := vmStepsRow.holds Try.pinned (OpenSpec.ofChange vmStepsWrong)

/-- 'gauntletlaw10.VmRuns': WHATEVER THE INPUT: true; the input reads as it did. -/
def vmRunsSpec : ChangeSpec := { name := "vmRuns", fn := fun _ => fun
  | [d1, d2, d3] => { results := [.lit (.bool true)], args := [d1, d2, d3] }
  | _ => none }
def vmRunsRow : OpenClaim := { program := "ytlknolbfhfcflaa", sum := "3c28f29e7bdc03f7c290a4f693811b80ee02fd3617a5554b2e1f0bc01bcb4987", func := "gauntlet/gauntletlaw10.VmRuns", spec := "vmRuns", unfollowed := true, recurses := true, apart := false }
def VmRunsSaid : Prop := vmRunsRow.holds Try.pinned (OpenSpec.ofChange vmRunsSpec)

/-- ITS FALSE NEIGHBOUR: 'it returns false'. Refute it at one input. -/
def vmRunsWrong : ChangeSpec := { name := "vmRuns", fn := fun _ => fun
  | [d1, d2, d3] => { results := [.lit (.bool false)], args := [d1, d2, d3] }
  | _ => none }
def VmRunsWrongFalsely : Prop := vmRunsRow.holds Try.pinned (OpenSpec.ofChange vmRunsWrong)

/-- 'gauntletlaw10.VmDecodes': WHATEVER THE INPUT: true; the input reads as it did. -/
def vmDecodesSpec : ChangeSpec := { name := "vmDecodes", fn := fun _ => fun
  | [d] => { results := [.lit (.bool true)], args := [d] }
  | _ => none }
def vmDecodesRow : OpenClaim := { program := "ytlknolbfhfcflaa", sum := "3c28f29e7bdc03f7c290a4f693811b80ee02fd3617a5554b2e1f0bc01bcb4987", func := "gauntlet/gauntletlaw10.VmDecodes", spec := "vmDecodes", unfollowed := true, recurses := true, apart := false }
def VmDecodesSaid : Prop := vmDecodesRow.holds Try.pinned (OpenSpec.ofChange vmDecodesSpec)

/-- ITS FALSE NEIGHBOUR: 'it returns false'. Refute it at one input. -/
def vmDecodesWrong : ChangeSpec := { name := "vmDecodes", fn := fun _ => fun
  | [d] => { results := [.lit (.bool false)], args := [d] }
  | _ => none }
def VmDecodesWrongFalsely : Prop := vmDecodesRow.holds Try.pinned (OpenSpec.ofChange vmDecodesWrong)

/-- 'gauntletlaw10.VmOps': WHATEVER THE INPUT: true; the input reads as it did. -/
def vmOpsSpec : ChangeSpec := { name := "vmOps", fn := fun _ => fun
  | [d1, d2, d3] => { results := [.lit (.bool true)], args := [d1, d2, d3] }
  | _ => none }
def vmOpsRow : OpenClaim := { program := "ytlknolbfhfcflaa", sum := "3c28f29e7bdc03f7c290a4f693811b80ee02fd3617a5554b2e1f0bc01bcb4987", func := "gauntlet/gauntletlaw10.VmOps", spec := "vmOps", unfollowed := true, recurses := true, apart := false }
def VmOpsSaid : Prop := vmOpsRow.holds Try.pinned (OpenSpec.ofChange vmOpsSpec)

/-- ITS FALSE NEIGHBOUR: 'it returns false'. Refute it at one input. -/
def vmOpsWrong : ChangeSpec := { name := "vmOps", fn := fun _ => fun
  | [d1, d2, d3] => { results := [.lit (.bool false)], args := [d1, d2, d3] }
  | _ => none }
def VmOpsWrongFalsely : Prop := vmOpsRow.holds Try.pinned (OpenSpec.ofChange vmOpsWrong)

/-- 'gauntletlaw10.VmFuel': WHATEVER THE INPUT: true; the input reads as it did. -/
def vmFuelSpec : ChangeSpec := { name := "vmFuel", fn := fun _ => fun
  | [d1, d2, d3] => { results := [.lit (.bool true)], args := [d1, d2, d3] }
  | _ => none }
def vmFuelRow : OpenClaim := { program := "ytlknolbfhfcflaa", sum := "3c28f29e7bdc03f7c290a4f693811b80ee02fd3617a5554b2e1f0bc01bcb4987", func := "gauntlet/gauntletlaw10.VmFuel", spec := "vmFuel", unfollowed := true, recurses := true, apart := false }
def VmFuelSaid : Prop := vmFuelRow.holds Try.pinned (OpenSpec.ofChange vmFuelSpec)

/-- ITS FALSE NEIGHBOUR: 'it returns false'. Refute it at one input. -/
def vmFuelWrong : ChangeSpec := { name := "vmFuel", fn := fun _ => fun
  | [d1, d2, d3] => { results := [.lit (.bool false)], args := [d1, d2, d3] }
  | _ => none }
def VmFuelWrongFalsely : Prop := vmFuelRow.holds Try.pinned (OpenSpec.ofChange vmFuelWrong)

/- THE SECOND FORM. 'bulk': how many values and letters a reading holds, each counted each time it is reached (what is shared counts as often as it is met; a slice's spare places count too). A statement '..UptoSaid' is the law's where the arguments, and the package variables that the reading takes, are together of bulk at most 1048576: NARROWER than '..Said'. Prove '..Said' where nothing that the law and all that it calls make is longer than what came in: it says more and counts as full. Else prove '..UptoSaid'. A law counts once. -/
mutual
def uptoBulk {H : Type} : DataW H → Nat
  | .lit (.string bytes) => bytes.length + 1
  | .lit _ => 1
  | .nil => 1
  | .ptr d => uptoBulk d + 1
  | .slice elems spare => uptoBulkAll elems + uptoBulkAll spare + 1
  | .agg parts => uptoBulkAll parts + 1
  | .iface _ d => uptoBulk d + 1
  | .map entries => uptoBulkEntries entries + 1
  | .held _ => 1
def uptoBulkAll {H : Type} : List (DataW H) → Nat
  | [] => 0
  | d :: r => uptoBulk d + uptoBulkAll r
def uptoBulkEntries {H : Type} : List (Lit × DataW H) → Nat
  | [] => 0
  | x :: r => uptoBulkEntry x + uptoBulkEntries r
def uptoBulkEntry {H : Type} : Lit × DataW H → Nat
  | (.string bytes, d) => bytes.length + uptoBulk d + 1
  | (_, d) => uptoBulk d + 1
 end
def uptoSmall : (H : Type) → List (DataW H) → Bool := fun _ ds => decide (uptoBulkAll ds ≤ 1048576)
def OpenSpec.upto (s : _root_.Go.ChangeSpec) : _root_.Go.OpenSpec := { _root_.Go.OpenSpec.ofChange s with cond := some uptoSmall }

/-- 'gauntletlaw10.VmSteps', WHERE WHAT IT READS IS OF BULK AT MOST 1048576: true; the input reads as it did. -/
def vmStepsUptoRow : OpenClaim := { program := "ytlknolbfhfcflaa", sum := "3c28f29e7bdc03f7c290a4f693811b80ee02fd3617a5554b2e1f0bc01bcb4987", func := "gauntlet/gauntletlaw10.VmSteps", spec := "vmSteps", unfollowed := true, recurses := true, apart := false, narrowed := true }
def VmStepsUptoSaid : Prop := vmStepsUptoRow.holds Try.pinned (OpenSpec.upto vmStepsSpec)

/-- 'gauntletlaw10.VmRuns', WHERE WHAT IT READS IS OF BULK AT MOST 1048576: true; the input reads as it did. -/
def vmRunsUptoRow : OpenClaim := { program := "ytlknolbfhfcflaa", sum := "3c28f29e7bdc03f7c290a4f693811b80ee02fd3617a5554b2e1f0bc01bcb4987", func := "gauntlet/gauntletlaw10.VmRuns", spec := "vmRuns", unfollowed := true, recurses := true, apart := false, narrowed := true }
def VmRunsUptoSaid : Prop := vmRunsUptoRow.holds Try.pinned (OpenSpec.upto vmRunsSpec)

/-- 'gauntletlaw10.VmDecodes', WHERE WHAT IT READS IS OF BULK AT MOST 1048576: true; the input reads as it did. -/
def vmDecodesUptoRow : OpenClaim := { program := "ytlknolbfhfcflaa", sum := "3c28f29e7bdc03f7c290a4f693811b80ee02fd3617a5554b2e1f0bc01bcb4987", func := "gauntlet/gauntletlaw10.VmDecodes", spec := "vmDecodes", unfollowed := true, recurses := true, apart := false, narrowed := true }
def VmDecodesUptoSaid : Prop := vmDecodesUptoRow.holds Try.pinned (OpenSpec.upto vmDecodesSpec)

/-- 'gauntletlaw10.VmOps', WHERE WHAT IT READS IS OF BULK AT MOST 1048576: true; the input reads as it did. -/
def vmOpsUptoRow : OpenClaim := { program := "ytlknolbfhfcflaa", sum := "3c28f29e7bdc03f7c290a4f693811b80ee02fd3617a5554b2e1f0bc01bcb4987", func := "gauntlet/gauntletlaw10.VmOps", spec := "vmOps", unfollowed := true, recurses := true, apart := false, narrowed := true }
def VmOpsUptoSaid : Prop := vmOpsUptoRow.holds Try.pinned (OpenSpec.upto vmOpsSpec)

/-- 'gauntletlaw10.VmFuel', WHERE WHAT IT READS IS OF BULK AT MOST 1048576: true; the input reads as it did. -/
def vmFuelUptoRow : OpenClaim := { program := "ytlknolbfhfcflaa", sum := "3c28f29e7bdc03f7c290a4f693811b80ee02fd3617a5554b2e1f0bc01bcb4987", func := "gauntlet/gauntletlaw10.VmFuel", spec := "vmFuel", unfollowed := true, recurses := true, apart := false, narrowed := true }
def VmFuelUptoSaid : Prop := vmFuelUptoRow.holds Try.pinned (OpenSpec.upto vmFuelSpec)

end Rows
end Go.Proofs.Ytlknolbfhfcflaa
