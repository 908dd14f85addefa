/-
  What every row of this seat shares.
-/
import Derived.Test.YtilaankipjcgaaaRows
import Derived.Test.YtilaankipjcgaaaKnown
import Derived.WalkKit
import Derived.ProofKit
import Derived.OpenShut
import Derived.ChangeOld
import Derived.Deep.DeepHandedRow
import Derived.LaidMore
namespace Go.Proofs.Ytilaankipjcgaaa
open Go.ChangeShapes Go.WideShapes Go.ChangeAt Go.RowKit

theorem ownK : ownKnob Try.prog.godebug = none := by kernel_rfl
theorem laidOut : laidOutB Try.prog = true := by kernel_rfl
theorem wf_in64 {z : Int} (h : (Lit.int .i64 z).wf = true) : In64 z := bounds_i64 h
end Go.Proofs.Ytilaankipjcgaaa
