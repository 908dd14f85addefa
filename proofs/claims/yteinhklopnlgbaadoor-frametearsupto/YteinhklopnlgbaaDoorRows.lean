/-
  NARROWER THAN 'FOR EVERY INPUT', by the rows' own cells (each row's printed sentence says how): FrameEncodes: laid · FrameDecodes: laid · FrameSees: laid · FrameTears: laid · FrameRows: laid.
  DERIVED. THE GIVEN ROWS OF THIS SEAT. 5 by the template 'for every input the law returns true; each argument reads behind the call as it read before'; 0 by the template 'total and deterministic' (their statements: YteinhklopnlgbaaDoorTotals.lean).
  GIVEN WITH THE SEED: the statements are not yours to turn. If you find one false, say at which input.
  Laid BY PROGRAM, IN A SANDBOX (cutbox-rows.mjs): the forced cells as the released guide's own fill.sh prints them over the translation e2a141831ca841cf… (all of the seat's roots in one cut). By AI agents, Wed Nov 11 2026. No macro, syntax, notation, axiom, sorry.
-/
import Derived.Test.YteinhklopnlgbaaDoorChecked
import GoSem.Claim
import GoSem.ClaimJoined
import GoSem.ClaimMapViews
import Derived.JoinedTies
import Derived.KernelRfl
namespace Go.Proofs.YteinhklopnlgbaaDoor
/- THE CELL 'sum', in the pinned program and in every row, IS THE sha256 OF THE DUMP (.gsa) THAT YteinhklopnlgbaaDoorProg.lean LOADS. Nothing in Lean hashes anything: it is a label: what it is worth is what the hold of that sum in a sandbox is worth. -/
noncomputable def Tryd.pinned : Pinned := { name := "yteinhklopnlgbaadoor", sum := "e2a141831ca841cfb74cab3d0ee521c24bf293670f6c3ae64f321ae95e13bf36", checked := Tryd.checked }
namespace Rows
def none {H : Type} : Left H := { results := [], args := [] }

/- WHAT THE LISTED PACKAGE-LEVEL VARIABLES READ AS WHEN THE CALL BEGINS. Each datum BY PROGRAM (the guide's laid-datum.mjs) off the statement by which the dump's own 'gosem.cut.vars' lays the variable. In a bare row this is a premise. The card (YteinhklopnlgbaaDoorCards.lean) ties it to the program's text. -/
def laid_gauntlet_octet_sumSteps {H : Type} : DataW H := .agg [.lit (.int .u32 0), .lit (.int .u32 274646895), .lit (.int .u32 549293790), .lit (.int .u32 820201905), .lit (.int .u32 1098587580), .lit (.int .u32 1361435347), .lit (.int .u32 1640403810), .lit (.int .u32 1905808397), .lit (.int .u32 2197175160), .lit (.int .u32 2460548119), .lit (.int .u32 2722870694), .lit (.int .u32 2987750089), .lit (.int .u32 3280807620), .lit (.int .u32 3553878443), .lit (.int .u32 3811616794), .lit (.int .u32 4084100981)]

/-- 'gauntletlaw4.FrameEncodes': WHATEVER THE INPUT: true; the input reads as it did. -/
def frameEncodesSpec : ChangeSpec := { name := "frameEncodes", fn := fun _ => fun
  | [d1, d2] => { results := [.lit (.bool true)], args := [d1, d2] }
  | _ => none }
def frameEncodesRow : OpenClaim := { program := "yteinhklopnlgbaadoor", sum := "e2a141831ca841cfb74cab3d0ee521c24bf293670f6c3ae64f321ae95e13bf36", func := "gauntlet/gauntletlaw4.FrameEncodes", spec := "frameEncodes", unfollowed := true, recurses := true, named := ["gauntlet/octet.sumSteps"], apart := false, laid := [("gauntlet/octet.sumSteps", laid_gauntlet_octet_sumSteps)] }
def FrameEncodesSaid : Prop := frameEncodesRow.holds Tryd.pinned (OpenSpec.ofChange frameEncodesSpec)

/-- ITS FALSE NEIGHBOUR: 'it returns false'. Refute it at one input. -/
def frameEncodesWrong : ChangeSpec := { name := "frameEncodes", fn := fun _ => fun
  | [d1, d2] => { results := [.lit (.bool false)], args := [d1, d2] }
  | _ => none }
def FrameEncodesWrongFalsely : Prop := frameEncodesRow.holds Tryd.pinned (OpenSpec.ofChange frameEncodesWrong)

/-- 'gauntletlaw4.FrameDecodes': WHATEVER THE INPUT: true; the input reads as it did. -/
def frameDecodesSpec : ChangeSpec := { name := "frameDecodes", fn := fun _ => fun
  | [d] => { results := [.lit (.bool true)], args := [d] }
  | _ => none }
def frameDecodesRow : OpenClaim := { program := "yteinhklopnlgbaadoor", sum := "e2a141831ca841cfb74cab3d0ee521c24bf293670f6c3ae64f321ae95e13bf36", func := "gauntlet/gauntletlaw4.FrameDecodes", spec := "frameDecodes", unfollowed := true, recurses := true, named := ["gauntlet/octet.sumSteps"], apart := false, laid := [("gauntlet/octet.sumSteps", laid_gauntlet_octet_sumSteps)] }
def FrameDecodesSaid : Prop := frameDecodesRow.holds Tryd.pinned (OpenSpec.ofChange frameDecodesSpec)

/-- ITS FALSE NEIGHBOUR: 'it returns false'. Refute it at one input. -/
def frameDecodesWrong : ChangeSpec := { name := "frameDecodes", fn := fun _ => fun
  | [d] => { results := [.lit (.bool false)], args := [d] }
  | _ => none }
def FrameDecodesWrongFalsely : Prop := frameDecodesRow.holds Tryd.pinned (OpenSpec.ofChange frameDecodesWrong)

/-- 'gauntletlaw4.FrameSees': WHATEVER THE INPUT: true; the input reads as it did. -/
def frameSeesSpec : ChangeSpec := { name := "frameSees", fn := fun _ => fun
  | [d1, d2, d3, d4] => { results := [.lit (.bool true)], args := [d1, d2, d3, d4] }
  | _ => none }
def frameSeesRow : OpenClaim := { program := "yteinhklopnlgbaadoor", sum := "e2a141831ca841cfb74cab3d0ee521c24bf293670f6c3ae64f321ae95e13bf36", func := "gauntlet/gauntletlaw4.FrameSees", spec := "frameSees", unfollowed := true, recurses := true, named := ["gauntlet/octet.sumSteps"], apart := false, laid := [("gauntlet/octet.sumSteps", laid_gauntlet_octet_sumSteps)] }
def FrameSeesSaid : Prop := frameSeesRow.holds Tryd.pinned (OpenSpec.ofChange frameSeesSpec)

/-- ITS FALSE NEIGHBOUR: 'it returns false'. Refute it at one input. -/
def frameSeesWrong : ChangeSpec := { name := "frameSees", fn := fun _ => fun
  | [d1, d2, d3, d4] => { results := [.lit (.bool false)], args := [d1, d2, d3, d4] }
  | _ => none }
def FrameSeesWrongFalsely : Prop := frameSeesRow.holds Tryd.pinned (OpenSpec.ofChange frameSeesWrong)

/-- 'gauntletlaw4.FrameTears': WHATEVER THE INPUT: true; the input reads as it did. -/
def frameTearsSpec : ChangeSpec := { name := "frameTears", fn := fun _ => fun
  | [d1, d2] => { results := [.lit (.bool true)], args := [d1, d2] }
  | _ => none }
def frameTearsRow : OpenClaim := { program := "yteinhklopnlgbaadoor", sum := "e2a141831ca841cfb74cab3d0ee521c24bf293670f6c3ae64f321ae95e13bf36", func := "gauntlet/gauntletlaw4.FrameTears", spec := "frameTears", unfollowed := true, recurses := true, named := ["gauntlet/octet.sumSteps"], apart := false, laid := [("gauntlet/octet.sumSteps", laid_gauntlet_octet_sumSteps)] }
def FrameTearsSaid : Prop := frameTearsRow.holds Tryd.pinned (OpenSpec.ofChange frameTearsSpec)

/-- ITS FALSE NEIGHBOUR: 'it returns false'. Refute it at one input. -/
def frameTearsWrong : ChangeSpec := { name := "frameTears", fn := fun _ => fun
  | [d1, d2] => { results := [.lit (.bool false)], args := [d1, d2] }
  | _ => none }
def FrameTearsWrongFalsely : Prop := frameTearsRow.holds Tryd.pinned (OpenSpec.ofChange frameTearsWrong)

/-- 'gauntletlaw4.FrameRows': WHATEVER THE INPUT: true; the input reads as it did. -/
def frameRowsSpec : ChangeSpec := { name := "frameRows", fn := fun _ => fun
  | [d1, d2] => { results := [.lit (.bool true)], args := [d1, d2] }
  | _ => none }
def frameRowsRow : OpenClaim := { program := "yteinhklopnlgbaadoor", sum := "e2a141831ca841cfb74cab3d0ee521c24bf293670f6c3ae64f321ae95e13bf36", func := "gauntlet/gauntletlaw4.FrameRows", spec := "frameRows", unfollowed := true, recurses := true, named := ["gauntlet/octet.sumSteps"], apart := false, laid := [("gauntlet/octet.sumSteps", laid_gauntlet_octet_sumSteps)] }
def FrameRowsSaid : Prop := frameRowsRow.holds Tryd.pinned (OpenSpec.ofChange frameRowsSpec)

/-- ITS FALSE NEIGHBOUR: 'it returns false'. Refute it at one input. -/
def frameRowsWrong : ChangeSpec := { name := "frameRows", fn := fun _ => fun
  | [d1, d2] => { results := [.lit (.bool false)], args := [d1, d2] }
  | _ => none }
def FrameRowsWrongFalsely : Prop := frameRowsRow.holds Tryd.pinned (OpenSpec.ofChange frameRowsWrong)

/- THE SECOND FORM. 'bulk': how many values and letters a reading holds, each counted each time it is reached (what is shared counts as often as it is met; a slice's spare places count too). A statement '..UptoSaid' is the law's where the arguments, and the package variables that the reading takes, are together of bulk at most 1048576: NARROWER than '..Said'. Prove '..Said' where nothing that the law and all that it calls make is longer than what came in: it says more and counts as full. Else prove '..UptoSaid'. A law counts once. -/
mutual
def uptoBulk {H : Type} : DataW H → Nat
  | .lit (.string bytes) => bytes.length + 1
  | .lit _ => 1
  | .nil => 1
  | .ptr d => uptoBulk d + 1
  | .slice elems spare => uptoBulkAll elems + uptoBulkAll spare + 1
  | .agg parts => uptoBulkAll parts + 1
  | .iface _ d => uptoBulk d + 1
  | .map entries => uptoBulkEntries entries + 1
  | .held _ => 1
def uptoBulkAll {H : Type} : List (DataW H) → Nat
  | [] => 0
  | d :: r => uptoBulk d + uptoBulkAll r
def uptoBulkEntries {H : Type} : List (Lit × DataW H) → Nat
  | [] => 0
  | x :: r => uptoBulkEntry x + uptoBulkEntries r
def uptoBulkEntry {H : Type} : Lit × DataW H → Nat
  | (.string bytes, d) => bytes.length + uptoBulk d + 1
  | (_, d) => uptoBulk d + 1
 end
def uptoSmall : (H : Type) → List (DataW H) → Bool := fun _ ds => decide (uptoBulkAll ds ≤ 1048576)
def OpenSpec.upto (s : _root_.Go.ChangeSpec) : _root_.Go.OpenSpec := { _root_.Go.OpenSpec.ofChange s with cond := some uptoSmall }

/-- 'gauntletlaw4.FrameEncodes', WHERE WHAT IT READS IS OF BULK AT MOST 1048576: true; the input reads as it did. -/
def frameEncodesUptoRow : OpenClaim := { program := "yteinhklopnlgbaadoor", sum := "e2a141831ca841cfb74cab3d0ee521c24bf293670f6c3ae64f321ae95e13bf36", func := "gauntlet/gauntletlaw4.FrameEncodes", spec := "frameEncodes", unfollowed := true, recurses := true, named := ["gauntlet/octet.sumSteps"], apart := false, laid := [("gauntlet/octet.sumSteps", laid_gauntlet_octet_sumSteps)], narrowed := true }
def FrameEncodesUptoSaid : Prop := frameEncodesUptoRow.holds Tryd.pinned (OpenSpec.upto frameEncodesSpec)

/-- 'gauntletlaw4.FrameDecodes', WHERE WHAT IT READS IS OF BULK AT MOST 1048576: true; the input reads as it did. -/
def frameDecodesUptoRow : OpenClaim := { program := "yteinhklopnlgbaadoor", sum := "e2a141831ca841cfb74cab3d0ee521c24bf293670f6c3ae64f321ae95e13bf36", func := "gauntlet/gauntletlaw4.FrameDecodes", spec := "frameDecodes", unfollowed := true, recurses := true, named := ["gauntlet/octet.sumSteps"], apart := false, laid := [("gauntlet/octet.sumSteps", laid_gauntlet_octet_sumSteps)], narrowed := true }
def FrameDecodesUptoSaid : Prop := frameDecodesUptoRow.holds Tryd.pinned (OpenSpec.upto frameDecodesSpec)

/-- 'gauntletlaw4.FrameSees', WHERE WHAT IT READS IS OF BULK AT MOST 1048576: true; the input reads as it did. -/
def frameSeesUptoRow : OpenClaim := { program := "yteinhklopnlgbaadoor", sum := "e2a141831ca841cfb74cab3d0ee521c24bf293670f6c3ae64f321ae95e13bf36", func := "gauntlet/gauntletlaw4.FrameSees", spec := "frameSees", unfollowed := true, recurses := true, named := ["gauntlet/octet.sumSteps"], apart := false, laid := [("gauntlet/octet.sumSteps", laid_gauntlet_octet_sumSteps)], narrowed := true }
def FrameSeesUptoSaid : Prop := frameSeesUptoRow.holds Tryd.pinned (OpenSpec.upto frameSeesSpec)

/-- 'gauntletlaw4.FrameTears', WHERE WHAT IT READS IS OF BULK AT MOST 1048576: true; the input reads as it did. -/
def frameTearsUptoRow : OpenClaim := { program := "yteinhklopnlgbaadoor", sum := "e2a141831ca841cfb74cab3d0ee521c24bf293670f6c3ae64f321ae95e13bf36", func := "gauntlet/gauntletlaw4.FrameTears", spec := "frameTears", unfollowed := true, recurses := true, named := ["gauntlet/octet.sumSteps"], apart := false, laid := [("gauntlet/octet.sumSteps", laid_gauntlet_octet_sumSteps)], narrowed := true }
def FrameTearsUptoSaid : Prop := frameTearsUptoRow.holds Tryd.pinned (OpenSpec.upto frameTearsSpec)

/-- 'gauntletlaw4.FrameRows', WHERE WHAT IT READS IS OF BULK AT MOST 1048576: true; the input reads as it did. -/
def frameRowsUptoRow : OpenClaim := { program := "yteinhklopnlgbaadoor", sum := "e2a141831ca841cfb74cab3d0ee521c24bf293670f6c3ae64f321ae95e13bf36", func := "gauntlet/gauntletlaw4.FrameRows", spec := "frameRows", unfollowed := true, recurses := true, named := ["gauntlet/octet.sumSteps"], apart := false, laid := [("gauntlet/octet.sumSteps", laid_gauntlet_octet_sumSteps)], narrowed := true }
def FrameRowsUptoSaid : Prop := frameRowsUptoRow.holds Tryd.pinned (OpenSpec.upto frameRowsSpec)

end Rows
end Go.Proofs.YteinhklopnlgbaaDoor
