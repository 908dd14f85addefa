/-
  NARROWER THAN 'FOR EVERY INPUT', by the rows' own cells (each row's printed sentence says how): LinkPlays: laid · LinkOrder: laid · LinkEnds: laid · LinkAnyBytes: laid · LinkOfNothing: laid · LinkWindow: laid.
  DERIVED. THE GIVEN ROWS OF THIS SEAT. 6 by the template 'for every input the law returns true; each argument reads behind the call as it read before'; 0 by the template 'total and deterministic' (their statements: YtahodgmdikaedaaDoorTotals.lean).
  GIVEN WITH THE SEED: the statements are not yours to turn. If you find one false, say at which input.
  Laid BY PROGRAM, IN A SANDBOX (cutbox-rows.mjs): the forced cells as the released guide's own fill.sh prints them over the translation add3f8ba43ca5d61… (all of the seat's roots in one cut). By AI agents, Wed Nov 11 2026. No macro, syntax, notation, axiom, sorry.
-/
import Derived.Test.YtahodgmdikaedaaDoorChecked
import GoSem.Claim
import GoSem.ClaimJoined
import GoSem.ClaimMapViews
import Derived.JoinedTies
import Derived.KernelRfl
namespace Go.Proofs.YtahodgmdikaedaaDoor
/- THE CELL 'sum', in the pinned program and in every row, IS THE sha256 OF THE DUMP (.gsa) THAT YtahodgmdikaedaaDoorProg.lean LOADS. Nothing in Lean hashes anything: it is a label: what it is worth is what the hold of that sum in a sandbox is worth. -/
noncomputable def Tryd.pinned : Pinned := { name := "ytahodgmdikaedaadoor", sum := "add3f8ba43ca5d61ea1880015d70e3226d0206e51a9baf40cc09cf3ddd757092", checked := Tryd.checked }
namespace Rows
def none {H : Type} : Left H := { results := [], args := [] }

/- WHAT THE LISTED PACKAGE-LEVEL VARIABLES READ AS WHEN THE CALL BEGINS. Each datum BY PROGRAM (the guide's laid-datum.mjs) off the statement by which the dump's own 'gosem.cut.vars' lays the variable. In a bare row this is a premise. The card (YtahodgmdikaedaaDoorCards.lean) ties it to the program's text. -/
def laid_gauntlet_octet_sumSteps {H : Type} : DataW H := .agg [.lit (.int .u32 0), .lit (.int .u32 274646895), .lit (.int .u32 549293790), .lit (.int .u32 820201905), .lit (.int .u32 1098587580), .lit (.int .u32 1361435347), .lit (.int .u32 1640403810), .lit (.int .u32 1905808397), .lit (.int .u32 2197175160), .lit (.int .u32 2460548119), .lit (.int .u32 2722870694), .lit (.int .u32 2987750089), .lit (.int .u32 3280807620), .lit (.int .u32 3553878443), .lit (.int .u32 3811616794), .lit (.int .u32 4084100981)]

/-- 'gauntletlaw16.LinkPlays': WHATEVER THE INPUT: true; the input reads as it did. -/
def linkPlaysSpec : ChangeSpec := { name := "linkPlays", fn := fun _ => fun
  | [d1, d2] => { results := [.lit (.bool true)], args := [d1, d2] }
  | _ => none }
def linkPlaysRow : OpenClaim := { program := "ytahodgmdikaedaadoor", sum := "add3f8ba43ca5d61ea1880015d70e3226d0206e51a9baf40cc09cf3ddd757092", func := "gauntlet/gauntletlaw16.LinkPlays", spec := "linkPlays", unfollowed := true, recurses := true, named := ["gauntlet/octet.sumSteps"], apart := false, laid := [("gauntlet/octet.sumSteps", laid_gauntlet_octet_sumSteps)] }
def LinkPlaysSaid : Prop := linkPlaysRow.holds Tryd.pinned (OpenSpec.ofChange linkPlaysSpec)

/-- ITS FALSE NEIGHBOUR: 'it returns false'. Refute it at one input. -/
def linkPlaysWrong : ChangeSpec := { name := "linkPlays", fn := fun _ => fun
  | [d1, d2] => { results := [.lit (.bool false)], args := [d1, d2] }
  | _ => none }
def LinkPlaysWrongFalsely : Prop := linkPlaysRow.holds Tryd.pinned (OpenSpec.ofChange linkPlaysWrong)

/-- 'gauntletlaw16.LinkOrder': WHATEVER THE INPUT: true; the input reads as it did. -/
def linkOrderSpec : ChangeSpec := { name := "linkOrder", fn := fun _ => fun
  | [d1, d2, d3] => { results := [.lit (.bool true)], args := [d1, d2, d3] }
  | _ => none }
def linkOrderRow : OpenClaim := { program := "ytahodgmdikaedaadoor", sum := "add3f8ba43ca5d61ea1880015d70e3226d0206e51a9baf40cc09cf3ddd757092", func := "gauntlet/gauntletlaw16.LinkOrder", spec := "linkOrder", unfollowed := true, recurses := true, named := ["gauntlet/octet.sumSteps"], apart := false, laid := [("gauntlet/octet.sumSteps", laid_gauntlet_octet_sumSteps)] }
def LinkOrderSaid : Prop := linkOrderRow.holds Tryd.pinned (OpenSpec.ofChange linkOrderSpec)

/-- ITS FALSE NEIGHBOUR: 'it returns false'. Refute it at one input. -/
def linkOrderWrong : ChangeSpec := { name := "linkOrder", fn := fun _ => fun
  | [d1, d2, d3] => { results := [.lit (.bool false)], args := [d1, d2, d3] }
  | _ => none }
def LinkOrderWrongFalsely : Prop := linkOrderRow.holds Tryd.pinned (OpenSpec.ofChange linkOrderWrong)

/-- 'gauntletlaw16.LinkEnds': WHATEVER THE INPUT: true; the input reads as it did. -/
def linkEndsSpec : ChangeSpec := { name := "linkEnds", fn := fun _ => fun
  | [d1, d2] => { results := [.lit (.bool true)], args := [d1, d2] }
  | _ => none }
def linkEndsRow : OpenClaim := { program := "ytahodgmdikaedaadoor", sum := "add3f8ba43ca5d61ea1880015d70e3226d0206e51a9baf40cc09cf3ddd757092", func := "gauntlet/gauntletlaw16.LinkEnds", spec := "linkEnds", unfollowed := true, recurses := true, named := ["gauntlet/octet.sumSteps"], apart := false, laid := [("gauntlet/octet.sumSteps", laid_gauntlet_octet_sumSteps)] }
def LinkEndsSaid : Prop := linkEndsRow.holds Tryd.pinned (OpenSpec.ofChange linkEndsSpec)

/-- ITS FALSE NEIGHBOUR: 'it returns false'. Refute it at one input. -/
def linkEndsWrong : ChangeSpec := { name := "linkEnds", fn := fun _ => fun
  | [d1, d2] => { results := [.lit (.bool false)], args := [d1, d2] }
  | _ => none }
def LinkEndsWrongFalsely : Prop := linkEndsRow.holds Tryd.pinned (OpenSpec.ofChange linkEndsWrong)

/-- 'gauntletlaw16.LinkAnyBytes': WHATEVER THE INPUT: true; the input reads as it did. -/
def linkAnyBytesSpec : ChangeSpec := { name := "linkAnyBytes", fn := fun _ => fun
  | [d1, d2] => { results := [.lit (.bool true)], args := [d1, d2] }
  | _ => none }
def linkAnyBytesRow : OpenClaim := { program := "ytahodgmdikaedaadoor", sum := "add3f8ba43ca5d61ea1880015d70e3226d0206e51a9baf40cc09cf3ddd757092", func := "gauntlet/gauntletlaw16.LinkAnyBytes", spec := "linkAnyBytes", unfollowed := true, recurses := true, named := ["gauntlet/octet.sumSteps"], apart := false, laid := [("gauntlet/octet.sumSteps", laid_gauntlet_octet_sumSteps)] }
def LinkAnyBytesSaid : Prop := linkAnyBytesRow.holds Tryd.pinned (OpenSpec.ofChange linkAnyBytesSpec)

/-- ITS FALSE NEIGHBOUR: 'it returns false'. Refute it at one input. -/
def linkAnyBytesWrong : ChangeSpec := { name := "linkAnyBytes", fn := fun _ => fun
  | [d1, d2] => { results := [.lit (.bool false)], args := [d1, d2] }
  | _ => none }
def LinkAnyBytesWrongFalsely : Prop := linkAnyBytesRow.holds Tryd.pinned (OpenSpec.ofChange linkAnyBytesWrong)

/-- 'gauntletlaw16.LinkOfNothing': WHATEVER THE INPUT: true; the input reads as it did. -/
def linkOfNothingSpec : ChangeSpec := { name := "linkOfNothing", fn := fun _ => fun
  | [d] => { results := [.lit (.bool true)], args := [d] }
  | _ => none }
def linkOfNothingRow : OpenClaim := { program := "ytahodgmdikaedaadoor", sum := "add3f8ba43ca5d61ea1880015d70e3226d0206e51a9baf40cc09cf3ddd757092", func := "gauntlet/gauntletlaw16.LinkOfNothing", spec := "linkOfNothing", unfollowed := true, recurses := true, named := ["gauntlet/octet.sumSteps"], apart := false, laid := [("gauntlet/octet.sumSteps", laid_gauntlet_octet_sumSteps)] }
def LinkOfNothingSaid : Prop := linkOfNothingRow.holds Tryd.pinned (OpenSpec.ofChange linkOfNothingSpec)

/-- ITS FALSE NEIGHBOUR: 'it returns false'. Refute it at one input. -/
def linkOfNothingWrong : ChangeSpec := { name := "linkOfNothing", fn := fun _ => fun
  | [d] => { results := [.lit (.bool false)], args := [d] }
  | _ => none }
def LinkOfNothingWrongFalsely : Prop := linkOfNothingRow.holds Tryd.pinned (OpenSpec.ofChange linkOfNothingWrong)

/-- 'gauntletlaw16.LinkWindow': WHATEVER THE INPUT: true; the input reads as it did. -/
def linkWindowSpec : ChangeSpec := { name := "linkWindow", fn := fun _ => fun
  | [d1, d2] => { results := [.lit (.bool true)], args := [d1, d2] }
  | _ => none }
def linkWindowRow : OpenClaim := { program := "ytahodgmdikaedaadoor", sum := "add3f8ba43ca5d61ea1880015d70e3226d0206e51a9baf40cc09cf3ddd757092", func := "gauntlet/gauntletlaw16.LinkWindow", spec := "linkWindow", unfollowed := true, recurses := true, named := ["gauntlet/octet.sumSteps"], apart := false, laid := [("gauntlet/octet.sumSteps", laid_gauntlet_octet_sumSteps)] }
def LinkWindowSaid : Prop := linkWindowRow.holds Tryd.pinned (OpenSpec.ofChange linkWindowSpec)

/-- ITS FALSE NEIGHBOUR: 'it returns false'. Refute it at one input. -/
def linkWindowWrong : ChangeSpec := { name := "linkWindow", fn := fun _ => fun
  | [d1, d2] => { results := [.lit (.bool false)], args := [d1, d2] }
  | _ => none }
def LinkWindowWrongFalsely : Prop := linkWindowRow.holds Tryd.pinned (OpenSpec.ofChange linkWindowWrong)

/- THE SECOND FORM. 'bulk': how many values and letters a reading holds, each counted each time it is reached (what is shared counts as often as it is met; a slice's spare places count too). A statement '..UptoSaid' is the law's where the arguments, and the package variables that the reading takes, are together of bulk at most 1048576: NARROWER than '..Said'. Prove '..Said' where nothing that the law and all that it calls make is longer than what came in: it says more and counts as full. Else prove '..UptoSaid'. A law counts once. -/
mutual
def uptoBulk {H : Type} : DataW H → Nat
  | .lit (.string bytes) => bytes.length + 1
  | .lit _ => 1
  | .nil => 1
  | .ptr d => uptoBulk d + 1
  | .slice elems spare => uptoBulkAll elems + uptoBulkAll spare + 1
  | .agg parts => uptoBulkAll parts + 1
  | .iface _ d => uptoBulk d + 1
  | .map entries => uptoBulkEntries entries + 1
  | .held _ => 1
def uptoBulkAll {H : Type} : List (DataW H) → Nat
  | [] => 0
  | d :: r => uptoBulk d + uptoBulkAll r
def uptoBulkEntries {H : Type} : List (Lit × DataW H) → Nat
  | [] => 0
  | x :: r => uptoBulkEntry x + uptoBulkEntries r
def uptoBulkEntry {H : Type} : Lit × DataW H → Nat
  | (.string bytes, d) => bytes.length + uptoBulk d + 1
  | (_, d) => uptoBulk d + 1
 end
def uptoSmall : (H : Type) → List (DataW H) → Bool := fun _ ds => decide (uptoBulkAll ds ≤ 1048576)
def OpenSpec.upto (s : _root_.Go.ChangeSpec) : _root_.Go.OpenSpec := { _root_.Go.OpenSpec.ofChange s with cond := some uptoSmall }

/-- 'gauntletlaw16.LinkPlays', WHERE WHAT IT READS IS OF BULK AT MOST 1048576: true; the input reads as it did. -/
def linkPlaysUptoRow : OpenClaim := { program := "ytahodgmdikaedaadoor", sum := "add3f8ba43ca5d61ea1880015d70e3226d0206e51a9baf40cc09cf3ddd757092", func := "gauntlet/gauntletlaw16.LinkPlays", spec := "linkPlays", unfollowed := true, recurses := true, named := ["gauntlet/octet.sumSteps"], apart := false, laid := [("gauntlet/octet.sumSteps", laid_gauntlet_octet_sumSteps)], narrowed := true }
def LinkPlaysUptoSaid : Prop := linkPlaysUptoRow.holds Tryd.pinned (OpenSpec.upto linkPlaysSpec)

/-- 'gauntletlaw16.LinkOrder', WHERE WHAT IT READS IS OF BULK AT MOST 1048576: true; the input reads as it did. -/
def linkOrderUptoRow : OpenClaim := { program := "ytahodgmdikaedaadoor", sum := "add3f8ba43ca5d61ea1880015d70e3226d0206e51a9baf40cc09cf3ddd757092", func := "gauntlet/gauntletlaw16.LinkOrder", spec := "linkOrder", unfollowed := true, recurses := true, named := ["gauntlet/octet.sumSteps"], apart := false, laid := [("gauntlet/octet.sumSteps", laid_gauntlet_octet_sumSteps)], narrowed := true }
def LinkOrderUptoSaid : Prop := linkOrderUptoRow.holds Tryd.pinned (OpenSpec.upto linkOrderSpec)

/-- 'gauntletlaw16.LinkEnds', WHERE WHAT IT READS IS OF BULK AT MOST 1048576: true; the input reads as it did. -/
def linkEndsUptoRow : OpenClaim := { program := "ytahodgmdikaedaadoor", sum := "add3f8ba43ca5d61ea1880015d70e3226d0206e51a9baf40cc09cf3ddd757092", func := "gauntlet/gauntletlaw16.LinkEnds", spec := "linkEnds", unfollowed := true, recurses := true, named := ["gauntlet/octet.sumSteps"], apart := false, laid := [("gauntlet/octet.sumSteps", laid_gauntlet_octet_sumSteps)], narrowed := true }
def LinkEndsUptoSaid : Prop := linkEndsUptoRow.holds Tryd.pinned (OpenSpec.upto linkEndsSpec)

/-- 'gauntletlaw16.LinkAnyBytes', WHERE WHAT IT READS IS OF BULK AT MOST 1048576: true; the input reads as it did. -/
def linkAnyBytesUptoRow : OpenClaim := { program := "ytahodgmdikaedaadoor", sum := "add3f8ba43ca5d61ea1880015d70e3226d0206e51a9baf40cc09cf3ddd757092", func := "gauntlet/gauntletlaw16.LinkAnyBytes", spec := "linkAnyBytes", unfollowed := true, recurses := true, named := ["gauntlet/octet.sumSteps"], apart := false, laid := [("gauntlet/octet.sumSteps", laid_gauntlet_octet_sumSteps)], narrowed := true }
def LinkAnyBytesUptoSaid : Prop := linkAnyBytesUptoRow.holds Tryd.pinned (OpenSpec.upto linkAnyBytesSpec)

/-- 'gauntletlaw16.LinkOfNothing', WHERE WHAT IT READS IS OF BULK AT MOST 1048576: true; the input reads as it did. -/
def linkOfNothingUptoRow : OpenClaim := { program := "ytahodgmdikaedaadoor", sum := "add3f8ba43ca5d61ea1880015d70e3226d0206e51a9baf40cc09cf3ddd757092", func := "gauntlet/gauntletlaw16.LinkOfNothing", spec := "linkOfNothing", unfollowed := true, recurses := true, named := ["gauntlet/octet.sumSteps"], apart := false, laid := [("gauntlet/octet.sumSteps", laid_gauntlet_octet_sumSteps)], narrowed := true }
def LinkOfNothingUptoSaid : Prop := linkOfNothingUptoRow.holds Tryd.pinned (OpenSpec.upto linkOfNothingSpec)

/-- 'gauntletlaw16.LinkWindow', WHERE WHAT IT READS IS OF BULK AT MOST 1048576: true; the input reads as it did. -/
def linkWindowUptoRow : OpenClaim := { program := "ytahodgmdikaedaadoor", sum := "add3f8ba43ca5d61ea1880015d70e3226d0206e51a9baf40cc09cf3ddd757092", func := "gauntlet/gauntletlaw16.LinkWindow", spec := "linkWindow", unfollowed := true, recurses := true, named := ["gauntlet/octet.sumSteps"], apart := false, laid := [("gauntlet/octet.sumSteps", laid_gauntlet_octet_sumSteps)], narrowed := true }
def LinkWindowUptoSaid : Prop := linkWindowUptoRow.holds Tryd.pinned (OpenSpec.upto linkWindowSpec)

end Rows
end Go.Proofs.YtahodgmdikaedaaDoor
