/-
  NARROWER THAN 'FOR EVERY INPUT', by the rows' own cells (each row's printed sentence says how): OctetLays: laid · OctetTakes: laid · OctetNums: laid · OctetSums: laid · OctetOfNothing: laid · OctetJoins: laid.
  DERIVED. THE GIVEN ROWS OF THIS SEAT. 6 by the template 'for every input the law returns true; each argument reads behind the call as it read before'; 0 by the template 'total and deterministic' (their statements: YtamifgaaalclcaaDoorTotals.lean).
  GIVEN WITH THE SEED: the statements are not yours to turn. If you find one false, say at which input.
  Laid BY PROGRAM, IN A SANDBOX (cutbox-rows.mjs): the forced cells as the released guide's own fill.sh prints them over the translation 4cb4e408d9c07e4b… (all of the seat's roots in one cut). By AI agents, Wed Nov 11 2026. No macro, syntax, notation, axiom, sorry.
-/
import Derived.Test.YtamifgaaalclcaaDoorChecked
import GoSem.Claim
import GoSem.ClaimJoined
import GoSem.ClaimMapViews
import Derived.JoinedTies
import Derived.KernelRfl
namespace Go.Proofs.YtamifgaaalclcaaDoor
/- THE CELL 'sum', in the pinned program and in every row, IS THE sha256 OF THE DUMP (.gsa) THAT YtamifgaaalclcaaDoorProg.lean LOADS. Nothing in Lean hashes anything: it is a label: what it is worth is what the hold of that sum in a sandbox is worth. -/
noncomputable def Tryd.pinned : Pinned := { name := "ytamifgaaalclcaadoor", sum := "4cb4e408d9c07e4b2553ed31385df1740a59456e31d1efac5fa4d093c9155f51", checked := Tryd.checked }
namespace Rows
def none {H : Type} : Left H := { results := [], args := [] }

/- WHAT THE LISTED PACKAGE-LEVEL VARIABLES READ AS WHEN THE CALL BEGINS. Each datum BY PROGRAM (the guide's laid-datum.mjs) off the statement by which the dump's own 'gosem.cut.vars' lays the variable. In a bare row this is a premise. The card (YtamifgaaalclcaaDoorCards.lean) ties it to the program's text. -/
def laid_gauntlet_octet_sumSteps {H : Type} : DataW H := .agg [.lit (.int .u32 0), .lit (.int .u32 274646895), .lit (.int .u32 549293790), .lit (.int .u32 820201905), .lit (.int .u32 1098587580), .lit (.int .u32 1361435347), .lit (.int .u32 1640403810), .lit (.int .u32 1905808397), .lit (.int .u32 2197175160), .lit (.int .u32 2460548119), .lit (.int .u32 2722870694), .lit (.int .u32 2987750089), .lit (.int .u32 3280807620), .lit (.int .u32 3553878443), .lit (.int .u32 3811616794), .lit (.int .u32 4084100981)]

/-- 'gauntletlaw1.OctetLays': WHATEVER THE INPUT: true; the input reads as it did. -/
def octetLaysSpec : ChangeSpec := { name := "octetLays", fn := fun _ => fun
  | [d] => { results := [.lit (.bool true)], args := [d] }
  | _ => none }
def octetLaysRow : OpenClaim := { program := "ytamifgaaalclcaadoor", sum := "4cb4e408d9c07e4b2553ed31385df1740a59456e31d1efac5fa4d093c9155f51", func := "gauntlet/gauntletlaw1.OctetLays", spec := "octetLays", unfollowed := true, recurses := true, named := ["gauntlet/octet.sumSteps"], apart := false, laid := [("gauntlet/octet.sumSteps", laid_gauntlet_octet_sumSteps)] }
def OctetLaysSaid : Prop := octetLaysRow.holds Tryd.pinned (OpenSpec.ofChange octetLaysSpec)

/-- ITS FALSE NEIGHBOUR: 'it returns false'. Refute it at one input. -/
def octetLaysWrong : ChangeSpec := { name := "octetLays", fn := fun _ => fun
  | [d] => { results := [.lit (.bool false)], args := [d] }
  | _ => none }
def OctetLaysWrongFalsely : Prop := octetLaysRow.holds Tryd.pinned (OpenSpec.ofChange octetLaysWrong)

/-- 'gauntletlaw1.OctetTakes': WHATEVER THE INPUT: true; the input reads as it did. -/
def octetTakesSpec : ChangeSpec := { name := "octetTakes", fn := fun _ => fun
  | [d1, d2] => { results := [.lit (.bool true)], args := [d1, d2] }
  | _ => none }
def octetTakesRow : OpenClaim := { program := "ytamifgaaalclcaadoor", sum := "4cb4e408d9c07e4b2553ed31385df1740a59456e31d1efac5fa4d093c9155f51", func := "gauntlet/gauntletlaw1.OctetTakes", spec := "octetTakes", unfollowed := true, recurses := true, named := ["gauntlet/octet.sumSteps"], apart := false, laid := [("gauntlet/octet.sumSteps", laid_gauntlet_octet_sumSteps)] }
def OctetTakesSaid : Prop := octetTakesRow.holds Tryd.pinned (OpenSpec.ofChange octetTakesSpec)

/-- ITS FALSE NEIGHBOUR: 'it returns false'. Refute it at one input. -/
def octetTakesWrong : ChangeSpec := { name := "octetTakes", fn := fun _ => fun
  | [d1, d2] => { results := [.lit (.bool false)], args := [d1, d2] }
  | _ => none }
def OctetTakesWrongFalsely : Prop := octetTakesRow.holds Tryd.pinned (OpenSpec.ofChange octetTakesWrong)

/-- 'gauntletlaw1.OctetNums': WHATEVER THE INPUT: true; the input reads as it did. -/
def octetNumsSpec : ChangeSpec := { name := "octetNums", fn := fun _ => fun
  | [d1, d2] => { results := [.lit (.bool true)], args := [d1, d2] }
  | _ => none }
def octetNumsRow : OpenClaim := { program := "ytamifgaaalclcaadoor", sum := "4cb4e408d9c07e4b2553ed31385df1740a59456e31d1efac5fa4d093c9155f51", func := "gauntlet/gauntletlaw1.OctetNums", spec := "octetNums", unfollowed := true, recurses := true, named := ["gauntlet/octet.sumSteps"], apart := false, laid := [("gauntlet/octet.sumSteps", laid_gauntlet_octet_sumSteps)] }
def OctetNumsSaid : Prop := octetNumsRow.holds Tryd.pinned (OpenSpec.ofChange octetNumsSpec)

/-- ITS FALSE NEIGHBOUR: 'it returns false'. Refute it at one input. -/
def octetNumsWrong : ChangeSpec := { name := "octetNums", fn := fun _ => fun
  | [d1, d2] => { results := [.lit (.bool false)], args := [d1, d2] }
  | _ => none }
def OctetNumsWrongFalsely : Prop := octetNumsRow.holds Tryd.pinned (OpenSpec.ofChange octetNumsWrong)

/-- 'gauntletlaw1.OctetSums': WHATEVER THE INPUT: true; the input reads as it did. -/
def octetSumsSpec : ChangeSpec := { name := "octetSums", fn := fun _ => fun
  | [d1, d2, d3] => { results := [.lit (.bool true)], args := [d1, d2, d3] }
  | _ => none }
def octetSumsRow : OpenClaim := { program := "ytamifgaaalclcaadoor", sum := "4cb4e408d9c07e4b2553ed31385df1740a59456e31d1efac5fa4d093c9155f51", func := "gauntlet/gauntletlaw1.OctetSums", spec := "octetSums", unfollowed := true, recurses := true, named := ["gauntlet/octet.sumSteps"], apart := false, laid := [("gauntlet/octet.sumSteps", laid_gauntlet_octet_sumSteps)] }
def OctetSumsSaid : Prop := octetSumsRow.holds Tryd.pinned (OpenSpec.ofChange octetSumsSpec)

/-- ITS FALSE NEIGHBOUR: 'it returns false'. Refute it at one input. -/
def octetSumsWrong : ChangeSpec := { name := "octetSums", fn := fun _ => fun
  | [d1, d2, d3] => { results := [.lit (.bool false)], args := [d1, d2, d3] }
  | _ => none }
def OctetSumsWrongFalsely : Prop := octetSumsRow.holds Tryd.pinned (OpenSpec.ofChange octetSumsWrong)

/-- 'gauntletlaw1.OctetOfNothing': WHATEVER THE INPUT: true; the input reads as it did. -/
def octetOfNothingSpec : ChangeSpec := { name := "octetOfNothing", fn := fun _ => fun
  | [d] => { results := [.lit (.bool true)], args := [d] }
  | _ => none }
def octetOfNothingRow : OpenClaim := { program := "ytamifgaaalclcaadoor", sum := "4cb4e408d9c07e4b2553ed31385df1740a59456e31d1efac5fa4d093c9155f51", func := "gauntlet/gauntletlaw1.OctetOfNothing", spec := "octetOfNothing", unfollowed := true, recurses := true, named := ["gauntlet/octet.sumSteps"], apart := false, laid := [("gauntlet/octet.sumSteps", laid_gauntlet_octet_sumSteps)] }
def OctetOfNothingSaid : Prop := octetOfNothingRow.holds Tryd.pinned (OpenSpec.ofChange octetOfNothingSpec)

/-- ITS FALSE NEIGHBOUR: 'it returns false'. Refute it at one input. -/
def octetOfNothingWrong : ChangeSpec := { name := "octetOfNothing", fn := fun _ => fun
  | [d] => { results := [.lit (.bool false)], args := [d] }
  | _ => none }
def OctetOfNothingWrongFalsely : Prop := octetOfNothingRow.holds Tryd.pinned (OpenSpec.ofChange octetOfNothingWrong)

/-- 'gauntletlaw1.OctetJoins': WHATEVER THE INPUT: true; the input reads as it did. -/
def octetJoinsSpec : ChangeSpec := { name := "octetJoins", fn := fun _ => fun
  | [d1, d2] => { results := [.lit (.bool true)], args := [d1, d2] }
  | _ => none }
def octetJoinsRow : OpenClaim := { program := "ytamifgaaalclcaadoor", sum := "4cb4e408d9c07e4b2553ed31385df1740a59456e31d1efac5fa4d093c9155f51", func := "gauntlet/gauntletlaw1.OctetJoins", spec := "octetJoins", unfollowed := true, recurses := true, named := ["gauntlet/octet.sumSteps"], apart := false, laid := [("gauntlet/octet.sumSteps", laid_gauntlet_octet_sumSteps)] }
def OctetJoinsSaid : Prop := octetJoinsRow.holds Tryd.pinned (OpenSpec.ofChange octetJoinsSpec)

/-- ITS FALSE NEIGHBOUR: 'it returns false'. Refute it at one input. -/
def octetJoinsWrong : ChangeSpec := { name := "octetJoins", fn := fun _ => fun
  | [d1, d2] => { results := [.lit (.bool false)], args := [d1, d2] }
  | _ => none }
def OctetJoinsWrongFalsely : Prop := octetJoinsRow.holds Tryd.pinned (OpenSpec.ofChange octetJoinsWrong)

/- THE SECOND FORM. 'bulk': how many values and letters a reading holds, each counted each time it is reached (what is shared counts as often as it is met; a slice's spare places count too). A statement '..UptoSaid' is the law's where the arguments, and the package variables that the reading takes, are together of bulk at most 1048576: NARROWER than '..Said'. Prove '..Said' where nothing that the law and all that it calls make is longer than what came in: it says more and counts as full. Else prove '..UptoSaid'. A law counts once. -/
mutual
def uptoBulk {H : Type} : DataW H → Nat
  | .lit (.string bytes) => bytes.length + 1
  | .lit _ => 1
  | .nil => 1
  | .ptr d => uptoBulk d + 1
  | .slice elems spare => uptoBulkAll elems + uptoBulkAll spare + 1
  | .agg parts => uptoBulkAll parts + 1
  | .iface _ d => uptoBulk d + 1
  | .map entries => uptoBulkEntries entries + 1
  | .held _ => 1
def uptoBulkAll {H : Type} : List (DataW H) → Nat
  | [] => 0
  | d :: r => uptoBulk d + uptoBulkAll r
def uptoBulkEntries {H : Type} : List (Lit × DataW H) → Nat
  | [] => 0
  | x :: r => uptoBulkEntry x + uptoBulkEntries r
def uptoBulkEntry {H : Type} : Lit × DataW H → Nat
  | (.string bytes, d) => bytes.length + uptoBulk d + 1
  | (_, d) => uptoBulk d + 1
 end
def uptoSmall : (H : Type) → List (DataW H) → Bool := fun _ ds => decide (uptoBulkAll ds ≤ 1048576)
def OpenSpec.upto (s : _root_.Go.ChangeSpec) : _root_.Go.OpenSpec := { _root_.Go.OpenSpec.ofChange s with cond := some uptoSmall }

/-- 'gauntletlaw1.OctetLays', WHERE WHAT IT READS IS OF BULK AT MOST 1048576: true; the input reads as it did. -/
def octetLaysUptoRow : OpenClaim := { program := "ytamifgaaalclcaadoor", sum := "4cb4e408d9c07e4b2553ed31385df1740a59456e31d1efac5fa4d093c9155f51", func := "gauntlet/gauntletlaw1.OctetLays", spec := "octetLays", unfollowed := true, recurses := true, named := ["gauntlet/octet.sumSteps"], apart := false, laid := [("gauntlet/octet.sumSteps", laid_gauntlet_octet_sumSteps)], narrowed := true }
def OctetLaysUptoSaid : Prop := octetLaysUptoRow.holds Tryd.pinned (OpenSpec.upto octetLaysSpec)

/-- 'gauntletlaw1.OctetTakes', WHERE WHAT IT READS IS OF BULK AT MOST 1048576: true; the input reads as it did. -/
def octetTakesUptoRow : OpenClaim := { program := "ytamifgaaalclcaadoor", sum := "4cb4e408d9c07e4b2553ed31385df1740a59456e31d1efac5fa4d093c9155f51", func := "gauntlet/gauntletlaw1.OctetTakes", spec := "octetTakes", unfollowed := true, recurses := true, named := ["gauntlet/octet.sumSteps"], apart := false, laid := [("gauntlet/octet.sumSteps", laid_gauntlet_octet_sumSteps)], narrowed := true }
def OctetTakesUptoSaid : Prop := octetTakesUptoRow.holds Tryd.pinned (OpenSpec.upto octetTakesSpec)

/-- 'gauntletlaw1.OctetNums', WHERE WHAT IT READS IS OF BULK AT MOST 1048576: true; the input reads as it did. -/
def octetNumsUptoRow : OpenClaim := { program := "ytamifgaaalclcaadoor", sum := "4cb4e408d9c07e4b2553ed31385df1740a59456e31d1efac5fa4d093c9155f51", func := "gauntlet/gauntletlaw1.OctetNums", spec := "octetNums", unfollowed := true, recurses := true, named := ["gauntlet/octet.sumSteps"], apart := false, laid := [("gauntlet/octet.sumSteps", laid_gauntlet_octet_sumSteps)], narrowed := true }
def OctetNumsUptoSaid : Prop := octetNumsUptoRow.holds Tryd.pinned (OpenSpec.upto octetNumsSpec)

/-- 'gauntletlaw1.OctetSums', WHERE WHAT IT READS IS OF BULK AT MOST 1048576: true; the input reads as it did. -/
def octetSumsUptoRow : OpenClaim := { program := "ytamifgaaalclcaadoor", sum := "4cb4e408d9c07e4b2553ed31385df1740a59456e31d1efac5fa4d093c9155f51", func := "gauntlet/gauntletlaw1.OctetSums", spec := "octetSums", unfollowed := true, recurses := true, named := ["gauntlet/octet.sumSteps"], apart := false, laid := [("gauntlet/octet.sumSteps", laid_gauntlet_octet_sumSteps)], narrowed := true }
def OctetSumsUptoSaid : Prop := octetSumsUptoRow.holds Tryd.pinned (OpenSpec.upto octetSumsSpec)

/-- 'gauntletlaw1.OctetOfNothing', WHERE WHAT IT READS IS OF BULK AT MOST 1048576: true; the input reads as it did. -/
def octetOfNothingUptoRow : OpenClaim := { program := "ytamifgaaalclcaadoor", sum := "4cb4e408d9c07e4b2553ed31385df1740a59456e31d1efac5fa4d093c9155f51", func := "gauntlet/gauntletlaw1.OctetOfNothing", spec := "octetOfNothing", unfollowed := true, recurses := true, named := ["gauntlet/octet.sumSteps"], apart := false, laid := [("gauntlet/octet.sumSteps", laid_gauntlet_octet_sumSteps)], narrowed := true }
def OctetOfNothingUptoSaid : Prop := octetOfNothingUptoRow.holds Tryd.pinned (OpenSpec.upto octetOfNothingSpec)

/-- 'gauntletlaw1.OctetJoins', WHERE WHAT IT READS IS OF BULK AT MOST 1048576: true; the input reads as it did. -/
def octetJoinsUptoRow : OpenClaim := { program := "ytamifgaaalclcaadoor", sum := "4cb4e408d9c07e4b2553ed31385df1740a59456e31d1efac5fa4d093c9155f51", func := "gauntlet/gauntletlaw1.OctetJoins", spec := "octetJoins", unfollowed := true, recurses := true, named := ["gauntlet/octet.sumSteps"], apart := false, laid := [("gauntlet/octet.sumSteps", laid_gauntlet_octet_sumSteps)], narrowed := true }
def OctetJoinsUptoSaid : Prop := octetJoinsUptoRow.holds Tryd.pinned (OpenSpec.upto octetJoinsSpec)

end Rows
end Go.Proofs.YtamifgaaalclcaaDoor
