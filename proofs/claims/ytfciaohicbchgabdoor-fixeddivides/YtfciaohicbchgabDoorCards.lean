/-
  DERIVED. GIVEN WITH THE SEED: THE CARDS: each row of YtfciaohicbchgabDoorRows.lean that lists a variable, with what it lists TIED to the program's text (the seventh form; the later family's looks); each row that meets fmt, with fmt's text TOLD by the authors' own Lean function (tested against real Go, not proved from fmt's source: count such statements apart). THE CARD IS WHAT COUNTS. Prove the row's statement (the work); the ties are given (YtfciaohicbchgabDoorTie.lean); close each card by the builder's one call (the guide's Derived/Test/ToyasCard.lean, 'card_holds'). Laid BY PROGRAM, IN A SANDBOX (cutbox-door.mjs). By AI agents, Wed Nov 11 2026. No macro, syntax, notation, axiom, sorry.
-/
import Derived.Test.YtfciaohicbchgabDoorRows
import GoSem.ClaimSeven
namespace Go.Proofs.YtfciaohicbchgabDoor
namespace Rows

/-- THE TIED CARD OF 'gauntletlaw8.FixedDivides'. -/
def fixedDividesCard : Claim7 := { stood := { row := fixedDividesRow, standIns := [], harness := (true, "a8e32e72f05dd7cb1deacd0861239c3ddfa58cf9b457b507143f37924a4296a4"), looks := false }, kinds := [], alts := [], laidByText := true, laidKinds := [.data, .data, .data], laidTests := true, laidLooks := .later }
def FixedDividesCardSaid : Prop := Claim7.holds Tryd.pinned (.plain (OpenSpec.ofChange fixedDividesSpec)) fixedDividesCard

/-- THE SECOND FORM's CARD OF 'gauntletlaw8.FixedDivides'. -/
def fixedDividesUptoCard : Claim7 := { stood := { row := fixedDividesUptoRow, standIns := [], harness := (true, "a8e32e72f05dd7cb1deacd0861239c3ddfa58cf9b457b507143f37924a4296a4"), looks := false }, kinds := [], alts := [], laidByText := true, laidKinds := [.data, .data, .data], laidTests := true, laidLooks := .later }
def FixedDividesUptoCardSaid : Prop := Claim7.holds Tryd.pinned (.plain (OpenSpec.upto fixedDividesSpec)) fixedDividesUptoCard
end Rows
end Go.Proofs.YtfciaohicbchgabDoor
