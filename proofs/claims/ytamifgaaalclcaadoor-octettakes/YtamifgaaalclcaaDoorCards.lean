/-
  DERIVED. GIVEN WITH THE SEED: THE CARDS: each row of YtamifgaaalclcaaDoorRows.lean that lists a variable, with what it lists TIED to the program's text (the seventh form; the later family's looks); each row that meets fmt, with fmt's text TOLD by the authors' own Lean function (tested against real Go, not proved from fmt's source: count such statements apart). THE CARD IS WHAT COUNTS. Prove the row's statement (the work); the ties are given (YtamifgaaalclcaaDoorTie.lean); close each card by the builder's one call (the guide's Derived/Test/ToyasCard.lean, 'card_holds'). Laid BY PROGRAM, IN A SANDBOX (cutbox-door.mjs). By AI agents, Wed Nov 11 2026. No macro, syntax, notation, axiom, sorry.
-/
import Derived.Test.YtamifgaaalclcaaDoorRows
import GoSem.ClaimSeven
namespace Go.Proofs.YtamifgaaalclcaaDoor
namespace Rows

/-- THE TIED CARD OF 'gauntletlaw1.OctetLays'. -/
def octetLaysCard : Claim7 := { stood := { row := octetLaysRow, standIns := [], harness := (true, "9f3031b8af7d156a23754ad68571a125a23ab81bf96f6d9e2b2ba975c306bd5d"), looks := false }, kinds := [], alts := [], laidByText := true, laidKinds := [.data], laidTests := true, laidLooks := .later }
def OctetLaysCardSaid : Prop := Claim7.holds Tryd.pinned (.plain (OpenSpec.ofChange octetLaysSpec)) octetLaysCard

/-- THE TIED CARD OF 'gauntletlaw1.OctetTakes'. -/
def octetTakesCard : Claim7 := { stood := { row := octetTakesRow, standIns := [], harness := (true, "9f3031b8af7d156a23754ad68571a125a23ab81bf96f6d9e2b2ba975c306bd5d"), looks := false }, kinds := [], alts := [], laidByText := true, laidKinds := [.data], laidTests := true, laidLooks := .later }
def OctetTakesCardSaid : Prop := Claim7.holds Tryd.pinned (.plain (OpenSpec.ofChange octetTakesSpec)) octetTakesCard

/-- THE TIED CARD OF 'gauntletlaw1.OctetNums'. -/
def octetNumsCard : Claim7 := { stood := { row := octetNumsRow, standIns := [], harness := (true, "9f3031b8af7d156a23754ad68571a125a23ab81bf96f6d9e2b2ba975c306bd5d"), looks := false }, kinds := [], alts := [], laidByText := true, laidKinds := [.data], laidTests := true, laidLooks := .later }
def OctetNumsCardSaid : Prop := Claim7.holds Tryd.pinned (.plain (OpenSpec.ofChange octetNumsSpec)) octetNumsCard

/-- THE TIED CARD OF 'gauntletlaw1.OctetSums'. -/
def octetSumsCard : Claim7 := { stood := { row := octetSumsRow, standIns := [], harness := (true, "9f3031b8af7d156a23754ad68571a125a23ab81bf96f6d9e2b2ba975c306bd5d"), looks := false }, kinds := [], alts := [], laidByText := true, laidKinds := [.data], laidTests := true, laidLooks := .later }
def OctetSumsCardSaid : Prop := Claim7.holds Tryd.pinned (.plain (OpenSpec.ofChange octetSumsSpec)) octetSumsCard

/-- THE TIED CARD OF 'gauntletlaw1.OctetOfNothing'. -/
def octetOfNothingCard : Claim7 := { stood := { row := octetOfNothingRow, standIns := [], harness := (true, "9f3031b8af7d156a23754ad68571a125a23ab81bf96f6d9e2b2ba975c306bd5d"), looks := false }, kinds := [], alts := [], laidByText := true, laidKinds := [.data], laidTests := true, laidLooks := .later }
def OctetOfNothingCardSaid : Prop := Claim7.holds Tryd.pinned (.plain (OpenSpec.ofChange octetOfNothingSpec)) octetOfNothingCard

/-- THE TIED CARD OF 'gauntletlaw1.OctetJoins'. -/
def octetJoinsCard : Claim7 := { stood := { row := octetJoinsRow, standIns := [], harness := (true, "9f3031b8af7d156a23754ad68571a125a23ab81bf96f6d9e2b2ba975c306bd5d"), looks := false }, kinds := [], alts := [], laidByText := true, laidKinds := [.data], laidTests := true, laidLooks := .later }
def OctetJoinsCardSaid : Prop := Claim7.holds Tryd.pinned (.plain (OpenSpec.ofChange octetJoinsSpec)) octetJoinsCard

/-- THE SECOND FORM's CARD OF 'gauntletlaw1.OctetLays'. -/
def octetLaysUptoCard : Claim7 := { stood := { row := octetLaysUptoRow, standIns := [], harness := (true, "9f3031b8af7d156a23754ad68571a125a23ab81bf96f6d9e2b2ba975c306bd5d"), looks := false }, kinds := [], alts := [], laidByText := true, laidKinds := [.data], laidTests := true, laidLooks := .later }
def OctetLaysUptoCardSaid : Prop := Claim7.holds Tryd.pinned (.plain (OpenSpec.upto octetLaysSpec)) octetLaysUptoCard

/-- THE SECOND FORM's CARD OF 'gauntletlaw1.OctetTakes'. -/
def octetTakesUptoCard : Claim7 := { stood := { row := octetTakesUptoRow, standIns := [], harness := (true, "9f3031b8af7d156a23754ad68571a125a23ab81bf96f6d9e2b2ba975c306bd5d"), looks := false }, kinds := [], alts := [], laidByText := true, laidKinds := [.data], laidTests := true, laidLooks := .later }
def OctetTakesUptoCardSaid : Prop := Claim7.holds Tryd.pinned (.plain (OpenSpec.upto octetTakesSpec)) octetTakesUptoCard

/-- THE SECOND FORM's CARD OF 'gauntletlaw1.OctetNums'. -/
def octetNumsUptoCard : Claim7 := { stood := { row := octetNumsUptoRow, standIns := [], harness := (true, "9f3031b8af7d156a23754ad68571a125a23ab81bf96f6d9e2b2ba975c306bd5d"), looks := false }, kinds := [], alts := [], laidByText := true, laidKinds := [.data], laidTests := true, laidLooks := .later }
def OctetNumsUptoCardSaid : Prop := Claim7.holds Tryd.pinned (.plain (OpenSpec.upto octetNumsSpec)) octetNumsUptoCard

/-- THE SECOND FORM's CARD OF 'gauntletlaw1.OctetSums'. -/
def octetSumsUptoCard : Claim7 := { stood := { row := octetSumsUptoRow, standIns := [], harness := (true, "9f3031b8af7d156a23754ad68571a125a23ab81bf96f6d9e2b2ba975c306bd5d"), looks := false }, kinds := [], alts := [], laidByText := true, laidKinds := [.data], laidTests := true, laidLooks := .later }
def OctetSumsUptoCardSaid : Prop := Claim7.holds Tryd.pinned (.plain (OpenSpec.upto octetSumsSpec)) octetSumsUptoCard

/-- THE SECOND FORM's CARD OF 'gauntletlaw1.OctetOfNothing'. -/
def octetOfNothingUptoCard : Claim7 := { stood := { row := octetOfNothingUptoRow, standIns := [], harness := (true, "9f3031b8af7d156a23754ad68571a125a23ab81bf96f6d9e2b2ba975c306bd5d"), looks := false }, kinds := [], alts := [], laidByText := true, laidKinds := [.data], laidTests := true, laidLooks := .later }
def OctetOfNothingUptoCardSaid : Prop := Claim7.holds Tryd.pinned (.plain (OpenSpec.upto octetOfNothingSpec)) octetOfNothingUptoCard

/-- THE SECOND FORM's CARD OF 'gauntletlaw1.OctetJoins'. -/
def octetJoinsUptoCard : Claim7 := { stood := { row := octetJoinsUptoRow, standIns := [], harness := (true, "9f3031b8af7d156a23754ad68571a125a23ab81bf96f6d9e2b2ba975c306bd5d"), looks := false }, kinds := [], alts := [], laidByText := true, laidKinds := [.data], laidTests := true, laidLooks := .later }
def OctetJoinsUptoCardSaid : Prop := Claim7.holds Tryd.pinned (.plain (OpenSpec.upto octetJoinsSpec)) octetJoinsUptoCard
end Rows
end Go.Proofs.YtamifgaaalclcaaDoor
