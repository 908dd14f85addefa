/-
  DERIVED. GIVEN WITH THE SEED: THE CARDS: each row of YtahodgmdikaedaaDoorRows.lean that lists a variable, with what it lists TIED to the program's text (the seventh form; the later family's looks); each row that meets fmt, with fmt's text TOLD by the authors' own Lean function (tested against real Go, not proved from fmt's source: count such statements apart). THE CARD IS WHAT COUNTS. Prove the row's statement (the work); the ties are given (YtahodgmdikaedaaDoorTie.lean); close each card by the builder's one call (the guide's Derived/Test/ToyasCard.lean, 'card_holds'). Laid BY PROGRAM, IN A SANDBOX (cutbox-door.mjs). By AI agents, Wed Nov 11 2026. No macro, syntax, notation, axiom, sorry.
-/
import Derived.Test.YtahodgmdikaedaaDoorRows
import GoSem.ClaimSeven
namespace Go.Proofs.YtahodgmdikaedaaDoor
namespace Rows

/-- THE TIED CARD OF 'gauntletlaw16.LinkPlays'. -/
def linkPlaysCard : Claim7 := { stood := { row := linkPlaysRow, standIns := [], harness := (true, "b0addff884883032f2a3de9da7d3ae8a13c83f26e86d7b354b931adb639cf51f"), looks := false }, kinds := [], alts := [], laidByText := true, laidKinds := [.data], laidTests := true, laidLooks := .later }
def LinkPlaysCardSaid : Prop := Claim7.holds Tryd.pinned (.plain (OpenSpec.ofChange linkPlaysSpec)) linkPlaysCard

/-- THE TIED CARD OF 'gauntletlaw16.LinkOrder'. -/
def linkOrderCard : Claim7 := { stood := { row := linkOrderRow, standIns := [], harness := (true, "b0addff884883032f2a3de9da7d3ae8a13c83f26e86d7b354b931adb639cf51f"), looks := false }, kinds := [], alts := [], laidByText := true, laidKinds := [.data], laidTests := true, laidLooks := .later }
def LinkOrderCardSaid : Prop := Claim7.holds Tryd.pinned (.plain (OpenSpec.ofChange linkOrderSpec)) linkOrderCard

/-- THE TIED CARD OF 'gauntletlaw16.LinkEnds'. -/
def linkEndsCard : Claim7 := { stood := { row := linkEndsRow, standIns := [], harness := (true, "b0addff884883032f2a3de9da7d3ae8a13c83f26e86d7b354b931adb639cf51f"), looks := false }, kinds := [], alts := [], laidByText := true, laidKinds := [.data], laidTests := true, laidLooks := .later }
def LinkEndsCardSaid : Prop := Claim7.holds Tryd.pinned (.plain (OpenSpec.ofChange linkEndsSpec)) linkEndsCard

/-- THE TIED CARD OF 'gauntletlaw16.LinkAnyBytes'. -/
def linkAnyBytesCard : Claim7 := { stood := { row := linkAnyBytesRow, standIns := [], harness := (true, "b0addff884883032f2a3de9da7d3ae8a13c83f26e86d7b354b931adb639cf51f"), looks := false }, kinds := [], alts := [], laidByText := true, laidKinds := [.data], laidTests := true, laidLooks := .later }
def LinkAnyBytesCardSaid : Prop := Claim7.holds Tryd.pinned (.plain (OpenSpec.ofChange linkAnyBytesSpec)) linkAnyBytesCard

/-- THE TIED CARD OF 'gauntletlaw16.LinkOfNothing'. -/
def linkOfNothingCard : Claim7 := { stood := { row := linkOfNothingRow, standIns := [], harness := (true, "b0addff884883032f2a3de9da7d3ae8a13c83f26e86d7b354b931adb639cf51f"), looks := false }, kinds := [], alts := [], laidByText := true, laidKinds := [.data], laidTests := true, laidLooks := .later }
def LinkOfNothingCardSaid : Prop := Claim7.holds Tryd.pinned (.plain (OpenSpec.ofChange linkOfNothingSpec)) linkOfNothingCard

/-- THE TIED CARD OF 'gauntletlaw16.LinkWindow'. -/
def linkWindowCard : Claim7 := { stood := { row := linkWindowRow, standIns := [], harness := (true, "b0addff884883032f2a3de9da7d3ae8a13c83f26e86d7b354b931adb639cf51f"), looks := false }, kinds := [], alts := [], laidByText := true, laidKinds := [.data], laidTests := true, laidLooks := .later }
def LinkWindowCardSaid : Prop := Claim7.holds Tryd.pinned (.plain (OpenSpec.ofChange linkWindowSpec)) linkWindowCard

/-- THE SECOND FORM's CARD OF 'gauntletlaw16.LinkPlays'. -/
def linkPlaysUptoCard : Claim7 := { stood := { row := linkPlaysUptoRow, standIns := [], harness := (true, "b0addff884883032f2a3de9da7d3ae8a13c83f26e86d7b354b931adb639cf51f"), looks := false }, kinds := [], alts := [], laidByText := true, laidKinds := [.data], laidTests := true, laidLooks := .later }
def LinkPlaysUptoCardSaid : Prop := Claim7.holds Tryd.pinned (.plain (OpenSpec.upto linkPlaysSpec)) linkPlaysUptoCard

/-- THE SECOND FORM's CARD OF 'gauntletlaw16.LinkOrder'. -/
def linkOrderUptoCard : Claim7 := { stood := { row := linkOrderUptoRow, standIns := [], harness := (true, "b0addff884883032f2a3de9da7d3ae8a13c83f26e86d7b354b931adb639cf51f"), looks := false }, kinds := [], alts := [], laidByText := true, laidKinds := [.data], laidTests := true, laidLooks := .later }
def LinkOrderUptoCardSaid : Prop := Claim7.holds Tryd.pinned (.plain (OpenSpec.upto linkOrderSpec)) linkOrderUptoCard

/-- THE SECOND FORM's CARD OF 'gauntletlaw16.LinkEnds'. -/
def linkEndsUptoCard : Claim7 := { stood := { row := linkEndsUptoRow, standIns := [], harness := (true, "b0addff884883032f2a3de9da7d3ae8a13c83f26e86d7b354b931adb639cf51f"), looks := false }, kinds := [], alts := [], laidByText := true, laidKinds := [.data], laidTests := true, laidLooks := .later }
def LinkEndsUptoCardSaid : Prop := Claim7.holds Tryd.pinned (.plain (OpenSpec.upto linkEndsSpec)) linkEndsUptoCard

/-- THE SECOND FORM's CARD OF 'gauntletlaw16.LinkAnyBytes'. -/
def linkAnyBytesUptoCard : Claim7 := { stood := { row := linkAnyBytesUptoRow, standIns := [], harness := (true, "b0addff884883032f2a3de9da7d3ae8a13c83f26e86d7b354b931adb639cf51f"), looks := false }, kinds := [], alts := [], laidByText := true, laidKinds := [.data], laidTests := true, laidLooks := .later }
def LinkAnyBytesUptoCardSaid : Prop := Claim7.holds Tryd.pinned (.plain (OpenSpec.upto linkAnyBytesSpec)) linkAnyBytesUptoCard

/-- THE SECOND FORM's CARD OF 'gauntletlaw16.LinkOfNothing'. -/
def linkOfNothingUptoCard : Claim7 := { stood := { row := linkOfNothingUptoRow, standIns := [], harness := (true, "b0addff884883032f2a3de9da7d3ae8a13c83f26e86d7b354b931adb639cf51f"), looks := false }, kinds := [], alts := [], laidByText := true, laidKinds := [.data], laidTests := true, laidLooks := .later }
def LinkOfNothingUptoCardSaid : Prop := Claim7.holds Tryd.pinned (.plain (OpenSpec.upto linkOfNothingSpec)) linkOfNothingUptoCard

/-- THE SECOND FORM's CARD OF 'gauntletlaw16.LinkWindow'. -/
def linkWindowUptoCard : Claim7 := { stood := { row := linkWindowUptoRow, standIns := [], harness := (true, "b0addff884883032f2a3de9da7d3ae8a13c83f26e86d7b354b931adb639cf51f"), looks := false }, kinds := [], alts := [], laidByText := true, laidKinds := [.data], laidTests := true, laidLooks := .later }
def LinkWindowUptoCardSaid : Prop := Claim7.holds Tryd.pinned (.plain (OpenSpec.upto linkWindowSpec)) linkWindowUptoCard
end Rows
end Go.Proofs.YtahodgmdikaedaaDoor
