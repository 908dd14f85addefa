/-
  DERIVED. GIVEN WITH THE SEED: THE CARDS: each row of YtahodgmdikaedabDoorRows.lean that lists a variable, with what it lists TIED to the program's text (the seventh form; the later family's looks); each row that meets fmt, with fmt's text TOLD by the authors' own Lean function (tested against real Go, not proved from fmt's source: count such statements apart). THE CARD IS WHAT COUNTS. Prove the row's statement (the work); the ties are given (YtahodgmdikaedabDoorTie.lean); close each card by the builder's one call (the guide's Derived/Test/ToyasCard.lean, 'card_holds'). Laid BY PROGRAM, IN A SANDBOX (cutbox-door.mjs). By AI agents, Wed Nov 11 2026. No macro, syntax, notation, axiom, sorry.
-/
import Derived.Test.YtahodgmdikaedabDoorRows
import GoSem.ClaimSeven
namespace Go.Proofs.YtahodgmdikaedabDoor
namespace Rows

/-- THE TIED CARD OF 'gauntletlaw16.LinkFull'. -/
def linkFullCard : Claim7 := { stood := { row := linkFullRow, standIns := [], harness := (true, "512001c2b9a774e7adbe744f225a7ab11016d2e519a53f7598f0a5c4fb44bdf3"), looks := false }, kinds := [], alts := [], laidByText := true, laidKinds := [.data], laidTests := true, laidLooks := .later }
def LinkFullCardSaid : Prop := Claim7.holds Tryd.pinned (.plain (OpenSpec.ofChange linkFullSpec)) linkFullCard

/-- THE TIED CARD OF 'gauntletlaw16.LinkIds'. -/
def linkIdsCard : Claim7 := { stood := { row := linkIdsRow, standIns := [], harness := (true, "512001c2b9a774e7adbe744f225a7ab11016d2e519a53f7598f0a5c4fb44bdf3"), looks := false }, kinds := [], alts := [], laidByText := true, laidKinds := [.data], laidTests := true, laidLooks := .later }
def LinkIdsCardSaid : Prop := Claim7.holds Tryd.pinned (.plain (OpenSpec.ofChange linkIdsSpec)) linkIdsCard

/-- THE TIED CARD OF 'gauntletlaw16.LinkTicks'. -/
def linkTicksCard : Claim7 := { stood := { row := linkTicksRow, standIns := [], harness := (true, "512001c2b9a774e7adbe744f225a7ab11016d2e519a53f7598f0a5c4fb44bdf3"), looks := false }, kinds := [], alts := [], laidByText := true, laidKinds := [.data], laidTests := true, laidLooks := .later }
def LinkTicksCardSaid : Prop := Claim7.holds Tryd.pinned (.plain (OpenSpec.ofChange linkTicksSpec)) linkTicksCard

/-- THE SECOND FORM's CARD OF 'gauntletlaw16.LinkFull'. -/
def linkFullUptoCard : Claim7 := { stood := { row := linkFullUptoRow, standIns := [], harness := (true, "512001c2b9a774e7adbe744f225a7ab11016d2e519a53f7598f0a5c4fb44bdf3"), looks := false }, kinds := [], alts := [], laidByText := true, laidKinds := [.data], laidTests := true, laidLooks := .later }
def LinkFullUptoCardSaid : Prop := Claim7.holds Tryd.pinned (.plain (OpenSpec.upto linkFullSpec)) linkFullUptoCard

/-- THE SECOND FORM's CARD OF 'gauntletlaw16.LinkIds'. -/
def linkIdsUptoCard : Claim7 := { stood := { row := linkIdsUptoRow, standIns := [], harness := (true, "512001c2b9a774e7adbe744f225a7ab11016d2e519a53f7598f0a5c4fb44bdf3"), looks := false }, kinds := [], alts := [], laidByText := true, laidKinds := [.data], laidTests := true, laidLooks := .later }
def LinkIdsUptoCardSaid : Prop := Claim7.holds Tryd.pinned (.plain (OpenSpec.upto linkIdsSpec)) linkIdsUptoCard

/-- THE SECOND FORM's CARD OF 'gauntletlaw16.LinkTicks'. -/
def linkTicksUptoCard : Claim7 := { stood := { row := linkTicksUptoRow, standIns := [], harness := (true, "512001c2b9a774e7adbe744f225a7ab11016d2e519a53f7598f0a5c4fb44bdf3"), looks := false }, kinds := [], alts := [], laidByText := true, laidKinds := [.data], laidTests := true, laidLooks := .later }
def LinkTicksUptoCardSaid : Prop := Claim7.holds Tryd.pinned (.plain (OpenSpec.upto linkTicksSpec)) linkTicksUptoCard
end Rows
end Go.Proofs.YtahodgmdikaedabDoor
