/-
  DERIVED. GIVEN WITH THE SEED: THE CARDS: each row of YtnkjhooeklodcaaGreatDoorRows.lean that lists a variable, with what it lists TIED to the program's text (the seventh form; the later family's looks); each row that meets fmt, with fmt's text TOLD by the authors' own Lean function (tested against real Go, not proved from fmt's source: count such statements apart). THE CARD IS WHAT COUNTS. Prove the row's statement (the work); the ties are given (YtnkjhooeklodcaaGreatDoorTie.lean); close each card by the builder's one call (the guide's Derived/Test/ToyasCard.lean, 'card_holds'). Laid BY PROGRAM, IN A SANDBOX (cutbox-door.mjs). By AI agents, Wed Nov 11 2026. No macro, syntax, notation, axiom, sorry.
-/
import Derived.Test.YtnkjhooeklodcaaGreatDoorRows
import GoSem.ClaimSeven
namespace Go.Proofs.YtnkjhooeklodcaaGreatDoor
namespace Rows

/-- THE TIED CARD OF 'gauntletlaw5.SeglogPlays'. -/
def seglogPlaysCard : Claim7 := { stood := { row := seglogPlaysRow, standIns := [], harness := (true, "448979dca0d7e7fc84949b2d524fc4dfc544aa37b645d4e62bf0e151109e461e"), looks := false }, kinds := [], alts := [], laidByText := true, laidKinds := [.data, .data, .data, .data, .data, .pinned], laidTests := true, laidLooks := .later }
def SeglogPlaysCardSaid : Prop := Claim7.holds Tryz.pinned (.plain (OpenSpec.ofChange seglogPlaysSpec)) seglogPlaysCard

/-- THE TIED CARD OF 'gauntletlaw5.SeglogKeeps'. -/
def seglogKeepsCard : Claim7 := { stood := { row := seglogKeepsRow, standIns := [], harness := (true, "448979dca0d7e7fc84949b2d524fc4dfc544aa37b645d4e62bf0e151109e461e"), looks := false }, kinds := [], alts := [], laidByText := true, laidKinds := [.data, .data, .data, .data, .data, .pinned], laidTests := true, laidLooks := .later }
def SeglogKeepsCardSaid : Prop := Claim7.holds Tryz.pinned (.plain (OpenSpec.ofChange seglogKeepsSpec)) seglogKeepsCard

/-- THE TIED CARD OF 'gauntletlaw5.SeglogTwice'. -/
def seglogTwiceCard : Claim7 := { stood := { row := seglogTwiceRow, standIns := [], harness := (true, "448979dca0d7e7fc84949b2d524fc4dfc544aa37b645d4e62bf0e151109e461e"), looks := false }, kinds := [], alts := [], laidByText := true, laidKinds := [.data, .data, .data, .data, .data, .pinned], laidTests := true, laidLooks := .later }
def SeglogTwiceCardSaid : Prop := Claim7.holds Tryz.pinned (.plain (OpenSpec.ofChange seglogTwiceSpec)) seglogTwiceCard

/-- THE TIED CARD OF 'gauntletlaw5.SeglogAnyBytes'. -/
def seglogAnyBytesCard : Claim7 := { stood := { row := seglogAnyBytesRow, standIns := [], harness := (true, "448979dca0d7e7fc84949b2d524fc4dfc544aa37b645d4e62bf0e151109e461e"), looks := false }, kinds := [], alts := [], laidByText := true, laidKinds := [.data, .data, .data, .data, .data, .pinned], laidTests := true, laidLooks := .later }
def SeglogAnyBytesCardSaid : Prop := Claim7.holds Tryz.pinned (.plain (OpenSpec.ofChange seglogAnyBytesSpec)) seglogAnyBytesCard

/-- THE TIED CARD OF 'gauntletlaw5.SeglogOfNothing'. -/
def seglogOfNothingCard : Claim7 := { stood := { row := seglogOfNothingRow, standIns := [], harness := (true, "448979dca0d7e7fc84949b2d524fc4dfc544aa37b645d4e62bf0e151109e461e"), looks := false }, kinds := [], alts := [], laidByText := true, laidKinds := [.data, .data, .data, .data, .data, .pinned], laidTests := true, laidLooks := .later }
def SeglogOfNothingCardSaid : Prop := Claim7.holds Tryz.pinned (.plain (OpenSpec.ofChange seglogOfNothingSpec)) seglogOfNothingCard

/-- THE TIED CARD OF 'gauntletlaw5.SeglogMany'. -/
def seglogManyCard : Claim7 := { stood := { row := seglogManyRow, standIns := [], harness := (true, "448979dca0d7e7fc84949b2d524fc4dfc544aa37b645d4e62bf0e151109e461e"), looks := false }, kinds := [], alts := [], laidByText := true, laidKinds := [.data, .data, .data, .data, .data, .pinned], laidTests := true, laidLooks := .later }
def SeglogManyCardSaid : Prop := Claim7.holds Tryz.pinned (.plain (OpenSpec.ofChange seglogManySpec)) seglogManyCard

/-- THE SECOND FORM's CARD OF 'gauntletlaw5.SeglogPlays'. -/
def seglogPlaysUptoCard : Claim7 := { stood := { row := seglogPlaysUptoRow, standIns := [], harness := (true, "448979dca0d7e7fc84949b2d524fc4dfc544aa37b645d4e62bf0e151109e461e"), looks := false }, kinds := [], alts := [], laidByText := true, laidKinds := [.data, .data, .data, .data, .data, .pinned], laidTests := true, laidLooks := .later }
def SeglogPlaysUptoCardSaid : Prop := Claim7.holds Tryz.pinned (.plain (OpenSpec.upto seglogPlaysSpec)) seglogPlaysUptoCard

/-- THE SECOND FORM's CARD OF 'gauntletlaw5.SeglogKeeps'. -/
def seglogKeepsUptoCard : Claim7 := { stood := { row := seglogKeepsUptoRow, standIns := [], harness := (true, "448979dca0d7e7fc84949b2d524fc4dfc544aa37b645d4e62bf0e151109e461e"), looks := false }, kinds := [], alts := [], laidByText := true, laidKinds := [.data, .data, .data, .data, .data, .pinned], laidTests := true, laidLooks := .later }
def SeglogKeepsUptoCardSaid : Prop := Claim7.holds Tryz.pinned (.plain (OpenSpec.upto seglogKeepsSpec)) seglogKeepsUptoCard

/-- THE SECOND FORM's CARD OF 'gauntletlaw5.SeglogTwice'. -/
def seglogTwiceUptoCard : Claim7 := { stood := { row := seglogTwiceUptoRow, standIns := [], harness := (true, "448979dca0d7e7fc84949b2d524fc4dfc544aa37b645d4e62bf0e151109e461e"), looks := false }, kinds := [], alts := [], laidByText := true, laidKinds := [.data, .data, .data, .data, .data, .pinned], laidTests := true, laidLooks := .later }
def SeglogTwiceUptoCardSaid : Prop := Claim7.holds Tryz.pinned (.plain (OpenSpec.upto seglogTwiceSpec)) seglogTwiceUptoCard

/-- THE SECOND FORM's CARD OF 'gauntletlaw5.SeglogAnyBytes'. -/
def seglogAnyBytesUptoCard : Claim7 := { stood := { row := seglogAnyBytesUptoRow, standIns := [], harness := (true, "448979dca0d7e7fc84949b2d524fc4dfc544aa37b645d4e62bf0e151109e461e"), looks := false }, kinds := [], alts := [], laidByText := true, laidKinds := [.data, .data, .data, .data, .data, .pinned], laidTests := true, laidLooks := .later }
def SeglogAnyBytesUptoCardSaid : Prop := Claim7.holds Tryz.pinned (.plain (OpenSpec.upto seglogAnyBytesSpec)) seglogAnyBytesUptoCard

/-- THE SECOND FORM's CARD OF 'gauntletlaw5.SeglogOfNothing'. -/
def seglogOfNothingUptoCard : Claim7 := { stood := { row := seglogOfNothingUptoRow, standIns := [], harness := (true, "448979dca0d7e7fc84949b2d524fc4dfc544aa37b645d4e62bf0e151109e461e"), looks := false }, kinds := [], alts := [], laidByText := true, laidKinds := [.data, .data, .data, .data, .data, .pinned], laidTests := true, laidLooks := .later }
def SeglogOfNothingUptoCardSaid : Prop := Claim7.holds Tryz.pinned (.plain (OpenSpec.upto seglogOfNothingSpec)) seglogOfNothingUptoCard

/-- THE SECOND FORM's CARD OF 'gauntletlaw5.SeglogMany'. -/
def seglogManyUptoCard : Claim7 := { stood := { row := seglogManyUptoRow, standIns := [], harness := (true, "448979dca0d7e7fc84949b2d524fc4dfc544aa37b645d4e62bf0e151109e461e"), looks := false }, kinds := [], alts := [], laidByText := true, laidKinds := [.data, .data, .data, .data, .data, .pinned], laidTests := true, laidLooks := .later }
def SeglogManyUptoCardSaid : Prop := Claim7.holds Tryz.pinned (.plain (OpenSpec.upto seglogManySpec)) seglogManyUptoCard
end Rows
end Go.Proofs.YtnkjhooeklodcaaGreatDoor
