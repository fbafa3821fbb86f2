/-
  DERIVED. GIVEN WITH THE SEED: THE CARDS: each row of YtmmeapaakdaemaaDoorRows.lean that lists a variable, with what it lists TIED to the program's text (the seventh form; the later family's looks); each row that meets fmt, with fmt's text TOLD by the authors' own Lean function (tested against real Go, not proved from fmt's source: count such statements apart). THE CARD IS WHAT COUNTS. Prove the row's statement (the work); the ties are given (YtmmeapaakdaemaaDoorTie.lean); close each card by the builder's one call (the guide's Derived/Test/ToyasCard.lean, 'card_holds'). Laid BY PROGRAM, IN A SANDBOX (cutbox-door.mjs). By AI agents, Wed Nov 11 2026. No macro, syntax, notation, axiom, sorry.
-/
import Derived.Test.YtmmeapaakdaemaaDoorRows
import GoSem.ClaimSeven
namespace Go.Proofs.YtmmeapaakdaemaaDoor
namespace Rows

/-- THE TIED CARD OF 'larderwicklaw3.BuddyApart'. -/
def buddyApartCard : Claim7 := { stood := { row := buddyApartRow, standIns := [], harness := (true, "02f8e0e361d2305b7681bf32355f6fa9c37c7324415fc7fb5197752648ae25d1"), looks := true }, kinds := [], alts := [], laidByText := true, laidKinds := [.data], laidTests := true, laidLooks := .later }
def BuddyApartCardSaid : Prop := Claim7.holds Tryd.pinned (.plain (OpenSpec.ofChange buddyApartSpec)) buddyApartCard

/-- THE TIED CARD OF 'larderwicklaw3.BuddyBack'. -/
def buddyBackCard : Claim7 := { stood := { row := buddyBackRow, standIns := [], harness := (true, "02f8e0e361d2305b7681bf32355f6fa9c37c7324415fc7fb5197752648ae25d1"), looks := true }, kinds := [], alts := [], laidByText := true, laidKinds := [.data], laidTests := true, laidLooks := .later }
def BuddyBackCardSaid : Prop := Claim7.holds Tryd.pinned (.plain (OpenSpec.ofChange buddyBackSpec)) buddyBackCard

/-- THE TIED CARD OF 'larderwicklaw3.BuddyFull'. -/
def buddyFullCard : Claim7 := { stood := { row := buddyFullRow, standIns := [], harness := (true, "02f8e0e361d2305b7681bf32355f6fa9c37c7324415fc7fb5197752648ae25d1"), looks := true }, kinds := [], alts := [], laidByText := true, laidKinds := [.data, .handle], laidTests := true, laidLooks := .later }
def BuddyFullCardSaid : Prop := Claim7.holds Tryd.pinned (.plain (OpenSpec.ofChange buddyFullSpec)) buddyFullCard

/-- THE TIED CARD OF 'larderwicklaw3.BuddyPlays'. -/
def buddyPlaysCard : Claim7 := { stood := { row := buddyPlaysRow, standIns := [], harness := (true, "02f8e0e361d2305b7681bf32355f6fa9c37c7324415fc7fb5197752648ae25d1"), looks := true }, kinds := [], alts := [], laidByText := true, laidKinds := [.data, .handle], laidTests := true, laidLooks := .later }
def BuddyPlaysCardSaid : Prop := Claim7.holds Tryd.pinned (.plain (OpenSpec.ofChange buddyPlaysSpec)) buddyPlaysCard

/-- THE SECOND FORM's CARD OF 'larderwicklaw3.BuddyApart'. -/
def buddyApartUptoCard : Claim7 := { stood := { row := buddyApartUptoRow, standIns := [], harness := (true, "02f8e0e361d2305b7681bf32355f6fa9c37c7324415fc7fb5197752648ae25d1"), looks := true }, kinds := [], alts := [], laidByText := true, laidKinds := [.data], laidTests := true, laidLooks := .later }
def BuddyApartUptoCardSaid : Prop := Claim7.holds Tryd.pinned (.plain (OpenSpec.upto buddyApartSpec)) buddyApartUptoCard

/-- THE SECOND FORM's CARD OF 'larderwicklaw3.BuddyBack'. -/
def buddyBackUptoCard : Claim7 := { stood := { row := buddyBackUptoRow, standIns := [], harness := (true, "02f8e0e361d2305b7681bf32355f6fa9c37c7324415fc7fb5197752648ae25d1"), looks := true }, kinds := [], alts := [], laidByText := true, laidKinds := [.data], laidTests := true, laidLooks := .later }
def BuddyBackUptoCardSaid : Prop := Claim7.holds Tryd.pinned (.plain (OpenSpec.upto buddyBackSpec)) buddyBackUptoCard

/-- THE SECOND FORM's CARD OF 'larderwicklaw3.BuddyFull'. -/
def buddyFullUptoCard : Claim7 := { stood := { row := buddyFullUptoRow, standIns := [], harness := (true, "02f8e0e361d2305b7681bf32355f6fa9c37c7324415fc7fb5197752648ae25d1"), looks := true }, kinds := [], alts := [], laidByText := true, laidKinds := [.data, .handle], laidTests := true, laidLooks := .later }
def BuddyFullUptoCardSaid : Prop := Claim7.holds Tryd.pinned (.plain (OpenSpec.upto buddyFullSpec)) buddyFullUptoCard

/-- THE SECOND FORM's CARD OF 'larderwicklaw3.BuddyPlays'. -/
def buddyPlaysUptoCard : Claim7 := { stood := { row := buddyPlaysUptoRow, standIns := [], harness := (true, "02f8e0e361d2305b7681bf32355f6fa9c37c7324415fc7fb5197752648ae25d1"), looks := true }, kinds := [], alts := [], laidByText := true, laidKinds := [.data, .handle], laidTests := true, laidLooks := .later }
def BuddyPlaysUptoCardSaid : Prop := Claim7.holds Tryd.pinned (.plain (OpenSpec.upto buddyPlaysSpec)) buddyPlaysUptoCard
end Rows
end Go.Proofs.YtmmeapaakdaemaaDoor
