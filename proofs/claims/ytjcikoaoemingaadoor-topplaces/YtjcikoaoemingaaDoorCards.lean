/-
  DERIVED. GIVEN WITH THE SEED: THE CARDS: each row of YtjcikoaoemingaaDoorRows.lean that lists a variable, with what it lists TIED to the program's text (the seventh form; the later family's looks); each row that meets fmt, with fmt's text TOLD by the authors' own Lean function (tested against real Go, not proved from fmt's source: count such statements apart). THE CARD IS WHAT COUNTS. Prove the row's statement (the work); the ties are given (YtjcikoaoemingaaDoorTie.lean); close each card by the builder's one call (the guide's Derived/Test/ToyasCard.lean, 'card_holds'). Laid BY PROGRAM, IN A SANDBOX (cutbox-door.mjs). By AI agents, Wed Nov 11 2026. No macro, syntax, notation, axiom, sorry.
-/
import Derived.Test.YtjcikoaoemingaaDoorRows
import GoSem.ClaimSeven
namespace Go.Proofs.YtjcikoaoemingaaDoor
namespace Rows

/-- THE TIED CARD OF 'larderwicklaw3.FitFirst'. -/
def fitFirstCard : Claim7 := { stood := { row := fitFirstRow, standIns := [], harness := (true, "bf84d6e496ff8a7af06a866883da09e5cbb73cd63792b75e37c1b10397e5c554"), looks := true }, kinds := [], alts := [], laidByText := true, laidKinds := [.handle], laidTests := true, laidLooks := .later }
def FitFirstCardSaid : Prop := Claim7.holds Tryd.pinned (.plain (OpenSpec.ofChange fitFirstSpec)) fitFirstCard

/-- THE TIED CARD OF 'larderwicklaw3.FitPlays'. -/
def fitPlaysCard : Claim7 := { stood := { row := fitPlaysRow, standIns := [], harness := (true, "bf84d6e496ff8a7af06a866883da09e5cbb73cd63792b75e37c1b10397e5c554"), looks := true }, kinds := [], alts := [], laidByText := true, laidKinds := [.handle], laidTests := true, laidLooks := .later }
def FitPlaysCardSaid : Prop := Claim7.holds Tryd.pinned (.plain (OpenSpec.ofChange fitPlaysSpec)) fitPlaysCard

/-- THE TIED CARD OF 'larderwicktop.TopPlaces'. -/
def topPlacesCard : Claim7 := { stood := { row := topPlacesRow, standIns := [], harness := (true, "bf84d6e496ff8a7af06a866883da09e5cbb73cd63792b75e37c1b10397e5c554"), looks := true }, kinds := [], alts := [], laidByText := true, laidKinds := [.data], laidTests := true, laidLooks := .later }
def TopPlacesCardSaid : Prop := Claim7.holds Tryd.pinned (.plain (OpenSpec.ofChange topPlacesSpec)) topPlacesCard

/-- THE SECOND FORM's CARD OF 'larderwicklaw3.FitFirst'. -/
def fitFirstUptoCard : Claim7 := { stood := { row := fitFirstUptoRow, standIns := [], harness := (true, "bf84d6e496ff8a7af06a866883da09e5cbb73cd63792b75e37c1b10397e5c554"), looks := true }, kinds := [], alts := [], laidByText := true, laidKinds := [.handle], laidTests := true, laidLooks := .later }
def FitFirstUptoCardSaid : Prop := Claim7.holds Tryd.pinned (.plain (OpenSpec.upto fitFirstSpec)) fitFirstUptoCard

/-- THE SECOND FORM's CARD OF 'larderwicklaw3.FitPlays'. -/
def fitPlaysUptoCard : Claim7 := { stood := { row := fitPlaysUptoRow, standIns := [], harness := (true, "bf84d6e496ff8a7af06a866883da09e5cbb73cd63792b75e37c1b10397e5c554"), looks := true }, kinds := [], alts := [], laidByText := true, laidKinds := [.handle], laidTests := true, laidLooks := .later }
def FitPlaysUptoCardSaid : Prop := Claim7.holds Tryd.pinned (.plain (OpenSpec.upto fitPlaysSpec)) fitPlaysUptoCard

/-- THE SECOND FORM's CARD OF 'larderwicktop.TopPlaces'. -/
def topPlacesUptoCard : Claim7 := { stood := { row := topPlacesUptoRow, standIns := [], harness := (true, "bf84d6e496ff8a7af06a866883da09e5cbb73cd63792b75e37c1b10397e5c554"), looks := true }, kinds := [], alts := [], laidByText := true, laidKinds := [.data], laidTests := true, laidLooks := .later }
def TopPlacesUptoCardSaid : Prop := Claim7.holds Tryd.pinned (.plain (OpenSpec.upto topPlacesSpec)) topPlacesUptoCard
end Rows
end Go.Proofs.YtjcikoaoemingaaDoor
