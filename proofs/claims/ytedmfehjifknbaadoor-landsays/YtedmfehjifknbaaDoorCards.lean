/-
  DERIVED. GIVEN WITH THE SEED: THE CARDS: each row of YtedmfehjifknbaaDoorRows.lean that lists a variable, with what it lists TIED to the program's text (the seventh form; the later family's looks); each row that meets fmt, with fmt's text TOLD by the authors' own Lean function (tested against real Go, not proved from fmt's source: count such statements apart). THE CARD IS WHAT COUNTS. Prove the row's statement (the work); the ties are given (YtedmfehjifknbaaDoorTie.lean); close each card by the builder's one call (the guide's Derived/Test/ToyasCard.lean, 'card_holds'). Laid BY PROGRAM, IN A SANDBOX (cutbox-door.mjs). By AI agents, Wed Nov 11 2026. No macro, syntax, notation, axiom, sorry.
-/
import Derived.Test.YtedmfehjifknbaaDoorRows
import GoSem.ClaimSeven
namespace Go.Proofs.YtedmfehjifknbaaDoor
namespace Rows

/-- THE TIED CARD OF 'larderwicklaw2.LandSays'. -/
def landSaysCard : Claim7 := { stood := { row := landSaysRow, standIns := [], harness := (true, "36835a08ae5b6dadad27e6d4f5323386ac59e14fe1a3575a7b21fa71d6107278"), looks := true }, kinds := [], alts := [], laidByText := true, laidKinds := [.handle], laidTests := true, laidLooks := .later }
def LandSaysCardSaid : Prop := Claim7.holds Tryd.pinned (.plain (OpenSpec.ofChange landSaysSpec)) landSaysCard

/-- THE SECOND FORM's CARD OF 'larderwicklaw2.LandSays'. -/
def landSaysUptoCard : Claim7 := { stood := { row := landSaysUptoRow, standIns := [], harness := (true, "36835a08ae5b6dadad27e6d4f5323386ac59e14fe1a3575a7b21fa71d6107278"), looks := true }, kinds := [], alts := [], laidByText := true, laidKinds := [.handle], laidTests := true, laidLooks := .later }
def LandSaysUptoCardSaid : Prop := Claim7.holds Tryd.pinned (.plain (OpenSpec.upto landSaysSpec)) landSaysUptoCard
end Rows
end Go.Proofs.YtedmfehjifknbaaDoor
