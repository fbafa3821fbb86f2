/-
  DERIVED. GIVEN WITH THE SEED: THE CARDS: each row of YtkeaeekbnmlbjaaDoorRows.lean that lists a variable, with what it lists TIED to the program's text (the seventh form; the later family's looks); each row that meets fmt, with fmt's text TOLD by the authors' own Lean function (tested against real Go, not proved from fmt's source: count such statements apart). THE CARD IS WHAT COUNTS. Prove the row's statement (the work); the ties are given (YtkeaeekbnmlbjaaDoorTie.lean); close each card by the builder's one call (the guide's Derived/Test/ToyasCard.lean, 'card_holds'). Laid BY PROGRAM, IN A SANDBOX (cutbox-door.mjs). By AI agents, Wed Nov 11 2026. No macro, syntax, notation, axiom, sorry.
-/
import Derived.Test.YtkeaeekbnmlbjaaDoorRows
import GoSem.ClaimSeven
namespace Go.Proofs.YtkeaeekbnmlbjaaDoor
namespace Rows

/-- THE TIED CARD OF 'larderwicklaw1.ClockSays'. -/
def clockSaysCard : Claim7 := { stood := { row := clockSaysRow, standIns := [], harness := (true, "fecb4c1e72d8a622bade3287c5bf2f227af06e80b7c035f28dad1d8f9b3682d3"), looks := true }, kinds := [], alts := [], laidByText := true, laidKinds := [.handle], laidTests := true, laidLooks := .later }
def ClockSaysCardSaid : Prop := Claim7.holds Tryd.pinned (.plain (OpenSpec.ofChange clockSaysSpec)) clockSaysCard

/-- THE SECOND FORM's CARD OF 'larderwicklaw1.ClockSays'. -/
def clockSaysUptoCard : Claim7 := { stood := { row := clockSaysUptoRow, standIns := [], harness := (true, "fecb4c1e72d8a622bade3287c5bf2f227af06e80b7c035f28dad1d8f9b3682d3"), looks := true }, kinds := [], alts := [], laidByText := true, laidKinds := [.handle], laidTests := true, laidLooks := .later }
def ClockSaysUptoCardSaid : Prop := Claim7.holds Tryd.pinned (.plain (OpenSpec.upto clockSaysSpec)) clockSaysUptoCard
end Rows
end Go.Proofs.YtkeaeekbnmlbjaaDoor
