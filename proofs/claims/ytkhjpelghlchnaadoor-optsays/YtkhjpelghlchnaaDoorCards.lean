/-
  DERIVED. GIVEN WITH THE SEED: THE CARDS: each row of YtkhjpelghlchnaaDoorRows.lean that lists a variable, with what it lists TIED to the program's text (the seventh form; the later family's looks); each row that meets fmt, with fmt's text TOLD by the authors' own Lean function (tested against real Go, not proved from fmt's source: count such statements apart). THE CARD IS WHAT COUNTS. Prove the row's statement (the work); the ties are given (YtkhjpelghlchnaaDoorTie.lean); close each card by the builder's one call (the guide's Derived/Test/ToyasCard.lean, 'card_holds'). Laid BY PROGRAM, IN A SANDBOX (cutbox-door.mjs). By AI agents, Wed Nov 11 2026. No macro, syntax, notation, axiom, sorry.
-/
import Derived.Test.YtkhjpelghlchnaaDoorRows
import GoSem.ClaimSeven
namespace Go.Proofs.YtkhjpelghlchnaaDoor
namespace Rows

/-- THE TIED CARD OF 'larderwicklaw1.OptSays'. -/
def optSaysCard : Claim7 := { stood := { row := optSaysRow, standIns := [], harness := (true, "4874156b1290af5570bea5b5d20aa82831f427ea2261b90f84c3730fdf14b2e9"), looks := true }, kinds := [], alts := [], laidByText := true, laidKinds := [.handle], laidTests := true, laidLooks := .later }
def OptSaysCardSaid : Prop := Claim7.holds Tryd.pinned (.plain (OpenSpec.ofChange optSaysSpec)) optSaysCard

/-- THE SECOND FORM's CARD OF 'larderwicklaw1.OptSays'. -/
def optSaysUptoCard : Claim7 := { stood := { row := optSaysUptoRow, standIns := [], harness := (true, "4874156b1290af5570bea5b5d20aa82831f427ea2261b90f84c3730fdf14b2e9"), looks := true }, kinds := [], alts := [], laidByText := true, laidKinds := [.handle], laidTests := true, laidLooks := .later }
def OptSaysUptoCardSaid : Prop := Claim7.holds Tryd.pinned (.plain (OpenSpec.upto optSaysSpec)) optSaysUptoCard
end Rows
end Go.Proofs.YtkhjpelghlchnaaDoor
