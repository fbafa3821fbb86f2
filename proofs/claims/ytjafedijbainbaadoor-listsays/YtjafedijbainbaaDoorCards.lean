/-
  DERIVED. GIVEN WITH THE SEED: THE CARDS: each row of YtjafedijbainbaaDoorRows.lean that lists a variable, with what it lists TIED to the program's text (the seventh form; the later family's looks); each row that meets fmt, with fmt's text TOLD by the authors' own Lean function (tested against real Go, not proved from fmt's source: count such statements apart). THE CARD IS WHAT COUNTS. Prove the row's statement (the work); the ties are given (YtjafedijbainbaaDoorTie.lean); close each card by the builder's one call (the guide's Derived/Test/ToyasCard.lean, 'card_holds'). Laid BY PROGRAM, IN A SANDBOX (cutbox-door.mjs). By AI agents, Wed Nov 11 2026. No macro, syntax, notation, axiom, sorry.
-/
import Derived.Test.YtjafedijbainbaaDoorRows
import GoSem.ClaimSeven
namespace Go.Proofs.YtjafedijbainbaaDoor
namespace Rows

/-- THE TIED CARD OF 'larderwicklaw2.ListSays'. -/
def listSaysCard : Claim7 := { stood := { row := listSaysRow, standIns := [], harness := (true, "3dfd3f5f0b95ef33373f92d9fb0f44cb8de2c0a3f68da6f5ad7d8043e1e42d9b"), looks := true }, kinds := [], alts := [], laidByText := true, laidKinds := [.handle], laidTests := true, laidLooks := .later }
def ListSaysCardSaid : Prop := Claim7.holds Tryd.pinned (.plain (OpenSpec.ofChange listSaysSpec)) listSaysCard

/-- THE SECOND FORM's CARD OF 'larderwicklaw2.ListSays'. -/
def listSaysUptoCard : Claim7 := { stood := { row := listSaysUptoRow, standIns := [], harness := (true, "3dfd3f5f0b95ef33373f92d9fb0f44cb8de2c0a3f68da6f5ad7d8043e1e42d9b"), looks := true }, kinds := [], alts := [], laidByText := true, laidKinds := [.handle], laidTests := true, laidLooks := .later }
def ListSaysUptoCardSaid : Prop := Claim7.holds Tryd.pinned (.plain (OpenSpec.upto listSaysSpec)) listSaysUptoCard
end Rows
end Go.Proofs.YtjafedijbainbaaDoor
