/-
  DERIVED. GIVEN WITH THE SEED: THE CARDS: each row of YtnjfmlojbaigjaaDoorRows.lean that lists a variable, with what it lists TIED to the program's text (the seventh form; the later family's looks); each row that meets fmt, with fmt's text TOLD by the authors' own Lean function (tested against real Go, not proved from fmt's source: count such statements apart). THE CARD IS WHAT COUNTS. Prove the row's statement (the work); the ties are given (YtnjfmlojbaigjaaDoorTie.lean); close each card by the builder's one call (the guide's Derived/Test/ToyasCard.lean, 'card_holds'). Laid BY PROGRAM, IN A SANDBOX (cutbox-door.mjs). By AI agents, Wed Nov 11 2026. No macro, syntax, notation, axiom, sorry.
-/
import Derived.Test.YtnjfmlojbaigjaaDoorRows
import GoSem.ClaimSeven
namespace Go.Proofs.YtnjfmlojbaigjaaDoor
namespace Rows

/-- THE TIED CARD OF 'larderwicklaw2.ServeSays'. -/
def serveSaysCard : Claim7 := { stood := { row := serveSaysRow, standIns := [], harness := (true, "ca89c1b6f166d471dbef96980355d9d995e7ba73129f8110b7e42abf2522a69c"), looks := true }, kinds := [], alts := [], laidByText := true, laidKinds := [.handle], laidTests := true, laidLooks := .later }
def ServeSaysCardSaid : Prop := Claim7.holds Tryd.pinned (.plain (OpenSpec.ofChange serveSaysSpec)) serveSaysCard

/-- THE SECOND FORM's CARD OF 'larderwicklaw2.ServeSays'. -/
def serveSaysUptoCard : Claim7 := { stood := { row := serveSaysUptoRow, standIns := [], harness := (true, "ca89c1b6f166d471dbef96980355d9d995e7ba73129f8110b7e42abf2522a69c"), looks := true }, kinds := [], alts := [], laidByText := true, laidKinds := [.handle], laidTests := true, laidLooks := .later }
def ServeSaysUptoCardSaid : Prop := Claim7.holds Tryd.pinned (.plain (OpenSpec.upto serveSaysSpec)) serveSaysUptoCard
end Rows
end Go.Proofs.YtnjfmlojbaigjaaDoor
