/-
  DERIVED. GIVEN WITH THE SEED: THE CARDS: each row of YtbnhlnjbgimibaaDoorRows.lean that lists a variable, with what it lists TIED to the program's text (the seventh form; the later family's looks); each row that meets fmt, with fmt's text TOLD by the authors' own Lean function (tested against real Go, not proved from fmt's source: count such statements apart). THE CARD IS WHAT COUNTS. Prove the row's statement (the work); the ties are given (YtbnhlnjbgimibaaDoorTie.lean); close each card by the builder's one call (the guide's Derived/Test/ToyasCard.lean, 'card_holds'). Laid BY PROGRAM, IN A SANDBOX (cutbox-door.mjs). By AI agents, Wed Nov 11 2026. No macro, syntax, notation, axiom, sorry.
-/
import Derived.Test.YtbnhlnjbgimibaaDoorRows
import GoSem.ClaimSeven
namespace Go.Proofs.YtbnhlnjbgimibaaDoor
namespace Rows

/-- THE TIED CARD OF 'larderwicklaw2.WsetSays'. -/
def wsetSaysCard : Claim7 := { stood := { row := wsetSaysRow, standIns := [], harness := (true, "0300d1056e2a1e5e90b10274952a9df9b1d0bb22b8963328ba4efee753c490af"), looks := true }, kinds := [], alts := [], laidByText := true, laidKinds := [.handle], laidTests := true, laidLooks := .later }
def WsetSaysCardSaid : Prop := Claim7.holds Tryd.pinned (.plain (OpenSpec.ofChange wsetSaysSpec)) wsetSaysCard

/-- THE SECOND FORM's CARD OF 'larderwicklaw2.WsetSays'. -/
def wsetSaysUptoCard : Claim7 := { stood := { row := wsetSaysUptoRow, standIns := [], harness := (true, "0300d1056e2a1e5e90b10274952a9df9b1d0bb22b8963328ba4efee753c490af"), looks := true }, kinds := [], alts := [], laidByText := true, laidKinds := [.handle], laidTests := true, laidLooks := .later }
def WsetSaysUptoCardSaid : Prop := Claim7.holds Tryd.pinned (.plain (OpenSpec.upto wsetSaysSpec)) wsetSaysUptoCard
end Rows
end Go.Proofs.YtbnhlnjbgimibaaDoor
