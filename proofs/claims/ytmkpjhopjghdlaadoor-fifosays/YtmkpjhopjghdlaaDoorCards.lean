/-
  DERIVED. GIVEN WITH THE SEED: THE CARDS: each row of YtmkpjhopjghdlaaDoorRows.lean that lists a variable, with what it lists TIED to the program's text (the seventh form; the later family's looks); each row that meets fmt, with fmt's text TOLD by the authors' own Lean function (tested against real Go, not proved from fmt's source: count such statements apart). THE CARD IS WHAT COUNTS. Prove the row's statement (the work); the ties are given (YtmkpjhopjghdlaaDoorTie.lean); close each card by the builder's one call (the guide's Derived/Test/ToyasCard.lean, 'card_holds'). Laid BY PROGRAM, IN A SANDBOX (cutbox-door.mjs). By AI agents, Wed Nov 11 2026. No macro, syntax, notation, axiom, sorry.
-/
import Derived.Test.YtmkpjhopjghdlaaDoorRows
import GoSem.ClaimSeven
namespace Go.Proofs.YtmkpjhopjghdlaaDoor
namespace Rows

/-- THE TIED CARD OF 'larderwicklaw1.FifoSays'. -/
def fifoSaysCard : Claim7 := { stood := { row := fifoSaysRow, standIns := [], harness := (true, "8ca90f887b24d4ed30ce11397d6b4df01352758acd50d7a9d862b79af3dc46f3"), looks := true }, kinds := [], alts := [], laidByText := true, laidKinds := [.handle], laidTests := true, laidLooks := .later }
def FifoSaysCardSaid : Prop := Claim7.holds Tryd.pinned (.plain (OpenSpec.ofChange fifoSaysSpec)) fifoSaysCard

/-- THE SECOND FORM's CARD OF 'larderwicklaw1.FifoSays'. -/
def fifoSaysUptoCard : Claim7 := { stood := { row := fifoSaysUptoRow, standIns := [], harness := (true, "8ca90f887b24d4ed30ce11397d6b4df01352758acd50d7a9d862b79af3dc46f3"), looks := true }, kinds := [], alts := [], laidByText := true, laidKinds := [.handle], laidTests := true, laidLooks := .later }
def FifoSaysUptoCardSaid : Prop := Claim7.holds Tryd.pinned (.plain (OpenSpec.upto fifoSaysSpec)) fifoSaysUptoCard
end Rows
end Go.Proofs.YtmkpjhopjghdlaaDoor
