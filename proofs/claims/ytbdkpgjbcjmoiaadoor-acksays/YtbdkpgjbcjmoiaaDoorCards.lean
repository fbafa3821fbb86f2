/-
  DERIVED. GIVEN WITH THE SEED: THE CARDS: each row of YtbdkpgjbcjmoiaaDoorRows.lean that lists a variable, with what it lists TIED to the program's text (the seventh form; the later family's looks); each row that meets fmt, with fmt's text TOLD by the authors' own Lean function (tested against real Go, not proved from fmt's source: count such statements apart). THE CARD IS WHAT COUNTS. Prove the row's statement (the work); the ties are given (YtbdkpgjbcjmoiaaDoorTie.lean); close each card by the builder's one call (the guide's Derived/Test/ToyasCard.lean, 'card_holds'). Laid BY PROGRAM, IN A SANDBOX (cutbox-door.mjs). By AI agents, Wed Nov 11 2026. No macro, syntax, notation, axiom, sorry.
-/
import Derived.Test.YtbdkpgjbcjmoiaaDoorRows
import GoSem.ClaimSeven
namespace Go.Proofs.YtbdkpgjbcjmoiaaDoor
namespace Rows

/-- THE TIED CARD OF 'larderwicklaw2.AckSays'. -/
def ackSaysCard : Claim7 := { stood := { row := ackSaysRow, standIns := [], harness := (true, "bf9d4bbe32bb158076c2f80b6772746783f06d9546d721cf4b3f50563053a41f"), looks := true }, kinds := [], alts := [], laidByText := true, laidKinds := [.handle], laidTests := true, laidLooks := .later }
def AckSaysCardSaid : Prop := Claim7.holds Tryd.pinned (.plain (OpenSpec.ofChange ackSaysSpec)) ackSaysCard

/-- THE SECOND FORM's CARD OF 'larderwicklaw2.AckSays'. -/
def ackSaysUptoCard : Claim7 := { stood := { row := ackSaysUptoRow, standIns := [], harness := (true, "bf9d4bbe32bb158076c2f80b6772746783f06d9546d721cf4b3f50563053a41f"), looks := true }, kinds := [], alts := [], laidByText := true, laidKinds := [.handle], laidTests := true, laidLooks := .later }
def AckSaysUptoCardSaid : Prop := Claim7.holds Tryd.pinned (.plain (OpenSpec.upto ackSaysSpec)) ackSaysUptoCard
end Rows
end Go.Proofs.YtbdkpgjbcjmoiaaDoor
