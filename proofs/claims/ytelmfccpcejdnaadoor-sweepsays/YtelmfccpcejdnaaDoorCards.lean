/-
  DERIVED. GIVEN WITH THE SEED: THE CARDS: each row of YtelmfccpcejdnaaDoorRows.lean that lists a variable, with what it lists TIED to the program's text (the seventh form; the later family's looks); each row that meets fmt, with fmt's text TOLD by the authors' own Lean function (tested against real Go, not proved from fmt's source: count such statements apart). THE CARD IS WHAT COUNTS. Prove the row's statement (the work); the ties are given (YtelmfccpcejdnaaDoorTie.lean); close each card by the builder's one call (the guide's Derived/Test/ToyasCard.lean, 'card_holds'). Laid BY PROGRAM, IN A SANDBOX (cutbox-door.mjs). By AI agents, Wed Nov 11 2026. No macro, syntax, notation, axiom, sorry.
-/
import Derived.Test.YtelmfccpcejdnaaDoorRows
import GoSem.ClaimSeven
namespace Go.Proofs.YtelmfccpcejdnaaDoor
namespace Rows

/-- THE TIED CARD OF 'larderwicklaw3.SweepSays'. -/
def sweepSaysCard : Claim7 := { stood := { row := sweepSaysRow, standIns := [], harness := (true, "5e3631bbb94f53a81fc5b9daf8b88efc609ad7dd840dd78a3e71687cced8a70a"), looks := true }, kinds := [], alts := [], laidByText := true, laidKinds := [.handle], laidTests := true, laidLooks := .later }
def SweepSaysCardSaid : Prop := Claim7.holds Tryd.pinned (.plain (OpenSpec.ofChange sweepSaysSpec)) sweepSaysCard

/-- THE SECOND FORM's CARD OF 'larderwicklaw3.SweepSays'. -/
def sweepSaysUptoCard : Claim7 := { stood := { row := sweepSaysUptoRow, standIns := [], harness := (true, "5e3631bbb94f53a81fc5b9daf8b88efc609ad7dd840dd78a3e71687cced8a70a"), looks := true }, kinds := [], alts := [], laidByText := true, laidKinds := [.handle], laidTests := true, laidLooks := .later }
def SweepSaysUptoCardSaid : Prop := Claim7.holds Tryd.pinned (.plain (OpenSpec.upto sweepSaysSpec)) sweepSaysUptoCard
end Rows
end Go.Proofs.YtelmfccpcejdnaaDoor
