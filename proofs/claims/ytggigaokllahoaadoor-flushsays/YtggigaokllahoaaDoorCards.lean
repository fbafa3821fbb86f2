/-
  DERIVED. GIVEN WITH THE SEED: THE CARDS: each row of YtggigaokllahoaaDoorRows.lean that lists a variable, with what it lists TIED to the program's text (the seventh form; the later family's looks); each row that meets fmt, with fmt's text TOLD by the authors' own Lean function (tested against real Go, not proved from fmt's source: count such statements apart). THE CARD IS WHAT COUNTS. Prove the row's statement (the work); the ties are given (YtggigaokllahoaaDoorTie.lean); close each card by the builder's one call (the guide's Derived/Test/ToyasCard.lean, 'card_holds'). Laid BY PROGRAM, IN A SANDBOX (cutbox-door.mjs). By AI agents, Wed Nov 11 2026. No macro, syntax, notation, axiom, sorry.
-/
import Derived.Test.YtggigaokllahoaaDoorRows
import GoSem.ClaimSeven
namespace Go.Proofs.YtggigaokllahoaaDoor
namespace Rows

/-- THE TIED CARD OF 'larderwicklaw1.FlushSays'. -/
def flushSaysCard : Claim7 := { stood := { row := flushSaysRow, standIns := [], harness := (true, "d35c3dd7a870437c3c4c692d4608cb2260dc01e3c26fd932c7d7e1305bad3888"), looks := true }, kinds := [], alts := [], laidByText := true, laidKinds := [.handle], laidTests := true, laidLooks := .later }
def FlushSaysCardSaid : Prop := Claim7.holds Tryd.pinned (.plain (OpenSpec.ofChange flushSaysSpec)) flushSaysCard

/-- THE SECOND FORM's CARD OF 'larderwicklaw1.FlushSays'. -/
def flushSaysUptoCard : Claim7 := { stood := { row := flushSaysUptoRow, standIns := [], harness := (true, "d35c3dd7a870437c3c4c692d4608cb2260dc01e3c26fd932c7d7e1305bad3888"), looks := true }, kinds := [], alts := [], laidByText := true, laidKinds := [.handle], laidTests := true, laidLooks := .later }
def FlushSaysUptoCardSaid : Prop := Claim7.holds Tryd.pinned (.plain (OpenSpec.upto flushSaysSpec)) flushSaysUptoCard
end Rows
end Go.Proofs.YtggigaokllahoaaDoor
