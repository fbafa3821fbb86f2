/-
  DERIVED. GIVEN WITH THE SEED: THE CARDS: each row of YtldeonnbpfkmoaaDoorRows.lean that lists a variable, with what it lists TIED to the program's text (the seventh form; the later family's looks); each row that meets fmt, with fmt's text TOLD by the authors' own Lean function (tested against real Go, not proved from fmt's source: count such statements apart). THE CARD IS WHAT COUNTS. Prove the row's statement (the work); the ties are given (YtldeonnbpfkmoaaDoorTie.lean); close each card by the builder's one call (the guide's Derived/Test/ToyasCard.lean, 'card_holds'). Laid BY PROGRAM, IN A SANDBOX (cutbox-door.mjs). By AI agents, Wed Nov 11 2026. No macro, syntax, notation, axiom, sorry.
-/
import Derived.Test.YtldeonnbpfkmoaaDoorRows
import GoSem.ClaimSeven
namespace Go.Proofs.YtldeonnbpfkmoaaDoor
namespace Rows

/-- THE TIED CARD OF 'larderwicklaw1.PhaseSays'. -/
def phaseSaysCard : Claim7 := { stood := { row := phaseSaysRow, standIns := [], harness := (true, "d578ebeddf26f5a21f42b4f375db6b0788850909fc65cec1fc9d156774fc57c9"), looks := true }, kinds := [], alts := [], laidByText := true, laidKinds := [.handle], laidTests := true, laidLooks := .later }
def PhaseSaysCardSaid : Prop := Claim7.holds Tryd.pinned (.plain (OpenSpec.ofChange phaseSaysSpec)) phaseSaysCard

/-- THE SECOND FORM's CARD OF 'larderwicklaw1.PhaseSays'. -/
def phaseSaysUptoCard : Claim7 := { stood := { row := phaseSaysUptoRow, standIns := [], harness := (true, "d578ebeddf26f5a21f42b4f375db6b0788850909fc65cec1fc9d156774fc57c9"), looks := true }, kinds := [], alts := [], laidByText := true, laidKinds := [.handle], laidTests := true, laidLooks := .later }
def PhaseSaysUptoCardSaid : Prop := Claim7.holds Tryd.pinned (.plain (OpenSpec.upto phaseSaysSpec)) phaseSaysUptoCard
end Rows
end Go.Proofs.YtldeonnbpfkmoaaDoor
