/-
  DERIVED. GIVEN WITH THE SEED: THE CARDS: each row of YtkoccdhonbnlhaaDoorRows.lean that lists a variable, with what it lists TIED to the program's text (the seventh form; the later family's looks); each row that meets fmt, with fmt's text TOLD by the authors' own Lean function (tested against real Go, not proved from fmt's source: count such statements apart). THE CARD IS WHAT COUNTS. Prove the row's statement (the work); the ties are given (YtkoccdhonbnlhaaDoorTie.lean); close each card by the builder's one call (the guide's Derived/Test/ToyasCard.lean, 'card_holds'). Laid BY PROGRAM, IN A SANDBOX (cutbox-door.mjs). By AI agents, Wed Nov 11 2026. No macro, syntax, notation, axiom, sorry.
-/
import Derived.Test.YtkoccdhonbnlhaaDoorRows
import GoSem.ClaimSeven
namespace Go.Proofs.YtkoccdhonbnlhaaDoor
namespace Rows

/-- THE TIED CARD OF 'larderwicklaw1.StackSays'. -/
def stackSaysCard : Claim7 := { stood := { row := stackSaysRow, standIns := [], harness := (true, "ce229d8fd6fc05b863624cd1cd57d4e6f76738b216ad3d3e3c099d37c6c2ee9b"), looks := true }, kinds := [], alts := [], laidByText := true, laidKinds := [.handle], laidTests := true, laidLooks := .later }
def StackSaysCardSaid : Prop := Claim7.holds Tryd.pinned (.plain (OpenSpec.ofChange stackSaysSpec)) stackSaysCard

/-- THE SECOND FORM's CARD OF 'larderwicklaw1.StackSays'. -/
def stackSaysUptoCard : Claim7 := { stood := { row := stackSaysUptoRow, standIns := [], harness := (true, "ce229d8fd6fc05b863624cd1cd57d4e6f76738b216ad3d3e3c099d37c6c2ee9b"), looks := true }, kinds := [], alts := [], laidByText := true, laidKinds := [.handle], laidTests := true, laidLooks := .later }
def StackSaysUptoCardSaid : Prop := Claim7.holds Tryd.pinned (.plain (OpenSpec.upto stackSaysSpec)) stackSaysUptoCard
end Rows
end Go.Proofs.YtkoccdhonbnlhaaDoor
