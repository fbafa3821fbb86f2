/-
  DERIVED. GIVEN WITH THE SEED: THE CARDS: each row of YtennlinnclcngaaDoorRows.lean that lists a variable, with what it lists TIED to the program's text (the seventh form; the later family's looks); each row that meets fmt, with fmt's text TOLD by the authors' own Lean function (tested against real Go, not proved from fmt's source: count such statements apart). THE CARD IS WHAT COUNTS. Prove the row's statement (the work); the ties are given (YtennlinnclcngaaDoorTie.lean); close each card by the builder's one call (the guide's Derived/Test/ToyasCard.lean, 'card_holds'). Laid BY PROGRAM, IN A SANDBOX (cutbox-door.mjs). By AI agents, Wed Nov 11 2026. No macro, syntax, notation, axiom, sorry.
-/
import Derived.Test.YtennlinnclcngaaDoorRows
import GoSem.ClaimSeven
namespace Go.Proofs.YtennlinnclcngaaDoor
namespace Rows

/-- THE TIED CARD OF 'larderwicklaw3.CheneySays'. -/
def cheneySaysCard : Claim7 := { stood := { row := cheneySaysRow, standIns := [], harness := (true, "cd28afb2267d22ed8a684b5a61c5bb7905a0a22b3b4443d6c04c1835c6b9ed27"), looks := true }, kinds := [], alts := [], laidByText := true, laidKinds := [.handle], laidTests := true, laidLooks := .later }
def CheneySaysCardSaid : Prop := Claim7.holds Tryd.pinned (.plain (OpenSpec.ofChange cheneySaysSpec)) cheneySaysCard

/-- THE SECOND FORM's CARD OF 'larderwicklaw3.CheneySays'. -/
def cheneySaysUptoCard : Claim7 := { stood := { row := cheneySaysUptoRow, standIns := [], harness := (true, "cd28afb2267d22ed8a684b5a61c5bb7905a0a22b3b4443d6c04c1835c6b9ed27"), looks := true }, kinds := [], alts := [], laidByText := true, laidKinds := [.handle], laidTests := true, laidLooks := .later }
def CheneySaysUptoCardSaid : Prop := Claim7.holds Tryd.pinned (.plain (OpenSpec.upto cheneySaysSpec)) cheneySaysUptoCard
end Rows
end Go.Proofs.YtennlinnclcngaaDoor
