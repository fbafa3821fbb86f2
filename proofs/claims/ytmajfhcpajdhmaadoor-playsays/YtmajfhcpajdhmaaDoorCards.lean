/-
  DERIVED. GIVEN WITH THE SEED: THE CARDS: each row of YtmajfhcpajdhmaaDoorRows.lean that lists a variable, with what it lists TIED to the program's text (the seventh form; the later family's looks); each row that meets fmt, with fmt's text TOLD by the authors' own Lean function (tested against real Go, not proved from fmt's source: count such statements apart). THE CARD IS WHAT COUNTS. Prove the row's statement (the work); the ties are given (YtmajfhcpajdhmaaDoorTie.lean); close each card by the builder's one call (the guide's Derived/Test/ToyasCard.lean, 'card_holds'). Laid BY PROGRAM, IN A SANDBOX (cutbox-door.mjs). By AI agents, Wed Nov 11 2026. No macro, syntax, notation, axiom, sorry.
-/
import Derived.Test.YtmajfhcpajdhmaaDoorRows
import GoSem.ClaimSeven
namespace Go.Proofs.YtmajfhcpajdhmaaDoor
namespace Rows

/-- THE TIED CARD OF 'larderwicklaw1.PlaySays'. -/
def playSaysCard : Claim7 := { stood := { row := playSaysRow, standIns := [], harness := (true, "cdb3ea87d7980434270c98fc4e634a0fcde43b16255908e21fddd7c78b7999ab"), looks := true }, kinds := [], alts := [], laidByText := true, laidKinds := [.handle], laidTests := true, laidLooks := .later }
def PlaySaysCardSaid : Prop := Claim7.holds Tryd.pinned (.plain (OpenSpec.ofChange playSaysSpec)) playSaysCard

/-- THE SECOND FORM's CARD OF 'larderwicklaw1.PlaySays'. -/
def playSaysUptoCard : Claim7 := { stood := { row := playSaysUptoRow, standIns := [], harness := (true, "cdb3ea87d7980434270c98fc4e634a0fcde43b16255908e21fddd7c78b7999ab"), looks := true }, kinds := [], alts := [], laidByText := true, laidKinds := [.handle], laidTests := true, laidLooks := .later }
def PlaySaysUptoCardSaid : Prop := Claim7.holds Tryd.pinned (.plain (OpenSpec.upto playSaysSpec)) playSaysUptoCard
end Rows
end Go.Proofs.YtmajfhcpajdhmaaDoor
