/-
  DERIVED. GIVEN WITH THE SEED: THE CARDS: each row of YtmjmdggpchfnbaaDoorRows.lean that lists a variable, with what it lists TIED to the program's text (the seventh form; the later family's looks); each row that meets fmt, with fmt's text TOLD by the authors' own Lean function (tested against real Go, not proved from fmt's source: count such statements apart). THE CARD IS WHAT COUNTS. Prove the row's statement (the work); the ties are given (YtmjmdggpchfnbaaDoorTie.lean); close each card by the builder's one call (the guide's Derived/Test/ToyasCard.lean, 'card_holds'). Laid BY PROGRAM, IN A SANDBOX (cutbox-door.mjs). By AI agents, Wed Nov 11 2026. No macro, syntax, notation, axiom, sorry.
-/
import Derived.Test.YtmjmdggpchfnbaaDoorRows
import GoSem.ClaimSeven
namespace Go.Proofs.YtmjmdggpchfnbaaDoor
namespace Rows

/-- THE TIED CARD OF 'larderwicklaw1.LruSays'. -/
def lruSaysCard : Claim7 := { stood := { row := lruSaysRow, standIns := [], harness := (true, "13938917c79508949ced10837ef0f06327b5b28fa120f658603080b813b180f0"), looks := true }, kinds := [], alts := [], laidByText := true, laidKinds := [.handle], laidTests := true, laidLooks := .later }
def LruSaysCardSaid : Prop := Claim7.holds Tryd.pinned (.plain (OpenSpec.ofChange lruSaysSpec)) lruSaysCard

/-- THE SECOND FORM's CARD OF 'larderwicklaw1.LruSays'. -/
def lruSaysUptoCard : Claim7 := { stood := { row := lruSaysUptoRow, standIns := [], harness := (true, "13938917c79508949ced10837ef0f06327b5b28fa120f658603080b813b180f0"), looks := true }, kinds := [], alts := [], laidByText := true, laidKinds := [.handle], laidTests := true, laidLooks := .later }
def LruSaysUptoCardSaid : Prop := Claim7.holds Tryd.pinned (.plain (OpenSpec.upto lruSaysSpec)) lruSaysUptoCard
end Rows
end Go.Proofs.YtmjmdggpchfnbaaDoor
