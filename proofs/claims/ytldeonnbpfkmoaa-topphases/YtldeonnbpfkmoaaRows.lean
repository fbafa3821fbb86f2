/-
  No cell of these rows narrows 'for every input' (looked for: loops, veiled, ifaces, maps, wideKeys, modest, calm, conditions, laid).
  DERIVED. THE GIVEN ROWS OF THIS SEAT. 5 by the template 'for every input the law returns true; each argument reads behind the call as it read before'; 0 by the template 'total and deterministic' (their statements: YtldeonnbpfkmoaaTotals.lean).
  GIVEN WITH THE SEED: the statements are not yours to turn. If you find one false, say at which input.
  Laid BY PROGRAM, IN A SANDBOX (cutbox-rows.mjs): the forced cells as the released guide's own fill.sh prints them over the translation 2dbc36b4989d884a… (all of the seat's roots in one cut). By AI agents, Wed Nov 11 2026. No macro, syntax, notation, axiom, sorry.
-/
import Derived.Test.YtldeonnbpfkmoaaChecked
import GoSem.Claim
import GoSem.ClaimJoined
import GoSem.ClaimMapViews
import Derived.JoinedTies
import Derived.KernelRfl
namespace Go.Proofs.Ytldeonnbpfkmoaa
/- THE CELL 'sum', in the pinned program and in every row, IS THE sha256 OF THE DUMP (.gsa) THAT YtldeonnbpfkmoaaProg.lean LOADS. Nothing in Lean hashes anything: it is a label: what it is worth is what the hold of that sum in a sandbox is worth. -/
noncomputable def Try.pinned : Pinned := { name := "ytldeonnbpfkmoaa", sum := "2dbc36b4989d884ac39027f71e66cf634fa04a3415b69cd40a2acee9a9419749", checked := Try.checked }
namespace Rows
def none {H : Type} : Left H := { results := [], args := [] }

/-- 'larderwicklaw1.FlushPhase': WHATEVER THE INPUT: true; the input reads as it did. -/
def flushPhaseSpec : ChangeSpec := { name := "flushPhase", fn := fun _ => fun
  | [d1, d2] => { results := [.lit (.bool true)], args := [d1, d2] }
  | _ => none }
def flushPhaseRow : OpenClaim := { program := "ytldeonnbpfkmoaa", sum := "2dbc36b4989d884ac39027f71e66cf634fa04a3415b69cd40a2acee9a9419749", func := "larderwick/larderwicklaw1.FlushPhase", spec := "flushPhase", apart := false }
def FlushPhaseSaid : Prop := flushPhaseRow.holds Try.pinned (OpenSpec.ofChange flushPhaseSpec)

/-- ITS FALSE NEIGHBOUR: 'it returns false'. Refute it at one input. -/
def flushPhaseWrong : ChangeSpec := { name := "flushPhase", fn := fun _ => fun
  | [d1, d2] => { results := [.lit (.bool false)], args := [d1, d2] }
  | _ => none }
def FlushPhaseWrongFalsely : Prop := flushPhaseRow.holds Try.pinned (OpenSpec.ofChange flushPhaseWrong)

/-- 'larderwicklaw1.PhaseParts': WHATEVER THE INPUT: true; the input reads as it did. -/
def phasePartsSpec : ChangeSpec := { name := "phaseParts", fn := fun _ => fun
  | [d1, d2] => { results := [.lit (.bool true)], args := [d1, d2] }
  | _ => none }
def phasePartsRow : OpenClaim := { program := "ytldeonnbpfkmoaa", sum := "2dbc36b4989d884ac39027f71e66cf634fa04a3415b69cd40a2acee9a9419749", func := "larderwick/larderwicklaw1.PhaseParts", spec := "phaseParts", apart := false }
def PhasePartsSaid : Prop := phasePartsRow.holds Try.pinned (OpenSpec.ofChange phasePartsSpec)

/-- ITS FALSE NEIGHBOUR: 'it returns false'. Refute it at one input. -/
def phasePartsWrong : ChangeSpec := { name := "phaseParts", fn := fun _ => fun
  | [d1, d2] => { results := [.lit (.bool false)], args := [d1, d2] }
  | _ => none }
def PhasePartsWrongFalsely : Prop := phasePartsRow.holds Try.pinned (OpenSpec.ofChange phasePartsWrong)

/-- 'larderwicklaw1.PhaseFew': WHATEVER THE INPUT: true; the input reads as it did. -/
def phaseFewSpec : ChangeSpec := { name := "phaseFew", fn := fun _ => fun
  | [d1, d2, d3] => { results := [.lit (.bool true)], args := [d1, d2, d3] }
  | _ => none }
def phaseFewRow : OpenClaim := { program := "ytldeonnbpfkmoaa", sum := "2dbc36b4989d884ac39027f71e66cf634fa04a3415b69cd40a2acee9a9419749", func := "larderwick/larderwicklaw1.PhaseFew", spec := "phaseFew", unfollowed := true, recurses := true, apart := false }
def PhaseFewSaid : Prop := phaseFewRow.holds Try.pinned (OpenSpec.ofChange phaseFewSpec)

/-- ITS FALSE NEIGHBOUR: 'it returns false'. Refute it at one input. -/
def phaseFewWrong : ChangeSpec := { name := "phaseFew", fn := fun _ => fun
  | [d1, d2, d3] => { results := [.lit (.bool false)], args := [d1, d2, d3] }
  | _ => none }
def PhaseFewWrongFalsely : Prop := phaseFewRow.holds Try.pinned (OpenSpec.ofChange phaseFewWrong)

/-- 'larderwicklaw1.PhaseBest': WHATEVER THE INPUT: true; the input reads as it did. -/
def phaseBestSpec : ChangeSpec := { name := "phaseBest", fn := fun _ => fun
  | [d1, d2, d3, d4] => { results := [.lit (.bool true)], args := [d1, d2, d3, d4] }
  | _ => none }
def phaseBestRow : OpenClaim := { program := "ytldeonnbpfkmoaa", sum := "2dbc36b4989d884ac39027f71e66cf634fa04a3415b69cd40a2acee9a9419749", func := "larderwick/larderwicklaw1.PhaseBest", spec := "phaseBest", inPlace := ["slices.overlaps[int]"], unfollowed := true, recurses := true, apart := false }
def PhaseBestSaid : Prop := phaseBestRow.holds Try.pinned (OpenSpec.ofChange phaseBestSpec)

/-- ITS FALSE NEIGHBOUR: 'it returns false'. Refute it at one input. -/
def phaseBestWrong : ChangeSpec := { name := "phaseBest", fn := fun _ => fun
  | [d1, d2, d3, d4] => { results := [.lit (.bool false)], args := [d1, d2, d3, d4] }
  | _ => none }
def PhaseBestWrongFalsely : Prop := phaseBestRow.holds Try.pinned (OpenSpec.ofChange phaseBestWrong)

/-- 'larderwicktop.TopPhases': WHATEVER THE INPUT: true; the input reads as it did. -/
def topPhasesSpec : ChangeSpec := { name := "topPhases", fn := fun _ => fun
  | [d1, d2] => { results := [.lit (.bool true)], args := [d1, d2] }
  | _ => none }
def topPhasesRow : OpenClaim := { program := "ytldeonnbpfkmoaa", sum := "2dbc36b4989d884ac39027f71e66cf634fa04a3415b69cd40a2acee9a9419749", func := "larderwick/larderwicktop.TopPhases", spec := "topPhases", inPlace := ["slices.overlaps[int]"], unfollowed := true, recurses := true, apart := false }
def TopPhasesSaid : Prop := topPhasesRow.holds Try.pinned (OpenSpec.ofChange topPhasesSpec)

/-- ITS FALSE NEIGHBOUR: 'it returns false'. Refute it at one input. -/
def topPhasesWrong : ChangeSpec := { name := "topPhases", fn := fun _ => fun
  | [d1, d2] => { results := [.lit (.bool false)], args := [d1, d2] }
  | _ => none }
def TopPhasesWrongFalsely : Prop := topPhasesRow.holds Try.pinned (OpenSpec.ofChange topPhasesWrong)

/- THE SECOND FORM. 'bulk': how many values and letters a reading holds, each counted each time it is reached (what is shared counts as often as it is met; a slice's spare places count too). A statement '..UptoSaid' is the law's where the arguments, and the package variables that the reading takes, are together of bulk at most 1048576: NARROWER than '..Said'. Prove '..Said' where nothing that the law and all that it calls make is longer than what came in: it says more and counts as full. Else prove '..UptoSaid'. A law counts once. -/
mutual
def uptoBulk {H : Type} : DataW H → Nat
  | .lit (.string bytes) => bytes.length + 1
  | .lit _ => 1
  | .nil => 1
  | .ptr d => uptoBulk d + 1
  | .slice elems spare => uptoBulkAll elems + uptoBulkAll spare + 1
  | .agg parts => uptoBulkAll parts + 1
  | .iface _ d => uptoBulk d + 1
  | .map entries => uptoBulkEntries entries + 1
  | .held _ => 1
def uptoBulkAll {H : Type} : List (DataW H) → Nat
  | [] => 0
  | d :: r => uptoBulk d + uptoBulkAll r
def uptoBulkEntries {H : Type} : List (Lit × DataW H) → Nat
  | [] => 0
  | x :: r => uptoBulkEntry x + uptoBulkEntries r
def uptoBulkEntry {H : Type} : Lit × DataW H → Nat
  | (.string bytes, d) => bytes.length + uptoBulk d + 1
  | (_, d) => uptoBulk d + 1
 end
def uptoSmall : (H : Type) → List (DataW H) → Bool := fun _ ds => decide (uptoBulkAll ds ≤ 1048576)
def OpenSpec.upto (s : _root_.Go.ChangeSpec) : _root_.Go.OpenSpec := { _root_.Go.OpenSpec.ofChange s with cond := some uptoSmall }

/-- 'larderwicklaw1.FlushPhase', WHERE WHAT IT READS IS OF BULK AT MOST 1048576: true; the input reads as it did. -/
def flushPhaseUptoRow : OpenClaim := { program := "ytldeonnbpfkmoaa", sum := "2dbc36b4989d884ac39027f71e66cf634fa04a3415b69cd40a2acee9a9419749", func := "larderwick/larderwicklaw1.FlushPhase", spec := "flushPhase", apart := false, narrowed := true }
def FlushPhaseUptoSaid : Prop := flushPhaseUptoRow.holds Try.pinned (OpenSpec.upto flushPhaseSpec)

/-- 'larderwicklaw1.PhaseParts', WHERE WHAT IT READS IS OF BULK AT MOST 1048576: true; the input reads as it did. -/
def phasePartsUptoRow : OpenClaim := { program := "ytldeonnbpfkmoaa", sum := "2dbc36b4989d884ac39027f71e66cf634fa04a3415b69cd40a2acee9a9419749", func := "larderwick/larderwicklaw1.PhaseParts", spec := "phaseParts", apart := false, narrowed := true }
def PhasePartsUptoSaid : Prop := phasePartsUptoRow.holds Try.pinned (OpenSpec.upto phasePartsSpec)

/-- 'larderwicklaw1.PhaseFew', WHERE WHAT IT READS IS OF BULK AT MOST 1048576: true; the input reads as it did. -/
def phaseFewUptoRow : OpenClaim := { program := "ytldeonnbpfkmoaa", sum := "2dbc36b4989d884ac39027f71e66cf634fa04a3415b69cd40a2acee9a9419749", func := "larderwick/larderwicklaw1.PhaseFew", spec := "phaseFew", unfollowed := true, recurses := true, apart := false, narrowed := true }
def PhaseFewUptoSaid : Prop := phaseFewUptoRow.holds Try.pinned (OpenSpec.upto phaseFewSpec)

/-- 'larderwicklaw1.PhaseBest', WHERE WHAT IT READS IS OF BULK AT MOST 1048576: true; the input reads as it did. -/
def phaseBestUptoRow : OpenClaim := { program := "ytldeonnbpfkmoaa", sum := "2dbc36b4989d884ac39027f71e66cf634fa04a3415b69cd40a2acee9a9419749", func := "larderwick/larderwicklaw1.PhaseBest", spec := "phaseBest", inPlace := ["slices.overlaps[int]"], unfollowed := true, recurses := true, apart := false, narrowed := true }
def PhaseBestUptoSaid : Prop := phaseBestUptoRow.holds Try.pinned (OpenSpec.upto phaseBestSpec)

/-- 'larderwicktop.TopPhases', WHERE WHAT IT READS IS OF BULK AT MOST 1048576: true; the input reads as it did. -/
def topPhasesUptoRow : OpenClaim := { program := "ytldeonnbpfkmoaa", sum := "2dbc36b4989d884ac39027f71e66cf634fa04a3415b69cd40a2acee9a9419749", func := "larderwick/larderwicktop.TopPhases", spec := "topPhases", inPlace := ["slices.overlaps[int]"], unfollowed := true, recurses := true, apart := false, narrowed := true }
def TopPhasesUptoSaid : Prop := topPhasesUptoRow.holds Try.pinned (OpenSpec.upto topPhasesSpec)

end Rows
end Go.Proofs.Ytldeonnbpfkmoaa
