/-
  No cell of these rows narrows 'for every input' (looked for: loops, veiled, ifaces, maps, wideKeys, modest, calm, conditions, laid).
  DERIVED. THE GIVEN ROWS OF THIS SEAT. 3 by the template 'for every input the law returns true; each argument reads behind the call as it read before'; 0 by the template 'total and deterministic' (their statements: YtampfekhjijjbaaTotals.lean).
  GIVEN WITH THE SEED: the statements are not yours to turn. If you find one false, say at which input.
  Laid BY PROGRAM, IN A SANDBOX (cutbox-rows.mjs): the forced cells as the released guide's own fill.sh prints them over the translation 55b0a8b23c67f403… (all of the seat's roots in one cut). By AI agents, Wed Nov 11 2026. No macro, syntax, notation, axiom, sorry.
-/
import Derived.Test.YtampfekhjijjbaaChecked
import GoSem.Claim
import GoSem.ClaimJoined
import GoSem.ClaimMapViews
import Derived.JoinedTies
import Derived.KernelRfl
namespace Go.Proofs.Ytampfekhjijjbaa
/- THE CELL 'sum', in the pinned program and in every row, IS THE sha256 OF THE DUMP (.gsa) THAT YtampfekhjijjbaaProg.lean LOADS. Nothing in Lean hashes anything: it is a label: what it is worth is what the hold of that sum in a sandbox is worth. -/
noncomputable def Try.pinned : Pinned := { name := "ytampfekhjijjbaa", sum := "55b0a8b23c67f4036b1ed8f0e037840cb032d19c11234290de93ee1ffedbd316", checked := Try.checked }
namespace Rows
def none {H : Type} : Left H := { results := [], args := [] }

/-- 'larderwicklaw2.SkiTwice': WHATEVER THE INPUT: true; the input reads as it did. -/
def skiTwiceSpec : ChangeSpec := { name := "skiTwice", fn := fun _ => fun
  | [d1, d2] => { results := [.lit (.bool true)], args := [d1, d2] }
  | _ => none }
def skiTwiceRow : OpenClaim := { program := "ytampfekhjijjbaa", sum := "55b0a8b23c67f4036b1ed8f0e037840cb032d19c11234290de93ee1ffedbd316", func := "larderwick/larderwicklaw2.SkiTwice", spec := "skiTwice", apart := false }
def SkiTwiceSaid : Prop := skiTwiceRow.holds Try.pinned (OpenSpec.ofChange skiTwiceSpec)

/-- ITS FALSE NEIGHBOUR: 'it returns false'. Refute it at one input. -/
def skiTwiceWrong : ChangeSpec := { name := "skiTwice", fn := fun _ => fun
  | [d1, d2] => { results := [.lit (.bool false)], args := [d1, d2] }
  | _ => none }
def SkiTwiceWrongFalsely : Prop := skiTwiceRow.holds Try.pinned (OpenSpec.ofChange skiTwiceWrong)

/-- 'larderwicklaw2.SkiBest': WHATEVER THE INPUT: true; the input reads as it did. -/
def skiBestSpec : ChangeSpec := { name := "skiBest", fn := fun _ => fun
  | [d1, d2] => { results := [.lit (.bool true)], args := [d1, d2] }
  | _ => none }
def skiBestRow : OpenClaim := { program := "ytampfekhjijjbaa", sum := "55b0a8b23c67f4036b1ed8f0e037840cb032d19c11234290de93ee1ffedbd316", func := "larderwick/larderwicklaw2.SkiBest", spec := "skiBest", apart := false }
def SkiBestSaid : Prop := skiBestRow.holds Try.pinned (OpenSpec.ofChange skiBestSpec)

/-- ITS FALSE NEIGHBOUR: 'it returns false'. Refute it at one input. -/
def skiBestWrong : ChangeSpec := { name := "skiBest", fn := fun _ => fun
  | [d1, d2] => { results := [.lit (.bool false)], args := [d1, d2] }
  | _ => none }
def SkiBestWrongFalsely : Prop := skiBestRow.holds Try.pinned (OpenSpec.ofChange skiBestWrong)

/-- 'larderwicklaw2.SkiMore': WHATEVER THE INPUT: true; the input reads as it did. -/
def skiMoreSpec : ChangeSpec := { name := "skiMore", fn := fun _ => fun
  | [d1, d2, d3] => { results := [.lit (.bool true)], args := [d1, d2, d3] }
  | _ => none }
def skiMoreRow : OpenClaim := { program := "ytampfekhjijjbaa", sum := "55b0a8b23c67f4036b1ed8f0e037840cb032d19c11234290de93ee1ffedbd316", func := "larderwick/larderwicklaw2.SkiMore", spec := "skiMore", apart := false }
def SkiMoreSaid : Prop := skiMoreRow.holds Try.pinned (OpenSpec.ofChange skiMoreSpec)

/-- ITS FALSE NEIGHBOUR: 'it returns false'. Refute it at one input. -/
def skiMoreWrong : ChangeSpec := { name := "skiMore", fn := fun _ => fun
  | [d1, d2, d3] => { results := [.lit (.bool false)], args := [d1, d2, d3] }
  | _ => none }
def SkiMoreWrongFalsely : Prop := skiMoreRow.holds Try.pinned (OpenSpec.ofChange skiMoreWrong)

/- THE SECOND FORM. 'bulk': how many values and letters a reading holds, each counted each time it is reached (what is shared counts as often as it is met; a slice's spare places count too). A statement '..UptoSaid' is the law's where the arguments, and the package variables that the reading takes, are together of bulk at most 1048576: NARROWER than '..Said'. Prove '..Said' where nothing that the law and all that it calls make is longer than what came in: it says more and counts as full. Else prove '..UptoSaid'. A law counts once. -/
mutual
def uptoBulk {H : Type} : DataW H → Nat
  | .lit (.string bytes) => bytes.length + 1
  | .lit _ => 1
  | .nil => 1
  | .ptr d => uptoBulk d + 1
  | .slice elems spare => uptoBulkAll elems + uptoBulkAll spare + 1
  | .agg parts => uptoBulkAll parts + 1
  | .iface _ d => uptoBulk d + 1
  | .map entries => uptoBulkEntries entries + 1
  | .held _ => 1
def uptoBulkAll {H : Type} : List (DataW H) → Nat
  | [] => 0
  | d :: r => uptoBulk d + uptoBulkAll r
def uptoBulkEntries {H : Type} : List (Lit × DataW H) → Nat
  | [] => 0
  | x :: r => uptoBulkEntry x + uptoBulkEntries r
def uptoBulkEntry {H : Type} : Lit × DataW H → Nat
  | (.string bytes, d) => bytes.length + uptoBulk d + 1
  | (_, d) => uptoBulk d + 1
 end
def uptoSmall : (H : Type) → List (DataW H) → Bool := fun _ ds => decide (uptoBulkAll ds ≤ 1048576)
def OpenSpec.upto (s : _root_.Go.ChangeSpec) : _root_.Go.OpenSpec := { _root_.Go.OpenSpec.ofChange s with cond := some uptoSmall }

/-- 'larderwicklaw2.SkiTwice', WHERE WHAT IT READS IS OF BULK AT MOST 1048576: true; the input reads as it did. -/
def skiTwiceUptoRow : OpenClaim := { program := "ytampfekhjijjbaa", sum := "55b0a8b23c67f4036b1ed8f0e037840cb032d19c11234290de93ee1ffedbd316", func := "larderwick/larderwicklaw2.SkiTwice", spec := "skiTwice", apart := false, narrowed := true }
def SkiTwiceUptoSaid : Prop := skiTwiceUptoRow.holds Try.pinned (OpenSpec.upto skiTwiceSpec)

/-- 'larderwicklaw2.SkiBest', WHERE WHAT IT READS IS OF BULK AT MOST 1048576: true; the input reads as it did. -/
def skiBestUptoRow : OpenClaim := { program := "ytampfekhjijjbaa", sum := "55b0a8b23c67f4036b1ed8f0e037840cb032d19c11234290de93ee1ffedbd316", func := "larderwick/larderwicklaw2.SkiBest", spec := "skiBest", apart := false, narrowed := true }
def SkiBestUptoSaid : Prop := skiBestUptoRow.holds Try.pinned (OpenSpec.upto skiBestSpec)

/-- 'larderwicklaw2.SkiMore', WHERE WHAT IT READS IS OF BULK AT MOST 1048576: true; the input reads as it did. -/
def skiMoreUptoRow : OpenClaim := { program := "ytampfekhjijjbaa", sum := "55b0a8b23c67f4036b1ed8f0e037840cb032d19c11234290de93ee1ffedbd316", func := "larderwick/larderwicklaw2.SkiMore", spec := "skiMore", apart := false, narrowed := true }
def SkiMoreUptoSaid : Prop := skiMoreUptoRow.holds Try.pinned (OpenSpec.upto skiMoreSpec)

end Rows
end Go.Proofs.Ytampfekhjijjbaa
