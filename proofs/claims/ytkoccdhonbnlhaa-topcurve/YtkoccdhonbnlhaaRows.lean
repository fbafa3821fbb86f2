/-
  No cell of these rows narrows 'for every input' (looked for: loops, veiled, ifaces, maps, wideKeys, modest, calm, conditions, laid).
  DERIVED. THE GIVEN ROWS OF THIS SEAT. 3 by the template 'for every input the law returns true; each argument reads behind the call as it read before'; 0 by the template 'total and deterministic' (their statements: YtkoccdhonbnlhaaTotals.lean).
  GIVEN WITH THE SEED: the statements are not yours to turn. If you find one false, say at which input.
  Laid BY PROGRAM, IN A SANDBOX (cutbox-rows.mjs): the forced cells as the released guide's own fill.sh prints them over the translation 6988fdf6ab0e23bf… (all of the seat's roots in one cut). By AI agents, Wed Nov 11 2026. No macro, syntax, notation, axiom, sorry.
-/
import Derived.Test.YtkoccdhonbnlhaaChecked
import GoSem.Claim
import GoSem.ClaimJoined
import GoSem.ClaimMapViews
import Derived.JoinedTies
import Derived.KernelRfl
namespace Go.Proofs.Ytkoccdhonbnlhaa
/- THE CELL 'sum', in the pinned program and in every row, IS THE sha256 OF THE DUMP (.gsa) THAT YtkoccdhonbnlhaaProg.lean LOADS. Nothing in Lean hashes anything: it is a label: what it is worth is what the hold of that sum in a sandbox is worth. -/
noncomputable def Try.pinned : Pinned := { name := "ytkoccdhonbnlhaa", sum := "6988fdf6ab0e23bf1183c2d0e3cd6490c56780bd94cbdbf69e9df20d2cf1e2a3", checked := Try.checked }
namespace Rows
def none {H : Type} : Left H := { results := [], args := [] }

/-- 'larderwicklaw1.StackCurve': WHATEVER THE INPUT: true; the input reads as it did. -/
def stackCurveSpec : ChangeSpec := { name := "stackCurve", fn := fun _ => fun
  | [d1, d2] => { results := [.lit (.bool true)], args := [d1, d2] }
  | _ => none }
def stackCurveRow : OpenClaim := { program := "ytkoccdhonbnlhaa", sum := "6988fdf6ab0e23bf1183c2d0e3cd6490c56780bd94cbdbf69e9df20d2cf1e2a3", func := "larderwick/larderwicklaw1.StackCurve", spec := "stackCurve", inPlace := ["slices.overlaps[int]"], apart := false }
def StackCurveSaid : Prop := stackCurveRow.holds Try.pinned (OpenSpec.ofChange stackCurveSpec)

/-- ITS FALSE NEIGHBOUR: 'it returns false'. Refute it at one input. -/
def stackCurveWrong : ChangeSpec := { name := "stackCurve", fn := fun _ => fun
  | [d1, d2] => { results := [.lit (.bool false)], args := [d1, d2] }
  | _ => none }
def StackCurveWrongFalsely : Prop := stackCurveRow.holds Try.pinned (OpenSpec.ofChange stackCurveWrong)

/-- 'larderwicklaw1.StackFalls': WHATEVER THE INPUT: true; the input reads as it did. -/
def stackFallsSpec : ChangeSpec := { name := "stackFalls", fn := fun _ => fun
  | [d] => { results := [.lit (.bool true)], args := [d] }
  | _ => none }
def stackFallsRow : OpenClaim := { program := "ytkoccdhonbnlhaa", sum := "6988fdf6ab0e23bf1183c2d0e3cd6490c56780bd94cbdbf69e9df20d2cf1e2a3", func := "larderwick/larderwicklaw1.StackFalls", spec := "stackFalls", inPlace := ["slices.overlaps[int]"], apart := false }
def StackFallsSaid : Prop := stackFallsRow.holds Try.pinned (OpenSpec.ofChange stackFallsSpec)

/-- ITS FALSE NEIGHBOUR: 'it returns false'. Refute it at one input. -/
def stackFallsWrong : ChangeSpec := { name := "stackFalls", fn := fun _ => fun
  | [d] => { results := [.lit (.bool false)], args := [d] }
  | _ => none }
def StackFallsWrongFalsely : Prop := stackFallsRow.holds Try.pinned (OpenSpec.ofChange stackFallsWrong)

/-- 'larderwicktop.TopCurve': WHATEVER THE INPUT: true; the input reads as it did. -/
def topCurveSpec : ChangeSpec := { name := "topCurve", fn := fun _ => fun
  | [d1, d2] => { results := [.lit (.bool true)], args := [d1, d2] }
  | _ => none }
def topCurveRow : OpenClaim := { program := "ytkoccdhonbnlhaa", sum := "6988fdf6ab0e23bf1183c2d0e3cd6490c56780bd94cbdbf69e9df20d2cf1e2a3", func := "larderwick/larderwicktop.TopCurve", spec := "topCurve", inPlace := ["slices.overlaps[int]"], unfollowed := true, recurses := true, apart := false }
def TopCurveSaid : Prop := topCurveRow.holds Try.pinned (OpenSpec.ofChange topCurveSpec)

/-- ITS FALSE NEIGHBOUR: 'it returns false'. Refute it at one input. -/
def topCurveWrong : ChangeSpec := { name := "topCurve", fn := fun _ => fun
  | [d1, d2] => { results := [.lit (.bool false)], args := [d1, d2] }
  | _ => none }
def TopCurveWrongFalsely : Prop := topCurveRow.holds Try.pinned (OpenSpec.ofChange topCurveWrong)

/- THE SECOND FORM. 'bulk': how many values and letters a reading holds, each counted each time it is reached (what is shared counts as often as it is met; a slice's spare places count too). A statement '..UptoSaid' is the law's where the arguments, and the package variables that the reading takes, are together of bulk at most 1048576: NARROWER than '..Said'. Prove '..Said' where nothing that the law and all that it calls make is longer than what came in: it says more and counts as full. Else prove '..UptoSaid'. A law counts once. -/
mutual
def uptoBulk {H : Type} : DataW H → Nat
  | .lit (.string bytes) => bytes.length + 1
  | .lit _ => 1
  | .nil => 1
  | .ptr d => uptoBulk d + 1
  | .slice elems spare => uptoBulkAll elems + uptoBulkAll spare + 1
  | .agg parts => uptoBulkAll parts + 1
  | .iface _ d => uptoBulk d + 1
  | .map entries => uptoBulkEntries entries + 1
  | .held _ => 1
def uptoBulkAll {H : Type} : List (DataW H) → Nat
  | [] => 0
  | d :: r => uptoBulk d + uptoBulkAll r
def uptoBulkEntries {H : Type} : List (Lit × DataW H) → Nat
  | [] => 0
  | x :: r => uptoBulkEntry x + uptoBulkEntries r
def uptoBulkEntry {H : Type} : Lit × DataW H → Nat
  | (.string bytes, d) => bytes.length + uptoBulk d + 1
  | (_, d) => uptoBulk d + 1
 end
def uptoSmall : (H : Type) → List (DataW H) → Bool := fun _ ds => decide (uptoBulkAll ds ≤ 1048576)
def OpenSpec.upto (s : _root_.Go.ChangeSpec) : _root_.Go.OpenSpec := { _root_.Go.OpenSpec.ofChange s with cond := some uptoSmall }

/-- 'larderwicklaw1.StackCurve', WHERE WHAT IT READS IS OF BULK AT MOST 1048576: true; the input reads as it did. -/
def stackCurveUptoRow : OpenClaim := { program := "ytkoccdhonbnlhaa", sum := "6988fdf6ab0e23bf1183c2d0e3cd6490c56780bd94cbdbf69e9df20d2cf1e2a3", func := "larderwick/larderwicklaw1.StackCurve", spec := "stackCurve", inPlace := ["slices.overlaps[int]"], apart := false, narrowed := true }
def StackCurveUptoSaid : Prop := stackCurveUptoRow.holds Try.pinned (OpenSpec.upto stackCurveSpec)

/-- 'larderwicklaw1.StackFalls', WHERE WHAT IT READS IS OF BULK AT MOST 1048576: true; the input reads as it did. -/
def stackFallsUptoRow : OpenClaim := { program := "ytkoccdhonbnlhaa", sum := "6988fdf6ab0e23bf1183c2d0e3cd6490c56780bd94cbdbf69e9df20d2cf1e2a3", func := "larderwick/larderwicklaw1.StackFalls", spec := "stackFalls", inPlace := ["slices.overlaps[int]"], apart := false, narrowed := true }
def StackFallsUptoSaid : Prop := stackFallsUptoRow.holds Try.pinned (OpenSpec.upto stackFallsSpec)

/-- 'larderwicktop.TopCurve', WHERE WHAT IT READS IS OF BULK AT MOST 1048576: true; the input reads as it did. -/
def topCurveUptoRow : OpenClaim := { program := "ytkoccdhonbnlhaa", sum := "6988fdf6ab0e23bf1183c2d0e3cd6490c56780bd94cbdbf69e9df20d2cf1e2a3", func := "larderwick/larderwicktop.TopCurve", spec := "topCurve", inPlace := ["slices.overlaps[int]"], unfollowed := true, recurses := true, apart := false, narrowed := true }
def TopCurveUptoSaid : Prop := topCurveUptoRow.holds Try.pinned (OpenSpec.upto topCurveSpec)

end Rows
end Go.Proofs.Ytkoccdhonbnlhaa
