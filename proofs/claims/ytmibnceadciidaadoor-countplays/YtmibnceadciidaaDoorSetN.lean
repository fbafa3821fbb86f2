/- Lists alone: a set as a number. -/
import Derived.Test.YtmibnceadciidaaDoorMask
namespace Go.Proofs.YtmibnceadciidaaDoor

/-- A set as a number. -/
def setN : List Int → Nat
  | [] => 0
  | p :: r => 2 ^ p.toNat + setN r
theorem setN_append (A B : List Int) : setN (A ++ B) = setN A + setN B := by
  induction A with
  | nil => simp [setN]
  | cons x A ih => rw [List.cons_append, setN, setN, ih]; omega
end Go.Proofs.YtmibnceadciidaaDoor
