/- Lists alone: where a number stands is its number among them. -/
import Derived.Test.YtennlinnclcngaaDoorAt
import Derived.Test.YtennlinnclcngaaDoorAnewL
namespace Go.Proofs.YtennlinnclcngaaDoor
open Go.RowKit Go.Sort

theorem at_plc {N : List Int} {x : Int} (h : x ∈ N) : at_ N x = plc N x := by
  unfold at_ plc
  have hi : N.idxOf x < N.length := List.idxOf_lt_length_iff.2 h
  refine Lib.idxOf_hit N N.length _ x hi (Nat.le_refl _) ?_ ?_
  · rw [List.getD_eq_getElem?_getD, List.getElem?_eq_getElem hi]; simp
  · intro j hj e
    have hjl : j < N.length := by omega
    rw [List.getD_eq_getElem?_getD, List.getElem?_eq_getElem hjl] at e
    simp at e
    have := List.not_of_lt_findIdx (xs := N) (p := fun y => y == x) (i := j) hj
    simp [e] at this
end Go.Proofs.YtennlinnclcngaaDoor
