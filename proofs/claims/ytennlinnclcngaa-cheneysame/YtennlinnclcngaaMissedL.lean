/- Lists alone: how many marks are not set. -/
import Derived.Test.YtennlinnclcngaaBools
namespace Go.Proofs.Ytennlinnclcngaa

/-- How many of the first k are not set. -/
def missed (l : List Bool) (k : Nat) : Nat := ((l.take k).filter fun b => !b).length
theorem missed_succ {l : List Bool} {k : Nat} (h : k < l.length) : missed l (k+1) = missed l k + (if l[k]?.getD false then 0 else 1) := by
  unfold missed
  rw [List.take_succ_eq_append_getElem h, List.filter_append, List.length_append, List.getElem?_eq_getElem h, Option.getD_some]
  cases l[k] <;> simp
theorem missed_le (l : List Bool) (k : Nat) : missed l k ≤ k := by
  unfold missed
  have h1 := List.length_filter_le (fun b => !b) (l.take k)
  have h2 := List.length_take (i := k) (l := l)
  omega
end Go.Proofs.Ytennlinnclcngaa
