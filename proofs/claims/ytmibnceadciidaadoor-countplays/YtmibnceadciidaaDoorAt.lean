/- Lists alone: where a number stands in a list. -/
import Derived.Test.YtmibnceadciidaaDoorOwn
namespace Go.Proofs.YtmibnceadciidaaDoor
open Go.RowKit Go.Sort

/-- Where a page stands; below 0: nowhere. -/
def at_ (l : List Int) (p : Int) : Int := Lib.idxOf (l.take l.length) p

theorem at_neg {l : List Int} {p : Int} : (decide (0 ≤ at_ l p)) = l.contains p := by
  unfold at_
  by_cases h : p ∈ l
  · obtain ⟨i, _, hi, _⟩ := idx_hit h
    rw [hi]; simp [h]
  · rw [idx_miss h]; simp [h]
end Go.Proofs.YtmibnceadciidaaDoor
