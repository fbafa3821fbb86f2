/- Lists alone: the pages of a part of the requests, the one asked for last first, looked at from the end. -/
import Derived.Test.YtbnhlnjbgimibaaDoorFull
import Derived.Test.YtbnhlnjbgimibaaDoorLate
namespace Go.Proofs.YtbnhlnjbgimibaaDoor

theorem full_short (l : List Int) : (full l).length ≤ l.length := by rw [full_length]; exact firsts_le l _

theorem seen_in {L : List Int} {u : Nat} {x : Int} (hu : u < L.length) (hx : L[u]?.getD 0 = x) (h : (full (L.drop (u+1))).contains x = true) : full (L.drop u) = full (L.drop (u+1)) ∧ x ∈ L.drop (u+1) := by
  have hm : x ∈ L.drop (u+1) := full_mem.1 (List.contains_iff_mem.1 h)
  refine ⟨?_, hm⟩
  rw [full_drop hu, hx, if_pos hm]
theorem seen_out {L : List Int} {u : Nat} {x : Int} (hu : u < L.length) (hx : L[u]?.getD 0 = x) (h : (full (L.drop (u+1))).contains x = false) : full (L.drop u) = full (L.drop (u+1)) ++ [x] := by
  have hm : x ∉ L.drop (u+1) := fun hm => by
    have := List.contains_iff_mem.2 (full_mem.2 hm)
    rw [h] at this; cases this
  rw [full_drop hu, hx, if_neg hm]

end Go.Proofs.YtbnhlnjbgimibaaDoor
