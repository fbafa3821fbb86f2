/- A row of numbers, opened: plain words, no function of the program is named here. -/
import Derived.Test.YtmibnceadciidaaDoorBase
namespace Go.Proofs.YtmibnceadciidaaDoor
open Go.RowKit

/-- A row of numbers, opened: its form, and its cells where there are any. -/
theorem IsInts.opened {w : World} {v : Value} {l : List Int} (h : IsInts w v l) : ∃ ao cap, v = .slice ao l.length cap ∧ cap ≤ maxLen ∧ ∀ k, k < l.length → ∃ b off, ao = some ⟨b, off, none⟩ ∧ l.length ≤ cap ∧ b < w.heap.size ∧ ∀ j, j < l.length → w.cell? ⟨b, off + j, none⟩ = some (.int .i64 (l[j]?.getD 0)) := by
  rcases h with ⟨rfl, ao, cap, rfl, hcap⟩ | ⟨b, off, cap, rfl, hpos, hlc, hcap, hc⟩
  · exact ⟨ao, cap, rfl, hcap, fun k hk => absurd hk (Nat.not_lt_zero _)⟩
  · exact ⟨_, cap, rfl, hcap, fun k _ => ⟨b, off, rfl, hlc, World.block_lt_of_cell? w _ (hc 0 hpos), hc⟩⟩
end Go.Proofs.YtmibnceadciidaaDoor
