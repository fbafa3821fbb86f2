/- Numbers alone, for chapter 12. -/
import Derived.Test.YtampfekhjijjbaaDoorSki
namespace Go.Proofs.YtampfekhjijjbaaDoor

theorem chkS_cases (p d : Int) : (FineS p d ∧ chkS p d = 0) ∨ (¬ FineS p d ∧ chkS p d = 1) := by
  unfold chkS
  by_cases h : FineS p d
  · exact .inl ⟨h, by rw [if_pos h]⟩
  · exact .inr ⟨h, by rw [if_neg h]⟩
theorem chkB_cases (p d b : Int) : ((FineS p d ∧ FineB b) ∧ chkB p d b = 0) ∨ (¬ (FineS p d ∧ FineB b) ∧ chkB p d b = 1) := by
  unfold chkB
  by_cases h : FineS p d ∧ FineB b
  · exact .inl ⟨h, by rw [if_pos h]⟩
  · exact .inr ⟨h, by rw [if_neg h]⟩
theorem chkB_even (p d : Int) : chkB p d p = chkS p d := by
  unfold chkB chkS
  by_cases h : FineS p d
  · rw [if_pos h, if_pos ⟨h, by unfold FineS at h; unfold FineB; omega⟩]
  · rw [if_neg h, if_neg fun g => h g.1]
/-- What it costs, and the least, in numbers. -/
theorem cost_is {p d b : Int} (h : FineS p d ∧ FineB b) : (d < b ∧ costS p d b = d) ∨ (b ≤ d ∧ costS p d b = b - 1 + p) := by
  unfold costS
  rw [if_pos h]
  by_cases h2 : d < b
  · exact .inl ⟨h2, by rw [if_pos h2]⟩
  · exact .inr ⟨by omega, by rw [if_neg h2]⟩
theorem least_is {p d : Int} (h : FineS p d) : (d < p ∧ leastS p d = d) ∨ (p ≤ d ∧ leastS p d = p) := by
  unfold leastS
  rw [if_pos h]
  by_cases h2 : d < p
  · exact .inl ⟨h2, by rw [if_pos h2]⟩
  · exact .inr ⟨by omega, by rw [if_neg h2]⟩
end Go.Proofs.YtampfekhjijjbaaDoor
