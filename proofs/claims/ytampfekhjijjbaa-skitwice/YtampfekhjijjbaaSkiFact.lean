/- The walk of skiFact: a closed fact. -/
import Derived.Test.YtampfekhjijjbaaSki
namespace Go.Proofs.Ytampfekhjijjbaa
set_option maxRecDepth 100000
open Go.RowKit

theorem sk_a : costS 10 10 10 = 19 := by decide
theorem sk_e : chkB 10 10 10 = 0 := by decide
theorem sk_b : leastS 10 30 = 10 := by decide
theorem sk_f : chkS 10 30 = 0 := by decide
set_option maxHeartbeats 1000000 in
theorem sfact_any (w : World) : Calls Try.prog 6 #[] w fun e w' => e = .returned (.bool true) ∧ w' = w := by
  go_enter Try.func6, Try.ntmps6
  go_wp2_with (first | (go_at_call 7; go_must (refine (seven_any 10 10 _).mono ?_; rintro e w' ⟨rfl, hw⟩; have hw := hw.symm; subst hw; rw [sk_a, sk_e, show errV 0 = .nilIface from rfl])) | (go_at_call 8; go_must (refine (sleast_any 10 30 _).mono ?_; rintro e w' ⟨rfl, hw⟩; have hw := hw.symm; subst hw; rw [sk_b, sk_f, show errV 0 = .nilIface from rfl])))
  go_ret
  exact ⟨rfl, rfl⟩
theorem mul_in {a b : Int} (ha : 0 ≤ a ∧ a ≤ 2000) (hb : 0 ≤ b ∧ b ≤ 2000) : 0 ≤ a * b ∧ a * b ≤ 4000000 :=
  ⟨Int.mul_nonneg ha.1 hb.1, by have := Int.mul_le_mul ha.2 hb.2 hb.1 (by omega); omega⟩
theorem wrap_in {m : Int} (h : 0 ≤ m ∧ m ≤ 4000000) : IntKind.i64.wrap m = m := by rw [IntKind.wrap_i64]; omega
theorem chkS_cases (p d : Int) : (FineS p d ∧ chkS p d = 0) ∨ (¬ FineS p d ∧ chkS p d = 1) := by
  unfold chkS
  by_cases h : FineS p d
  · exact .inl ⟨h, by rw [if_pos h]⟩
  · exact .inr ⟨h, by rw [if_neg h]⟩
theorem chkB_cases (p d b : Int) : ((FineS p d ∧ FineB b) ∧ chkB p d b = 0) ∨ (¬ (FineS p d ∧ FineB b) ∧ chkB p d b = 1) := by
  unfold chkB
  by_cases h : FineS p d ∧ FineB b
  · exact .inl ⟨h, by rw [if_pos h]⟩
  · exact .inr ⟨h, by rw [if_neg h]⟩
theorem chkB_even (p d : Int) : chkB p d p = chkS p d := by
  unfold chkB chkS
  by_cases h : FineS p d
  · rw [if_pos h, if_pos ⟨h, by unfold FineS at h; unfold FineB; omega⟩]
  · rw [if_neg h, if_neg fun g => h g.1]
/-- What it costs, and the least, in numbers. -/
theorem cost_is {p d b : Int} (h : FineS p d ∧ FineB b) : (d < b ∧ costS p d b = d) ∨ (b ≤ d ∧ costS p d b = b - 1 + p) := by
  unfold costS
  rw [if_pos h]
  by_cases h2 : d < b
  · exact .inl ⟨h2, by rw [if_pos h2]⟩
  · exact .inr ⟨by omega, by rw [if_neg h2]⟩
theorem least_is {p d : Int} (h : FineS p d) : (d < p ∧ leastS p d = d) ∨ (p ≤ d ∧ leastS p d = p) := by
  unfold leastS
  rw [if_pos h]
  by_cases h2 : d < p
  · exact .inl ⟨h2, by rw [if_pos h2]⟩
  · exact .inr ⟨by omega, by rw [if_neg h2]⟩
end Go.Proofs.Ytampfekhjijjbaa
