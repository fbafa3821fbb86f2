/- Numbers alone: sets of nodes as bits. -/
import Derived.Test.YtmibnceadciidaaBase
namespace Go.Proofs.Ytmibnceadciidaa

theorem bits_unique {m n : Nat} (hm : m < 65536) (hn : n < 65536) (h : ∀ i : Nat, i < 16 → m.testBit i = n.testBit i) : m = n := by
  refine Nat.eq_of_testBit_eq fun i => ?_
  by_cases hi : i < 16
  · exact h i hi
  · rw [Nat.testBit_lt_two_pow (Nat.lt_of_lt_of_le hm (Nat.pow_le_pow_right (n := 2) (by omega) (show 16 ≤ i by omega))), Nat.testBit_lt_two_pow (Nat.lt_of_lt_of_le hn (Nat.pow_le_pow_right (n := 2) (by omega) (show 16 ≤ i by omega)))]
end Go.Proofs.Ytmibnceadciidaa
