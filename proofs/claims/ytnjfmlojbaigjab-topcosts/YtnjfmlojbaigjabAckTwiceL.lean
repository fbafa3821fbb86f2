/- Lists alone, for chapter 13: how often it is told, and what that costs, at most. -/
import Derived.Test.YtnjfmlojbaigjabAcks
namespace Go.Proofs.Ytnjfmlojbaigjab

theorem told_few (p : Int) : ∀ (f : Nat) (ts : List Int), (told p f ts).length ≤ f
  | 0, _ => by simp [told]
  | f + 1, [] => by simp [told]
  | f + 1, t :: r => by
    have := told_few p f (past (firstAt p (t :: r)) (t :: r))
    rw [told, List.length_cons]; omega
theorem tc_most {l : List Int} {p : Int} (hf : FineA l p) : tc p l ≤ 800 := by
  have hp := hf.price
  have h1 := tc_le (show 0 ≤ p by omega) l.length l hf.rise (Nat.le_refl _)
  have h2 : (gc p l : Int) ≤ 20 := by
    have := told_few p l.length l
    have := hf.many
    unfold gc; omega
  have h3 := Int.mul_le_mul (show 2 * p ≤ 40 by omega) h2 (by omega) (by omega)
  omega
end Go.Proofs.Ytnjfmlojbaigjab
