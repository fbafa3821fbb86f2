/- The walk of the document's Pow2 (larderwickref2). -/
import Derived.Test.YtmibnceadciidaaBase
namespace Go.Proofs.Ytmibnceadciidaa
open Go.RowKit

theorem pow_any (k : Nat) (hk : k ≤ 16) (w : World) :
    Calls Try.prog 11 #[.int .i64 (k : Nat)] w fun e w' => e = .returned (.int .i64 ((2 ^ k : Nat))) ∧ w' = w := by
  go_enter Try.func11, Try.ntmps11
  go_wp2
  go_loopw [3, 4] (fun s i wr => ∃ j : Nat, j ≤ k ∧ i = .int .i64 (j : Nat) ∧ s = .int .i64 ((2 ^ j : Nat)) ∧ wr = w) (fun _ i _ => k - (RowKit.intOf i).toNat)
  case atStart => exact ⟨0, Nat.zero_le _, rfl, rfl, rfl⟩
  case round =>
    obtain ⟨j, hj, rfl, rfl, rfl⟩ := hrel
    by_cases hjk : j = k
    · subst hjk
      have HP : Hid ((2 ^ j : Nat) = 2 ^ j) := rfl
      generalize hx : (2 ^ j : Nat) = x at *
      go_wp2
      go_ret
      exact ⟨rfl, rfl⟩
    · have hlt : (j : Int) < (k : Int) := by omega
      have h7 : (2 ^ j : Nat) ≤ 2 ^ 16 := Nat.pow_le_pow_right (by decide) (by omega)
      have HX : Hid ((2 ^ (j + 1) : Nat) = 2 ^ j * 2) := Nat.pow_succ ..
      generalize (2 ^ j : Nat) = x at *
      go_wp2
      go_roundw
      case rel => exact ⟨j + 1, by omega, by go_num, by rw [HX.out]; go_num, trivial⟩
      case measure => simp [RowKit.intOf]; omega
end Go.Proofs.Ytmibnceadciidaa
