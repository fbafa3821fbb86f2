/- The walks of the document's Bit (larderwickref2) and Count (larderwickref1). -/
import Derived.Test.YtmibnceadciidaaKeep
import Derived.Laws.AppendOwn
namespace Go.Proofs.Ytmibnceadciidaa
set_option maxRecDepth 100000
open Go.RowKit Go.Sort

theorem rbit_any (m i : Nat) (hm : m < 65536) (hi : i < 1000) (w : World) :
    Calls Try.prog 13 #[.int .i64 (m : Nat), .int .i64 (i : Nat)] w fun e w' => e = .returned (.bool (m.testBit i)) ∧ w' = w := by
  go_enter Try.func13, Try.ntmps13
  go_wp2
  go_loop [0, 5] (fun s k => ∃ j : Nat, j ≤ i ∧ k = .int .i64 (j : Nat) ∧ s = .int .i64 ((m / 2 ^ j : Nat) : Int)) (fun _ k => i - (intOf k).toNat)
  case atStart => exact ⟨0, Nat.zero_le _, rfl, by rw [Nat.pow_zero, Nat.div_one]⟩
  case round =>
    obtain ⟨j, hj, rfl, rfl⟩ := hrel
    by_cases hlt : j < i
    · have hlt' : (j : Int) < (i : Int) := by omega
      have HD : Hid (m / 2 ^ (j+1) = m / 2 ^ j / 2) := by unfold Hid; rw [Nat.pow_succ, Nat.div_div_eq_div_mul]
      have hle : m / 2 ^ j < 65536 := Nat.lt_of_le_of_lt (Nat.div_le_self _ _) hm
      generalize m / 2 ^ j = x at *
      go_wp2
      go_round
      case rel => exact ⟨j + 1, by omega, by go_num, by rw [HD.out]; go_num⟩
      case measure => simp [intOf]; omega
    · have hlt' : ¬ (j : Int) < (i : Int) := by omega
      have HB : Hid (m.testBit i = (((m / 2 ^ j : Nat) : Int) % 2 == 1)) := by
        unfold Hid
        rw [show i = j by omega, Nat.testBit_eq_decide_div_mod_eq, Bool.eq_iff_iff]
        simp only [beq_iff_eq, decide_eq_true_eq]
        omega
      have hle : m / 2 ^ j < 65536 := Nat.lt_of_le_of_lt (Nat.div_le_self _ _) hm
      generalize m / 2 ^ j = x at *
      go_wp2
      go_ret
      exact ⟨by rw [HB.out]; simp, rfl⟩
end Go.Proofs.Ytmibnceadciidaa
