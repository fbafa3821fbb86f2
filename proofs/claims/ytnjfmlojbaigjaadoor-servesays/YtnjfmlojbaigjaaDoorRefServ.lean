/- The walk of the document's answer (larderwickref1): Servers. -/
import Derived.Test.YtnjfmlojbaigjaaDoorSCheck
import Derived.Test.YtnjfmlojbaigjaaDoorRefIn0
namespace Go.Proofs.YtnjfmlojbaigjaaDoor
set_option maxRecDepth 100000
open Go.RowKit

theorem bad_in (x : Int) : inB x 0 12 = !badP x := by
  unfold inB badP
  by_cases h1 : x < 0
  · rw [decide_eq_true h1, decide_eq_false (show ¬ 0 ≤ x by omega)]; rfl
  · rw [decide_eq_false h1, decide_eq_true (show 0 ≤ x by omega)]
    by_cases h2 : 12 < x
    · rw [decide_eq_true h2, decide_eq_false (show ¬ x ≤ 12 by omega)]; rfl
    · rw [decide_eq_false h2, decide_eq_true (show x ≤ 12 by omega)]; rfl
theorem all_bad (l : List Int) : (l.all fun x => inB x 0 12) = !(l.any badP) := by
  induction l with
  | nil => rfl
  | cons x r ih => rw [List.all_cons, List.any_cons, ih, bad_in, Bool.not_or]

set_option maxHeartbeats 2000000 in
theorem rserv_any (v va : Value) (s asks : List Int) (w : World) (hv : IsInts w v s) (ha : IsInts w va asks) :
    Calls Tryd.prog 4 #[v, va] w fun e w' => e = .returned (.int .i64 (chkV s asks : Nat)) ∧ w' = w := by
  have HV : Hid (IsInts w v s) := hv
  have HA : Hid (IsInts w va asks) := ha
  obtain ⟨ao, cap, rfl, hcap, _⟩ := hv.opened
  obtain ⟨aa, capa, rfl, hcapa, _⟩ := ha.opened
  unfold maxLen at hcap hcapa
  clear hv ha
  have HCS : Hid (Calls Tryd.prog 14 #[.slice ao s.length cap, .int .i64 0, .int .i64 12] w fun e w' => e = .returned (.bool !(s.any badP)) ∧ w' = w) := by
    have := all_any _ s 0 12 w HV.out
    rwa [all_bad] at this
  have HCA : Hid (Calls Tryd.prog 14 #[.slice aa asks.length capa, .int .i64 0, .int .i64 12] w fun e w' => e = .returned (.bool !(asks.any badP)) ∧ w' = w) := by
    have := all_any _ asks 0 12 w HA.out
    rwa [all_bad] at this
  by_cases h0 : s.length = 0
  · have HC : Hid (chkV s asks = 5) := by unfold Hid chkV; rw [if_pos h0]
    have h0b : ((s.length : Int) == 0) = true := by rw [beq_iff_eq]; omega
    rw [HC.out]
    go_enter Tryd.func4, Tryd.ntmps4
    go_wp2
    go_ret
    exact ⟨rfl, rfl⟩
  · have h0b : ((s.length : Int) == 0) = false := by rw [beq_eq_false_iff_ne]; omega
    by_cases h1 : 3 < s.length ∨ 20 < asks.length
    · have HC : Hid (chkV s asks = 4) := by unfold Hid chkV; rw [if_neg h0, if_pos h1]
      rw [HC.out]
      rcases (by omega : 3 < s.length ∨ (s.length ≤ 3 ∧ 20 < asks.length)) with h2 | ⟨h2, h3⟩
      all_goals
        go_enter Tryd.func4, Tryd.ntmps4
        go_wp2
        go_ret
        exact ⟨rfl, rfl⟩
    · have hs3 : s.length ≤ 3 := by omega
      have ha20 : asks.length ≤ 20 := by omega
      have HC : Hid (chkV s asks = if s.any badP || asks.any badP then 1 else 0) := by unfold Hid chkV; rw [if_neg h0, if_neg h1]
      rw [HC.out]
      clear h0 h1 HC HV HA
      cases hsb : s.any badP <;> cases hab : asks.any badP
      all_goals
        rw [hsb] at HCS
        rw [hab] at HCA
        clear hsb hab
        simp only [Bool.not_true, Bool.not_false, Bool.or_true, Bool.or_false, if_true] at *
        go_enter Tryd.func4, Tryd.ntmps4
        go_wp2_with (first | (go_at_call_of 14 (Value.slice ao s.length cap); go_must (refine HCS.out.mono ?_; rintro e w' ⟨rfl, hw⟩; have hw := hw.symm; subst hw)) | (go_at_call_of 14 (Value.slice aa asks.length capa); go_must (refine HCA.out.mono ?_; rintro e w' ⟨rfl, hw⟩; have hw := hw.symm; subst hw)))
        go_ret
        exact ⟨by simp, rfl⟩
end Go.Proofs.YtnjfmlojbaigjaaDoor
