/- The walk of serve.Near. -/
import Derived.Test.YtnjfmlojbaigjaaDoorSGo
import Derived.Test.YtnjfmlojbaigjaaDoorSRunN
namespace Go.Proofs.YtnjfmlojbaigjaaDoor
set_option maxRecDepth 100000
open Go.RowKit Go.Sort

set_option maxHeartbeats 2000000 in
theorem snearrun_err (v va : Value) (s asks : List Int) (w : World) (hv : IsInts w v s) (ha : IsInts w va asks) (n : Nat) (hn : n = 1 ∨ n = 4 ∨ n = 5) (hc0 : chkV s asks = n) :
    Calls Tryd.prog 22 #[v, va, .func (.func 24) #[] #[]] w fun e w' => e = .returned (.tuple #[.int .i64 0, .slice none 0 0, errV n]) ∧ w' = w := by
  have HV : Hid (IsInts w v s) := hv
  have HVA : Hid (IsInts w va asks) := ha
  have HCK : Hid (chkV s asks = n) := hc0
  obtain ⟨ao, cap, rfl, _⟩ := hv.opened
  obtain ⟨aa, capa, rfl, _⟩ := ha.opened
  clear hv ha hc0
  rcases hn with rfl | rfl | rfl
  all_goals
    go_enter Tryd.func22, Tryd.ntmps22
    go_wp2_with (go_at_call 6; go_must (refine (vcheck_any _ _ s asks _ HV.out HVA.out).mono ?_; rintro e w' ⟨rfl, hw⟩; have hw := hw.symm; subst hw; rw [HCK.out]; simp only [errV]))
    go_ret3
    exact ⟨rfl, rfl⟩
set_option maxHeartbeats 1000000 in
theorem snear_any (v va : Value) (s asks : List Int) (w : World) (hv : IsInts w v s) (ha : IsInts w va asks) :
    Calls Tryd.prog 12 #[v, va] w fun e w' => ∃ vr, e = .returned (.tuple #[.int .i64 (goN false s asks), vr, errV (chkV s asks)]) ∧ OwnI w' w.heap.size vr (goL false s asks) ∧ Below w.heap.size w w' := by
  have HR : Hid (Calls Tryd.prog 22 #[v, va, .func (.func 24) #[] #[]] w fun e w' => ∃ vr, e = .returned (.tuple #[.int .i64 (goN false s asks), vr, errV (chkV s asks)]) ∧ OwnI w' w.heap.size vr (goL false s asks) ∧ Below w.heap.size w w') := by
    by_cases h : chkV s asks = 0
    · refine (snear_ok v va s asks w hv ha h).mono ?_
      rintro e w' ⟨vr, rfl, hO, hb⟩
      exact ⟨vr, by unfold goN; rw [h]; rfl, by unfold goL; rw [if_pos h]; exact hO, hb⟩
    · have hn : chkV s asks = 1 ∨ chkV s asks = 4 ∨ chkV s asks = 5 := by have := chkV_cases s asks; omega
      refine (snearrun_err v va s asks w hv ha _ hn rfl).mono ?_
      rintro e w' ⟨rfl, hw⟩
      exact ⟨_, by unfold goN; rw [if_neg h], by unfold goL; rw [if_neg h]; exact OwnI.nil _ _, by rw [hw]; exact Below.refl _ _⟩
  obtain ⟨ao, cap, rfl, _⟩ := hv.opened
  obtain ⟨aa, capa, rfl, _⟩ := ha.opened
  clear hv ha
  generalize goN false s asks = z at *
  go_enter Tryd.func12, Tryd.ntmps12
  go_wp2_with (go_at_call 22; go_must (refine HR.out.mono ?_; rintro e w' ⟨vr, rfl, hO, hb⟩))
  go_ret3
  exact ⟨vr, rfl, hO, hb⟩
end Go.Proofs.YtnjfmlojbaigjaaDoor
