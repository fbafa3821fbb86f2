/- The walk of the document's answer: Costs. -/
import Derived.Test.YtedmfehjifknbaaDoorRefIn
import Derived.Test.YtedmfehjifknbaaDoorLCheck
import Derived.Deep.RegionWith
namespace Go.Proofs.YtedmfehjifknbaaDoor
set_option maxRecDepth 100000
open Go.RowKit Go.Sort

theorem inB_cost (x : Int) : inB x 0 20 = !badC x := by
  unfold inB badC
  by_cases h1 : 0 ≤ x <;> by_cases h2 : x ≤ 20 <;> simp [h1, h2] <;> omega
theorem inB_page (n : Nat) (x : Int) : inB x 0 ((n : Int) - 1) = !badP n x := by
  unfold inB badP
  by_cases h1 : 0 ≤ x <;> by_cases h2 : x ≤ (n : Int) - 1 <;> simp [h1, h2] <;> omega
theorem all_not_any {l : List Int} {f g : Int → Bool} (h : ∀ x, f x = !g x) : l.all f = !l.any g := by
  rw [List.not_any_eq_all_not]
  exact congrArg (fun k => l.all k) (funext h)

set_option maxHeartbeats 2000000 in
theorem refcosts_any (v vc : Value) (l c : List Int) (s : Int) (w : World) (hv : IsInts w v l) (hvc : IsInts w vc c) :
    Calls Tryd.prog 4 #[v, vc, .int .i64 s] w fun e w' => e = .returned (.int .i64 (chkC l c s : Nat)) ∧ w' = w := by
  have H1 : Hid (Calls Tryd.prog 12 #[vc, .int .i64 0, .int .i64 20] w fun e w' => e = .returned (.bool (!c.any badC)) ∧ w' = w) := by unfold Hid; rw [← all_not_any inB_cost]; exact all_any vc c 0 20 w hvc
  have H2 : Hid (Calls Tryd.prog 12 #[v, .int .i64 0, .int .i64 ((c.length : Int) - 1)] w fun e w' => e = .returned (.bool (!l.any (badP c.length))) ∧ w' = w) := by unfold Hid; rw [← all_not_any (inB_page c.length)]; exact all_any v l 0 _ w hv
  have H3 : Hid (Calls Tryd.prog 13 #[.int .i64 s, .int .i64 1, .int .i64 8] w fun e w' => e = .returned (.bool (inB s 1 8)) ∧ w' = w) := in_any s 1 8 w
  obtain ⟨ao, cap, rfl, hcap, _⟩ := hv.opened
  obtain ⟨ac, cac, rfl, hcac, _⟩ := hvc.opened
  clear hv hvc
  unfold maxLen at hcap hcac
  by_cases h1 : 40 < l.length
  · have HK : Hid (chkC l c s = 4) := chkC_long (.inl h1)
    go_enter Tryd.func4, Tryd.ntmps4
    go_wp2
    go_ret
    exact ⟨by rw [HK.out]; rfl, rfl⟩
  · by_cases h2 : 6 < c.length
    · have HK : Hid (chkC l c s = 4) := chkC_long (.inr h2)
      go_enter Tryd.func4, Tryd.ntmps4
      go_wp2
      go_ret
      exact ⟨by rw [HK.out]; rfl, rfl⟩
    · have h40 : l.length ≤ 40 := by omega
      have h6 : c.length ≤ 6 := by omega
      cases e1 : c.any badC with
      | true =>
        have HK : Hid (chkC l c s = 1) := chkC_cost h40 h6 e1
        rw [e1] at H1
        have H1' : Hid (Calls Tryd.prog 12 #[.slice ac c.length cac, .int .i64 0, .int .i64 20] w fun e w' => e = .returned (.bool false) ∧ w' = w) := H1
        clear e1 H1
        go_enter Tryd.func4, Tryd.ntmps4
        go_wp2_with (go_at_call 12; go_must (refine H1'.out.mono ?_; rintro e w' ⟨rfl, hw⟩; have hw := hw.symm; subst hw))
        go_ret
        exact ⟨by rw [HK.out]; rfl, rfl⟩
      | false =>
        rw [e1] at H1
        have H1' : Hid (Calls Tryd.prog 12 #[.slice ac c.length cac, .int .i64 0, .int .i64 20] w fun e w' => e = .returned (.bool true) ∧ w' = w) := H1
        clear H1
        cases e2 : l.any (badP c.length) with
        | true =>
          have HK : Hid (chkC l c s = 1) := chkC_page h40 h6 e2
          rw [e2] at H2
          have H2' : Hid (Calls Tryd.prog 12 #[.slice ao l.length cap, .int .i64 0, .int .i64 ((c.length : Int) - 1)] w fun e w' => e = .returned (.bool false) ∧ w' = w) := H2
          clear e1 e2 H2
          go_enter Tryd.func4, Tryd.ntmps4
          go_wp2_with (first | (go_at_call_of 12 (Value.slice ac c.length cac); go_must (refine H1'.out.mono ?_; rintro e w' ⟨rfl, hw⟩; have hw := hw.symm; subst hw)) | (go_at_call_of 12 (Value.slice ao l.length cap); go_must (refine H2'.out.mono ?_; rintro e w' ⟨rfl, hw⟩; have hw := hw.symm; subst hw)))
          go_ret
          exact ⟨by rw [HK.out]; rfl, rfl⟩
        | false =>
          rw [e2] at H2
          have H2' : Hid (Calls Tryd.prog 12 #[.slice ao l.length cap, .int .i64 0, .int .i64 ((c.length : Int) - 1)] w fun e w' => e = .returned (.bool true) ∧ w' = w) := H2
          clear H2
          by_cases hs : 1 ≤ s ∧ s ≤ 8
          · have HK : Hid (chkC l c s = 0) := chkC_ok h40 h6 e1 e2 hs
            have hB : inB s 1 8 = true := by unfold inB; simp [hs]
            rw [hB] at H3
            clear e1 e2 hB
            go_enter Tryd.func4, Tryd.ntmps4
            go_wp2_with (first | (go_at_call_of 12 (Value.slice ac c.length cac); go_must (refine H1'.out.mono ?_; rintro e w' ⟨rfl, hw⟩; have hw := hw.symm; subst hw)) | (go_at_call_of 12 (Value.slice ao l.length cap); go_must (refine H2'.out.mono ?_; rintro e w' ⟨rfl, hw⟩; have hw := hw.symm; subst hw)) | (go_at_call 13; go_must (refine H3.out.mono ?_; rintro e w' ⟨rfl, hw⟩; have hw := hw.symm; subst hw)))
            go_ret
            exact ⟨by rw [HK.out]; rfl, rfl⟩
          · have HK : Hid (chkC l c s = 1) := chkC_slots h40 h6 (by omega)
            have hB : inB s 1 8 = false := by unfold inB; simp; omega
            rw [hB] at H3
            clear e1 e2 hB hs
            go_enter Tryd.func4, Tryd.ntmps4
            go_wp2_with (first | (go_at_call_of 12 (Value.slice ac c.length cac); go_must (refine H1'.out.mono ?_; rintro e w' ⟨rfl, hw⟩; have hw := hw.symm; subst hw)) | (go_at_call_of 12 (Value.slice ao l.length cap); go_must (refine H2'.out.mono ?_; rintro e w' ⟨rfl, hw⟩; have hw := hw.symm; subst hw)) | (go_at_call 13; go_must (refine H3.out.mono ?_; rintro e w' ⟨rfl, hw⟩; have hw := hw.symm; subst hw)))
            go_ret
            exact ⟨by rw [HK.out]; rfl, rfl⟩
end Go.Proofs.YtedmfehjifknbaaDoor
