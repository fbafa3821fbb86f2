/- play.Run at every input: what it answers is 'runS'. -/
import Derived.Test.YtkhjpelghlchnabRun
namespace Go.Proofs.Ytkhjpelghlchnab
open Go.RowKit Go.Sort

set_option maxHeartbeats 400000 in
theorem run_none (v vo : Value) (s : Nat) (w : World) (hv : IsInts w v []) (hc0 : chk [] s = 0) :
    Calls Try.prog 6 #[v, .int .i64 s, vo] w fun e w' => e = .returned (.tuple #[.int .i64 0, .slice none 0 0, .nilIface]) ∧ w' = w := by
  have HV : Hid (IsInts w v []) := hv
  have HCK : Hid (chk [] s = 0) := hc0
  rcases hv with ⟨_, ao, cap, rfl, hcap⟩ | ⟨b, off, cap, rfl, hpos, hlc, hcap, hc⟩
  · clear hc0
    go_enter Try.func6, Try.ntmps6
    go_wp2_with (go_at_call 9; go_must (refine (check_any _ [] s _ HV.out).mono ?_; rintro e w' ⟨rfl, hw⟩; have hw := hw.symm; subst hw; rw [HCK.out]; simp only [errV, if_true]))
    go_loop [10, 11, 24] (fun m vh i => m = .int .i64 0 ∧ vh = .slice none 0 0 ∧ i = .int .i64 0) (fun _ _ _ => 0)
    case atStart => exact ⟨rfl, rfl, rfl⟩
    case round =>
      obtain ⟨rfl, rfl, rfl⟩ := hrel
      go_wp2_with (go_at_call 17; go_must (refine (Try.slices_Sort_int_none none 0 _).mono ?_; rintro e w' ⟨rfl, hw⟩; have hw := hw.symm; subst hw))
      go_ret3
      exact ⟨rfl, rfl⟩
  · simp at hpos

set_option maxHeartbeats 400000 in
theorem run_err (v vo : Value) (l : List Int) (s : Int) (w : World) (hv : IsInts w v l) (hc0 : chk l s ≠ 0) :
    Calls Try.prog 6 #[v, .int .i64 s, vo] w fun e w' => e = .returned (.tuple #[.int .i64 0, .slice none 0 0, errV (chk l s)]) ∧ w' = w := by
  have HV : Hid (IsInts w v l) := hv
  have HE : Hid (errV (chk l s) = .iface 43 (.int .i64 (chk l s))) := by unfold Hid errV; rw [if_neg hc0]
  clear hc0 hv
  go_enter Try.func6, Try.ntmps6
  go_wp2_with (go_at_call 9; go_must (refine (check_any _ l s _ HV.out).mono ?_; rintro e w' ⟨rfl, hw⟩; have hw := hw.symm; subst hw; rw [HE.out]))
  go_ret3
  exact ⟨by rw [HE.out]; rfl, rfl⟩

/-- What Run answers. -/
def runS (l : List Int) (s : Int) (out : List Int) : Nat × List Int × Nat :=
  if chk l s = 0 then ((play s.toNat l out [] 0).1, (play s.toNat l out [] 0).2.1.mergeSort le, (play s.toNat l out [] 0).2.2) else (0, [], chk l s)

theorem chk_zero4 {l : List Int} {s : Int} (h : chk l s = 0) : l.length ≤ 40 ∧ 1 ≤ s ∧ s ≤ 8 ∧ l.any bad = false := by
  unfold chk at h
  split at h
  · simp at h
  · split at h
    · simp at h
    · split at h
      · simp at h
      · rename_i h1 h2 h3
        exact ⟨by omega, by omega, by omega, by simpa using h2⟩

theorem run_any (v vo : Value) (l out : List Int) (s : Int) (w : World) (hv : IsInts w v l) (ho : IsInts w vo out) :
    Calls Try.prog 6 #[v, .int .i64 s, vo] w fun e w' => ∃ vh, e = .returned (.tuple #[.int .i64 (runS l s out).1, vh, errV (runS l s out).2.2]) ∧ OwnI w' w.heap.size vh (runS l s out).2.1 ∧ Below w.heap.size w w' := by
  by_cases hc : chk l s = 0
  · obtain ⟨h1, h2, h3, h4⟩ := chk_zero4 hc
    obtain ⟨n, rfl⟩ := Int.eq_ofNat_of_zero_le (show 0 ≤ s by omega)
    have hr : runS l n out = ((play n l out [] 0).1, (play n l out [] 0).2.1.mergeSort le, (play n l out [] 0).2.2) := by
      unfold runS; rw [if_pos hc]; simp
    rw [hr]
    by_cases hpos : 0 < l.length
    · exact run_ok v vo l out n w hv ho hc h1 (by omega) (by omega) hpos
    · have hl : l = [] := List.eq_nil_of_length_eq_zero (by omega)
      subst hl
      refine (run_none v vo n w hv hc).mono ?_
      rintro e w' ⟨rfl, rfl⟩
      refine ⟨_, by simp only [play, errV]; rfl, by simpa [play] using OwnI.nil _ _, Below.refl _ _⟩
  · have hr : runS l s out = (0, [], chk l s) := by unfold runS; rw [if_neg hc]
    rw [hr]
    refine (run_err v vo l s w hv hc).mono ?_
    rintro e w' ⟨rfl, rfl⟩
    exact ⟨_, rfl, OwnI.nil _ _, Below.refl _ _⟩
end Go.Proofs.Ytkhjpelghlchnab
