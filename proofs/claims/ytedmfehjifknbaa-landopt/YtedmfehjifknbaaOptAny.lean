/- opt.Run at every input. -/
import Derived.Test.YtedmfehjifknbaaOpt
namespace Go.Proofs.Ytedmfehjifknbaa
open Go.RowKit Go.Sort

set_option maxHeartbeats 400000 in
theorem opt_none (v : Value) (s : Nat) (w : World) (hv : IsInts w v []) (hs1 : 1 ≤ s) (hs8 : s ≤ 8) :
    Calls Try.prog 13 #[v, .int .i64 s] w fun e w' => e = .returned (.tuple #[.slice none 0 0, .slice none 0 0, .slice none 0 0, .nilIface]) ∧ Below w.heap.size w w' := by
  have HCK : Hid (chk [] s = 0) := chk_ok (by simp) (by simp) ⟨by omega, by omega⟩
  rcases hv with ⟨_, ao, cap, rfl, hcap⟩ | ⟨b, off, cap, rfl, hpos, _⟩
  · have HV : Hid (IsInts (w.alloc (.cells #[.slice ao 0 cap] 22)) (.slice ao 0 cap) []) := .inl ⟨rfl, ao, cap, rfl, hcap⟩
    have HR : Hid ((w.alloc (.cells #[.slice ao 0 cap] 22)).cell? ⟨w.heap.size, 0, none⟩ = some (.slice ao 0 cap)) := new_one w _ _ 0 _ rfl
    have HA : Hid (Below w.heap.size w (w.alloc (.cells #[.slice ao 0 cap] 22))) := (Below.refl _ _).alloc (Nat.le_refl _) _
    go_enter Try.func13, Try.ntmps13
    go_wp2_with (go_at_call 26; fail)
    generalize w.alloc (.cells #[.slice ao 0 cap] 22) = wA at *
    refine (check_any _ [] s _ HV.out).mono ?_
    rintro e w' ⟨rfl, hw⟩
    have hw := hw.symm
    subst hw
    rw [HCK.out]
    simp only [errV, if_true]
    have hRc : wA.cell? ⟨w.heap.size, 0, none⟩ = some (.slice ao 0 cap) := HR.out
    go_wp2
    go_loop [9, 10, 11, 24] (fun b o h i => b = .slice none 0 0 ∧ o = .slice none 0 0 ∧ h = .slice none 0 0 ∧ i = .int .i64 0) (fun _ _ _ _ => 0)
    case atStart => exact ⟨rfl, rfl, rfl, rfl⟩
    case round =>
      obtain ⟨rfl, rfl, rfl, rfl⟩ := hrel
      go_wp2
      refine bodyPost_ret (results_four rfl _ _ _) rfl ?_
      exact ⟨rfl, HA.out⟩
  · simp at hpos

set_option maxHeartbeats 400000 in
theorem opt_err (v : Value) (l : List Int) (s : Int) (w : World) (hv : IsInts w v l) (n : Nat) (hn : n = 1 ∨ n = 4) (hc : chk l s = n) :
    Calls Try.prog 13 #[v, .int .i64 s] w fun e w' => e = .returned (.tuple #[.slice none 0 0, .slice none 0 0, .slice none 0 0, errV n]) ∧ Below w.heap.size w w' := by
  have HV : Hid (IsInts (w.alloc (.cells #[v] 22)) v l) := hv.below ((Below.refl _ _).alloc (Nat.le_refl _) _)
  have HA : Hid (Below w.heap.size w (w.alloc (.cells #[v] 22))) := (Below.refl _ _).alloc (Nat.le_refl _) _
  have HCK : Hid (chk l s = n) := hc
  have hform : v.cells = #[v] := by
    rcases hv with ⟨_, _, _, rfl, _⟩ | ⟨_, _, _, rfl, _⟩ <;> rfl
  obtain ⟨ao, m, cap, rfl⟩ : ∃ ao m cap, v = .slice ao m cap := by
    rcases hv with ⟨_, _, _, rfl, _⟩ | ⟨_, _, _, rfl, _⟩ <;> exact ⟨_, _, _, rfl⟩
  clear hc hv hform
  rcases hn with rfl | rfl
  all_goals
    go_enter Try.func13, Try.ntmps13
    go_wp2_with (go_at_call 26; fail)
    generalize w.alloc (.cells #[.slice ao m cap] 22) = wA at *
    refine (check_any _ l s _ HV.out).mono ?_
    rintro e w' ⟨rfl, hw⟩
    have hw := hw.symm
    subst hw
    rw [HCK.out]
    simp only [errV]
    go_wp2
    refine bodyPost_ret (results_four rfl _ _ _) rfl ?_
    exact ⟨rfl, HA.out⟩

/-- What opt.Run answers. -/
theorem opt_any (v : Value) (l : List Int) (s : Int) (w : World) (hv : IsInts w v l) :
    Calls Try.prog 13 #[v, .int .i64 s] w fun e w' => ∃ vb vo vh, e = .returned (.tuple #[vb, vo, vh, errV (chk l s)]) ∧ OwnB w' w.heap.size vb (optB l s) ∧ OwnI w' w.heap.size vo (optO l s) ∧ OwnI w' w.heap.size vh (optL l s) ∧ Below w.heap.size w w' := by
  rcases chk_cases l s with h | h
  · obtain ⟨h40, h1, h8⟩ := chk_zero h
    rw [optB_ok h, optO_ok h, optL_ok h, h]
    obtain ⟨n, rfl⟩ : ∃ n : Nat, s = n := ⟨s.toNat, by omega⟩
    rw [Int.toNat_natCast]
    by_cases hl : l = []
    · subst hl
      refine (opt_none v n w hv (by omega) (by omega)).mono ?_
      rintro e w' ⟨rfl, hb⟩
      exact ⟨_, _, _, rfl, OwnB.nil _ _, by simpa [ost] using OwnI.nil _ _, by simpa [ost, srt] using OwnI.nil _ _, hb⟩
    · exact opt_ok v l n w hv h h40 (by omega) (by omega) (List.length_pos_iff.2 hl)
  · have hne : chk l s ≠ 0 := by omega
    rw [optB_bad hne, optO_bad hne, optL_bad hne]
    refine (opt_err v l s w hv (chk l s) h rfl).mono ?_
    rintro e w' ⟨rfl, hb⟩
    exact ⟨_, _, _, rfl, OwnB.nil _ _, OwnI.nil _ _, OwnI.nil _ _, hb⟩
end Go.Proofs.Ytedmfehjifknbaa
