/- PlaySays is proved: for every list of requests, every number of slots and every list of what is let go of, in whatever memory and on every schedule, it returns true and leaves its arguments as they were: play.Check and play.Run answer as the document says. The listed variable (errors.errorType) is tied to the program's text by the given tie. No other condition. -/
import Derived.Test.YtmajfhcpajdhmaaDoorRefPlay
import Derived.Test.YtmajfhcpajdhmaaDoorRunAny
import Derived.Test.YtmajfhcpajdhmaaDoorInts
import Derived.Test.YtmajfhcpajdhmaaDoorTold
import Derived.Test.YtmajfhcpajdhmaaDoorLawkit
namespace Go.Proofs.YtmajfhcpajdhmaaDoor
open Go.RowKit Go.Sort

theorem runS_zero {l out : List Int} {s : Nat} (hc : chk l s = 0) : runS l s out = ((play s l out [] 0).1, (play s l out [] 0).2.1.mergeSort le, (play s l out [] 0).2.2) := by
  unfold runS; rw [if_pos hc]; simp

theorem refplay_runS (v vo : Value) (l out : List Int) (s : Int) (w : World) (hv : IsInts w v l) (ho : IsInts w vo out) (hform : ∃ ao cap, v = .slice ao l.length cap) (hc : chk l s = 0) :
    Calls Tryd.prog 7 #[v, .int .i64 s, vo] w fun e w' => ∃ vh, e = .returned (.tuple #[.int .i64 (runS l s out).1, vh, .int .i64 (runS l s out).2.2]) ∧ OwnI w' w.heap.size vh (runS l s out).2.1 ∧ Below w.heap.size w w' := by
  obtain ⟨h1, h2, h3, _⟩ := chk_zero hc
  obtain ⟨n, rfl⟩ := Int.eq_ofNat_of_zero_le (show 0 ≤ s by omega)
  rw [runS_zero hc]
  exact refplay_any v vo l out n w hv ho hform h1 (by omega) (by omega)

set_option maxHeartbeats 2000000 in
theorem says_any (v vo : Value) (l out : List Int) (s : Int) (w : World) (hv : IsInts w v l) (ho : IsInts w vo out) (hform : ∃ ao cap, v = .slice ao l.length cap) (hg : Handle w) :
    Calls Tryd.prog 3 #[v, .int .i64 s, vo] w fun e w' => e = .returned (.bool true) ∧ Below w.heap.size w w' := by
  have HV : Hid (IsInts w v l) := hv
  have HO : Hid (IsInts w vo out) := ho
  have HF : Hid (∃ ao cap, v = .slice ao l.length cap) := hform
  have HG : Hid (Handle w) := hg
  clear hv ho hg hform
  by_cases hc : chk l s = 0
  · have HC : Hid (chk l s = 0) := hc
    clear hc
    generalize hr : runS l s out = r at *
    have HR : Hid (runS l s out = r) := hr
    clear hr
    obtain ⟨n, held, en⟩ := r
    have hnn : ((n : Int) == (n : Int)) = true := by simp
    have HE0 : Hid (errV 0 = .nilIface) := rfl
    go_enter Tryd.func3, Tryd.ntmps3
    go_wp2_with (first | (go_at_call 4; go_must (refine (pages_any _ l s _ HV.out HF.out).mono ?_; rintro e w' ⟨rfl, hw⟩; have hw := hw.symm; subst hw; rw [HC.out])) | (go_at_call 6; go_must (refine (check_any _ l s _ HV.out).mono ?_; rintro e w' ⟨rfl, hw⟩; have hw := hw.symm; subst hw; rw [HC.out])) | (go_at_call 5; fail))
    refine (error_same 0 _ HG.out).mono ?_
    rintro e w1 ⟨rfl, hb1⟩
    go_wp2_with (first | (go_at_call 7; go_must (refine (refplay_runS _ _ l out s _ (HV.out.below hb1) (HO.out.below hb1) HF.out HC.out).mono ?_; rintro e w2 ⟨vh, rfl, hO2, hb2⟩; rw [HR.out] at hO2; rw [HR.out])) | (go_at_call 8; go_must (refine (run_any _ _ l out s _ (HV.out.below (hb1.trans (hb2.mono hb1.size))) (HO.out.below (hb1.trans (hb2.mono hb1.size)))).mono ?_; rintro e w3 ⟨vh2, rfl, hO3, hb3⟩; rw [HR.out] at hO3; rw [HR.out])) | (go_at_call 5; fail))
    have hB3 : Below w.heap.size w w3 := (hb1.trans (hb2.mono hb1.size)).trans (hb3.mono (Nat.le_trans hb1.size hb2.size))
    refine (error_same en _ (HG.out.below hB3)).mono ?_
    rintro e w4 ⟨rfl, hb4⟩
    go_wp2_with (go_at_call 9; go_must (refine (ints_same _ _ held _ (hO3.isInts.below hb4) ((hO2.isInts.below hb3).below hb4)).mono ?_; rintro e w5 ⟨rfl, q, rfl⟩))
    go_ret
    exact ⟨rfl, below_drewN (hB3.trans (hb4.mono hB3.size)) q⟩
  · have HC : Hid (chk l s ≠ 0) := hc
    have HR : Hid (runS l s out = (0, [], chk l s)) := by unfold Hid runS; rw [if_neg hc]
    clear hc
    generalize hcn : chk l s = c at *
    have HCN : Hid (chk l s = c) := hcn
    clear hcn
    have hcz : ((c : Int) == 0) = false := by rw [beq_eq_false_iff_ne]; have := HC.out; omega
    go_enter Tryd.func3, Tryd.ntmps3
    go_wp2_with (first | (go_at_call 4; go_must (refine (pages_any _ l s _ HV.out HF.out).mono ?_; rintro e w' ⟨rfl, hw⟩; have hw := hw.symm; subst hw; rw [HCN.out])) | (go_at_call 6; go_must (refine (check_any _ l s _ HV.out).mono ?_; rintro e w' ⟨rfl, hw⟩; have hw := hw.symm; subst hw; rw [HCN.out])) | (go_at_call 5; fail))
    refine (error_same c _ HG.out).mono ?_
    rintro e w1 ⟨rfl, hb1⟩
    go_wp2_with (first | (go_at_call 8; go_must (refine (run_any _ _ l out s _ (HV.out.below hb1) (HO.out.below hb1)).mono ?_; rintro e w3 ⟨vh2, rfl, hO3, hb3⟩; rw [HR.out] at hO3; rw [HR.out])) | (go_at_call 5; fail))
    have hB3 : Below w.heap.size w w3 := hb1.trans (hb3.mono hb1.size)
    refine (error_same c _ (HG.out.below hB3)).mono ?_
    rintro e w4 ⟨rfl, hb4⟩
    go_wp2_with (go_at_call 9; go_must (refine (ints_same _ _ [] _ (hO3.isInts.below hb4) (OwnI.nil _ 0).isInts).mono ?_; rintro e w5 ⟨rfl, q, rfl⟩))
    go_ret
    exact ⟨rfl, below_drewN (hB3.trans (hb4.mono hB3.size)) q⟩
end Go.Proofs.YtmajfhcpajdhmaaDoor
