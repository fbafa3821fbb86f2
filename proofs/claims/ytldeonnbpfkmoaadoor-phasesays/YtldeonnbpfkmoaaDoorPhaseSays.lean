/- The walk of PhaseSays: for every list of requests and every number of slots, in whatever memory and on every schedule, it returns true and leaves its argument as it was: phase.Starts answers as the document says. -/
import Derived.Test.YtldeonnbpfkmoaaDoorRefStarts
import Derived.Test.YtldeonnbpfkmoaaDoorPhase
import Derived.Test.YtldeonnbpfkmoaaDoorInts
import Derived.Test.YtldeonnbpfkmoaaDoorTold
import Derived.Test.YtldeonnbpfkmoaaDoorLawkit
namespace Go.Proofs.YtldeonnbpfkmoaaDoor
open Go.RowKit Go.Sort

set_option maxHeartbeats 2000000 in
theorem says_any (v : Value) (l : List Int) (s : Int) (w : World) (hv : IsInts w v l) (hform : ∃ ao cap, v = .slice ao l.length cap) (hg : Handle w) :
    Calls Tryd.prog 3 #[v, .int .i64 s] w fun e w' => e = .returned (.bool true) ∧ Below w.heap.size w w' := by
  have HV : Hid (IsInts w v l) := hv
  have HF : Hid (∃ ao cap, v = .slice ao l.length cap) := hform
  have HG : Hid (Handle w) := hg
  clear hv hg hform
  by_cases hc : chk l s = 0
  · obtain ⟨h40, h1, h8⟩ := chk_zero hc
    have HC : Hid (chk l s = 0) := hc
    have HRL : Hid (phaseL l s = starts s.toNat l l.length) := phaseL_ok hc
    obtain ⟨n, rfl⟩ : ∃ n : Nat, s = n := ⟨s.toNat, by omega⟩
    rw [Int.toNat_natCast] at HRL
    clear hc
    go_enter Tryd.func3, Tryd.ntmps3
    go_wp2_with (first | (go_at_call 4; go_must (refine (pages_any _ l n _ HV.out HF.out).mono ?_; rintro e w' ⟨rfl, hw⟩; have hw := hw.symm; subst hw; rw [HC.out])) | (go_at_call 5; go_must (refine (refstarts_any _ l n _ HV.out HF.out h40 (by omega) (by omega)).mono ?_; rintro e w2 ⟨vh, rfl, hO2, hb2⟩; rw [← HRL.out] at hO2)) | (go_at_call 6; go_must (refine (phase_any _ l n _ (HV.out.below hb2)).mono ?_; rintro e w3 ⟨vh2, rfl, hO3, hb3⟩; rw [HC.out])) | (go_at_call 7; fail))
    have hB : Below w.heap.size w w3 := hb2.trans (hb3.mono hb2.size)
    refine (error_same 0 _ (HG.out.below hB)).mono ?_
    rintro e w4 ⟨rfl, hb4⟩
    go_wp2_with (go_at_call 8; go_must (refine (ints_same _ _ (phaseL l n) _ (hO3.isInts.below hb4) ((hO2.isInts.below hb3).below hb4)).mono ?_; rintro e w6 ⟨rfl, q2, rfl⟩))
    go_ret
    exact ⟨rfl, below_drewN (hB.trans (hb4.mono hB.size)) _⟩
  · have HC : Hid (chk l s ≠ 0) := hc
    have HRL : Hid (phaseL l s = []) := phaseL_bad hc
    clear hc
    generalize hcn : chk l s = c at *
    have HCN : Hid (chk l s = c) := hcn
    clear hcn
    have hcz : ((c : Int) == 0) = false := by rw [beq_eq_false_iff_ne]; have := HC.out; omega
    go_enter Tryd.func3, Tryd.ntmps3
    go_wp2_with (first | (go_at_call 4; go_must (refine (pages_any _ l s _ HV.out HF.out).mono ?_; rintro e w' ⟨rfl, hw⟩; have hw := hw.symm; subst hw; rw [HCN.out])) | (go_at_call 6; go_must (refine (phase_any _ l s _ HV.out).mono ?_; rintro e w3 ⟨vh2, rfl, hO3, hb3⟩; rw [HCN.out]; rw [HRL.out] at hO3)) | (go_at_call 7; fail))
    refine (error_same c _ (HG.out.below hb3)).mono ?_
    rintro e w4 ⟨rfl, hb4⟩
    go_wp2_with (go_at_call 8; go_must (refine (ints_same _ _ [] _ (hO3.isInts.below hb4) (OwnI.nil _ 0).isInts).mono ?_; rintro e w6 ⟨rfl, q2, rfl⟩))
    go_ret
    exact ⟨rfl, below_drewN (hb3.trans (hb4.mono hb3.size)) _⟩
end Go.Proofs.YtldeonnbpfkmoaaDoor
