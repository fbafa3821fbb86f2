/- The walk of OptSays: for every list of requests and every number of slots, in whatever memory and on every schedule, it returns true and leaves its argument as it was: opt.Run answers as the document says. -/
import Derived.Test.YtkhjpelghlchnaaDoorRefOpt
import Derived.Test.YtkhjpelghlchnaaDoorOptAny
import Derived.Test.YtkhjpelghlchnaaDoorInts
import Derived.Test.YtkhjpelghlchnaaDoorSameB
import Derived.Test.YtkhjpelghlchnaaDoorTold
import Derived.Test.YtkhjpelghlchnaaDoorLawkit
namespace Go.Proofs.YtkhjpelghlchnaaDoor
open Go.RowKit Go.Sort

set_option maxHeartbeats 2000000 in
theorem says_any (v : Value) (l : List Int) (s : Int) (w : World) (hv : IsInts w v l) (hform : ∃ ao cap, v = .slice ao l.length cap) (hg : Handle w) :
    Calls Tryd.prog 3 #[v, .int .i64 s] w fun e w' => e = .returned (.bool true) ∧ Below w.heap.size w w' := by
  have HV : Hid (IsInts w v l) := hv
  have HF : Hid (∃ ao cap, v = .slice ao l.length cap) := hform
  have HG : Hid (Handle w) := hg
  clear hv hg hform
  by_cases hc : chk l s = 0
  · obtain ⟨h40, h1, h8⟩ := chk_zero hc
    have HC : Hid (chk l s = 0) := hc
    have HPG : Hid (inPages l) := chk_pages hc
    have HRB : Hid (optB l s = marks (ohit s.toNat l) l.length) := optB_ok hc
    have HRO : Hid (optO l s = (ost s.toNat l l.length).2) := optO_ok hc
    have HRL : Hid (optL l s = srt (ost s.toNat l l.length).1) := optL_ok hc
    obtain ⟨n, rfl⟩ : ∃ n : Nat, s = n := ⟨s.toNat, by omega⟩
    rw [Int.toNat_natCast] at HRB HRO HRL
    clear hc
    go_enter Tryd.func3, Tryd.ntmps3
    go_wp2_with (first | (go_at_call 4; go_must (refine (pages_any _ l n _ HV.out HF.out).mono ?_; rintro e w' ⟨rfl, hw⟩; have hw := hw.symm; subst hw; rw [HC.out])) | (go_at_call 5; go_must (refine (refopt_any _ l n _ HV.out HF.out h40 (by omega) (by omega) HPG.out).mono ?_; rintro e w2 ⟨vb, vo, vh, rfl, hB2, hG2, hO2, hb2⟩; rw [← HRB.out] at hB2; rw [← HRO.out] at hG2; rw [← HRL.out] at hO2)) | (go_at_call 6; go_must (refine (opt_any _ l n _ (HV.out.below hb2)).mono ?_; rintro e w3 ⟨vb2, vo2, vh2, rfl, hB3, hG3, hO3, hb3⟩; rw [HC.out])) | (go_at_call 7; fail))
    have hB : Below w.heap.size w w3 := hb2.trans (hb3.mono hb2.size)
    refine (error_same 0 _ (HG.out.below hB)).mono ?_
    rintro e w4 ⟨rfl, hb4⟩
    have HB4 : Hid (Below w.heap.size w w4) := hB.trans (hb4.mono hB.size)
    have HA1 : Hid (IsBools w4 vb2 (optB l n)) := hB3.isBools.below hb4
    have HA2 : Hid (IsBools w4 vb (optB l n)) := (hB2.below hb3).below hb4
    have HO1 : Hid (IsInts w4 vo2 (optO l n)) := hG3.isInts.below hb4
    have HO2 : Hid (IsInts w4 vo (optO l n)) := (hG2.below hb3).below hb4
    have HL1 : Hid (IsInts w4 vh2 (optL l n)) := hO3.isInts.below hb4
    have HL2 : Hid (IsInts w4 vh (optL l n)) := (hO2.below hb3).below hb4
    clear hB3 hB2 hG3 hG2 hO3 hO2 hb2 hb3 hb4 hB
    go_wp2_with (go_at_call 8; fail)
    refine (bools_same _ _ (optB l n) _ HA1.out HA2.out).mono ?_
    rintro e w5 ⟨rfl, q, hw5⟩
    have HB5 : Hid (Below w.heap.size w w5) := by rw [hw5]; exact below_drewN HB4.out q
    have HO15 : Hid (IsInts w5 vo2 (optO l n)) := by rw [hw5]; exact HO1.out.drewN q
    have HO25 : Hid (IsInts w5 vo (optO l n)) := by rw [hw5]; exact HO2.out.drewN q
    have HL15 : Hid (IsInts w5 vh2 (optL l n)) := by rw [hw5]; exact HL1.out.drewN q
    have HL25 : Hid (IsInts w5 vh (optL l n)) := by rw [hw5]; exact HL2.out.drewN q
    clear hw5 HO1 HO2 HL1 HL2 HB4
    go_wp2_with (go_at_call 9; fail)
    refine (ints_same _ _ (optO l n) _ HO15.out HO25.out).mono ?_
    rintro e w6 ⟨rfl, q2, hw6⟩
    have HB6 : Hid (Below w.heap.size w w6) := by rw [hw6]; exact below_drewN HB5.out q2
    have HL16 : Hid (IsInts w6 vh2 (optL l n)) := by rw [hw6]; exact HL15.out.drewN q2
    have HL26 : Hid (IsInts w6 vh (optL l n)) := by rw [hw6]; exact HL25.out.drewN q2
    clear hw6 HL15 HL25 HB5
    go_wp2_with (go_at_call 9; fail)
    refine (ints_same _ _ (optL l n) _ HL16.out HL26.out).mono ?_
    rintro e w7 ⟨rfl, q3, hw7⟩
    have HB7 : Hid (Below w.heap.size w w7) := by rw [hw7]; exact below_drewN HB6.out q3
    clear hw7
    go_wp2
    go_ret
    exact ⟨rfl, HB7.out⟩
  · have HC : Hid (chk l s ≠ 0) := hc
    have HRB : Hid (optB l s = []) := optB_bad hc
    have HRO : Hid (optO l s = []) := optO_bad hc
    have HRL : Hid (optL l s = []) := optL_bad hc
    clear hc
    generalize hcn : chk l s = c at *
    have HCN : Hid (chk l s = c) := hcn
    clear hcn
    have hcz : ((c : Int) == 0) = false := by rw [beq_eq_false_iff_ne]; have := HC.out; omega
    go_enter Tryd.func3, Tryd.ntmps3
    go_wp2_with (first | (go_at_call 4; go_must (refine (pages_any _ l s _ HV.out HF.out).mono ?_; rintro e w' ⟨rfl, hw⟩; have hw := hw.symm; subst hw; rw [HCN.out])) | (go_at_call 6; go_must (refine (opt_any _ l s _ HV.out).mono ?_; rintro e w3 ⟨vb2, vo2, vh2, rfl, hB3, hG3, hO3, hb3⟩; rw [HCN.out]; rw [HRB.out] at hB3; rw [HRO.out] at hG3; rw [HRL.out] at hO3)) | (go_at_call 7; fail))
    refine (error_same c _ (HG.out.below hb3)).mono ?_
    rintro e w4 ⟨rfl, hb4⟩
    have HB4 : Hid (Below w.heap.size w w4) := hb3.trans (hb4.mono hb3.size)
    have HA1 : Hid (IsBools w4 vb2 []) := hB3.isBools.below hb4
    have HO1 : Hid (IsInts w4 vo2 []) := hG3.isInts.below hb4
    have HL1 : Hid (IsInts w4 vh2 []) := hO3.isInts.below hb4
    clear hB3 hG3 hO3 hb3 hb4
    go_wp2_with (go_at_call 8; fail)
    refine (bools_same _ _ [] _ HA1.out (OwnB.nil _ 0).isBools).mono ?_
    rintro e w5 ⟨rfl, q, hw5⟩
    have HB5 : Hid (Below w.heap.size w w5) := by rw [hw5]; exact below_drewN HB4.out q
    have HO15 : Hid (IsInts w5 vo2 []) := by rw [hw5]; exact HO1.out.drewN q
    have HL15 : Hid (IsInts w5 vh2 []) := by rw [hw5]; exact HL1.out.drewN q
    clear hw5 HO1 HL1 HB4
    go_wp2_with (go_at_call 9; fail)
    refine (ints_same _ _ [] _ HO15.out (OwnI.nil _ 0).isInts).mono ?_
    rintro e w6 ⟨rfl, q2, hw6⟩
    have HB6 : Hid (Below w.heap.size w w6) := by rw [hw6]; exact below_drewN HB5.out q2
    have HL16 : Hid (IsInts w6 vh2 []) := by rw [hw6]; exact HL15.out.drewN q2
    clear hw6 HL15 HB5
    go_wp2_with (go_at_call 9; fail)
    refine (ints_same _ _ [] _ HL16.out (OwnI.nil _ 0).isInts).mono ?_
    rintro e w7 ⟨rfl, q3, hw7⟩
    have HB7 : Hid (Below w.heap.size w w7) := by rw [hw7]; exact below_drewN HB6.out q3
    clear hw7
    go_wp2
    go_ret
    exact ⟨rfl, HB7.out⟩
end Go.Proofs.YtkhjpelghlchnaaDoor
