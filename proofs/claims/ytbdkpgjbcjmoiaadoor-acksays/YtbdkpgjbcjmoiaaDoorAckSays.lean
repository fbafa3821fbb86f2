/- The walk of AckSays: for every list of times and every price, in whatever memory and on every schedule, it returns true and leaves its argument as it was: acks.Check, acks.Run and acks.Least answer as the document says. -/
import Derived.Test.YtbdkpgjbcjmoiaaDoorRefAcks
import Derived.Test.YtbdkpgjbcjmoiaaDoorRefLeastAW
import Derived.Test.YtbdkpgjbcjmoiaaDoorWLeast
import Derived.Test.YtbdkpgjbcjmoiaaDoorInts
import Derived.Test.YtbdkpgjbcjmoiaaDoorTold
import Derived.Test.YtbdkpgjbcjmoiaaDoorLawkit
namespace Go.Proofs.YtbdkpgjbcjmoiaaDoor
set_option maxRecDepth 100000
open Go.RowKit Go.Sort

set_option maxHeartbeats 2000000 in
theorem ackSays_ok (v : Value) (l : List Int) (p : Int) (w : World) (hv : IsInts w v l) (hg : Handle w) (hc : chkA l p = 0) :
    Calls Tryd.prog 3 #[v, .int .i64 p] w fun e w' => e = .returned (.bool true) ∧ Below w.heap.size w w' := by
  have HV : Hid (IsInts w v l) := hv
  have HG : Hid (Handle w) := hg
  have HC : Hid (chkA l p = 0) := hc
  have HN : Hid (paidA l p = tc p l) := by unfold Hid paidA; rw [if_pos hc]
  have HL : Hid (toldA l p = tl p l) := by unfold Hid toldA; rw [if_pos hc]
  obtain ⟨ao, cap, rfl, _⟩ := hv.opened
  clear hv hg hc
  go_enter Tryd.func3, Tryd.ntmps3
  go_wp2_with (go_at_call 4; fail)
  refine (rmsg_any _ l p _ HV.out).mono ?_
  rintro e w1 ⟨rfl, q1, hw1⟩
  rw [HC.out]
  have HB1 : Hid (Below w.heap.size w w1) := by unfold Hid; rw [hw1]; exact below_drewN (Below.refl _ _) q1
  clear hw1
  go_wp2_with (go_at_call 6; fail)
  refine (acheck_any _ l p _ (HV.out.below HB1.out)).mono ?_
  rintro e w2 ⟨rfl, q2, hw2⟩
  rw [HC.out]
  have HB2 : Hid (Below w.heap.size w w2) := by unfold Hid; rw [hw2]; exact below_drewN HB1.out q2
  clear hw2 HB1
  go_wp2_with (go_at_call 5; fail)
  refine (error_same 0 _ (HG.out.below HB2.out)).mono ?_
  rintro e w3 ⟨rfl, hb3⟩
  have HB3 : Hid (Below w.heap.size w w3) := HB2.out.trans (hb3.mono HB2.out.size)
  clear hb3 HB2
  go_wp2_with (go_at_call 7; fail)
  refine (racks_any _ l p _ (HV.out.below HB3.out) HC.out).mono ?_
  rintro e w4 ⟨vx, rfl, hx, hb4⟩
  have HB4 : Hid (Below w.heap.size w w4) := HB3.out.trans (hb4.mono HB3.out.size)
  have HX4 : Hid (IsInts w4 vx (tl p l)) := hx.isInts
  clear hx hb4 HB3
  generalize tl p l = A at *
  generalize tc p l = a at *
  go_wp2_with (go_at_call 8; fail)
  refine (rleasta_any _ l p _ (HV.out.below HB4.out) HC.out).mono ?_
  rintro e w5 ⟨x, rfl, hx, hb5⟩
  have HB5 : Hid (Below w.heap.size w w5) := HB4.out.trans (hb5.mono HB4.out.size)
  have HLE : Hid (LeastTell p l x) := hx
  have HX5 : Hid (IsInts w5 vx A) := HX4.out.below hb5
  clear hx hb5 HB4 HX4
  go_wp2_with (go_at_call 9; fail)
  refine (arun_any _ l p _ (HV.out.below HB5.out)).mono ?_
  rintro e w6 ⟨vp, rfl, hp, hb6⟩
  rw [HC.out, HN.out]
  rw [HL.out] at hp
  have HB6 : Hid (Below w.heap.size w w6) := HB5.out.trans (hb6.mono HB5.out.size)
  have HX6 : Hid (IsInts w6 vx A) := HX5.out.below hb6
  have HP6 : Hid (IsInts w6 vp A) := hp.isInts
  clear hp hb6 HB5 HX5
  have haa : ((a : Int) == (a : Int)) = true := by simp
  go_wp2_with (go_at_call 5; fail)
  refine (error_same 0 _ (HG.out.below HB6.out)).mono ?_
  rintro e w7 ⟨rfl, hb7⟩
  have HB7 : Hid (Below w.heap.size w w7) := HB6.out.trans (hb7.mono HB6.out.size)
  have HX7 : Hid (IsInts w7 vx A) := HX6.out.below hb7
  have HP7 : Hid (IsInts w7 vp A) := HP6.out.below hb7
  clear hb7 HB6 HX6 HP6
  go_wp2_with (go_at_call 10; fail)
  refine (ints_same _ _ A _ HP7.out HX7.out).mono ?_
  rintro e w8 ⟨rfl, q8, hw8⟩
  have HB8 : Hid (Below w.heap.size w w8) := by unfold Hid; rw [hw8]; exact below_drewN HB7.out q8
  clear hw8 HB7 HX7 HP7
  go_wp2_with (go_at_call 11; fail)
  refine (wleast_any _ l p _ (HV.out.below HB8.out)).mono ?_
  rintro e w9 ⟨y, rfl, hy, hb9⟩
  have hxy : x = (y : Int) := leastTell_unique HLE.out (hy.ok HC.out)
  subst hxy
  rw [HC.out]
  have HB9 : Hid (Below w.heap.size w w9) := HB8.out.trans (hb9.mono HB8.out.size)
  clear hy hb9 HB8 HLE
  go_wp2_with (go_at_call 5; fail)
  refine (error_same 0 _ (HG.out.below HB9.out)).mono ?_
  rintro e w10 ⟨rfl, hb10⟩
  have HB10 : Hid (Below w.heap.size w w10) := HB9.out.trans (hb10.mono HB9.out.size)
  clear hb10 HB9
  have hyy : ((y : Int) == (y : Int)) = true := by simp
  go_wp2
  go_ret
  exact ⟨rfl, HB10.out⟩

set_option maxHeartbeats 2000000 in
theorem ackSays_err (v : Value) (l : List Int) (p : Int) (w : World) (hv : IsInts w v l) (hg : Handle w) (k : Nat) (hk0 : k ≠ 0) (hc : chkA l p = k) :
    Calls Tryd.prog 3 #[v, .int .i64 p] w fun e w' => e = .returned (.bool true) ∧ Below w.heap.size w w' := by
  have HV : Hid (IsInts w v l) := hv
  have HG : Hid (Handle w) := hg
  have HC : Hid (chkA l p = k) := hc
  have hne : chkA l p ≠ 0 := by rw [hc]; exact hk0
  have HNE : Hid (chkA l p ≠ 0) := hne
  have HN : Hid (paidA l p = 0) := by unfold Hid paidA; rw [if_neg hne]
  have HL : Hid (toldA l p = []) := by unfold Hid toldA; rw [if_neg hne]
  have hcz : ((k : Int) == 0) = false := by rw [beq_eq_false_iff_ne]; omega
  obtain ⟨ao, cap, rfl, _⟩ := hv.opened
  clear hv hg hc hne
  go_enter Tryd.func3, Tryd.ntmps3
  go_wp2_with (go_at_call 4; fail)
  refine (rmsg_any _ l p _ HV.out).mono ?_
  rintro e w1 ⟨rfl, q1, hw1⟩
  rw [HC.out]
  have HB1 : Hid (Below w.heap.size w w1) := by unfold Hid; rw [hw1]; exact below_drewN (Below.refl _ _) q1
  clear hw1
  go_wp2_with (go_at_call 6; fail)
  refine (acheck_any _ l p _ (HV.out.below HB1.out)).mono ?_
  rintro e w2 ⟨rfl, q2, hw2⟩
  rw [HC.out]
  have HB2 : Hid (Below w.heap.size w w2) := by unfold Hid; rw [hw2]; exact below_drewN HB1.out q2
  clear hw2 HB1
  go_wp2_with (go_at_call 5; fail)
  refine (error_same k _ (HG.out.below HB2.out)).mono ?_
  rintro e w5 ⟨rfl, hb3⟩
  have HB5 : Hid (Below w.heap.size w w5) := HB2.out.trans (hb3.mono HB2.out.size)
  clear hb3 HB2
  go_wp2_with (go_at_call 9; fail)
  refine (arun_any _ l p _ (HV.out.below HB5.out)).mono ?_
  rintro e w6 ⟨vp, rfl, hp, hb6⟩
  rw [HC.out, HN.out]
  rw [HL.out] at hp
  have HB6 : Hid (Below w.heap.size w w6) := HB5.out.trans (hb6.mono HB5.out.size)
  have HP6 : Hid (IsInts w6 vp []) := hp.isInts
  clear hp hb6 HB5
  go_wp2_with (go_at_call 5; fail)
  refine (error_same k _ (HG.out.below HB6.out)).mono ?_
  rintro e w7 ⟨rfl, hb7⟩
  have HB7 : Hid (Below w.heap.size w w7) := HB6.out.trans (hb7.mono HB6.out.size)
  have HP7 : Hid (IsInts w7 vp []) := HP6.out.below hb7
  clear hb7 HB6 HP6
  go_wp2_with (go_at_call 10; fail)
  refine (ints_same _ _ [] _ HP7.out (.inl ⟨rfl, none, 0, rfl, by simp⟩)).mono ?_
  rintro e w8 ⟨rfl, q8, hw8⟩
  have HB8 : Hid (Below w.heap.size w w8) := by unfold Hid; rw [hw8]; exact below_drewN HB7.out q8
  clear hw8 HB7 HP7
  go_wp2_with (go_at_call 11; fail)
  refine (wleast_any _ l p _ (HV.out.below HB8.out)).mono ?_
  rintro e w9 ⟨y, rfl, hy, hb9⟩
  have hy0 : y = 0 := hy.err HNE.out
  subst hy0
  rw [HC.out]
  have HB9 : Hid (Below w.heap.size w w9) := HB8.out.trans (hb9.mono HB8.out.size)
  clear hy hb9 HB8
  go_wp2_with (go_at_call 5; fail)
  refine (error_same k _ (HG.out.below HB9.out)).mono ?_
  rintro e w10 ⟨rfl, hb10⟩
  have HB10 : Hid (Below w.heap.size w w10) := HB9.out.trans (hb10.mono HB9.out.size)
  clear hb10 HB9
  go_wp2
  go_ret
  exact ⟨rfl, HB10.out⟩
theorem ackSays_any (v : Value) (l : List Int) (p : Int) (w : World) (hv : IsInts w v l) (_ : ∃ ao cap, v = .slice ao l.length cap) (hg : Handle w) :
    Calls Tryd.prog 3 #[v, .int .i64 p] w fun e w' => e = .returned (.bool true) ∧ Below w.heap.size w w' := by
  by_cases hc : chkA l p = 0
  · exact ackSays_ok v l p w hv hg hc
  · exact ackSays_err v l p w hv hg _ hc rfl
end Go.Proofs.YtbdkpgjbcjmoiaaDoor
