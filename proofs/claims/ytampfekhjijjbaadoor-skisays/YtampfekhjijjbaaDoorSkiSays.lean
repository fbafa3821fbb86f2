/- The walk of SkiSays: for every price, every number of days and every day of buying, in whatever memory and on every schedule, it returns true: ski.Check, ski.Even, ski.Least and ski.Cost answer as the document says. -/
import Derived.Test.YtampfekhjijjbaaDoorSkiFact0
import Derived.Test.YtampfekhjijjbaaDoorLawIn2
import Derived.Test.YtampfekhjijjbaaDoorTold
import Derived.Test.YtampfekhjijjbaaDoorLawkit
namespace Go.Proofs.YtampfekhjijjbaaDoor
set_option maxRecDepth 100000
open Go.RowKit

set_option maxHeartbeats 2000000 in
theorem skiSays_err (p d b : Int) (w : World) (hg : Handle w) (h : ¬ FineS p d) :
    Calls Tryd.prog 4 #[.int .i64 p, .int .i64 d, .int .i64 b] w fun e w' => e = .returned (.bool true) ∧ Below w.heap.size w w' := by
  have HG : Hid (Handle w) := hg
  clear hg
  have HEV : Hid (chkB p d p = chkS p d) := chkB_even p d
  have HS : Hid (chkS p d = 1) := by unfold Hid chkS; rw [if_neg h]
  have HC : Hid (chkB p d b = 1) := by unfold Hid chkB; rw [if_neg fun g => h g.1]
  have HA : Hid (costS p d p = 0) := by unfold Hid costS; rw [if_neg fun g => h g.1]
  have HW : Hid (costS p d b = 0) := by unfold Hid costS; rw [if_neg fun g => h g.1]
  have HL : Hid (leastS p d = 0) := by unfold Hid leastS; rw [if_neg h]
  by_cases hp : 1 ≤ p ∧ p ≤ 20
  · have HI : Hid (within p 1 20 = true) := by unfold Hid within; simp [hp]
    have HJ : Hid (within d 0 1000 = false) := by unfold Hid within; unfold FineS at h; simp; omega
    clear h hp
    go_enter Tryd.func4, Tryd.ntmps4
    go_wp2_with (first | (go_at_call 14; fail))
    refine (within_any p 1 20 _).mono ?_
    rintro e w' ⟨rfl, hw⟩
    have hw := hw.symm
    subst hw
    rw [HI.out]
    go_wp2_with (first | (go_at_call 14; fail))
    refine (within_any d 0 1000 _).mono ?_
    rintro e w' ⟨rfl, hw⟩
    have hw := hw.symm
    subst hw
    rw [HJ.out]
    go_wp2_with (first | (go_at_call 15; go_must (refine (scheck_any p d _).mono ?_; rintro e w' ⟨rfl, hw⟩; have hw := hw.symm; subst hw; rw [HS.out])) | (go_at_call 6; fail))
    refine (error_same 1 _ HG.out).mono ?_
    rintro e w1 ⟨rfl, hb⟩
    have HB1 : Hid (Below w.heap.size w w1) := hb
    clear hb
    go_wp2_with (first | (go_at_call 16; go_must (refine (seven_any p d _).mono ?_; rintro e w' ⟨rfl, hw⟩; have hw := hw.symm; subst hw; rw [HEV.out, HS.out, HA.out])) | (go_at_call 6; fail))
    refine (error_same 1 _ (HG.out.below HB1.out)).mono ?_
    rintro e w2 ⟨rfl, hb⟩
    have HB2 : Hid (Below w.heap.size w w2) := HB1.out.trans (hb.mono HB1.out.size)
    clear hb HB1
    go_wp2_with (first | (go_at_call 17; go_must (refine (sleast_any p d _).mono ?_; rintro e w' ⟨rfl, hw⟩; have hw := hw.symm; subst hw; rw [HS.out, HL.out])) | (go_at_call 6; fail))
    refine (error_same 1 _ (HG.out.below HB2.out)).mono ?_
    rintro e w3 ⟨rfl, hb⟩
    have HB3 : Hid (Below w.heap.size w w3) := HB2.out.trans (hb.mono HB2.out.size)
    clear hb HB2
    go_wp2_with (first | (go_at_call 18; go_must (refine (scost_any p d b _).mono ?_; rintro e w' ⟨rfl, hw⟩; have hw := hw.symm; subst hw; rw [HC.out, HW.out])) | (go_at_call 6; fail))
    refine (error_same 1 _ (HG.out.below HB3.out)).mono ?_
    rintro e w4 ⟨rfl, hb⟩
    have HB4 : Hid (Below w.heap.size w w4) := HB3.out.trans (hb.mono HB3.out.size)
    clear hb HB3
    go_wp2
    go_ret
    exact ⟨rfl, HB4.out⟩
  · have HI : Hid (within p 1 20 = false) := by unfold Hid within; simp; omega
    clear h hp
    go_enter Tryd.func4, Tryd.ntmps4
    go_wp2_with (first | (go_at_call 14; fail))
    refine (within_any p 1 20 _).mono ?_
    rintro e w' ⟨rfl, hw⟩
    have hw := hw.symm
    subst hw
    rw [HI.out]
    go_wp2_with (first | (go_at_call 15; go_must (refine (scheck_any p d _).mono ?_; rintro e w' ⟨rfl, hw⟩; have hw := hw.symm; subst hw; rw [HS.out])) | (go_at_call 6; fail))
    refine (error_same 1 _ HG.out).mono ?_
    rintro e w1 ⟨rfl, hb⟩
    have HB1 : Hid (Below w.heap.size w w1) := hb
    clear hb
    go_wp2_with (first | (go_at_call 16; go_must (refine (seven_any p d _).mono ?_; rintro e w' ⟨rfl, hw⟩; have hw := hw.symm; subst hw; rw [HEV.out, HS.out, HA.out])) | (go_at_call 6; fail))
    refine (error_same 1 _ (HG.out.below HB1.out)).mono ?_
    rintro e w2 ⟨rfl, hb⟩
    have HB2 : Hid (Below w.heap.size w w2) := HB1.out.trans (hb.mono HB1.out.size)
    clear hb HB1
    go_wp2_with (first | (go_at_call 17; go_must (refine (sleast_any p d _).mono ?_; rintro e w' ⟨rfl, hw⟩; have hw := hw.symm; subst hw; rw [HS.out, HL.out])) | (go_at_call 6; fail))
    refine (error_same 1 _ (HG.out.below HB2.out)).mono ?_
    rintro e w3 ⟨rfl, hb⟩
    have HB3 : Hid (Below w.heap.size w w3) := HB2.out.trans (hb.mono HB2.out.size)
    clear hb HB2
    go_wp2_with (first | (go_at_call 18; go_must (refine (scost_any p d b _).mono ?_; rintro e w' ⟨rfl, hw⟩; have hw := hw.symm; subst hw; rw [HC.out, HW.out])) | (go_at_call 6; fail))
    refine (error_same 1 _ (HG.out.below HB3.out)).mono ?_
    rintro e w4 ⟨rfl, hb⟩
    have HB4 : Hid (Below w.heap.size w w4) := HB3.out.trans (hb.mono HB3.out.size)
    clear hb HB3
    go_wp2
    go_ret
    exact ⟨rfl, HB4.out⟩
set_option maxHeartbeats 2000000 in
theorem skiSays_lta (p d b : Int) (w : World) (hg : Handle w) (h : FineS p d) (hb : ¬ FineB b) (hc : d < p) :
    Calls Tryd.prog 4 #[.int .i64 p, .int .i64 d, .int .i64 b] w fun e w' => e = .returned (.bool true) ∧ Below w.heap.size w w' := by
  have HG : Hid (Handle w) := hg
  clear hg
  have HEV : Hid (chkB p d p = chkS p d) := chkB_even p d
  have HS : Hid (chkS p d = 0) := by unfold Hid chkS; rw [if_pos h]
  have HC : Hid (chkB p d b = 1) := by unfold Hid chkB; rw [if_neg fun g => hb g.2]
  have HK : Hid (within b 1 1000 = false) := by unfold Hid within; unfold FineB at hb; simp; omega
  have HI : Hid (within p 1 20 = true) := by unfold Hid within; unfold FineS at h; simp [h.1.1, h.1.2]
  have HJ : Hid (within d 0 1000 = true) := by unfold Hid within; unfold FineS at h; simp [h.2.1, h.2.2]
  have hp := h
  unfold FineS at hp
  obtain ⟨⟨hp1, hp2⟩, hd1, hd2⟩ := hp
  have hBp : FineB p := by unfold FineB; omega
  have HA : Hid (costS p d p = d) := by unfold Hid; rcases cost_is ⟨h, hBp⟩ with ⟨_, e⟩ | ⟨_, e⟩ <;> omega
  have HL : Hid (leastS p d = d) := by unfold Hid; rcases least_is h with ⟨_, e⟩ | ⟨_, e⟩ <;> omega
  have HW : Hid (costS p d b = 0) := by unfold Hid costS; rw [if_neg fun g => hb g.2]
  clear hb
  have hev : ((d : Int) == d) = true := by simp
  have hle : ((d : Int) == d) = true := by simp
  have hwa : ((0 : Int) == 0) = true := by simp
  clear h hBp
  go_enter Tryd.func4, Tryd.ntmps4
  go_wp2_with (first | (go_at_call 14; fail))
  refine (within_any p 1 20 _).mono ?_
  rintro e w' ⟨rfl, hw⟩
  have hw := hw.symm
  subst hw
  rw [HI.out]
  go_wp2_with (first | (go_at_call 14; fail))
  refine (within_any d 0 1000 _).mono ?_
  rintro e w' ⟨rfl, hw⟩
  have hw := hw.symm
  subst hw
  rw [HJ.out]
  go_wp2_with (first | (go_at_call 15; go_must (refine (scheck_any p d _).mono ?_; rintro e w' ⟨rfl, hw⟩; have hw := hw.symm; subst hw; rw [HS.out])) | (go_at_call 6; fail))
  refine (error_same 0 _ HG.out).mono ?_
  rintro e w1 ⟨rfl, hb⟩
  have HB1 : Hid (Below w.heap.size w w1) := hb
  clear hb
  go_wp2_with (first | (go_at_call 16; go_must (refine (seven_any p d _).mono ?_; rintro e w' ⟨rfl, hw⟩; have hw := hw.symm; subst hw; rw [HEV.out, HS.out, HA.out])) | (go_at_call 6; fail))
  refine (error_same 0 _ (HG.out.below HB1.out)).mono ?_
  rintro e w2 ⟨rfl, hb⟩
  have HB2 : Hid (Below w.heap.size w w2) := HB1.out.trans (hb.mono HB1.out.size)
  clear hb HB1
  go_wp2_with (first | (go_at_call 17; go_must (refine (sleast_any p d _).mono ?_; rintro e w' ⟨rfl, hw⟩; have hw := hw.symm; subst hw; rw [HS.out, HL.out])) | (go_at_call 6; fail))
  refine (error_same 0 _ (HG.out.below HB2.out)).mono ?_
  rintro e w3 ⟨rfl, hb⟩
  have HB3 : Hid (Below w.heap.size w w3) := HB2.out.trans (hb.mono HB2.out.size)
  clear hb HB2
  go_wp2_with (first | (go_at_call 14; fail))
  refine (within_any b 1 1000 _).mono ?_
  rintro e w' ⟨rfl, hw⟩
  have hw := hw.symm
  subst hw
  rw [HK.out]
  go_wp2_with (first | (go_at_call 18; go_must (refine (scost_any p d b _).mono ?_; rintro e w' ⟨rfl, hw⟩; have hw := hw.symm; subst hw; rw [HC.out, HW.out])) | (go_at_call 6; fail))
  refine (error_same 1 _ (HG.out.below HB3.out)).mono ?_
  rintro e w4 ⟨rfl, hb⟩
  have HB4 : Hid (Below w.heap.size w w4) := HB3.out.trans (hb.mono HB3.out.size)
  clear hb HB3
  go_wp2
  go_ret
  exact ⟨rfl, HB4.out⟩
set_option maxHeartbeats 2000000 in
theorem skiSays_ltb (p d b : Int) (w : World) (hg : Handle w) (h : FineS p d) (hb : FineB b) (hdb : d < b) (hc : d < p) :
    Calls Tryd.prog 4 #[.int .i64 p, .int .i64 d, .int .i64 b] w fun e w' => e = .returned (.bool true) ∧ Below w.heap.size w w' := by
  have HG : Hid (Handle w) := hg
  clear hg
  have HEV : Hid (chkB p d p = chkS p d) := chkB_even p d
  have HS : Hid (chkS p d = 0) := by unfold Hid chkS; rw [if_pos h]
  have HC : Hid (chkB p d b = 0) := by unfold Hid chkB; rw [if_pos ⟨h, hb⟩]
  have HK : Hid (within b 1 1000 = true) := by unfold Hid within; unfold FineB at hb; simp [hb.1, hb.2]
  have HI : Hid (within p 1 20 = true) := by unfold Hid within; unfold FineS at h; simp [h.1.1, h.1.2]
  have HJ : Hid (within d 0 1000 = true) := by unfold Hid within; unfold FineS at h; simp [h.2.1, h.2.2]
  have hp := h
  unfold FineS at hp
  obtain ⟨⟨hp1, hp2⟩, hd1, hd2⟩ := hp
  have hBp : FineB p := by unfold FineB; omega
  have HA : Hid (costS p d p = d) := by unfold Hid; rcases cost_is ⟨h, hBp⟩ with ⟨_, e⟩ | ⟨_, e⟩ <;> omega
  have HL : Hid (leastS p d = d) := by unfold Hid; rcases least_is h with ⟨_, e⟩ | ⟨_, e⟩ <;> omega
  have HW : Hid (costS p d b = d) := by unfold Hid; rcases cost_is ⟨h, hb⟩ with ⟨_, e⟩ | ⟨_, e⟩ <;> omega
  unfold FineB at hb
  obtain ⟨hb1, hb2⟩ := hb
  have hev : ((d : Int) == d) = true := by simp
  have hle : ((d : Int) == d) = true := by simp
  have hwa : ((d : Int) == d) = true := by simp
  clear h hBp
  go_enter Tryd.func4, Tryd.ntmps4
  go_wp2_with (first | (go_at_call 14; fail))
  refine (within_any p 1 20 _).mono ?_
  rintro e w' ⟨rfl, hw⟩
  have hw := hw.symm
  subst hw
  rw [HI.out]
  go_wp2_with (first | (go_at_call 14; fail))
  refine (within_any d 0 1000 _).mono ?_
  rintro e w' ⟨rfl, hw⟩
  have hw := hw.symm
  subst hw
  rw [HJ.out]
  go_wp2_with (first | (go_at_call 15; go_must (refine (scheck_any p d _).mono ?_; rintro e w' ⟨rfl, hw⟩; have hw := hw.symm; subst hw; rw [HS.out])) | (go_at_call 6; fail))
  refine (error_same 0 _ HG.out).mono ?_
  rintro e w1 ⟨rfl, hb⟩
  have HB1 : Hid (Below w.heap.size w w1) := hb
  clear hb
  go_wp2_with (first | (go_at_call 16; go_must (refine (seven_any p d _).mono ?_; rintro e w' ⟨rfl, hw⟩; have hw := hw.symm; subst hw; rw [HEV.out, HS.out, HA.out])) | (go_at_call 6; fail))
  refine (error_same 0 _ (HG.out.below HB1.out)).mono ?_
  rintro e w2 ⟨rfl, hb⟩
  have HB2 : Hid (Below w.heap.size w w2) := HB1.out.trans (hb.mono HB1.out.size)
  clear hb HB1
  go_wp2_with (first | (go_at_call 17; go_must (refine (sleast_any p d _).mono ?_; rintro e w' ⟨rfl, hw⟩; have hw := hw.symm; subst hw; rw [HS.out, HL.out])) | (go_at_call 6; fail))
  refine (error_same 0 _ (HG.out.below HB2.out)).mono ?_
  rintro e w3 ⟨rfl, hb⟩
  have HB3 : Hid (Below w.heap.size w w3) := HB2.out.trans (hb.mono HB2.out.size)
  clear hb HB2
  go_wp2_with (first | (go_at_call 14; fail))
  refine (within_any b 1 1000 _).mono ?_
  rintro e w' ⟨rfl, hw⟩
  have hw := hw.symm
  subst hw
  rw [HK.out]
  go_wp2_with (first | (go_at_call 18; go_must (refine (scost_any p d b _).mono ?_; rintro e w' ⟨rfl, hw⟩; have hw := hw.symm; subst hw; rw [HC.out, HW.out])) | (go_at_call 6; fail))
  refine (error_same 0 _ (HG.out.below HB3.out)).mono ?_
  rintro e w4 ⟨rfl, hb⟩
  have HB4 : Hid (Below w.heap.size w w4) := HB3.out.trans (hb.mono HB3.out.size)
  clear hb HB3
  go_wp2
  go_ret
  exact ⟨rfl, HB4.out⟩
set_option maxHeartbeats 2000000 in
theorem skiSays_ltc (p d b : Int) (w : World) (hg : Handle w) (h : FineS p d) (hb : FineB b) (hdb : ¬ d < b) (hc : d < p) :
    Calls Tryd.prog 4 #[.int .i64 p, .int .i64 d, .int .i64 b] w fun e w' => e = .returned (.bool true) ∧ Below w.heap.size w w' := by
  have HG : Hid (Handle w) := hg
  clear hg
  have HEV : Hid (chkB p d p = chkS p d) := chkB_even p d
  have HS : Hid (chkS p d = 0) := by unfold Hid chkS; rw [if_pos h]
  have HC : Hid (chkB p d b = 0) := by unfold Hid chkB; rw [if_pos ⟨h, hb⟩]
  have HK : Hid (within b 1 1000 = true) := by unfold Hid within; unfold FineB at hb; simp [hb.1, hb.2]
  have HI : Hid (within p 1 20 = true) := by unfold Hid within; unfold FineS at h; simp [h.1.1, h.1.2]
  have HJ : Hid (within d 0 1000 = true) := by unfold Hid within; unfold FineS at h; simp [h.2.1, h.2.2]
  have hp := h
  unfold FineS at hp
  obtain ⟨⟨hp1, hp2⟩, hd1, hd2⟩ := hp
  have hBp : FineB p := by unfold FineB; omega
  have HA : Hid (costS p d p = d) := by unfold Hid; rcases cost_is ⟨h, hBp⟩ with ⟨_, e⟩ | ⟨_, e⟩ <;> omega
  have HL : Hid (leastS p d = d) := by unfold Hid; rcases least_is h with ⟨_, e⟩ | ⟨_, e⟩ <;> omega
  have HW : Hid (costS p d b = b - 1 + p) := by unfold Hid; rcases cost_is ⟨h, hb⟩ with ⟨_, e⟩ | ⟨_, e⟩ <;> omega
  unfold FineB at hb
  obtain ⟨hb1, hb2⟩ := hb
  have hev : ((d : Int) == d) = true := by simp
  have hle : ((d : Int) == d) = true := by simp
  have hwa : ((b - 1 + p : Int) == b - 1 + p) = true := by simp
  clear h hBp
  go_enter Tryd.func4, Tryd.ntmps4
  go_wp2_with (first | (go_at_call 14; fail))
  refine (within_any p 1 20 _).mono ?_
  rintro e w' ⟨rfl, hw⟩
  have hw := hw.symm
  subst hw
  rw [HI.out]
  go_wp2_with (first | (go_at_call 14; fail))
  refine (within_any d 0 1000 _).mono ?_
  rintro e w' ⟨rfl, hw⟩
  have hw := hw.symm
  subst hw
  rw [HJ.out]
  go_wp2_with (first | (go_at_call 15; go_must (refine (scheck_any p d _).mono ?_; rintro e w' ⟨rfl, hw⟩; have hw := hw.symm; subst hw; rw [HS.out])) | (go_at_call 6; fail))
  refine (error_same 0 _ HG.out).mono ?_
  rintro e w1 ⟨rfl, hb⟩
  have HB1 : Hid (Below w.heap.size w w1) := hb
  clear hb
  go_wp2_with (first | (go_at_call 16; go_must (refine (seven_any p d _).mono ?_; rintro e w' ⟨rfl, hw⟩; have hw := hw.symm; subst hw; rw [HEV.out, HS.out, HA.out])) | (go_at_call 6; fail))
  refine (error_same 0 _ (HG.out.below HB1.out)).mono ?_
  rintro e w2 ⟨rfl, hb⟩
  have HB2 : Hid (Below w.heap.size w w2) := HB1.out.trans (hb.mono HB1.out.size)
  clear hb HB1
  go_wp2_with (first | (go_at_call 17; go_must (refine (sleast_any p d _).mono ?_; rintro e w' ⟨rfl, hw⟩; have hw := hw.symm; subst hw; rw [HS.out, HL.out])) | (go_at_call 6; fail))
  refine (error_same 0 _ (HG.out.below HB2.out)).mono ?_
  rintro e w3 ⟨rfl, hb⟩
  have HB3 : Hid (Below w.heap.size w w3) := HB2.out.trans (hb.mono HB2.out.size)
  clear hb HB2
  go_wp2_with (first | (go_at_call 14; fail))
  refine (within_any b 1 1000 _).mono ?_
  rintro e w' ⟨rfl, hw⟩
  have hw := hw.symm
  subst hw
  rw [HK.out]
  go_wp2_with (first | (go_at_call 18; go_must (refine (scost_any p d b _).mono ?_; rintro e w' ⟨rfl, hw⟩; have hw := hw.symm; subst hw; rw [HC.out, HW.out])) | (go_at_call 6; fail))
  refine (error_same 0 _ (HG.out.below HB3.out)).mono ?_
  rintro e w4 ⟨rfl, hb⟩
  have HB4 : Hid (Below w.heap.size w w4) := HB3.out.trans (hb.mono HB3.out.size)
  clear hb HB3
  go_wp2
  go_ret
  exact ⟨rfl, HB4.out⟩
set_option maxHeartbeats 2000000 in
theorem skiSays_gta (p d b : Int) (w : World) (hg : Handle w) (h : FineS p d) (hb : ¬ FineB b) (hc : p < d) :
    Calls Tryd.prog 4 #[.int .i64 p, .int .i64 d, .int .i64 b] w fun e w' => e = .returned (.bool true) ∧ Below w.heap.size w w' := by
  have HG : Hid (Handle w) := hg
  clear hg
  have HEV : Hid (chkB p d p = chkS p d) := chkB_even p d
  have HS : Hid (chkS p d = 0) := by unfold Hid chkS; rw [if_pos h]
  have HC : Hid (chkB p d b = 1) := by unfold Hid chkB; rw [if_neg fun g => hb g.2]
  have HK : Hid (within b 1 1000 = false) := by unfold Hid within; unfold FineB at hb; simp; omega
  have HI : Hid (within p 1 20 = true) := by unfold Hid within; unfold FineS at h; simp [h.1.1, h.1.2]
  have HJ : Hid (within d 0 1000 = true) := by unfold Hid within; unfold FineS at h; simp [h.2.1, h.2.2]
  have hp := h
  unfold FineS at hp
  obtain ⟨⟨hp1, hp2⟩, hd1, hd2⟩ := hp
  have hBp : FineB p := by unfold FineB; omega
  have HA : Hid (costS p d p = 2 * p - 1) := by unfold Hid; rcases cost_is ⟨h, hBp⟩ with ⟨_, e⟩ | ⟨_, e⟩ <;> omega
  have HL : Hid (leastS p d = p) := by unfold Hid; rcases least_is h with ⟨_, e⟩ | ⟨_, e⟩ <;> omega
  have HW : Hid (costS p d b = 0) := by unfold Hid costS; rw [if_neg fun g => hb g.2]
  clear hb
  have hev : ((2 * p - 1 : Int) == 2 * p - 1) = true := by simp
  have hle : ((p : Int) == p) = true := by simp
  have hwa : ((0 : Int) == 0) = true := by simp
  clear h hBp
  go_enter Tryd.func4, Tryd.ntmps4
  go_wp2_with (first | (go_at_call 14; fail))
  refine (within_any p 1 20 _).mono ?_
  rintro e w' ⟨rfl, hw⟩
  have hw := hw.symm
  subst hw
  rw [HI.out]
  go_wp2_with (first | (go_at_call 14; fail))
  refine (within_any d 0 1000 _).mono ?_
  rintro e w' ⟨rfl, hw⟩
  have hw := hw.symm
  subst hw
  rw [HJ.out]
  go_wp2_with (first | (go_at_call 15; go_must (refine (scheck_any p d _).mono ?_; rintro e w' ⟨rfl, hw⟩; have hw := hw.symm; subst hw; rw [HS.out])) | (go_at_call 6; fail))
  refine (error_same 0 _ HG.out).mono ?_
  rintro e w1 ⟨rfl, hb⟩
  have HB1 : Hid (Below w.heap.size w w1) := hb
  clear hb
  go_wp2_with (first | (go_at_call 16; go_must (refine (seven_any p d _).mono ?_; rintro e w' ⟨rfl, hw⟩; have hw := hw.symm; subst hw; rw [HEV.out, HS.out, HA.out])) | (go_at_call 6; fail))
  refine (error_same 0 _ (HG.out.below HB1.out)).mono ?_
  rintro e w2 ⟨rfl, hb⟩
  have HB2 : Hid (Below w.heap.size w w2) := HB1.out.trans (hb.mono HB1.out.size)
  clear hb HB1
  go_wp2_with (first | (go_at_call 17; go_must (refine (sleast_any p d _).mono ?_; rintro e w' ⟨rfl, hw⟩; have hw := hw.symm; subst hw; rw [HS.out, HL.out])) | (go_at_call 6; fail))
  refine (error_same 0 _ (HG.out.below HB2.out)).mono ?_
  rintro e w3 ⟨rfl, hb⟩
  have HB3 : Hid (Below w.heap.size w w3) := HB2.out.trans (hb.mono HB2.out.size)
  clear hb HB2
  go_wp2_with (first | (go_at_call 14; fail))
  refine (within_any b 1 1000 _).mono ?_
  rintro e w' ⟨rfl, hw⟩
  have hw := hw.symm
  subst hw
  rw [HK.out]
  go_wp2_with (first | (go_at_call 18; go_must (refine (scost_any p d b _).mono ?_; rintro e w' ⟨rfl, hw⟩; have hw := hw.symm; subst hw; rw [HC.out, HW.out])) | (go_at_call 6; fail))
  refine (error_same 1 _ (HG.out.below HB3.out)).mono ?_
  rintro e w4 ⟨rfl, hb⟩
  have HB4 : Hid (Below w.heap.size w w4) := HB3.out.trans (hb.mono HB3.out.size)
  clear hb HB3
  go_wp2
  go_ret
  exact ⟨rfl, HB4.out⟩
set_option maxHeartbeats 2000000 in
theorem skiSays_gtb (p d b : Int) (w : World) (hg : Handle w) (h : FineS p d) (hb : FineB b) (hdb : d < b) (hc : p < d) :
    Calls Tryd.prog 4 #[.int .i64 p, .int .i64 d, .int .i64 b] w fun e w' => e = .returned (.bool true) ∧ Below w.heap.size w w' := by
  have HG : Hid (Handle w) := hg
  clear hg
  have HEV : Hid (chkB p d p = chkS p d) := chkB_even p d
  have HS : Hid (chkS p d = 0) := by unfold Hid chkS; rw [if_pos h]
  have HC : Hid (chkB p d b = 0) := by unfold Hid chkB; rw [if_pos ⟨h, hb⟩]
  have HK : Hid (within b 1 1000 = true) := by unfold Hid within; unfold FineB at hb; simp [hb.1, hb.2]
  have HI : Hid (within p 1 20 = true) := by unfold Hid within; unfold FineS at h; simp [h.1.1, h.1.2]
  have HJ : Hid (within d 0 1000 = true) := by unfold Hid within; unfold FineS at h; simp [h.2.1, h.2.2]
  have hp := h
  unfold FineS at hp
  obtain ⟨⟨hp1, hp2⟩, hd1, hd2⟩ := hp
  have hBp : FineB p := by unfold FineB; omega
  have HA : Hid (costS p d p = 2 * p - 1) := by unfold Hid; rcases cost_is ⟨h, hBp⟩ with ⟨_, e⟩ | ⟨_, e⟩ <;> omega
  have HL : Hid (leastS p d = p) := by unfold Hid; rcases least_is h with ⟨_, e⟩ | ⟨_, e⟩ <;> omega
  have HW : Hid (costS p d b = d) := by unfold Hid; rcases cost_is ⟨h, hb⟩ with ⟨_, e⟩ | ⟨_, e⟩ <;> omega
  unfold FineB at hb
  obtain ⟨hb1, hb2⟩ := hb
  have hev : ((2 * p - 1 : Int) == 2 * p - 1) = true := by simp
  have hle : ((p : Int) == p) = true := by simp
  have hwa : ((d : Int) == d) = true := by simp
  clear h hBp
  go_enter Tryd.func4, Tryd.ntmps4
  go_wp2_with (first | (go_at_call 14; fail))
  refine (within_any p 1 20 _).mono ?_
  rintro e w' ⟨rfl, hw⟩
  have hw := hw.symm
  subst hw
  rw [HI.out]
  go_wp2_with (first | (go_at_call 14; fail))
  refine (within_any d 0 1000 _).mono ?_
  rintro e w' ⟨rfl, hw⟩
  have hw := hw.symm
  subst hw
  rw [HJ.out]
  go_wp2_with (first | (go_at_call 15; go_must (refine (scheck_any p d _).mono ?_; rintro e w' ⟨rfl, hw⟩; have hw := hw.symm; subst hw; rw [HS.out])) | (go_at_call 6; fail))
  refine (error_same 0 _ HG.out).mono ?_
  rintro e w1 ⟨rfl, hb⟩
  have HB1 : Hid (Below w.heap.size w w1) := hb
  clear hb
  go_wp2_with (first | (go_at_call 16; go_must (refine (seven_any p d _).mono ?_; rintro e w' ⟨rfl, hw⟩; have hw := hw.symm; subst hw; rw [HEV.out, HS.out, HA.out])) | (go_at_call 6; fail))
  refine (error_same 0 _ (HG.out.below HB1.out)).mono ?_
  rintro e w2 ⟨rfl, hb⟩
  have HB2 : Hid (Below w.heap.size w w2) := HB1.out.trans (hb.mono HB1.out.size)
  clear hb HB1
  go_wp2_with (first | (go_at_call 17; go_must (refine (sleast_any p d _).mono ?_; rintro e w' ⟨rfl, hw⟩; have hw := hw.symm; subst hw; rw [HS.out, HL.out])) | (go_at_call 6; fail))
  refine (error_same 0 _ (HG.out.below HB2.out)).mono ?_
  rintro e w3 ⟨rfl, hb⟩
  have HB3 : Hid (Below w.heap.size w w3) := HB2.out.trans (hb.mono HB2.out.size)
  clear hb HB2
  go_wp2_with (first | (go_at_call 14; fail))
  refine (within_any b 1 1000 _).mono ?_
  rintro e w' ⟨rfl, hw⟩
  have hw := hw.symm
  subst hw
  rw [HK.out]
  go_wp2_with (first | (go_at_call 18; go_must (refine (scost_any p d b _).mono ?_; rintro e w' ⟨rfl, hw⟩; have hw := hw.symm; subst hw; rw [HC.out, HW.out])) | (go_at_call 6; fail))
  refine (error_same 0 _ (HG.out.below HB3.out)).mono ?_
  rintro e w4 ⟨rfl, hb⟩
  have HB4 : Hid (Below w.heap.size w w4) := HB3.out.trans (hb.mono HB3.out.size)
  clear hb HB3
  go_wp2
  go_ret
  exact ⟨rfl, HB4.out⟩
set_option maxHeartbeats 2000000 in
theorem skiSays_gtc (p d b : Int) (w : World) (hg : Handle w) (h : FineS p d) (hb : FineB b) (hdb : ¬ d < b) (hc : p < d) :
    Calls Tryd.prog 4 #[.int .i64 p, .int .i64 d, .int .i64 b] w fun e w' => e = .returned (.bool true) ∧ Below w.heap.size w w' := by
  have HG : Hid (Handle w) := hg
  clear hg
  have HEV : Hid (chkB p d p = chkS p d) := chkB_even p d
  have HS : Hid (chkS p d = 0) := by unfold Hid chkS; rw [if_pos h]
  have HC : Hid (chkB p d b = 0) := by unfold Hid chkB; rw [if_pos ⟨h, hb⟩]
  have HK : Hid (within b 1 1000 = true) := by unfold Hid within; unfold FineB at hb; simp [hb.1, hb.2]
  have HI : Hid (within p 1 20 = true) := by unfold Hid within; unfold FineS at h; simp [h.1.1, h.1.2]
  have HJ : Hid (within d 0 1000 = true) := by unfold Hid within; unfold FineS at h; simp [h.2.1, h.2.2]
  have hp := h
  unfold FineS at hp
  obtain ⟨⟨hp1, hp2⟩, hd1, hd2⟩ := hp
  have hBp : FineB p := by unfold FineB; omega
  have HA : Hid (costS p d p = 2 * p - 1) := by unfold Hid; rcases cost_is ⟨h, hBp⟩ with ⟨_, e⟩ | ⟨_, e⟩ <;> omega
  have HL : Hid (leastS p d = p) := by unfold Hid; rcases least_is h with ⟨_, e⟩ | ⟨_, e⟩ <;> omega
  have HW : Hid (costS p d b = b - 1 + p) := by unfold Hid; rcases cost_is ⟨h, hb⟩ with ⟨_, e⟩ | ⟨_, e⟩ <;> omega
  unfold FineB at hb
  obtain ⟨hb1, hb2⟩ := hb
  have hev : ((2 * p - 1 : Int) == 2 * p - 1) = true := by simp
  have hle : ((p : Int) == p) = true := by simp
  have hwa : ((b - 1 + p : Int) == b - 1 + p) = true := by simp
  clear h hBp
  go_enter Tryd.func4, Tryd.ntmps4
  go_wp2_with (first | (go_at_call 14; fail))
  refine (within_any p 1 20 _).mono ?_
  rintro e w' ⟨rfl, hw⟩
  have hw := hw.symm
  subst hw
  rw [HI.out]
  go_wp2_with (first | (go_at_call 14; fail))
  refine (within_any d 0 1000 _).mono ?_
  rintro e w' ⟨rfl, hw⟩
  have hw := hw.symm
  subst hw
  rw [HJ.out]
  go_wp2_with (first | (go_at_call 15; go_must (refine (scheck_any p d _).mono ?_; rintro e w' ⟨rfl, hw⟩; have hw := hw.symm; subst hw; rw [HS.out])) | (go_at_call 6; fail))
  refine (error_same 0 _ HG.out).mono ?_
  rintro e w1 ⟨rfl, hb⟩
  have HB1 : Hid (Below w.heap.size w w1) := hb
  clear hb
  go_wp2_with (first | (go_at_call 16; go_must (refine (seven_any p d _).mono ?_; rintro e w' ⟨rfl, hw⟩; have hw := hw.symm; subst hw; rw [HEV.out, HS.out, HA.out])) | (go_at_call 6; fail))
  refine (error_same 0 _ (HG.out.below HB1.out)).mono ?_
  rintro e w2 ⟨rfl, hb⟩
  have HB2 : Hid (Below w.heap.size w w2) := HB1.out.trans (hb.mono HB1.out.size)
  clear hb HB1
  go_wp2_with (first | (go_at_call 17; go_must (refine (sleast_any p d _).mono ?_; rintro e w' ⟨rfl, hw⟩; have hw := hw.symm; subst hw; rw [HS.out, HL.out])) | (go_at_call 6; fail))
  refine (error_same 0 _ (HG.out.below HB2.out)).mono ?_
  rintro e w3 ⟨rfl, hb⟩
  have HB3 : Hid (Below w.heap.size w w3) := HB2.out.trans (hb.mono HB2.out.size)
  clear hb HB2
  go_wp2_with (first | (go_at_call 14; fail))
  refine (within_any b 1 1000 _).mono ?_
  rintro e w' ⟨rfl, hw⟩
  have hw := hw.symm
  subst hw
  rw [HK.out]
  go_wp2_with (first | (go_at_call 18; go_must (refine (scost_any p d b _).mono ?_; rintro e w' ⟨rfl, hw⟩; have hw := hw.symm; subst hw; rw [HC.out, HW.out])) | (go_at_call 6; fail))
  refine (error_same 0 _ (HG.out.below HB3.out)).mono ?_
  rintro e w4 ⟨rfl, hb⟩
  have HB4 : Hid (Below w.heap.size w w4) := HB3.out.trans (hb.mono HB3.out.size)
  clear hb HB3
  go_wp2
  go_ret
  exact ⟨rfl, HB4.out⟩
set_option maxHeartbeats 2000000 in
theorem skiSays_eqa (p d b : Int) (w : World) (hg : Handle w) (h : FineS p d) (hb : ¬ FineB b) (hc : p ≤ d ∧ ¬ p < d) :
    Calls Tryd.prog 4 #[.int .i64 p, .int .i64 d, .int .i64 b] w fun e w' => e = .returned (.bool true) ∧ Below w.heap.size w w' := by
  have HG : Hid (Handle w) := hg
  clear hg
  have HEV : Hid (chkB p d p = chkS p d) := chkB_even p d
  have HS : Hid (chkS p d = 0) := by unfold Hid chkS; rw [if_pos h]
  have HC : Hid (chkB p d b = 1) := by unfold Hid chkB; rw [if_neg fun g => hb g.2]
  have HK : Hid (within b 1 1000 = false) := by unfold Hid within; unfold FineB at hb; simp; omega
  have HI : Hid (within p 1 20 = true) := by unfold Hid within; unfold FineS at h; simp [h.1.1, h.1.2]
  have HJ : Hid (within d 0 1000 = true) := by unfold Hid within; unfold FineS at h; simp [h.2.1, h.2.2]
  have hp := h
  unfold FineS at hp
  obtain ⟨⟨hp1, hp2⟩, hd1, hd2⟩ := hp
  have hBp : FineB p := by unfold FineB; omega
  have HA : Hid (costS p d p = 2 * p - 1) := by unfold Hid; rcases cost_is ⟨h, hBp⟩ with ⟨_, e⟩ | ⟨_, e⟩ <;> omega
  have HL : Hid (leastS p d = d) := by unfold Hid; rcases least_is h with ⟨_, e⟩ | ⟨_, e⟩ <;> omega
  have HW : Hid (costS p d b = 0) := by unfold Hid costS; rw [if_neg fun g => hb g.2]
  clear hb
  have hev : ((2 * p - 1 : Int) == 2 * p - 1) = true := by simp
  have hle : ((d : Int) == d) = true := by simp
  have hwa : ((0 : Int) == 0) = true := by simp
  clear h hBp
  go_enter Tryd.func4, Tryd.ntmps4
  go_wp2_with (first | (go_at_call 14; fail))
  refine (within_any p 1 20 _).mono ?_
  rintro e w' ⟨rfl, hw⟩
  have hw := hw.symm
  subst hw
  rw [HI.out]
  go_wp2_with (first | (go_at_call 14; fail))
  refine (within_any d 0 1000 _).mono ?_
  rintro e w' ⟨rfl, hw⟩
  have hw := hw.symm
  subst hw
  rw [HJ.out]
  go_wp2_with (first | (go_at_call 15; go_must (refine (scheck_any p d _).mono ?_; rintro e w' ⟨rfl, hw⟩; have hw := hw.symm; subst hw; rw [HS.out])) | (go_at_call 6; fail))
  refine (error_same 0 _ HG.out).mono ?_
  rintro e w1 ⟨rfl, hb⟩
  have HB1 : Hid (Below w.heap.size w w1) := hb
  clear hb
  go_wp2_with (first | (go_at_call 16; go_must (refine (seven_any p d _).mono ?_; rintro e w' ⟨rfl, hw⟩; have hw := hw.symm; subst hw; rw [HEV.out, HS.out, HA.out])) | (go_at_call 6; fail))
  refine (error_same 0 _ (HG.out.below HB1.out)).mono ?_
  rintro e w2 ⟨rfl, hb⟩
  have HB2 : Hid (Below w.heap.size w w2) := HB1.out.trans (hb.mono HB1.out.size)
  clear hb HB1
  go_wp2_with (first | (go_at_call 17; go_must (refine (sleast_any p d _).mono ?_; rintro e w' ⟨rfl, hw⟩; have hw := hw.symm; subst hw; rw [HS.out, HL.out])) | (go_at_call 6; fail))
  refine (error_same 0 _ (HG.out.below HB2.out)).mono ?_
  rintro e w3 ⟨rfl, hb⟩
  have HB3 : Hid (Below w.heap.size w w3) := HB2.out.trans (hb.mono HB2.out.size)
  clear hb HB2
  go_wp2_with (first | (go_at_call 14; fail))
  refine (within_any b 1 1000 _).mono ?_
  rintro e w' ⟨rfl, hw⟩
  have hw := hw.symm
  subst hw
  rw [HK.out]
  go_wp2_with (first | (go_at_call 18; go_must (refine (scost_any p d b _).mono ?_; rintro e w' ⟨rfl, hw⟩; have hw := hw.symm; subst hw; rw [HC.out, HW.out])) | (go_at_call 6; fail))
  refine (error_same 1 _ (HG.out.below HB3.out)).mono ?_
  rintro e w4 ⟨rfl, hb⟩
  have HB4 : Hid (Below w.heap.size w w4) := HB3.out.trans (hb.mono HB3.out.size)
  clear hb HB3
  go_wp2
  go_ret
  exact ⟨rfl, HB4.out⟩
set_option maxHeartbeats 2000000 in
theorem skiSays_eqb (p d b : Int) (w : World) (hg : Handle w) (h : FineS p d) (hb : FineB b) (hdb : d < b) (hc : p ≤ d ∧ ¬ p < d) :
    Calls Tryd.prog 4 #[.int .i64 p, .int .i64 d, .int .i64 b] w fun e w' => e = .returned (.bool true) ∧ Below w.heap.size w w' := by
  have HG : Hid (Handle w) := hg
  clear hg
  have HEV : Hid (chkB p d p = chkS p d) := chkB_even p d
  have HS : Hid (chkS p d = 0) := by unfold Hid chkS; rw [if_pos h]
  have HC : Hid (chkB p d b = 0) := by unfold Hid chkB; rw [if_pos ⟨h, hb⟩]
  have HK : Hid (within b 1 1000 = true) := by unfold Hid within; unfold FineB at hb; simp [hb.1, hb.2]
  have HI : Hid (within p 1 20 = true) := by unfold Hid within; unfold FineS at h; simp [h.1.1, h.1.2]
  have HJ : Hid (within d 0 1000 = true) := by unfold Hid within; unfold FineS at h; simp [h.2.1, h.2.2]
  have hp := h
  unfold FineS at hp
  obtain ⟨⟨hp1, hp2⟩, hd1, hd2⟩ := hp
  have hBp : FineB p := by unfold FineB; omega
  have HA : Hid (costS p d p = 2 * p - 1) := by unfold Hid; rcases cost_is ⟨h, hBp⟩ with ⟨_, e⟩ | ⟨_, e⟩ <;> omega
  have HL : Hid (leastS p d = d) := by unfold Hid; rcases least_is h with ⟨_, e⟩ | ⟨_, e⟩ <;> omega
  have HW : Hid (costS p d b = d) := by unfold Hid; rcases cost_is ⟨h, hb⟩ with ⟨_, e⟩ | ⟨_, e⟩ <;> omega
  unfold FineB at hb
  obtain ⟨hb1, hb2⟩ := hb
  have hev : ((2 * p - 1 : Int) == 2 * p - 1) = true := by simp
  have hle : ((d : Int) == d) = true := by simp
  have hwa : ((d : Int) == d) = true := by simp
  clear h hBp
  go_enter Tryd.func4, Tryd.ntmps4
  go_wp2_with (first | (go_at_call 14; fail))
  refine (within_any p 1 20 _).mono ?_
  rintro e w' ⟨rfl, hw⟩
  have hw := hw.symm
  subst hw
  rw [HI.out]
  go_wp2_with (first | (go_at_call 14; fail))
  refine (within_any d 0 1000 _).mono ?_
  rintro e w' ⟨rfl, hw⟩
  have hw := hw.symm
  subst hw
  rw [HJ.out]
  go_wp2_with (first | (go_at_call 15; go_must (refine (scheck_any p d _).mono ?_; rintro e w' ⟨rfl, hw⟩; have hw := hw.symm; subst hw; rw [HS.out])) | (go_at_call 6; fail))
  refine (error_same 0 _ HG.out).mono ?_
  rintro e w1 ⟨rfl, hb⟩
  have HB1 : Hid (Below w.heap.size w w1) := hb
  clear hb
  go_wp2_with (first | (go_at_call 16; go_must (refine (seven_any p d _).mono ?_; rintro e w' ⟨rfl, hw⟩; have hw := hw.symm; subst hw; rw [HEV.out, HS.out, HA.out])) | (go_at_call 6; fail))
  refine (error_same 0 _ (HG.out.below HB1.out)).mono ?_
  rintro e w2 ⟨rfl, hb⟩
  have HB2 : Hid (Below w.heap.size w w2) := HB1.out.trans (hb.mono HB1.out.size)
  clear hb HB1
  go_wp2_with (first | (go_at_call 17; go_must (refine (sleast_any p d _).mono ?_; rintro e w' ⟨rfl, hw⟩; have hw := hw.symm; subst hw; rw [HS.out, HL.out])) | (go_at_call 6; fail))
  refine (error_same 0 _ (HG.out.below HB2.out)).mono ?_
  rintro e w3 ⟨rfl, hb⟩
  have HB3 : Hid (Below w.heap.size w w3) := HB2.out.trans (hb.mono HB2.out.size)
  clear hb HB2
  go_wp2_with (first | (go_at_call 14; fail))
  refine (within_any b 1 1000 _).mono ?_
  rintro e w' ⟨rfl, hw⟩
  have hw := hw.symm
  subst hw
  rw [HK.out]
  go_wp2_with (first | (go_at_call 18; go_must (refine (scost_any p d b _).mono ?_; rintro e w' ⟨rfl, hw⟩; have hw := hw.symm; subst hw; rw [HC.out, HW.out])) | (go_at_call 6; fail))
  refine (error_same 0 _ (HG.out.below HB3.out)).mono ?_
  rintro e w4 ⟨rfl, hb⟩
  have HB4 : Hid (Below w.heap.size w w4) := HB3.out.trans (hb.mono HB3.out.size)
  clear hb HB3
  go_wp2
  go_ret
  exact ⟨rfl, HB4.out⟩
set_option maxHeartbeats 2000000 in
theorem skiSays_eqc (p d b : Int) (w : World) (hg : Handle w) (h : FineS p d) (hb : FineB b) (hdb : ¬ d < b) (hc : p ≤ d ∧ ¬ p < d) :
    Calls Tryd.prog 4 #[.int .i64 p, .int .i64 d, .int .i64 b] w fun e w' => e = .returned (.bool true) ∧ Below w.heap.size w w' := by
  have HG : Hid (Handle w) := hg
  clear hg
  have HEV : Hid (chkB p d p = chkS p d) := chkB_even p d
  have HS : Hid (chkS p d = 0) := by unfold Hid chkS; rw [if_pos h]
  have HC : Hid (chkB p d b = 0) := by unfold Hid chkB; rw [if_pos ⟨h, hb⟩]
  have HK : Hid (within b 1 1000 = true) := by unfold Hid within; unfold FineB at hb; simp [hb.1, hb.2]
  have HI : Hid (within p 1 20 = true) := by unfold Hid within; unfold FineS at h; simp [h.1.1, h.1.2]
  have HJ : Hid (within d 0 1000 = true) := by unfold Hid within; unfold FineS at h; simp [h.2.1, h.2.2]
  have hp := h
  unfold FineS at hp
  obtain ⟨⟨hp1, hp2⟩, hd1, hd2⟩ := hp
  have hBp : FineB p := by unfold FineB; omega
  have HA : Hid (costS p d p = 2 * p - 1) := by unfold Hid; rcases cost_is ⟨h, hBp⟩ with ⟨_, e⟩ | ⟨_, e⟩ <;> omega
  have HL : Hid (leastS p d = d) := by unfold Hid; rcases least_is h with ⟨_, e⟩ | ⟨_, e⟩ <;> omega
  have HW : Hid (costS p d b = b - 1 + p) := by unfold Hid; rcases cost_is ⟨h, hb⟩ with ⟨_, e⟩ | ⟨_, e⟩ <;> omega
  unfold FineB at hb
  obtain ⟨hb1, hb2⟩ := hb
  have hev : ((2 * p - 1 : Int) == 2 * p - 1) = true := by simp
  have hle : ((d : Int) == d) = true := by simp
  have hwa : ((b - 1 + p : Int) == b - 1 + p) = true := by simp
  clear h hBp
  go_enter Tryd.func4, Tryd.ntmps4
  go_wp2_with (first | (go_at_call 14; fail))
  refine (within_any p 1 20 _).mono ?_
  rintro e w' ⟨rfl, hw⟩
  have hw := hw.symm
  subst hw
  rw [HI.out]
  go_wp2_with (first | (go_at_call 14; fail))
  refine (within_any d 0 1000 _).mono ?_
  rintro e w' ⟨rfl, hw⟩
  have hw := hw.symm
  subst hw
  rw [HJ.out]
  go_wp2_with (first | (go_at_call 15; go_must (refine (scheck_any p d _).mono ?_; rintro e w' ⟨rfl, hw⟩; have hw := hw.symm; subst hw; rw [HS.out])) | (go_at_call 6; fail))
  refine (error_same 0 _ HG.out).mono ?_
  rintro e w1 ⟨rfl, hb⟩
  have HB1 : Hid (Below w.heap.size w w1) := hb
  clear hb
  go_wp2_with (first | (go_at_call 16; go_must (refine (seven_any p d _).mono ?_; rintro e w' ⟨rfl, hw⟩; have hw := hw.symm; subst hw; rw [HEV.out, HS.out, HA.out])) | (go_at_call 6; fail))
  refine (error_same 0 _ (HG.out.below HB1.out)).mono ?_
  rintro e w2 ⟨rfl, hb⟩
  have HB2 : Hid (Below w.heap.size w w2) := HB1.out.trans (hb.mono HB1.out.size)
  clear hb HB1
  go_wp2_with (first | (go_at_call 17; go_must (refine (sleast_any p d _).mono ?_; rintro e w' ⟨rfl, hw⟩; have hw := hw.symm; subst hw; rw [HS.out, HL.out])) | (go_at_call 6; fail))
  refine (error_same 0 _ (HG.out.below HB2.out)).mono ?_
  rintro e w3 ⟨rfl, hb⟩
  have HB3 : Hid (Below w.heap.size w w3) := HB2.out.trans (hb.mono HB2.out.size)
  clear hb HB2
  go_wp2_with (first | (go_at_call 14; fail))
  refine (within_any b 1 1000 _).mono ?_
  rintro e w' ⟨rfl, hw⟩
  have hw := hw.symm
  subst hw
  rw [HK.out]
  go_wp2_with (first | (go_at_call 18; go_must (refine (scost_any p d b _).mono ?_; rintro e w' ⟨rfl, hw⟩; have hw := hw.symm; subst hw; rw [HC.out, HW.out])) | (go_at_call 6; fail))
  refine (error_same 0 _ (HG.out.below HB3.out)).mono ?_
  rintro e w4 ⟨rfl, hb⟩
  have HB4 : Hid (Below w.heap.size w w4) := HB3.out.trans (hb.mono HB3.out.size)
  clear hb HB3
  go_wp2
  go_ret
  exact ⟨rfl, HB4.out⟩
theorem skiSays_any (p d b : Int) (w : World) (hg : Handle w) :
    Calls Tryd.prog 4 #[.int .i64 p, .int .i64 d, .int .i64 b] w fun e w' => e = .returned (.bool true) ∧ Below w.heap.size w w' := by
  by_cases h : FineS p d
  · by_cases hb : FineB b
    · by_cases hdb : d < b
      · rcases (by omega : d < p ∨ p < d ∨ (p ≤ d ∧ ¬ p < d)) with hc | hc | hc
        · exact skiSays_ltb p d b w hg h hb hdb hc
        · exact skiSays_gtb p d b w hg h hb hdb hc
        · exact skiSays_eqb p d b w hg h hb hdb hc
      · rcases (by omega : d < p ∨ p < d ∨ (p ≤ d ∧ ¬ p < d)) with hc | hc | hc
        · exact skiSays_ltc p d b w hg h hb hdb hc
        · exact skiSays_gtc p d b w hg h hb hdb hc
        · exact skiSays_eqc p d b w hg h hb hdb hc
    · rcases (by omega : d < p ∨ p < d ∨ (p ≤ d ∧ ¬ p < d)) with hc | hc | hc
      · exact skiSays_lta p d b w hg h hb hc
      · exact skiSays_gta p d b w hg h hb hc
      · exact skiSays_eqa p d b w hg h hb hc
  · exact skiSays_err p d b w hg h
end Go.Proofs.YtampfekhjijjbaaDoor
