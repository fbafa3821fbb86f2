/- The walk of ServeSays: for every list of servers and every list of asks, in whatever memory and on every schedule, it returns true and leaves its arguments as they were: serve.Check, serve.Double, serve.Near and serve.Least answer as the document says. -/
import Derived.Test.YtnjfmlojbaigjaaDoorRefServ
import Derived.Test.YtnjfmlojbaigjaaDoorRefGo
import Derived.Test.YtnjfmlojbaigjaaDoorRefNear
import Derived.Test.YtnjfmlojbaigjaaDoorRefLeastV
import Derived.Test.YtnjfmlojbaigjaaDoorSGoN
import Derived.Test.YtnjfmlojbaigjaaDoorPLeast
import Derived.Test.YtnjfmlojbaigjaaDoorInts
import Derived.Test.YtnjfmlojbaigjaaDoorTold
import Derived.Test.YtnjfmlojbaigjaaDoorLawkit
namespace Go.Proofs.YtnjfmlojbaigjaaDoor
set_option maxRecDepth 100000
open Go.RowKit Go.Sort

set_option maxHeartbeats 4000000 in
theorem serveSays_ok (v va : Value) (s asks : List Int) (w : World) (hv : IsInts w v s) (hform : ∃ ao cap, v = .slice ao s.length cap) (ha : IsInts w va asks) (hg : Handle w) (hc : chkV s asks = 0) :
    Calls Tryd.prog 3 #[v, va] w fun e w' => e = .returned (.bool true) ∧ Below w.heap.size w w' := by
  have HV : Hid (IsInts w v s) := hv
  have HA : Hid (IsInts w va asks) := ha
  have HG : Hid (Handle w) := hg
  have HC : Hid (chkV s asks = 0) := hc
  have HN1 : Hid (goN true s asks = goCost true s asks asks.length) := by unfold Hid goN; rw [if_pos hc]
  have HL1 : Hid (goL true s asks = goRow true s asks asks.length) := by unfold Hid goL; rw [if_pos hc]
  have HN2 : Hid (goN false s asks = goCost false s asks asks.length) := by unfold Hid goN; rw [if_pos hc]
  have HL2 : Hid (goL false s asks = goRow false s asks asks.length) := by unfold Hid goL; rw [if_pos hc]
  obtain ⟨ao, cap, rfl⟩ := hform
  obtain ⟨aa, capa, rfl, _⟩ := ha.opened
  clear hv ha hg hc
  go_enter Tryd.func3, Tryd.ntmps3
  go_wp2_with (go_at_call 4; fail)
  refine (rserv_any _ _ s asks _ HV.out HA.out).mono ?_
  rintro e w' ⟨rfl, hw⟩
  have hw := hw.symm
  subst hw
  rw [HC.out]
  go_wp2_with (go_at_call 6; fail)
  refine (vcheck_any _ _ s asks _ HV.out HA.out).mono ?_
  rintro e w' ⟨rfl, hw⟩
  have hw := hw.symm
  subst hw
  rw [HC.out]
  go_wp2_with (go_at_call 5; fail)
  refine (error_same 0 _ HG.out).mono ?_
  rintro e w3 ⟨rfl, hb3⟩
  have HB3 : Hid (Below w.heap.size w w3) := hb3
  clear hb3
  go_wp2_with (go_at_call 7; fail)
  refine (rdouble_any _ _ s asks _ (HV.out.below HB3.out) ⟨ao, cap, rfl⟩ (HA.out.below HB3.out) HC.out).mono ?_
  rintro e w4 ⟨vx, rfl, hx, hb4⟩
  have HB4 : Hid (Below w.heap.size w w4) := HB3.out.trans (hb4.mono HB3.out.size)
  have HX4 : Hid (IsInts w4 vx (goRow true s asks asks.length)) := hx.isInts
  clear hx hb4 HB3
  generalize goRow true s asks asks.length = R1 at *
  generalize goCost true s asks asks.length = C1 at *
  go_wp2_with (go_at_call 8; fail)
  refine (rnear_any _ _ s asks _ (HV.out.below HB4.out) ⟨ao, cap, rfl⟩ (HA.out.below HB4.out) HC.out).mono ?_
  rintro e w5 ⟨vy, rfl, hy, hb5⟩
  have HB5 : Hid (Below w.heap.size w w5) := HB4.out.trans (hb5.mono HB4.out.size)
  have HX5 : Hid (IsInts w5 vx R1) := HX4.out.below hb5
  have HY5 : Hid (IsInts w5 vy (goRow false s asks asks.length)) := hy.isInts
  clear hy hb5 HB4 HX4
  generalize goRow false s asks asks.length = R2 at *
  generalize goCost false s asks asks.length = C2 at *
  go_wp2_with (go_at_call 9; fail)
  refine (rleasts_any _ _ s asks _ (HV.out.below HB5.out) (HA.out.below HB5.out) HC.out).mono ?_
  rintro e w6 ⟨x, rfl, hx, hb6⟩
  have HB6 : Hid (Below w.heap.size w w6) := HB5.out.trans (hb6.mono HB5.out.size)
  have HLE : Hid (LeastGo s asks x) := hx
  have HX6 : Hid (IsInts w6 vx R1) := HX5.out.below hb6
  have HY6 : Hid (IsInts w6 vy R2) := HY5.out.below hb6
  clear hx hb6 HB5 HX5 HY5
  go_wp2_with (go_at_call 10; fail)
  refine (sdouble_any _ _ s asks _ (HV.out.below HB6.out) (HA.out.below HB6.out)).mono ?_
  rintro e w7 ⟨vp, rfl, hp, hb7⟩
  rw [HC.out, HN1.out]
  rw [HL1.out] at hp
  have HB7 : Hid (Below w.heap.size w w7) := HB6.out.trans (hb7.mono HB6.out.size)
  have HX7 : Hid (IsInts w7 vx R1) := HX6.out.below hb7
  have HY7 : Hid (IsInts w7 vy R2) := HY6.out.below hb7
  have HP7 : Hid (IsInts w7 vp R1) := hp.isInts
  clear hp hb7 HB6 HX6 HY6
  have h11 : ((C1 : Int) == (C1 : Int)) = true := by simp
  go_wp2_with (go_at_call 5; fail)
  refine (error_same 0 _ (HG.out.below HB7.out)).mono ?_
  rintro e w8 ⟨rfl, hb8⟩
  have HB8 : Hid (Below w.heap.size w w8) := HB7.out.trans (hb8.mono HB7.out.size)
  have HX8 : Hid (IsInts w8 vx R1) := HX7.out.below hb8
  have HY8 : Hid (IsInts w8 vy R2) := HY7.out.below hb8
  have HP8 : Hid (IsInts w8 vp R1) := HP7.out.below hb8
  clear hb8 HB7 HX7 HY7 HP7
  go_wp2_with (go_at_call 11; fail)
  refine (ints_same _ _ R1 _ HP8.out HX8.out).mono ?_
  rintro e w9 ⟨rfl, q9, hw9⟩
  have HB9 : Hid (Below w.heap.size w w9) := by unfold Hid; rw [hw9]; exact below_drewN HB8.out q9
  have HY9 : Hid (IsInts w9 vy R2) := by unfold Hid; rw [hw9]; exact HY8.out.heap rfl
  clear hw9 HB8 HX8 HY8 HP8
  go_wp2_with (go_at_call 12; fail)
  refine (snear_any _ _ s asks _ (HV.out.below HB9.out) (HA.out.below HB9.out)).mono ?_
  rintro e w10 ⟨vq, rfl, hp, hb10⟩
  rw [HC.out, HN2.out]
  rw [HL2.out] at hp
  have HB10 : Hid (Below w.heap.size w w10) := HB9.out.trans (hb10.mono HB9.out.size)
  have HY10 : Hid (IsInts w10 vy R2) := HY9.out.below hb10
  have HQ10 : Hid (IsInts w10 vq R2) := hp.isInts
  clear hp hb10 HB9 HY9
  have h22 : ((C2 : Int) == (C2 : Int)) = true := by simp
  go_wp2_with (go_at_call 5; fail)
  refine (error_same 0 _ (HG.out.below HB10.out)).mono ?_
  rintro e w11 ⟨rfl, hb11⟩
  have HB11 : Hid (Below w.heap.size w w11) := HB10.out.trans (hb11.mono HB10.out.size)
  have HY11 : Hid (IsInts w11 vy R2) := HY10.out.below hb11
  have HQ11 : Hid (IsInts w11 vq R2) := HQ10.out.below hb11
  clear hb11 HB10 HY10 HQ10
  go_wp2_with (go_at_call 11; fail)
  refine (ints_same _ _ R2 _ HQ11.out HY11.out).mono ?_
  rintro e w12 ⟨rfl, q12, hw12⟩
  have HB12 : Hid (Below w.heap.size w w12) := by unfold Hid; rw [hw12]; exact below_drewN HB11.out q12
  clear hw12 HB11 HY11 HQ11
  go_wp2_with (go_at_call 13; fail)
  refine (vleast_any _ _ s asks _ (HV.out.below HB12.out) (HA.out.below HB12.out)).mono ?_
  rintro e w13 ⟨y, rfl, hy, hb13⟩
  have hxy : x = y := by have := leastGo_unique HLE.out (hy.ok HC.out); omega
  subst hxy
  rw [HC.out]
  have HB13 : Hid (Below w.heap.size w w13) := HB12.out.trans (hb13.mono HB12.out.size)
  clear hy hb13 HB12 HLE
  go_wp2_with (go_at_call 5; fail)
  refine (error_same 0 _ (HG.out.below HB13.out)).mono ?_
  rintro e w14 ⟨rfl, hb14⟩
  have HB14 : Hid (Below w.heap.size w w14) := HB13.out.trans (hb14.mono HB13.out.size)
  clear hb14 HB13
  have hxx : ((x : Int) == (x : Int)) = true := by simp
  go_wp2
  go_ret
  exact ⟨rfl, HB14.out⟩

set_option maxHeartbeats 4000000 in
theorem serveSays_err (v va : Value) (s asks : List Int) (w : World) (hv : IsInts w v s) (hform : ∃ ao cap, v = .slice ao s.length cap) (ha : IsInts w va asks) (hg : Handle w) (k : Nat) (hk0 : k ≠ 0) (hc : chkV s asks = k) :
    Calls Tryd.prog 3 #[v, va] w fun e w' => e = .returned (.bool true) ∧ Below w.heap.size w w' := by
  have HV : Hid (IsInts w v s) := hv
  have HA : Hid (IsInts w va asks) := ha
  have HG : Hid (Handle w) := hg
  have HC : Hid (chkV s asks = k) := hc
  have hne : chkV s asks ≠ 0 := by rw [hc]; exact hk0
  have HNE : Hid (chkV s asks ≠ 0) := hne
  have HN : Hid (∀ d, goN d s asks = 0) := fun d => by unfold goN; rw [if_neg hne]
  have HL : Hid (∀ d, goL d s asks = []) := fun d => by unfold goL; rw [if_neg hne]
  have hcz : ((k : Int) == 0) = false := by rw [beq_eq_false_iff_ne]; omega
  obtain ⟨ao, cap, rfl⟩ := hform
  obtain ⟨aa, capa, rfl, _⟩ := ha.opened
  clear hv ha hg hc hne
  go_enter Tryd.func3, Tryd.ntmps3
  go_wp2_with (go_at_call 4; fail)
  refine (rserv_any _ _ s asks _ HV.out HA.out).mono ?_
  rintro e w' ⟨rfl, hw⟩
  have hw := hw.symm
  subst hw
  rw [HC.out]
  go_wp2_with (go_at_call 6; fail)
  refine (vcheck_any _ _ s asks _ HV.out HA.out).mono ?_
  rintro e w' ⟨rfl, hw⟩
  have hw := hw.symm
  subst hw
  rw [HC.out]
  go_wp2_with (go_at_call 5; fail)
  refine (error_same k _ HG.out).mono ?_
  rintro e w6 ⟨rfl, hb3⟩
  have HB6 : Hid (Below w.heap.size w w6) := hb3
  clear hb3
  go_wp2_with (go_at_call 10; fail)
  refine (sdouble_any _ _ s asks _ (HV.out.below HB6.out) (HA.out.below HB6.out)).mono ?_
  rintro e w7 ⟨vp, rfl, hp, hb7⟩
  rw [HC.out, HN.out true]
  rw [HL.out true] at hp
  have HB7 : Hid (Below w.heap.size w w7) := HB6.out.trans (hb7.mono HB6.out.size)
  have HP7 : Hid (IsInts w7 vp []) := hp.isInts
  clear hp hb7 HB6
  go_wp2_with (go_at_call 5; fail)
  refine (error_same k _ (HG.out.below HB7.out)).mono ?_
  rintro e w8 ⟨rfl, hb8⟩
  have HB8 : Hid (Below w.heap.size w w8) := HB7.out.trans (hb8.mono HB7.out.size)
  have HP8 : Hid (IsInts w8 vp []) := HP7.out.below hb8
  clear hb8 HB7 HP7
  go_wp2_with (go_at_call 11; fail)
  refine (ints_same _ _ [] _ HP8.out (.inl ⟨rfl, none, 0, rfl, by simp⟩)).mono ?_
  rintro e w9 ⟨rfl, q9, hw9⟩
  have HB9 : Hid (Below w.heap.size w w9) := by unfold Hid; rw [hw9]; exact below_drewN HB8.out q9
  clear hw9 HB8 HP8
  go_wp2_with (go_at_call 12; fail)
  refine (snear_any _ _ s asks _ (HV.out.below HB9.out) (HA.out.below HB9.out)).mono ?_
  rintro e w10 ⟨vq, rfl, hp, hb10⟩
  rw [HC.out, HN.out false]
  rw [HL.out false] at hp
  have HB10 : Hid (Below w.heap.size w w10) := HB9.out.trans (hb10.mono HB9.out.size)
  have HQ10 : Hid (IsInts w10 vq []) := hp.isInts
  clear hp hb10 HB9
  go_wp2_with (go_at_call 5; fail)
  refine (error_same k _ (HG.out.below HB10.out)).mono ?_
  rintro e w11 ⟨rfl, hb11⟩
  have HB11 : Hid (Below w.heap.size w w11) := HB10.out.trans (hb11.mono HB10.out.size)
  have HQ11 : Hid (IsInts w11 vq []) := HQ10.out.below hb11
  clear hb11 HB10 HQ10
  go_wp2_with (go_at_call 11; fail)
  refine (ints_same _ _ [] _ HQ11.out (.inl ⟨rfl, none, 0, rfl, by simp⟩)).mono ?_
  rintro e w12 ⟨rfl, q12, hw12⟩
  have HB12 : Hid (Below w.heap.size w w12) := by unfold Hid; rw [hw12]; exact below_drewN HB11.out q12
  clear hw12 HB11 HQ11
  go_wp2_with (go_at_call 13; fail)
  refine (vleast_any _ _ s asks _ (HV.out.below HB12.out) (HA.out.below HB12.out)).mono ?_
  rintro e w13 ⟨y, rfl, hy, hb13⟩
  have hy0 : y = 0 := hy.err HNE.out
  subst hy0
  rw [HC.out]
  have HB13 : Hid (Below w.heap.size w w13) := HB12.out.trans (hb13.mono HB12.out.size)
  clear hy hb13 HB12
  go_wp2_with (go_at_call 5; fail)
  refine (error_same k _ (HG.out.below HB13.out)).mono ?_
  rintro e w14 ⟨rfl, hb14⟩
  have HB14 : Hid (Below w.heap.size w w14) := HB13.out.trans (hb14.mono HB13.out.size)
  clear hb14 HB13
  go_wp2
  go_ret
  exact ⟨rfl, HB14.out⟩
theorem serveSays_any (v : Value) (s : List Int) (va : Value) (asks : List Int) (w : World) (hv : IsInts w v s) (hform : ∃ ao cap, v = .slice ao s.length cap) (ha : IsInts w va asks) (_ : ∃ ao cap, va = .slice ao asks.length cap) (hg : Handle w) :
    Calls Tryd.prog 3 #[v, va] w fun e w' => e = .returned (.bool true) ∧ Below w.heap.size w w' := by
  by_cases hc : chkV s asks = 0
  · exact serveSays_ok v va s asks w hv hform ha hg hc
  · exact serveSays_err v va s asks w hv hform ha hg _ hc rfl
end Go.Proofs.YtnjfmlojbaigjaaDoor
