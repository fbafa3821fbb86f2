/- The walk of LandSays: for every two lists of requests and costs, and every number of slots, in whatever memory and on every schedule, it returns true and leaves its arguments as they were: landlord.Check, landlord.Run and landlord.Least answer as the document says. -/
import Derived.Test.YtedmfehjifknbaaDoorRefLandlord
import Derived.Test.YtedmfehjifknbaaDoorRefLeastW
import Derived.Test.YtedmfehjifknbaaDoorRefCosts
import Derived.Test.YtedmfehjifknbaaDoorLLeast
import Derived.Test.YtedmfehjifknbaaDoorLists2
import Derived.Test.YtedmfehjifknbaaDoorInts
import Derived.Test.YtedmfehjifknbaaDoorTold
import Derived.Test.YtedmfehjifknbaaDoorLawkit
namespace Go.Proofs.YtedmfehjifknbaaDoor
open Go.RowKit Go.Sort

theorem isInts_nil (w : World) : IsInts w (.slice none 0 0) [] := .inl ⟨rfl, none, 0, rfl, by simp⟩
theorem landN_ok {l c : List Int} {n : Nat} (h : chkC l c n = 0) : landN l c n = lpaid n (cf c) l l.length := by unfold landN; rw [if_pos h, Int.toNat_natCast]
theorem landT_ok {l c : List Int} {n : Nat} (h : chkC l c n = 0) : landT l c n = land n (cf c) l l.length := by unfold landT; rw [if_pos h, Int.toNat_natCast]
theorem landN_bad {l c : List Int} {s : Int} (h : chkC l c s ≠ 0) : landN l c s = 0 := by unfold landN; rw [if_neg h]
theorem landT_bad {l c : List Int} {s : Int} (h : chkC l c s ≠ 0) : landT l c s = [] := by unfold landT; rw [if_neg h]

set_option maxRecDepth 100000 in
set_option maxHeartbeats 2000000 in
theorem landSays_ok (v vc : Value) (l c : List Int) (n : Nat) (w : World) (hv : IsInts w v l) (hvc : IsInts w vc c) (hg : Handle w) (hc : chkC l c n = 0) :
    Calls Tryd.prog 3 #[v, vc, .int .i64 n] w fun e w' => e = .returned (.bool true) ∧ Below w.heap.size w w' := by
  have HV : Hid (IsInts w v l) := hv
  have HVC : Hid (IsInts w vc c) := hvc
  have HG : Hid (Handle w) := hg
  have HC : Hid (chkC l c n = 0) := hc
  have HN : Hid (landN l c n = lpaid n (cf c) l l.length) := landN_ok hc
  have HTT : Hid (landT l c n = land n (cf c) l l.length) := landT_ok hc
  clear hv hvc hg hc
  go_enter Tryd.func3, Tryd.ntmps3
  go_wp2_with (first | (go_at_call 4; go_must (refine (refcosts_any _ _ l c n _ HV.out HVC.out).mono ?_; rintro e w' ⟨rfl, hw⟩; have hw := hw.symm; subst hw; rw [HC.out])) | (go_at_call 6; go_must (refine (lcheck_any _ _ l c n _ HV.out HVC.out).mono ?_; rintro e w' ⟨rfl, hw⟩; have hw := hw.symm; subst hw; rw [HC.out])) | (go_at_call 5; fail))
  refine (error_same 0 _ HG.out).mono ?_
  rintro e w1 ⟨rfl, hb1⟩
  have HB1 : Hid (Below w.heap.size w w1) := hb1
  clear hb1
  go_wp2_with (go_at_call 7; fail)
  refine (reflandlord_any _ _ l c n _ (HV.out.below HB1.out) (HVC.out.below HB1.out) HC.out).mono ?_
  rintro e w2 ⟨vp, vq, rfl, hp, hq, hb2⟩
  have HB2 : Hid (Below w.heap.size w w2) := HB1.out.trans (hb2.mono HB1.out.size)
  have HP2 : Hid (IsInts w2 vp (tenants (land n (cf c) l l.length))) := hp.isInts
  have HQ2 : Hid (IsInts w2 vq (creds (land n (cf c) l l.length))) := hq.isInts
  clear hp hq hb2 HB1
  generalize lpaid n (cf c) l l.length = a at *
  generalize land n (cf c) l l.length = st at *
  go_wp2_with (go_at_call 8; fail)
  refine (refleast_any _ _ l c n _ (HV.out.below HB2.out) (HVC.out.below HB2.out) HC.out).mono ?_
  rintro e w3 ⟨x, rfl, hx, hb3⟩
  have HB3 : Hid (Below w.heap.size w w3) := HB2.out.trans (hb3.mono HB2.out.size)
  have HX : Hid (IsLeast n (cf c) l x) := hx
  have HP3 : Hid (IsInts w3 vp (tenants st)) := HP2.out.below hb3
  have HQ3 : Hid (IsInts w3 vq (creds st)) := HQ2.out.below hb3
  clear hx hb3 HB2 HP2 HQ2
  go_wp2_with (go_at_call 9; fail)
  refine (landlord_any _ _ l c n _ (HV.out.below HB3.out) (HVC.out.below HB3.out)).mono ?_
  rintro e w4 ⟨vp2, vq2, rfl, hp, hq, hb4⟩
  rw [HC.out, HN.out]
  rw [HTT.out] at hp hq
  have HB4 : Hid (Below w.heap.size w w4) := HB3.out.trans (hb4.mono HB3.out.size)
  have HP4 : Hid (IsInts w4 vp (tenants st)) := HP3.out.below hb4
  have HQ4 : Hid (IsInts w4 vq (creds st)) := HQ3.out.below hb4
  have HR4 : Hid (IsInts w4 vp2 (tenants st)) := hp.isInts
  have HS4 : Hid (IsInts w4 vq2 (creds st)) := hq.isInts
  clear hp hq hb4 HB3 HP3 HQ3
  go_wp2_with (go_at_call 5; fail)
  refine (error_same 0 _ (HG.out.below HB4.out)).mono ?_
  rintro e w5 ⟨rfl, hb5⟩
  have HB5 : Hid (Below w.heap.size w w5) := HB4.out.trans (hb5.mono HB4.out.size)
  have HP5 : Hid (IsInts w5 vp (tenants st)) := HP4.out.below hb5
  have HQ5 : Hid (IsInts w5 vq (creds st)) := HQ4.out.below hb5
  have HR5 : Hid (IsInts w5 vp2 (tenants st)) := HR4.out.below hb5
  have HS5 : Hid (IsInts w5 vq2 (creds st)) := HS4.out.below hb5
  clear hb5 HB4 HP4 HQ4 HR4 HS4
  have haa : ((a : Int) == (a : Int)) = true := by simp
  go_wp2_with (go_at_call 10; fail)
  refine (ints_same _ _ (tenants st) _ HR5.out HP5.out).mono ?_
  rintro e w6 ⟨rfl, q, hw6⟩
  have hb6 : Below w5.heap.size w5 w6 := by rw [hw6]; exact below_drewN (Below.refl _ _) q
  have HB6 : Hid (Below w.heap.size w w6) := HB5.out.trans (hb6.mono HB5.out.size)
  have HQ6 : Hid (IsInts w6 vq (creds st)) := HQ5.out.below hb6
  have HS6 : Hid (IsInts w6 vq2 (creds st)) := HS5.out.below hb6
  clear hw6 hb6 HB5 HP5 HQ5 HR5 HS5
  go_wp2_with (go_at_call 10; fail)
  refine (ints_same _ _ (creds st) _ HS6.out HQ6.out).mono ?_
  rintro e w7 ⟨rfl, q2, hw7⟩
  have HB7 : Hid (Below w.heap.size w w7) := by rw [hw7]; exact below_drewN HB6.out q2
  clear hw7 HB6 HQ6 HS6
  go_wp2_with (go_at_call 11; fail)
  refine (least_any _ _ l c n _ (HV.out.below HB7.out) (HVC.out.below HB7.out)).mono ?_
  rintro e w8 ⟨y, rfl, hy, hb8⟩
  have hxy : y = x := by have := hy.ok HC.out; rw [Int.toNat_natCast] at this; exact least_unique this HX.out
  subst hxy
  rw [HC.out]
  have HB8 : Hid (Below w.heap.size w w8) := HB7.out.trans (hb8.mono HB7.out.size)
  clear hy hb8 HB7 HX
  go_wp2_with (go_at_call 5; fail)
  refine (error_same 0 _ (HG.out.below HB8.out)).mono ?_
  rintro e w9 ⟨rfl, hb9⟩
  have HB9 : Hid (Below w.heap.size w w9) := HB8.out.trans (hb9.mono HB8.out.size)
  clear hb9 HB8
  have hyy : ((y : Int) == (y : Int)) = true := by simp
  go_wp2
  go_ret
  exact ⟨rfl, HB9.out⟩

set_option maxRecDepth 100000 in
set_option maxHeartbeats 2000000 in
theorem landSays_err (v vc : Value) (l c : List Int) (s : Int) (w : World) (hv : IsInts w v l) (hvc : IsInts w vc c) (hg : Handle w) (k : Nat) (hk0 : k ≠ 0) (hc : chkC l c s = k) :
    Calls Tryd.prog 3 #[v, vc, .int .i64 s] w fun e w' => e = .returned (.bool true) ∧ Below w.heap.size w w' := by
  have HV : Hid (IsInts w v l) := hv
  have HVC : Hid (IsInts w vc c) := hvc
  have HG : Hid (Handle w) := hg
  have HC : Hid (chkC l c s = k) := hc
  have hne : chkC l c s ≠ 0 := by rw [hc]; exact hk0
  have HNE : Hid (chkC l c s ≠ 0) := hne
  have HN : Hid (landN l c s = 0) := landN_bad hne
  have HTT : Hid (landT l c s = []) := landT_bad hne
  have hcz : ((k : Int) == 0) = false := by rw [beq_eq_false_iff_ne]; omega
  clear hv hvc hg hc hne
  go_enter Tryd.func3, Tryd.ntmps3
  go_wp2_with (first | (go_at_call 4; go_must (refine (refcosts_any _ _ l c s _ HV.out HVC.out).mono ?_; rintro e w' ⟨rfl, hw⟩; have hw := hw.symm; subst hw; rw [HC.out])) | (go_at_call 6; go_must (refine (lcheck_any _ _ l c s _ HV.out HVC.out).mono ?_; rintro e w' ⟨rfl, hw⟩; have hw := hw.symm; subst hw; rw [HC.out])) | (go_at_call 5; fail))
  refine (error_same k _ HG.out).mono ?_
  rintro e w3 ⟨rfl, hb1⟩
  have HB3 : Hid (Below w.heap.size w w3) := hb1
  clear hb1
  go_wp2_with (go_at_call 9; fail)
  refine (landlord_any _ _ l c s _ (HV.out.below HB3.out) (HVC.out.below HB3.out)).mono ?_
  rintro e w4 ⟨vp2, vq2, rfl, hp, hq, hb4⟩
  rw [HC.out, HN.out]
  rw [HTT.out] at hp hq
  have HB4 : Hid (Below w.heap.size w w4) := HB3.out.trans (hb4.mono HB3.out.size)
  have HR4 : Hid (IsInts w4 vp2 []) := hp.isInts
  have HS4 : Hid (IsInts w4 vq2 []) := hq.isInts
  clear hp hq hb4 HB3
  go_wp2_with (go_at_call 5; fail)
  refine (error_same k _ (HG.out.below HB4.out)).mono ?_
  rintro e w5 ⟨rfl, hb5⟩
  have HB5 : Hid (Below w.heap.size w w5) := HB4.out.trans (hb5.mono HB4.out.size)
  have HR5 : Hid (IsInts w5 vp2 []) := HR4.out.below hb5
  have HS5 : Hid (IsInts w5 vq2 []) := HS4.out.below hb5
  clear hb5 HB4 HR4 HS4
  go_wp2_with (go_at_call 10; fail)
  refine (ints_same _ _ [] _ HR5.out (isInts_nil _)).mono ?_
  rintro e w6 ⟨rfl, q, hw6⟩
  have hb6 : Below w5.heap.size w5 w6 := by rw [hw6]; exact below_drewN (Below.refl _ _) q
  have HB6 : Hid (Below w.heap.size w w6) := HB5.out.trans (hb6.mono HB5.out.size)
  have HS6 : Hid (IsInts w6 vq2 []) := HS5.out.below hb6
  clear hw6 hb6 HB5 HR5 HS5
  go_wp2_with (go_at_call 10; fail)
  refine (ints_same _ _ [] _ HS6.out (isInts_nil _)).mono ?_
  rintro e w7 ⟨rfl, q2, hw7⟩
  have HB7 : Hid (Below w.heap.size w w7) := by rw [hw7]; exact below_drewN HB6.out q2
  clear hw7 HB6 HS6
  go_wp2_with (go_at_call 11; fail)
  refine (least_any _ _ l c s _ (HV.out.below HB7.out) (HVC.out.below HB7.out)).mono ?_
  rintro e w8 ⟨y, rfl, hy, hb8⟩
  have hy0 : y = 0 := hy.err HNE.out
  subst hy0
  rw [HC.out]
  have HB8 : Hid (Below w.heap.size w w8) := HB7.out.trans (hb8.mono HB7.out.size)
  clear hy hb8 HB7
  go_wp2_with (go_at_call 5; fail)
  refine (error_same k _ (HG.out.below HB8.out)).mono ?_
  rintro e w9 ⟨rfl, hb9⟩
  have HB9 : Hid (Below w.heap.size w w9) := HB8.out.trans (hb9.mono HB8.out.size)
  clear hb9 HB8
  go_wp2
  go_ret
  exact ⟨rfl, HB9.out⟩
theorem landSays_any (v : Value) (l : List Int) (vc : Value) (c : List Int) (s : Int) (w : World) (hv : IsInts w v l) (_ : ∃ ao cap, v = .slice ao l.length cap) (hvc : IsInts w vc c) (_ : ∃ ao cap, vc = .slice ao c.length cap) (hg : Handle w) :
    Calls Tryd.prog 3 #[v, vc, .int .i64 s] w fun e w' => e = .returned (.bool true) ∧ Below w.heap.size w w' := by
  by_cases hc : chkC l c s = 0
  · obtain ⟨n, rfl⟩ : ∃ n : Nat, s = n := ⟨s.toNat, by have := (chkC_zero hc).slots; omega⟩
    exact landSays_ok v vc l c n w hv hvc hg hc
  · exact landSays_err v vc l c s w hv hvc hg _ hc rfl
end Go.Proofs.YtedmfehjifknbaaDoor
