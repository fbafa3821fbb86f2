/- The walk of ListSays: for every number of things and every list of requests, in whatever memory and on every schedule, it returns true and leaves its argument as it was: lists.Check, lists.Front, lists.Swap and lists.Least answer as the document says. -/
import Derived.Test.YtjafedijbainbaaDoorRefLook
import Derived.Test.YtjafedijbainbaaDoorRefLLW
import Derived.Test.YtjafedijbainbaaDoorOSwap
import Derived.Test.YtjafedijbainbaaDoorInts
import Derived.Test.YtjafedijbainbaaDoorTold
import Derived.Test.YtjafedijbainbaaDoorLawkit
namespace Go.Proofs.YtjafedijbainbaaDoor
open Go.RowKit Go.Sort

theorem isInts_nil (w : World) : IsInts w (.slice none 0 0) [] := .inl ⟨rfl, none, 0, rfl, by simp⟩
theorem lookN_ok {l : List Int} {n : Nat} {f : Nat → Nat} (h : chkL n l = 0) : lookN f n l = wayCost f (Un n) l l.length := by unfold lookN; rw [if_pos h, Int.toNat_natCast]
theorem lookL_ok {l : List Int} {n : Nat} {f : Nat → Nat} (h : chkL n l = 0) : lookL f n l = wayRow f (Un n) l l.length := by unfold lookL; rw [if_pos h, Int.toNat_natCast]
theorem lookN_bad {l : List Int} {n : Int} {f : Nat → Nat} (h : chkL n l ≠ 0) : lookN f n l = 0 := by unfold lookN; rw [if_neg h]
theorem lookL_bad {l : List Int} {n : Int} {f : Nat → Nat} (h : chkL n l ≠ 0) : lookL f n l = [] := by unfold lookL; rw [if_neg h]

set_option maxRecDepth 100000 in
set_option maxHeartbeats 2000000 in
theorem listSays_ok (n : Nat) (v : Value) (l : List Int) (w : World) (hv : IsInts w v l) (hg : Handle w) (hc : chkL n l = 0) :
    Calls Tryd.prog 3 #[.int .i64 n, v] w fun e w' => e = .returned (.bool true) ∧ Below w.heap.size w w' := by
  have HV : Hid (IsInts w v l) := hv
  have HG : Hid (Handle w) := hg
  have HC : Hid (chkL n l = 0) := hc
  have HN1 : Hid (lookN (fun _ => 0) n l = wayCost (fun _ => 0) (Un n) l l.length) := lookN_ok hc
  have HN2 : Hid (lookN (fun a => a - 1) n l = wayCost (fun a => a - 1) (Un n) l l.length) := lookN_ok hc
  have HL1 : Hid (lookL (fun _ => 0) n l = wayRow (fun _ => 0) (Un n) l l.length) := lookL_ok hc
  have HL2 : Hid (lookL (fun a => a - 1) n l = wayRow (fun a => a - 1) (Un n) l l.length) := lookL_ok hc
  obtain ⟨ao, cap, rfl, _⟩ := hv.opened
  clear hv hg hc
  go_enter Tryd.func3, Tryd.ntmps3
  go_wp2_with (first | (go_at_call 4; go_must (refine (rthings_any _ _ l _ HV.out).mono ?_; rintro e w' ⟨rfl, hw⟩; have hw := hw.symm; subst hw; rw [HC.out])) | (go_at_call 6; go_must (refine (ocheck_any _ _ l _ HV.out).mono ?_; rintro e w' ⟨rfl, hw⟩; have hw := hw.symm; subst hw; rw [HC.out])) | (go_at_call 5; fail))
  refine (error_same 0 _ HG.out).mono ?_
  rintro e w1 ⟨rfl, hb1⟩
  have HB1 : Hid (Below w.heap.size w w1) := hb1
  clear hb1
  go_wp2_with (go_at_call 7; fail)
  refine (reffront_any n _ l _ (HV.out.below HB1.out) HC.out).mono ?_
  rintro e w2 ⟨vx, rfl, hx, hb2⟩
  have HB2 : Hid (Below w.heap.size w w2) := HB1.out.trans (hb2.mono HB1.out.size)
  have HX2 : Hid (IsInts w2 vx (wayRow (fun _ => 0) (Un n) l l.length)) := hx.isInts
  clear hx hb2 HB1
  generalize wayCost (fun _ => 0) (Un n) l l.length = a at *
  generalize wayRow (fun _ => 0) (Un n) l l.length = A at *
  go_wp2_with (go_at_call 7; fail)
  refine (refswap_any n _ l _ (HV.out.below HB2.out) HC.out).mono ?_
  rintro e w3 ⟨vy, rfl, hy, hb3⟩
  have HB3 : Hid (Below w.heap.size w w3) := HB2.out.trans (hb3.mono HB2.out.size)
  have HY3 : Hid (IsInts w3 vy (wayRow (fun a => a - 1) (Un n) l l.length)) := hy.isInts
  have HX3 : Hid (IsInts w3 vx A) := HX2.out.below hb3
  clear hy hb3 HB2 HX2
  generalize wayCost (fun a => a - 1) (Un n) l l.length = b at *
  generalize wayRow (fun a => a - 1) (Un n) l l.length = B at *
  go_wp2_with (go_at_call 8; fail)
  refine (rleastl_any n _ l _ (HV.out.below HB3.out) HC.out).mono ?_
  rintro e w4 ⟨x, rfl, hx, hb4⟩
  have HB4 : Hid (Below w.heap.size w w4) := HB3.out.trans (hb4.mono HB3.out.size)
  have HLE : Hid (LeastLook (Un n) l x) := hx
  have HX4 : Hid (IsInts w4 vx A) := HX3.out.below hb4
  have HY4 : Hid (IsInts w4 vy B) := HY3.out.below hb4
  clear hx hb4 HB3 HX3 HY3
  go_wp2_with (go_at_call 9; fail)
  refine (front_any n _ l _ (HV.out.below HB4.out)).mono ?_
  rintro e w5 ⟨vp, rfl, hp, hb5⟩
  rw [HC.out, HN1.out]
  rw [HL1.out] at hp
  have HB5 : Hid (Below w.heap.size w w5) := HB4.out.trans (hb5.mono HB4.out.size)
  have HX5 : Hid (IsInts w5 vx A) := HX4.out.below hb5
  have HY5 : Hid (IsInts w5 vy B) := HY4.out.below hb5
  have HP5 : Hid (IsInts w5 vp A) := hp.isInts
  clear hp hb5 HB4 HX4 HY4
  have haa : ((a : Int) == (a : Int)) = true := by simp
  have hbb : ((b : Int) == (b : Int)) = true := by simp
  go_wp2_with (go_at_call 5; fail)
  refine (error_same 0 _ (HG.out.below HB5.out)).mono ?_
  rintro e w6 ⟨rfl, hb6⟩
  have HB6 : Hid (Below w.heap.size w w6) := HB5.out.trans (hb6.mono HB5.out.size)
  have HX6 : Hid (IsInts w6 vx (A)) := HX5.out.below hb6
  have HY6 : Hid (IsInts w6 vy (B)) := HY5.out.below hb6
  have HP6 : Hid (IsInts w6 vp (A)) := HP5.out.below hb6
  clear hb6 HB5 HX5 HY5 HP5
  go_wp2_with (go_at_call 10; fail)
  refine (ints_same _ _ A _ HP6.out HX6.out).mono ?_
  rintro e w7 ⟨rfl, q, hw7⟩
  have hb7 : Below w6.heap.size w6 w7 := by rw [hw7]; exact below_drewN (Below.refl _ _) q
  have HB7 : Hid (Below w.heap.size w w7) := HB6.out.trans (hb7.mono HB6.out.size)
  have HY7 : Hid (IsInts w7 vy B) := HY6.out.below hb7
  clear hw7 hb7 HB6 HX6 HY6 HP6
  go_wp2_with (go_at_call 11; fail)
  refine (swap_any n _ l _ (HV.out.below HB7.out)).mono ?_
  rintro e w8 ⟨vq, rfl, hq, hb8⟩
  rw [HC.out, HN2.out]
  rw [HL2.out] at hq
  have HB8 : Hid (Below w.heap.size w w8) := HB7.out.trans (hb8.mono HB7.out.size)
  have HY8 : Hid (IsInts w8 vy B) := HY7.out.below hb8
  have HQ8 : Hid (IsInts w8 vq B) := hq.isInts
  clear hq hb8 HB7 HY7
  go_wp2_with (go_at_call 5; fail)
  refine (error_same 0 _ (HG.out.below HB8.out)).mono ?_
  rintro e w9 ⟨rfl, hb9⟩
  have HB9 : Hid (Below w.heap.size w w9) := HB8.out.trans (hb9.mono HB8.out.size)
  have HY9 : Hid (IsInts w9 vy (B)) := HY8.out.below hb9
  have HQ9 : Hid (IsInts w9 vq (B)) := HQ8.out.below hb9
  clear hb9 HB8 HY8 HQ8
  go_wp2_with (go_at_call 10; fail)
  refine (ints_same _ _ B _ HQ9.out HY9.out).mono ?_
  rintro e w10 ⟨rfl, q2, hw10⟩
  have HB10 : Hid (Below w.heap.size w w10) := by rw [hw10]; exact below_drewN HB9.out q2
  clear hw10 HB9 HY9 HQ9
  go_wp2_with (go_at_call 12; fail)
  refine (oleast_any n _ l _ (HV.out.below HB10.out)).mono ?_
  rintro e w11 ⟨y, rfl, hy, hb11⟩
  have hxy : y = x := by have := hy.ok HC.out; rw [Int.toNat_natCast] at this; exact leastLook_unique this HLE.out
  subst hxy
  rw [HC.out]
  have HB11 : Hid (Below w.heap.size w w11) := HB10.out.trans (hb11.mono HB10.out.size)
  clear hy hb11 HB10 HLE
  go_wp2_with (go_at_call 5; fail)
  refine (error_same 0 _ (HG.out.below HB11.out)).mono ?_
  rintro e w12 ⟨rfl, hb12⟩
  have HB12 : Hid (Below w.heap.size w w12) := HB11.out.trans (hb12.mono HB11.out.size)
  clear hb12 HB11 
  have hyy : ((y : Int) == (y : Int)) = true := by simp
  go_wp2
  go_ret
  exact ⟨rfl, HB12.out⟩

set_option maxRecDepth 100000 in
set_option maxHeartbeats 2000000 in
theorem listSays_err (n : Int) (v : Value) (l : List Int) (w : World) (hv : IsInts w v l) (hg : Handle w) (k : Nat) (hk0 : k ≠ 0) (hc : chkL n l = k) :
    Calls Tryd.prog 3 #[.int .i64 n, v] w fun e w' => e = .returned (.bool true) ∧ Below w.heap.size w w' := by
  have HV : Hid (IsInts w v l) := hv
  have HG : Hid (Handle w) := hg
  have HC : Hid (chkL n l = k) := hc
  have hne : chkL n l ≠ 0 := by rw [hc]; exact hk0
  have HNE : Hid (chkL n l ≠ 0) := hne
  have HN1 : Hid (lookN (fun _ => 0) n l = 0) := lookN_bad hne
  have HN2 : Hid (lookN (fun a => a - 1) n l = 0) := lookN_bad hne
  have HL1 : Hid (lookL (fun _ => 0) n l = []) := lookL_bad hne
  have HL2 : Hid (lookL (fun a => a - 1) n l = []) := lookL_bad hne
  have hcz : ((k : Int) == 0) = false := by rw [beq_eq_false_iff_ne]; omega
  obtain ⟨ao, cap, rfl, _⟩ := hv.opened
  clear hv hg hc hne
  go_enter Tryd.func3, Tryd.ntmps3
  go_wp2_with (first | (go_at_call 4; go_must (refine (rthings_any _ _ l _ HV.out).mono ?_; rintro e w' ⟨rfl, hw⟩; have hw := hw.symm; subst hw; rw [HC.out])) | (go_at_call 6; go_must (refine (ocheck_any _ _ l _ HV.out).mono ?_; rintro e w' ⟨rfl, hw⟩; have hw := hw.symm; subst hw; rw [HC.out])) | (go_at_call 5; fail))
  refine (error_same k _ HG.out).mono ?_
  rintro e w4 ⟨rfl, hb4⟩
  have HB4 : Hid (Below w.heap.size w w4) := hb4
  clear hb4
  go_wp2_with (go_at_call 9; fail)
  refine (front_any n _ l _ (HV.out.below HB4.out)).mono ?_
  rintro e w5 ⟨vp, rfl, hp, hb5⟩
  rw [HC.out, HN1.out]
  rw [HL1.out] at hp
  have HB5 : Hid (Below w.heap.size w w5) := HB4.out.trans (hb5.mono HB4.out.size)
  have HP5 : Hid (IsInts w5 vp []) := hp.isInts
  clear hp hb5 HB4
  go_wp2_with (go_at_call 5; fail)
  refine (error_same k _ (HG.out.below HB5.out)).mono ?_
  rintro e w6 ⟨rfl, hb6⟩
  have HB6 : Hid (Below w.heap.size w w6) := HB5.out.trans (hb6.mono HB5.out.size)
  have HP6 : Hid (IsInts w6 vp ([])) := HP5.out.below hb6
  clear hb6 HB5 HP5
  go_wp2_with (go_at_call 10; fail)
  refine (ints_same _ _ [] _ HP6.out (isInts_nil _)).mono ?_
  rintro e w7 ⟨rfl, q, hw7⟩
  have HB7 : Hid (Below w.heap.size w w7) := by rw [hw7]; exact below_drewN HB6.out q
  clear hw7 HB6 HP6
  go_wp2_with (go_at_call 11; fail)
  refine (swap_any n _ l _ (HV.out.below HB7.out)).mono ?_
  rintro e w8 ⟨vq, rfl, hq, hb8⟩
  rw [HC.out, HN2.out]
  rw [HL2.out] at hq
  have HB8 : Hid (Below w.heap.size w w8) := HB7.out.trans (hb8.mono HB7.out.size)
  have HQ8 : Hid (IsInts w8 vq []) := hq.isInts
  clear hq hb8 HB7
  go_wp2_with (go_at_call 5; fail)
  refine (error_same k _ (HG.out.below HB8.out)).mono ?_
  rintro e w9 ⟨rfl, hb9⟩
  have HB9 : Hid (Below w.heap.size w w9) := HB8.out.trans (hb9.mono HB8.out.size)
  have HQ9 : Hid (IsInts w9 vq ([])) := HQ8.out.below hb9
  clear hb9 HB8 HQ8
  go_wp2_with (go_at_call 10; fail)
  refine (ints_same _ _ [] _ HQ9.out (isInts_nil _)).mono ?_
  rintro e w10 ⟨rfl, q2, hw10⟩
  have HB10 : Hid (Below w.heap.size w w10) := by rw [hw10]; exact below_drewN HB9.out q2
  clear hw10 HB9 HQ9
  go_wp2_with (go_at_call 12; fail)
  refine (oleast_any n _ l _ (HV.out.below HB10.out)).mono ?_
  rintro e w11 ⟨y, rfl, hy, hb11⟩
  have hy0 : y = 0 := hy.err HNE.out
  subst hy0
  rw [HC.out]
  have HB11 : Hid (Below w.heap.size w w11) := HB10.out.trans (hb11.mono HB10.out.size)
  clear hy hb11 HB10
  go_wp2_with (go_at_call 5; fail)
  refine (error_same k _ (HG.out.below HB11.out)).mono ?_
  rintro e w12 ⟨rfl, hb12⟩
  have HB12 : Hid (Below w.heap.size w w12) := HB11.out.trans (hb12.mono HB11.out.size)
  clear hb12 HB11 
  go_wp2
  go_ret
  exact ⟨rfl, HB12.out⟩
theorem listSays_any (n : Int) (v : Value) (l : List Int) (w : World) (hv : IsInts w v l) (_ : ∃ ao cap, v = .slice ao l.length cap) (hg : Handle w) :
    Calls Tryd.prog 3 #[.int .i64 n, v] w fun e w' => e = .returned (.bool true) ∧ Below w.heap.size w w' := by
  by_cases hc : chkL n l = 0
  · obtain ⟨m, rfl⟩ : ∃ m : Nat, n = m := ⟨n.toNat, by have := (chkL_zero hc).low; omega⟩
    exact listSays_ok m v l w hv hg hc
  · exact listSays_err n v l w hv hg _ hc rfl
end Go.Proofs.YtjafedijbainbaaDoor
