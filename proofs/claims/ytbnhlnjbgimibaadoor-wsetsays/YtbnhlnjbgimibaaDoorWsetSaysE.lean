/- The walk of WsetSays where something is wrong with the requests or the window. -/
import Derived.Test.YtbnhlnjbgimibaaDoorWset
import Derived.Test.YtbnhlnjbgimibaaDoorLawIn2
import Derived.Test.YtbnhlnjbgimibaaDoorInts
import Derived.Test.YtbnhlnjbgimibaaDoorTold
import Derived.Test.YtbnhlnjbgimibaaDoorLawkit
import Derived.Test.YtbnhlnjbgimibaaDoorRef1
namespace Go.Proofs.YtbnhlnjbgimibaaDoor
open Go.RowKit Go.Sort

theorem isInts_nil (w : World) : IsInts w (.slice none 0 0) [] := .inl ⟨rfl, none, 0, rfl, by simp⟩
theorem within_in {n : Int} (h1 : 1 ≤ n) (h2 : n ≤ 40) : within n 1 40 = true := by simp [within, h1, h2]
theorem within_out {n : Int} (h : n < 1 ∨ 40 < n) : within n 1 40 = false := by
  unfold within
  rcases h with h | h
  · rw [decide_eq_false (by omega : ¬ 1 ≤ n)]; rfl
  · rw [decide_eq_false (by omega : ¬ n ≤ 40)]; simp

set_option maxRecDepth 100000 in
set_option maxHeartbeats 1000000 in
theorem says_err (v : Value) (l : List Int) (win : Int) (w : World) (hv : IsInts w v l) (hform : ∃ ao cap, v = .slice ao l.length cap) (hg : Handle w) (hc : wchk l win ≠ 0) :
    Calls Tryd.prog 3 #[v, .int .i64 win] w fun e w' => e = .returned (.bool true) ∧ Below w.heap.size w w' := by
  have HV : Hid (IsInts w v l) := hv
  have HF : Hid (∃ ao cap, v = .slice ao l.length cap) := hform
  have HG : Hid (Handle w) := hg
  obtain ⟨ao, cap, rfl⟩ := hform
  clear hv hg
  obtain ⟨i0, hi, hz0, hz1, hz2⟩ := info_parts Tryd.info3
  have HI : Hid (Tryd.prog.info? 3 = some i0 ∧ i0.zero = some (.int .i64 0) ∧ i0.size = 1 ∧ i0.bytes = 8) := ⟨hi, hz0, hz1, hz2⟩
  clear hi hz0 hz1 hz2
  have HE : Hid (wchk l win ≠ 0) := hc
  have HN : Hid (wsN l win = 0) := wsN_bad hc
  have HX : Hid (wsS l win = 0) := wsS_bad hc
  have HL : Hid (wsL l win = []) := wsL_bad hc
  have key : (chk l 1 = 0 ∧ within win 1 40 = false ∧ wchk l win = 1) ∨ (chk l 1 = wchk l win) := by
    rw [chk_one_eight]
    by_cases h8 : chk l 8 = 0
    · have ho : win < 1 ∨ 40 < win := by
        rcases (by omega : (win < 1 ∨ 40 < win) ∨ (1 ≤ win ∧ win ≤ 40)) with h | ⟨h, h'⟩
        · exact h
        · exact absurd (wchk_in h8 h h') hc
      exact .inl ⟨h8, within_out ho, wchk_out h8 ho⟩
    · exact .inr (wchk_bad h8).symm
  clear hc
  rcases key with ⟨hk1, hk2, hk3⟩ | hk1
  · have HC1 : Hid (chk l 1 = 0) := hk1
    have HIN : Hid (within win 1 40 = false) := hk2
    have HC : Hid (wchk l win = 1) := hk3
    clear hk1 hk2 hk3
    go_enter Tryd.func3, Tryd.ntmps3
    go_wp2_with (first | (go_at_call 4; go_must (refine (pages_any _ l 1 _ HV.out HF.out).mono ?_; rintro e w' ⟨rfl, hw⟩; have hw := hw.symm; subst hw; rw [HC1.out])) | (go_at_call 5; go_must (refine (within_any win 1 40 _).mono ?_; rintro e w' ⟨rfl, hw⟩; have hw := hw.symm; subst hw; rw [HIN.out])) | (go_at_call 7; go_must (refine (wcheck_any _ l win _ HV.out).mono ?_; rintro e w' ⟨rfl, hw⟩; have hw := hw.symm; subst hw; rw [HC.out])) | (go_at_call 6; fail))
    refine (error_same 1 _ HG.out).mono ?_
    rintro e w1 ⟨rfl, hb1⟩
    have HB1 : Hid (Below w.heap.size w w1) := hb1
    clear hb1
    go_wp2
    go_loop [7, 8, 9, 10] (fun vo a b i => vo = .slice none 0 0 ∧ a = .int .i64 0 ∧ b = .int .i64 0 ∧ i = .int .i64 0) (fun _ _ _ _ => 0)
    case atStart => exact ⟨rfl, rfl, rfl, rfl⟩
    case round =>
      obtain ⟨rfl, rfl, rfl, rfl⟩ := hrel
      by_cases hl0 : (0 : Int) < (l.length : Int)
      all_goals (
        go_wp2_with (go_at_call 11; fail)
        refine (sets_any _ l win _ (HV.out.below HB1.out)).mono ?_
        rintro e w3 ⟨vs, rfl, hS, hb3⟩
        rw [HC.out]
        rw [HL.out] at hS
        have HB3 : Hid (Below w.heap.size w w3) := HB1.out.trans (hb3.mono HB1.out.size)
        have HS3 : Hid (IsInts w3 vs []) := hS.isInts
        clear hS hb3
        go_wp2_with (go_at_call 6; fail)
        refine (error_same 1 _ (HG.out.below HB3.out)).mono ?_
        rintro e w4 ⟨rfl, hb4⟩
        have HB4 : Hid (Below w.heap.size w w4) := HB3.out.trans (hb4.mono HB3.out.size)
        have HS4 : Hid (IsInts w4 vs []) := HS3.out.below hb4
        clear hb4 HB3 HS3
        go_wp2_with (go_at_call 12; fail)
        refine (ints_same _ _ [] _ HS4.out (isInts_nil _)).mono ?_
        rintro e w5 ⟨rfl, q, hw5⟩
        have HB5 : Hid (Below w.heap.size w w5) := by rw [hw5]; exact below_drewN HB4.out q
        clear hw5 HB4 HS4
        go_wp2_with (go_at_call 13; fail)
        refine (miss_any _ l win _ (HV.out.below HB5.out)).mono ?_
        rintro e w6 ⟨rfl, hb6⟩
        rw [HC.out, HN.out, HX.out]
        have HB6 : Hid (Below w.heap.size w w6) := HB5.out.trans (hb6.mono HB5.out.size)
        clear hb6 HB5
        go_wp2_with (go_at_call 6; fail)
        refine (error_same 1 _ (HG.out.below HB6.out)).mono ?_
        rintro e w7 ⟨rfl, hb7⟩
        have HB7 : Hid (Below w.heap.size w w7) := HB6.out.trans (hb7.mono HB6.out.size)
        clear hb7 HB6
        go_wp2
        go_ret
        exact ⟨rfl, HB7.out⟩)
  · generalize hcn : wchk l win = c at *
    have HCN : Hid (wchk l win = c) := hcn
    have HC1 : Hid (chk l 1 = c) := hk1
    have hcz : ((c : Int) == 0) = false := by rw [beq_eq_false_iff_ne]; have := HE.out; omega
    clear hcn hk1
    go_enter Tryd.func3, Tryd.ntmps3
    go_wp2_with (first | (go_at_call 4; go_must (refine (pages_any _ l 1 _ HV.out HF.out).mono ?_; rintro e w' ⟨rfl, hw⟩; have hw := hw.symm; subst hw; rw [HC1.out])) | (go_at_call 7; go_must (refine (wcheck_any _ l win _ HV.out).mono ?_; rintro e w' ⟨rfl, hw⟩; have hw := hw.symm; subst hw; rw [HCN.out])) | (go_at_call 6; fail))
    refine (error_same c _ HG.out).mono ?_
    rintro e w1 ⟨rfl, hb1⟩
    have HB1 : Hid (Below w.heap.size w w1) := hb1
    clear hb1
    go_wp2
    go_loop [7, 8, 9, 10] (fun vo a b i => vo = .slice none 0 0 ∧ a = .int .i64 0 ∧ b = .int .i64 0 ∧ i = .int .i64 0) (fun _ _ _ _ => 0)
    case atStart => exact ⟨rfl, rfl, rfl, rfl⟩
    case round =>
      obtain ⟨rfl, rfl, rfl, rfl⟩ := hrel
      by_cases hl0 : (0 : Int) < (l.length : Int)
      all_goals (
        go_wp2_with (go_at_call 11; fail)
        refine (sets_any _ l win _ (HV.out.below HB1.out)).mono ?_
        rintro e w3 ⟨vs, rfl, hS, hb3⟩
        rw [HCN.out]
        rw [HL.out] at hS
        have HB3 : Hid (Below w.heap.size w w3) := HB1.out.trans (hb3.mono HB1.out.size)
        have HS3 : Hid (IsInts w3 vs []) := hS.isInts
        clear hS hb3
        go_wp2_with (go_at_call 6; fail)
        refine (error_same c _ (HG.out.below HB3.out)).mono ?_
        rintro e w4 ⟨rfl, hb4⟩
        have HB4 : Hid (Below w.heap.size w w4) := HB3.out.trans (hb4.mono HB3.out.size)
        have HS4 : Hid (IsInts w4 vs []) := HS3.out.below hb4
        clear hb4 HB3 HS3
        go_wp2_with (go_at_call 12; fail)
        refine (ints_same _ _ [] _ HS4.out (isInts_nil _)).mono ?_
        rintro e w5 ⟨rfl, q, hw5⟩
        have HB5 : Hid (Below w.heap.size w w5) := by rw [hw5]; exact below_drewN HB4.out q
        clear hw5 HB4 HS4
        go_wp2_with (go_at_call 13; fail)
        refine (miss_any _ l win _ (HV.out.below HB5.out)).mono ?_
        rintro e w6 ⟨rfl, hb6⟩
        rw [HCN.out, HN.out, HX.out]
        have HB6 : Hid (Below w.heap.size w w6) := HB5.out.trans (hb6.mono HB5.out.size)
        clear hb6 HB5
        go_wp2_with (go_at_call 6; fail)
        refine (error_same c _ (HG.out.below HB6.out)).mono ?_
        rintro e w7 ⟨rfl, hb7⟩
        have HB7 : Hid (Below w.heap.size w w7) := HB6.out.trans (hb7.mono HB6.out.size)
        clear hb7 HB6
        go_wp2
        go_ret
        exact ⟨rfl, HB7.out⟩)
end Go.Proofs.YtbnhlnjbgimibaaDoor
