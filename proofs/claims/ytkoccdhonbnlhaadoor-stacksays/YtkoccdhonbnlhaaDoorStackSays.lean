/- The walk of StackSays: for every list of requests, in whatever memory and on every schedule, it returns true and leaves its argument as it was: stack.Depths and stack.Curve answer as the document says. -/
import Derived.Test.YtkoccdhonbnlhaaDoorRefDepths
import Derived.Test.YtkoccdhonbnlhaaDoorCurve
import Derived.Test.YtkoccdhonbnlhaaDoorInts
import Derived.Test.YtkoccdhonbnlhaaDoorTold
import Derived.Test.YtkoccdhonbnlhaaDoorLawkit
namespace Go.Proofs.YtkoccdhonbnlhaaDoor
open Go.RowKit Go.Sort

theorem chk_one (l : List Int) : chk l 1 = chk l 8 := by unfold chk; simp
theorem isInts_nil (w : World) : IsInts w (.slice none 0 0) [] := .inl ⟨rfl, none, 0, rfl, by simp⟩

set_option maxHeartbeats 2000000 in
theorem says_any (v : Value) (l : List Int) (w : World) (hv : IsInts w v l) (hform : ∃ ao cap, v = .slice ao l.length cap) (hg : Handle w) :
    Calls Tryd.prog 3 #[v] w fun e w' => e = .returned (.bool true) ∧ Below w.heap.size w w' := by
  have HV : Hid (IsInts w v l) := hv
  have HF : Hid (∃ ao cap, v = .slice ao l.length cap) := hform
  have HG : Hid (Handle w) := hg
  clear hv hg hform
  obtain ⟨i0, hi, hz0, hz1, hz2⟩ := info_parts Tryd.info3
  have HI : Hid (Tryd.prog.info? 3 = some i0 ∧ i0.zero = some (.int .i64 0) ∧ i0.size = 1 ∧ i0.bytes = 8) := ⟨hi, hz0, hz1, hz2⟩
  clear hi hz0 hz1 hz2
  by_cases hc : chk l 8 = 0
  · obtain ⟨h40, _, _⟩ := chk_zero hc
    have HC : Hid (chk l 8 = 0) := hc
    have HC1 : Hid (chk l 1 = 0) := by unfold Hid; rw [chk_one]; exact hc
    have HSD : Hid (stkD l = depthsOf l l.length) := stkD_ok hc
    have HSC : Hid (stkC l = curveOf l 8) := stkC_ok hc
    clear hc
    go_enter Tryd.func3, Tryd.ntmps3
    go_wp2_with (first | (go_at_call 4; go_must (refine (pages_any _ l 1 _ HV.out HF.out).mono ?_; rintro e w' ⟨rfl, hw⟩; have hw := hw.symm; subst hw; rw [HC1.out])) | (go_at_call 5; fail))
    refine (refdepths_any _ l _ HV.out HF.out h40).mono ?_
    rintro e w2 ⟨vd, rfl, hO2, hb2⟩
    have HB2 : Hid (Below w.heap.size w w2) := hb2
    have HO2 : Hid (OwnI w2 w.heap.size vd (depthsOf l l.length)) := hO2
    obtain ⟨ad, dcp, rfl, hD⟩ := depth_cells hO2
    have HDC : Hid (0 < l.length → ∃ g, ad = some ⟨g, 0, none⟩ ∧ l.length ≤ dcp ∧ dcp ≤ maxLen ∧ ∀ j, j < l.length → w2.cell? ⟨g, j, none⟩ = some (.int .i64 (deep l j))) := hD
    clear hD hO2 hb2
    go_wp2
    go_loopw [5, 6, 7, 8] (fun vc i _ _ wr => ∃ k : Nat, k ≤ 8 ∧ i = .int .i64 ((k : Int) + 1) ∧ OwnI wr w2.heap.size vc (curveOf l k) ∧ Below w2.heap.size w2 wr) (fun _ i _ _ _ => 9 - (intOf i).toNat)
    case atStart => exact ⟨0, by omega, by go_num, OwnI.nil _ _, Below.refl _ _⟩
    case round =>
      obtain ⟨k, hk, rfl, hO, hbel⟩ := hrel
      by_cases hlt : k < 8
      · have hk8 : (k : Int) + 1 ≤ 8 := by omega
        obtain ⟨ac, ccp, hvc⟩ := hO.form
        rw [curveOf_length] at hvc
        subst hvc
        have HO : Hid (OwnI wr w2.heap.size (.slice ac k ccp) (curveOf l k)) := hO
        have HN : Hid ((curveOf l k).length = k) := curveOf_length l k
        have HS : Hid (curveOf l (k+1) = curveOf l k ++ [(deeper l (k+1) l.length : Int)]) := curveOf_succ l k
        clear hO
        go_wp2
        go_loop [7, 8] (fun n i => ∃ j : Nat, j ≤ l.length ∧ i = .int .i64 j ∧ n = .int .i64 (deeper l (k+1) j)) (fun _ i => l.length - (intOf i).toNat)
        case atStart => exact ⟨0, by omega, rfl, rfl⟩
        case round =>
          obtain ⟨j, hj, rfl, rfl⟩ := hrel
          have hdl := deeper_le l (k+1) j
          by_cases hjl : j < l.length
          · obtain ⟨g2, rfl, hd1, hd2, hdc⟩ := HDC.out (by omega)
            have hg2 : g2 < w2.heap.size := World.block_lt_of_cell? w2 _ (hdc j hjl)
            have hcj : wr.cell? ⟨g2, j, none⟩ = some (.int .i64 (deep l j)) := (hbel.cell (by exact hg2)).trans (hdc j hjl)
            unfold maxLen at hd2
            clear hdc
            by_cases hd : deep l j = 0
            · have HM : Hid (deeper l (k+1) (j+1) = deeper l (k+1) j + 1) := deeper_yes (.inl hd)
              rw [hd] at hcj
              have hcj : wr.cell? ⟨g2, j, none⟩ = some (.int .i64 0) := hcj
              clear hd
              generalize deeper l (k+1) j = n at *
              go_wp2
              go_round
              case rel => exact ⟨j + 1, by omega, by go_num, by rw [HM.out]; go_num⟩
              case measure => simp [intOf]; omega
            · have hd2 : ((deep l j : Int) == 0) = false := by rw [beq_eq_false_iff_ne]; omega
              by_cases hs : k + 1 < deep l j
              · have HM : Hid (deeper l (k+1) (j+1) = deeper l (k+1) j + 1) := deeper_yes (.inr hs)
                clear hd
                generalize deeper l (k+1) j = n at *
                generalize deep l j = d at *
                have hs2 : (k : Int) + 1 < (d : Int) := by omega
                go_wp2
                go_round
                case rel => exact ⟨j + 1, by omega, by go_num, by rw [HM.out]; go_num⟩
                case measure => simp [intOf]; omega
              · have HM : Hid (deeper l (k+1) (j+1) = deeper l (k+1) j) := deeper_no (by omega)
                clear hd
                generalize deeper l (k+1) j = n at *
                generalize deep l j = d at *
                have hs2 : ¬ ((k : Int) + 1 < (d : Int)) := by omega
                go_wp2
                go_round
                case rel => exact ⟨j + 1, by omega, by go_num, by rw [HM.out]⟩
                case measure => simp [intOf]; omega
          · have HE : Hid (deeper l (k+1) l.length = deeper l (k+1) j) := by unfold Hid; rw [show l.length = j by omega]
            generalize deeper l (k+1) j = n at *
            go_wp2_with (at_builtin; go_must (refine wpList_append_own _ rfl _ _ 22 rfl w2.heap.size 3 i0 (.int .i64 0) 1 8 Tryd.underlying22 HI.out.1 HI.out.2.1 HI.out.2.2.1 HI.out.2.2.2 rfl (by decide) _ k ((curveOf l k).map (Value.int .i64)) rfl (World.ownsRow.alloc (HO.out.rows HN.out rfl) _) ⟨wr.heap.size, 0, none⟩ 1 1 [.int .i64 (n : Int)] rfl rfl (by exact new_one _ _ _) (one_cell _) (by unfold maxLen; omega) (by omega) (by have := hbel.size; simp; omega) ?_; intro vc' w3 hown' hgrow _; have R := own_append2 HO.out HN.out hbel (Nat.le_refl _) hown' hgrow; have HR : Hid (OwnI w3 w2.heap.size vc' (curveOf l k ++ [(n : Int)])) := R.1; have HB3 : Hid (Below w2.heap.size w2 w3) := R.2; clear hown' hgrow R))
            go_roundw
            case rel => exact ⟨k + 1, by omega, by go_num, by rw [HS.out, HE.out]; exact HR.out, HB3.out⟩
            case measure => simp [intOf]; omega
      · have HO : Hid (OwnI wr w2.heap.size u5 (curveOf l 8)) := by rw [show k = 8 by omega] at hO; exact hO
        have hk8 : ¬ ((k : Int) + 1 ≤ 8) := by omega
        have HB3 : Hid (Below w.heap.size w wr) := HB2.out.trans (hbel.mono HB2.out.size)
        have HW3 : Hid (IsInts wr (.slice ad l.length dcp) (depthsOf l l.length)) := HO2.out.isInts.below hbel
        clear hO hbel
        go_wp2_with (go_at_call 6; fail)
        refine (depths_any _ l _ (HV.out.below HB3.out)).mono ?_
        rintro e w4 ⟨vd4, rfl, hO4, hb4⟩
        rw [HC.out]
        rw [HSD.out] at hO4
        have HB4 : Hid (Below w.heap.size w w4) := HB3.out.trans (hb4.mono HB3.out.size)
        have HW4 : Hid (IsInts w4 (.slice ad l.length dcp) (depthsOf l l.length)) := HW3.out.below hb4
        have HC4 : Hid (IsInts w4 u5 (curveOf l 8)) := HO.out.isInts.below hb4
        have HD4 : Hid (IsInts w4 vd4 (depthsOf l l.length)) := hO4.isInts
        clear hO4 hb4 HW3 HO
        go_wp2_with (go_at_call 7; fail)
        refine (error_same 0 _ (HG.out.below HB4.out)).mono ?_
        rintro e w5 ⟨rfl, hb5⟩
        have HB5 : Hid (Below w.heap.size w w5) := HB4.out.trans (hb5.mono HB4.out.size)
        have HW5 : Hid (IsInts w5 (.slice ad l.length dcp) (depthsOf l l.length)) := HW4.out.below hb5
        have HC5 : Hid (IsInts w5 u5 (curveOf l 8)) := HC4.out.below hb5
        have HD5 : Hid (IsInts w5 vd4 (depthsOf l l.length)) := HD4.out.below hb5
        clear hb5
        go_wp2_with (go_at_call 8; fail)
        refine (ints_same _ _ (depthsOf l l.length) _ HD5.out HW5.out).mono ?_
        rintro e w6 ⟨rfl, q, hw6⟩
        have HB6 : Hid (Below w.heap.size w w6) := by rw [hw6]; exact below_drewN HB5.out q
        have HC6 : Hid (IsInts w6 u5 (curveOf l 8)) := by rw [hw6]; exact HC5.out.drewN q
        clear hw6
        go_wp2_with (go_at_call 9; fail)
        refine (curve_any _ l _ (HV.out.below HB6.out)).mono ?_
        rintro e w7 ⟨vc7, rfl, hO7, hb7⟩
        rw [HC.out]
        rw [HSC.out] at hO7
        have HB7 : Hid (Below w.heap.size w w7) := HB6.out.trans (hb7.mono HB6.out.size)
        have HC7 : Hid (IsInts w7 u5 (curveOf l 8)) := HC6.out.below hb7
        have HO7 : Hid (IsInts w7 vc7 (curveOf l 8)) := hO7.isInts
        clear hO7 hb7
        go_wp2_with (go_at_call 7; fail)
        refine (error_same 0 _ (HG.out.below HB7.out)).mono ?_
        rintro e w8 ⟨rfl, hb8⟩
        have HB8 : Hid (Below w.heap.size w w8) := HB7.out.trans (hb8.mono HB7.out.size)
        have HC8 : Hid (IsInts w8 u5 (curveOf l 8)) := HC7.out.below hb8
        have HO8 : Hid (IsInts w8 vc7 (curveOf l 8)) := HO7.out.below hb8
        clear hb8
        go_wp2_with (go_at_call 8; fail)
        refine (ints_same _ _ (curveOf l 8) _ HO8.out HC8.out).mono ?_
        rintro e w9 ⟨rfl, q9, hw9⟩
        have HB9 : Hid (Below w.heap.size w w9) := by rw [hw9]; exact below_drewN HB8.out q9
        clear hw9
        go_wp2
        go_ret
        exact ⟨rfl, HB9.out⟩
  · have HC : Hid (chk l 8 ≠ 0) := hc
    have HSD : Hid (stkD l = []) := stkD_bad hc
    have HSC : Hid (stkC l = []) := stkC_bad hc
    have HCE : Hid (chk l 1 = chk l 8) := chk_one l
    clear hc
    generalize hcn : chk l 8 = c at *
    have HCN : Hid (chk l 8 = c) := hcn
    clear hcn
    have hcz : ((c : Int) == 0) = false := by rw [beq_eq_false_iff_ne]; have := HC.out; omega
    go_enter Tryd.func3, Tryd.ntmps3
    go_wp2_with (first | (go_at_call 4; go_must (refine (pages_any _ l 1 _ HV.out HF.out).mono ?_; rintro e w' ⟨rfl, hw⟩; have hw := hw.symm; subst hw; rw [HCE.out])) | (go_at_call 6; fail))
    refine (depths_any _ l _ HV.out).mono ?_
    rintro e w4 ⟨vd4, rfl, hO4, hb4⟩
    rw [HCN.out]
    rw [HSD.out] at hO4
    have HB4 : Hid (Below w.heap.size w w4) := hb4
    have HD4 : Hid (IsInts w4 vd4 []) := hO4.isInts
    clear hO4 hb4
    go_wp2_with (go_at_call 7; fail)
    refine (error_same c _ (HG.out.below HB4.out)).mono ?_
    rintro e w5 ⟨rfl, hb5⟩
    have HB5 : Hid (Below w.heap.size w w5) := HB4.out.trans (hb5.mono HB4.out.size)
    have HD5 : Hid (IsInts w5 vd4 []) := HD4.out.below hb5
    clear hb5
    go_wp2_with (go_at_call 8; fail)
    refine (ints_same _ _ [] _ HD5.out (isInts_nil _)).mono ?_
    rintro e w6 ⟨rfl, q, hw6⟩
    have HB6 : Hid (Below w.heap.size w w6) := by rw [hw6]; exact below_drewN HB5.out q
    clear hw6
    go_wp2_with (go_at_call 9; fail)
    refine (curve_any _ l _ (HV.out.below HB6.out)).mono ?_
    rintro e w7 ⟨vc7, rfl, hO7, hb7⟩
    rw [HCN.out]
    rw [HSC.out] at hO7
    have HB7 : Hid (Below w.heap.size w w7) := HB6.out.trans (hb7.mono HB6.out.size)
    have HO7 : Hid (IsInts w7 vc7 []) := hO7.isInts
    clear hO7 hb7
    go_wp2_with (go_at_call 7; fail)
    refine (error_same c _ (HG.out.below HB7.out)).mono ?_
    rintro e w8 ⟨rfl, hb8⟩
    have HB8 : Hid (Below w.heap.size w w8) := HB7.out.trans (hb8.mono HB7.out.size)
    have HO8 : Hid (IsInts w8 vc7 []) := HO7.out.below hb8
    clear hb8
    go_wp2_with (go_at_call 8; fail)
    refine (ints_same _ _ [] _ HO8.out (isInts_nil _)).mono ?_
    rintro e w9 ⟨rfl, q9, hw9⟩
    have HB9 : Hid (Below w.heap.size w w9) := by rw [hw9]; exact below_drewN HB8.out q9
    clear hw9
    go_wp2
    go_ret
    exact ⟨rfl, HB9.out⟩
end Go.Proofs.YtkoccdhonbnlhaaDoor
