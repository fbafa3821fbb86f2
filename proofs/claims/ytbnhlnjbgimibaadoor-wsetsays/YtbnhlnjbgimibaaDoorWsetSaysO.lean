/- The walk of WsetSays where nothing is wrong with the requests and the window. -/
import Derived.Test.YtbnhlnjbgimibaaDoorRefLast
import Derived.Test.YtbnhlnjbgimibaaDoorRefSet
import Derived.Test.YtbnhlnjbgimibaaDoorWset
import Derived.Test.YtbnhlnjbgimibaaDoorLawIn2
import Derived.Test.YtbnhlnjbgimibaaDoorInts
import Derived.Test.YtbnhlnjbgimibaaDoorTold
import Derived.Test.YtbnhlnjbgimibaaDoorLawkit
import Derived.Deep.RegionHeld3
import Derived.Test.YtbnhlnjbgimibaaDoorWsetSaysE
namespace Go.Proofs.YtbnhlnjbgimibaaDoor
open Go.RowKit Go.Sort

theorem since_drew {w0 W : World} {B : Nat} (h : Hid (Below B w0 W)) : Hid (Below B w0 W.drew) := below_drewN h.out 1
theorem cell_since {w0 W : World} {b j : Nat} {p : Int} (hb : b < w0.heap.size) (h0 : w0.cell? ⟨b, j, none⟩ = some (.int .i64 p)) (h : Hid (Below w0.heap.size w0 W)) : W.cell? ⟨b, j, none⟩ = some (.int .i64 p) :=
  (h.out.cell (p := ⟨b, j, none⟩) hb).trans h0
theorem reflast_from {v : Value} {l : List Int} {k n : Nat} {w0 W : World} (hv : IsInts w0 v l) (hk : k ≤ l.length) (hl40 : l.length ≤ 40) (hn1 : 1 ≤ n) (hn40 : n ≤ 40) (hb : Hid (Below w0.heap.size w0 W)) :
    Calls Tryd.prog 8 #[v, .int .i64 k, .int .i64 n] W fun e w' => ∃ vs, e = .returned vs ∧ Hid (IsInts w' vs (wset n l k)) ∧ Hid (Below w0.heap.size w0 w') := by
  refine (reflast_any v l k n W (hv.below hb.out) hk hl40 hn1 hn40).mono ?_
  rintro e w' ⟨vs, rfl, hO, hb2⟩
  exact ⟨vs, rfl, hO.isInts, hb.out.trans (hb2.mono hb.out.size)⟩
theorem has_in {v : Value} {l : List Int} {x : Int} {r : Bool} {w0 : World} (hv : IsInts w0 v l) (hr : l.contains x = r) (w : World) (hh : w.heap = w0.heap) :
    Calls Tryd.prog 10 #[v, .int .i64 x] w fun e w' => e = .returned (.bool r) ∧ w' = w := by
  subst hr; exact has_any v l x w (hv.heap hh)

set_option maxRecDepth 100000 in
set_option maxHeartbeats 1000000 in
theorem says_ok (v : Value) (l : List Int) (win : Int) (w : World) (hv : IsInts w v l) (hform : ∃ ao cap, v = .slice ao l.length cap) (hg : Handle w) (hc : wchk l win = 0) :
    Calls Tryd.prog 3 #[v, .int .i64 win] w fun e w' => e = .returned (.bool true) ∧ Below w.heap.size w w' := by
  have HV : Hid (IsInts w v l) := hv
  have HF : Hid (∃ ao cap, v = .slice ao l.length cap) := hform
  have HG : Hid (Handle w) := hg
  obtain ⟨ao, cap, rfl⟩ := hform
  clear hv hg
  obtain ⟨i0, hi, hz0, hz1, hz2⟩ := info_parts Tryd.info3
  have HI : Hid (Tryd.prog.info? 3 = some i0 ∧ i0.zero = some (.int .i64 0) ∧ i0.size = 1 ∧ i0.bytes = 8) := ⟨hi, hz0, hz1, hz2⟩
  clear hi hz0 hz1 hz2
  obtain ⟨hc8, h1, h40⟩ := wchk_zero hc
  obtain ⟨hl40, _, _⟩ := chk_zero hc8
  obtain ⟨n, rfl⟩ : ∃ n : Nat, win = n := ⟨win.toNat, by omega⟩
  have HA : Hid (allIn l) := chk_allIn hc8
  have HC1 : Hid (chk l 1 = 0) := by unfold Hid; rw [chk_one_eight]; exact hc8
  have HC : Hid (wchk l n = 0) := hc
  have HIN : Hid (within n 1 40 = true) := within_in h1 h40
  have HN : Hid (wsN l n = mc (whit n l) l.length) := by have := wsN_ok hc; rwa [Int.toNat_natCast] at this
  have HX : Hid (wsS l n = wsum n l l.length) := by have := wsS_ok hc; rwa [Int.toNat_natCast] at this
  have HL : Hid (wsL l n = setsOf n l l.length) := by have := wsL_ok hc; rwa [Int.toNat_natCast] at this
  clear hc hc8
  go_enter Tryd.func3, Tryd.ntmps3
  go_wp2_with (first | (go_at_call 4; go_must (refine (pages_any _ l 1 _ HV.out HF.out).mono ?_; rintro e w' ⟨rfl, hw⟩; have hw := hw.symm; subst hw; rw [HC1.out])) | (go_at_call 5; go_must (refine (within_any n 1 40 _).mono ?_; rintro e w' ⟨rfl, hw⟩; have hw := hw.symm; subst hw; rw [HIN.out])) | (go_at_call 7; go_must (refine (wcheck_any _ l n _ HV.out).mono ?_; rintro e w' ⟨rfl, hw⟩; have hw := hw.symm; subst hw; rw [HC.out])) | (go_at_call 6; fail))
  refine (error_same 0 _ HG.out).mono ?_
  rintro e w1 ⟨rfl, hb1⟩
  have HB1 : Hid (Below w.heap.size w w1) := hb1
  clear hb1
  have HV1 : Hid (IsInts w1 (.slice ao l.length cap) l) := HV.out.below HB1.out
  go_wp2
  go_loopw [7, 8, 9, 10, 11] (fun vo a b i _ wr => ∃ k : Nat, k ≤ l.length ∧ i = .int .i64 k ∧ a = .int .i64 (mc (whit n l) k) ∧ b = .int .i64 (wsum n l k) ∧ OwnI wr w1.heap.size vo (setsOf n l k) ∧ Below w1.heap.size w1 wr) (fun _ _ _ i _ _ => l.length - (intOf i).toNat)
  case atStart => exact ⟨0, by omega, rfl, rfl, rfl, OwnI.nil _ _, Below.refl _ _⟩
  case round =>
    obtain ⟨k, hk, rfl, rfl, rfl, hO, hbel⟩ := hrel
    have hmc : mc (whit n l) k ≤ 40 := by have := mc_most (whit n l) k; omega
    have hws : wsum n l k ≤ 1600 := by
      have h1 := wsum_le (w := n) (l := l) k hk
      have h2 : k * n ≤ 40 * 40 := Nat.mul_le_mul (by omega) (by omega)
      omega
    by_cases hlt : k < l.length
    · have hlen : (wset n l (k+1)).length ≤ 40 := by have := wset_le (w := n) (l := l) (k := k+1) (by omega); omega
      have HWS : Hid (wsum n l (k+1) = wsum n l k + (wset n l (k+1)).length) := rfl
      have HAW : Hid (allIn (wset n l (k+1))) := wset_allIn HA.out (k+1)
      have HS : Hid (setsOf n l (k+1) = setsOf n l k ++ [(setN (wset n l (k+1)) : Int)]) := setsOf_succ n l k
      have HNO : Hid ((setsOf n l k).length = k) := setsOf_length n l k
      have hm16 : setN (wset n l (k+1)) < 65536 := setN_lt HA.out (k+1)
      obtain ⟨av, vcp, hvo⟩ := hO.form
      rw [setsOf_length] at hvo
      subst hvo
      have hv2 := HV1.out
      rcases hv2 with ⟨h0, _⟩ | ⟨b, off, cap2, hv3, hpos, hlc, hcap, hc⟩
      · subst h0; simp at hlt
      simp only [Value.slice.injEq, true_and] at hv3
      obtain ⟨rfl, rfl⟩ := hv3
      unfold maxLen at hcap
      have hbB : b < w1.heap.size := World.block_lt_of_cell? w1 _ (hc 0 hpos)
      have HC1 : Hid (w1.cell? ⟨b, off + k, none⟩ = some (.int .i64 (l[k]?.getD 0))) := hc k hlt
      clear hc
      go_wp2_with (go_at_call 8; fail)
      refine (reflast_any _ l (k+1) n _ (HV1.out.below hbel) (by omega) hl40 (by omega) (by omega)).mono ?_
      rintro e w2 ⟨vs, rfl, hS, hb2⟩
      obtain ⟨asp, scp, hvs⟩ := hS.form
      subst hvs
      have HSI : Hid (IsInts w2 (.slice asp (wset n l (k+1)).length scp) (wset n l (k+1))) := hS.isInts
      have HB2 : Hid (Below w1.heap.size w1 w2) := hbel.trans (hb2.mono hbel.size)
      have HO2 : Hid (OwnI w2 w1.heap.size (.slice av k vcp) (setsOf n l k)) := hO.later hb2
      clear hS hb2 hO hbel
      generalize hm : setN (wset n l (k+1)) = m at *
      have HM : Hid (setN (wset n l (k+1)) = m) := hm
      clear hm
      generalize wsum n l k = ws at *
      generalize hd : (wset n l (k+1)).length = d at *
      have HD : Hid ((wset n l (k+1)).length = d) := hd
      clear hd
      cases hw : whit n l k
      · have HMC : Hid (mc (whit n l) (k+1) = mc (whit n l) k + 1) := by unfold Hid; rw [mc, hw]; rfl
        have HH : Hid ((wset n l k).contains (l[k]?.getD 0) = false) := hw
        generalize mc (whit n l) k = mk at *
        generalize l[k]?.getD 0 = p at *
        clear hw
        go_wp2_with (first | (go_at_call 9; go_must (refine (refset_any _ (wset n l (k+1)) _ HSI.out HAW.out (by rw [HD.out]; omega)).mono ?_; rintro e w' ⟨rfl, hw⟩; have hw := hw.symm; subst hw; rw [HM.out])) | (at_builtin; go_must (refine wpList_append_own _ rfl _ _ 22 rfl w1.heap.size 3 i0 (.int .i64 0) 1 8 Tryd.underlying22 HI.out.1 HI.out.2.1 HI.out.2.2.1 HI.out.2.2.2 rfl (by decide) _ k ((setsOf n l k).map (Value.int .i64)) rfl (World.ownsRow.alloc (HO2.out.rows HNO.out rfl) _) ⟨w2.heap.size, 0, none⟩ 1 1 [.int .i64 (m : Int)] rfl rfl (by exact new_one _ _ _) (one_cell _) (by unfold maxLen; omega) (by omega) (by have := HB2.out.size; simp; omega) ?_; intro vo' w3 hown' hgrow _; have HOW := own_append2 HO2.out HNO.out HB2.out (Nat.le_refl _) hown' hgrow; have HR1 : Hid (OwnI w3 w1.heap.size vo' (setsOf n l k ++ [(m : Int)])) := HOW.1; have HR2 : Hid (Below w1.heap.size w1 w3) := HOW.2; clear hown' hgrow HOW)))
        have HV3 : Hid (IsInts w3 (.slice (some ⟨b, off, none⟩) l.length cap) l) := HV1.out.below HR2.out
        have HC3 : Hid (w3.cell? ⟨b, off + k, none⟩ = some (.int .i64 p)) := (HR2.out.cell (p := ⟨b, off + k, none⟩) hbB).trans HC1.out
        have hb3 : b < w3.heap.size := Nat.lt_of_lt_of_le hbB HR2.out.size
        have hn1 : 1 ≤ n := by omega
        have hn40 : n ≤ 40 := by omega
        have hk0 : (0 : Int) ≤ (k : Int) := by omega
        have hk1 : (k : Int) < (l.length : Int) := by omega
        have hcell3 := HC3.out
        have HB0 : Hid (Below w3.heap.size w3 w3) := Below.refl _ _
        go_region_held3 (fun w' => w'.cell? ⟨b, off + k, none⟩ = some (.int .i64 p) ∧ Hid (Below w3.heap.size w3 w')) ((go_split_ands; refine ⟨cell_since hb3 HC3.out ?_, ?_⟩ <;> first | assumption | (apply since_drew; assumption)))
          (first | (go_at_call 8; go_split_ands; refine (reflast_from (k := k) (n := n) HV3.out hk hl40 hn1 hn40 (by assumption)).mono ?_; rintro e w5 ⟨vt, rfl, HT5, HB5⟩) | (go_at_call 10; refine (has_in HT5.out HH.out _ (by rfl)).mono ?_; rintro e w6 ⟨rfl, rfl⟩))
        have HR5 : Hid (OwnI w6 w1.heap.size vo' (setsOf n l k ++ [(m : Int)])) := HR1.out.later HB5.out
        have HBB : Hid (Below w1.heap.size w1 w6) := HR2.out.trans (HB5.out.mono HR2.out.size)
        clear HR1 HR2 HB5 HT5 HV3 HC3 hcell3 HB0 HO2 HB2 HSI
        go_wp2
        go_roundw
        case rel => exact ⟨k + 1, by omega, by go_num, by rw [HMC.out]; go_num, by rw [HWS.out]; go_num, by rw [HS.out]; exact HR5.out, HBB.out⟩
        case measure => simp [intOf]; omega
      · have HMC : Hid (mc (whit n l) (k+1) = mc (whit n l) k) := by unfold Hid; rw [mc, hw]; rfl
        have HH : Hid ((wset n l k).contains (l[k]?.getD 0) = true) := hw
        generalize mc (whit n l) k = mk at *
        generalize l[k]?.getD 0 = p at *
        clear hw
        go_wp2_with (first | (go_at_call 9; go_must (refine (refset_any _ (wset n l (k+1)) _ HSI.out HAW.out (by rw [HD.out]; omega)).mono ?_; rintro e w' ⟨rfl, hw⟩; have hw := hw.symm; subst hw; rw [HM.out])) | (at_builtin; go_must (refine wpList_append_own _ rfl _ _ 22 rfl w1.heap.size 3 i0 (.int .i64 0) 1 8 Tryd.underlying22 HI.out.1 HI.out.2.1 HI.out.2.2.1 HI.out.2.2.2 rfl (by decide) _ k ((setsOf n l k).map (Value.int .i64)) rfl (World.ownsRow.alloc (HO2.out.rows HNO.out rfl) _) ⟨w2.heap.size, 0, none⟩ 1 1 [.int .i64 (m : Int)] rfl rfl (by exact new_one _ _ _) (one_cell _) (by unfold maxLen; omega) (by omega) (by have := HB2.out.size; simp; omega) ?_; intro vo' w3 hown' hgrow _; have HOW := own_append2 HO2.out HNO.out HB2.out (Nat.le_refl _) hown' hgrow; have HR1 : Hid (OwnI w3 w1.heap.size vo' (setsOf n l k ++ [(m : Int)])) := HOW.1; have HR2 : Hid (Below w1.heap.size w1 w3) := HOW.2; clear hown' hgrow HOW)))
        have HV3 : Hid (IsInts w3 (.slice (some ⟨b, off, none⟩) l.length cap) l) := HV1.out.below HR2.out
        have HC3 : Hid (w3.cell? ⟨b, off + k, none⟩ = some (.int .i64 p)) := (HR2.out.cell (p := ⟨b, off + k, none⟩) hbB).trans HC1.out
        have hb3 : b < w3.heap.size := Nat.lt_of_lt_of_le hbB HR2.out.size
        have hn1 : 1 ≤ n := by omega
        have hn40 : n ≤ 40 := by omega
        have hk0 : (0 : Int) ≤ (k : Int) := by omega
        have hk1 : (k : Int) < (l.length : Int) := by omega
        have hcell3 := HC3.out
        have HB0 : Hid (Below w3.heap.size w3 w3) := Below.refl _ _
        go_region_held3 (fun w' => w'.cell? ⟨b, off + k, none⟩ = some (.int .i64 p) ∧ Hid (Below w3.heap.size w3 w')) ((go_split_ands; refine ⟨cell_since hb3 HC3.out ?_, ?_⟩ <;> first | assumption | (apply since_drew; assumption)))
          (first | (go_at_call 8; go_split_ands; refine (reflast_from (k := k) (n := n) HV3.out hk hl40 hn1 hn40 (by assumption)).mono ?_; rintro e w5 ⟨vt, rfl, HT5, HB5⟩) | (go_at_call 10; refine (has_in HT5.out HH.out _ (by rfl)).mono ?_; rintro e w6 ⟨rfl, rfl⟩))
        have HR5 : Hid (OwnI w6 w1.heap.size vo' (setsOf n l k ++ [(m : Int)])) := HR1.out.later HB5.out
        have HBB : Hid (Below w1.heap.size w1 w6) := HR2.out.trans (HB5.out.mono HR2.out.size)
        clear HR1 HR2 HB5 HT5 HV3 HC3 hcell3 HB0 HO2 HB2 HSI
        go_wp2
        go_roundw
        case rel => exact ⟨k + 1, by omega, by go_num, by rw [HMC.out], by rw [HWS.out]; go_num, by rw [HS.out]; exact HR5.out, HBB.out⟩
        case measure => simp [intOf]; omega
    · have HO : Hid (IsInts wr u7 (setsOf n l l.length)) := by rw [show k = l.length by omega] at hO; exact hO.isInts
      have HB2 : Hid (Below w.heap.size w wr) := HB1.out.trans (hbel.mono HB1.out.size)
      have HE : Hid (k = l.length) := by unfold Hid; omega
      rw [HE.out]
      rw [HE.out] at hmc hws
      clear hO hbel
      generalize hma : mc (whit n l) l.length = ma at *
      generalize hsa : wsum n l l.length = sa at *
      have HN2 : Hid (wsN l n = ma) := HN.out
      have HX2 : Hid (wsS l n = sa) := HX.out
      clear hma hsa hlt HN HX
      go_wp2_with (go_at_call 11; fail)
      refine (sets_any _ l n _ (HV.out.below HB2.out)).mono ?_
      rintro e w3 ⟨vs, rfl, hS, hb3⟩
      rw [HC.out]
      rw [HL.out] at hS
      have HB3 : Hid (Below w.heap.size w w3) := HB2.out.trans (hb3.mono HB2.out.size)
      have HO3 : Hid (IsInts w3 u7 (setsOf n l l.length)) := HO.out.below hb3
      have HS3 : Hid (IsInts w3 vs (setsOf n l l.length)) := hS.isInts
      clear hS hb3 HB2 HO
      go_wp2_with (go_at_call 6; fail)
      refine (error_same 0 _ (HG.out.below HB3.out)).mono ?_
      rintro e w4 ⟨rfl, hb4⟩
      have HB4 : Hid (Below w.heap.size w w4) := HB3.out.trans (hb4.mono HB3.out.size)
      have HO4 : Hid (IsInts w4 u7 (setsOf n l l.length)) := HO3.out.below hb4
      have HS4 : Hid (IsInts w4 vs (setsOf n l l.length)) := HS3.out.below hb4
      clear hb4 HB3 HO3 HS3
      go_wp2_with (go_at_call 12; fail)
      refine (ints_same _ _ (setsOf n l l.length) _ HS4.out HO4.out).mono ?_
      rintro e w5 ⟨rfl, q, hw5⟩
      have HB5 : Hid (Below w.heap.size w w5) := by rw [hw5]; exact below_drewN HB4.out q
      clear hw5 HB4 HO4 HS4
      go_wp2_with (go_at_call 13; fail)
      refine (miss_any _ l n _ (HV.out.below HB5.out)).mono ?_
      rintro e w6 ⟨rfl, hb6⟩
      rw [HC.out, HN2.out, HX2.out]
      have HB6 : Hid (Below w.heap.size w w6) := HB5.out.trans (hb6.mono HB5.out.size)
      clear hb6 HB5
      go_wp2_with (go_at_call 6; fail)
      refine (error_same 0 _ (HG.out.below HB6.out)).mono ?_
      rintro e w7 ⟨rfl, hb7⟩
      have HB7 : Hid (Below w.heap.size w w7) := HB6.out.trans (hb7.mono HB6.out.size)
      clear hb7 HB6
      have hmm : ((ma : Int) == (ma : Int)) = true := by simp
      have hss : ((sa : Int) == (sa : Int)) = true := by simp
      go_wp2
      go_ret
      exact ⟨rfl, HB7.out⟩
end Go.Proofs.YtbnhlnjbgimibaaDoor
