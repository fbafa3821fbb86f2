/- The walk of the document's Do (larderwickref2): a pointer less. -/
import Derived.Test.YtmibnceadciidaaDoorSides
import Derived.Test.YtmibnceadciidaaDoorWithoutS
import Derived.Test.YtmibnceadciidaaDoorHas
import Derived.Deep.RegionWith
import Derived.Deep.DrawnRows
namespace Go.Proofs.YtmibnceadciidaaDoor
set_option maxRecDepth 100000
open Go.ChangeShapes Go.WideShapes Go.ChangeAt Go.RowKit Go.Sort Go.Maps

attribute [local go_sem ↓] Go.wp_at_zero Go.wp_at_succ
set_option maxHeartbeats 4000000 in
theorem rdo_cut {S : Nat → Prop} (c : KS) (n : Nat) (j : Int) (vo vr vh : Value) (B : Nat) (w : World) (h : OwnK S w B vo vr vh c) (hc : KGood c) (hB : B ≤ w.heap.size) (hS : ∀ k, S k → k < w.heap.size) (hi : c.is (n : Int) = true) :
    Calls Tryd.prog 6 #[.agg #[vo, vr, vh], .int .i64 4, .int .i64 (n : Nat), .int .i64 j] w (DoIs S w B c 4 n j) := by
  obtain ⟨ao, co, ar, cr, ah, ch, rfl, rfl, rfl, hco, hcr, hch⟩ := h.isK.forms
  have hn : n < c.outs.length := by have := is_lt hi; rw [hc.even]; omega
  obtain ⟨go, au, cu, rfl, hlco, hbs, hcu, hiu, hio⟩ := h.rows.at hn
  have HB : Hid (KB2 S w ((w.alloc (.cells #[.slice (some ⟨go, 0, none⟩) c.outs.length co, .slice ar c.roots.length cr, .slice ah c.here.length ch] 28)).alloc (.cells #[.slice none 0 0, .slice none 0 0, .slice none 0 0] 28)) B w.heap.size (.slice (some ⟨go, 0, none⟩) c.outs.length co) (.slice ar c.roots.length cr) (.slice ah c.here.length ch) c) := KB2.new h hB hS
  have HC : Hid (KGood c) := hc
  have hl12 := hc.mid.outs12
  have HIU : Hid (OwnI w B (.slice au (rowAt c.outs n).length cu) (rowAt c.outs n)) := hiu
  have HCU : Hid _ := hcu
  have HSS : Hid (∀ k, S k → k < w.heap.size) := hS
  have hr4 : (rowAt c.outs n).length ≤ 4 := hc.rows _ (rowAt_mem hn)
  have HRO : Hid (c.row (n : Int) = rowAt c.outs n) := by unfold Hid KS.row rowAt; rw [Int.toNat_natCast]
  have HI : Hid (c.is (n : Int) = true) := hi
  clear h hc hS hiu hcu
  by_cases hj : c.is j = false
  · have HJ : Hid (c.is j = false) := hj
    have HD : Hid (c.doK 4 n j = (c, 0, 1)) := by
      unfold Hid KS.doK
      rw [if_neg (show ¬ (4 : Int) = 0 by decide), if_pos (.inr ⟨by decide, hj⟩)]
    clear hj hi
    go_enter Tryd.func6, Tryd.ntmps6
    go_wp2_with (first | (go_at_call_of 20 (Value.int .i64 (n : Nat)); go_must (refine (ris_any c (n : Nat) _ _ _ _ HB.out.kb.own.isK).mono ?_; rintro e w1 ⟨rfl, hb⟩; have HK1 : Hid _ := HB.out.later hb; clear hb; obtain ⟨hx0, hx1, hx2, hf0, hf1, hf2⟩ := HK1.out.cells; rw [HI.out])) | (go_at_call_of 20 (Value.int .i64 j); go_must (refine (ris_any c j _ _ _ _ HK1.out.kb.own.isK).mono ?_; rintro e w2 ⟨rfl, hb⟩; have HK2 : Hid _ := HK1.out.later hb; clear hb; obtain ⟨hy0, hy1, hy2, hg0, hg1, hg2⟩ := HK2.out.cells; rw [HJ.out]; obtain ⟨hX0, hX1, hX2, hY0, hY1, hY2⟩ := tri_cells HK2.out.res; have HEND : Hid _ := HK2.out.end_)))
    refine bodyPost_ret_by (results_cell2_row Tryd.results6 _ _ (w.heap.size + 1) 28 _ (0, 0) _ rfl HEND.out.1 Tryd.underlying28 rfl (by kernel_rfl)) rfl ?_
    unfold DoIs
    rw [HD.out]
    exact ⟨_, _, _, rfl, HEND.out.2.1, HEND.out.2.2⟩
  · have hj : c.is j = true := by simpa using hj
    have HJ : Hid (c.is j = true) := hj
    have hno : ¬ (c.is (n : Int) = false ∨ (2 < (4 : Int) ∧ c.is j = false)) := by
      rintro (e | e)
      · rw [hi] at e; cases e
      · rw [hj] at e; exact Bool.noConfusion e.2
    by_cases hr : j ∈ rowAt c.outs n
    · have HH : Hid ((rowAt c.outs n).contains j = true) := by unfold Hid; simpa using hr
      have HM : Hid (KMid (c.putR n ((rowAt c.outs n).erase j))) := by
        have := (unlink HC.out hi j).1
        rwa [HRO.out] at this
      have HPR : Hid (c.putR n ((rowAt c.outs n).erase j) = ⟨c.outs.set n ((rowAt c.outs n).erase j), c.roots, c.here⟩) := by unfold Hid KS.putR; rw [Int.toNat_natCast]
      have HD : Hid (c.doK 4 n j = ((⟨c.outs.set n ((rowAt c.outs n).erase j), c.roots, c.here⟩ : KS).swept, 0, 0)) := by
        unfold Hid KS.doK
        rw [if_neg (show ¬ (4 : Int) = 0 by decide), if_neg hno, if_neg (show ¬ (4 : Int) = 1 by decide), if_neg (show ¬ (4 : Int) = 2 by decide), if_neg (show ¬ (4 : Int) = 3 by decide), if_pos rfl, HRO.out, if_pos hr, HPR.out]
      rw [HPR.out] at HM
      clear hj hi hr hno HPR
      go_enter Tryd.func6, Tryd.ntmps6
      go_wp2_with (first | (go_at_call_of 20 (Value.int .i64 (n : Nat)); go_must (refine (ris_any c (n : Nat) _ _ _ _ HB.out.kb.own.isK).mono ?_; rintro e w1 ⟨rfl, hb⟩; have HK1 : Hid _ := HB.out.later hb; clear hb; obtain ⟨hx0, hx1, hx2, hf0, hf1, hf2⟩ := HK1.out.cells; rw [HI.out])) | (go_at_call_of 20 (Value.int .i64 j); go_must (refine (ris_any c j _ _ _ _ HK1.out.kb.own.isK).mono ?_; rintro e w2 ⟨rfl, hb⟩; have HK2 : Hid _ := HK1.out.later hb; clear hb; obtain ⟨hy0, hy1, hy2, hg0, hg1, hg2⟩ := HK2.out.cells; rw [HJ.out]; have hcu2 := (HK2.out.kb.below.cell (p := ⟨go, n, none⟩) hbs).trans HCU.out)) | (go_at_call 21; go_must (refine (has_any _ (rowAt c.outs n) j _ (IsInts.below (OwnI.isInts HIU.out) HK2.out.kb.below)).mono ?_; rintro e w' ⟨rfl, hw⟩; have hw := hw.symm; subst hw; rw [HH.out])))
      have HKD : Hid _ := HK2.out.later (Below.refl _ _).drew
      have HRW : Hid (IsInts w2.drew (.slice au (rowAt c.outs n).length cu) (rowAt c.outs n)) := IsInts.below (OwnI.isInts HIU.out) HKD.out.kb.below
      have HNL : Hid (n < c.outs.length ∧ c.outs.length ≤ 100) := ⟨hn, by omega⟩
      clear hx0 hx1 hx2 hf0 hf1 hf2
      go_region_with (first
        | (go_at_call 22; go_must (refine (without_any _ (rowAt c.outs n) j _ HRW.out (by omega)).mono ?_; rintro e w5 ⟨v5, rfl, h5, hb5⟩; have HK5 : Hid _ := HKD.out.later hb5; obtain ⟨hz0, hz1, hz2, hh0, hh1, hh2⟩ := HK5.out.cells; have H5 : Hid (OwnI w5 B v5 ((rowAt c.outs n).erase j)) := ownI_mono h5 HKD.out.hB; have H5O : Hid (Out S v5) := Out.new h5 HKD.out.hS; clear h5 hb5))
        | (go_at_call 23; go_must (refine (routs_any c.outs n ((rowAt c.outs n).erase j) _ _ B _ HK5.out.kb.own.rows H5.out H5O.out HK5.out.hS HNL.out.1 HNL.out.2 HK5.out.hB).mono ?_; rintro e w6 ⟨v6, rfl, h6, hb6⟩; (obtain ⟨a6, c6, hf6⟩ := h6.form); rw [List.length_set] at hf6; subst hf6; have HK6 : Hid _ := HK5.out.later hb6; obtain ⟨hp0, hp1, hp2, hq0, hq1, hq2⟩ := HK6.out.cells; have HK7 : Hid _ := HK6.out.setO h6; clear h6 hb6)))
      all_goals (
        clear hp0 hp1 hp2 hq0 hq1 hq2 hz0 hz1 hz2 hh0 hh1 hh2
        obtain ⟨hr0, hr1, hr2, hs0, hs1, hs2⟩ := HK7.out.cells
        go_wp2_with (go_at_call 24; fail)
        refine (rswept_any (⟨c.outs.set n ((rowAt c.outs n).erase j), c.roots, c.here⟩ : KS) _ _ _ B _ HK7.out.kb.own HM.out HK7.out.hB HK7.out.hS).mono ?_
        rintro e w9 ⟨vo9, vr9, vh9, rfl, h9, hb9⟩
        obtain ⟨ao9, co9, ar9, cr9, ah9, ch9, rfl, rfl, rfl, _, _, _⟩ := h9.isK.forms
        have HK9 : Hid _ := HK7.out.later hb9
        obtain ⟨hX0, hX1, hX2, hY0, hY1, hY2⟩ := tri_cells HK9.out.res
        have HEND := k_end (w0 := w) HK9.out.res h9 (by omega) HK9.out.kb.below
        go_wp2
        refine bodyPost_ret_by (results_cell2_row Tryd.results6 _ _ (w.heap.size + 1) 28 _ (0, 0) _ rfl HEND.1 Tryd.underlying28 rfl (by kernel_rfl)) rfl ?_
        unfold DoIs
        rw [HD.out]
        exact ⟨_, _, _, rfl, HEND.2.1, HEND.2.2⟩)
    · have HH : Hid ((rowAt c.outs n).contains j = false) := by unfold Hid; simpa using hr
      have HD : Hid (c.doK 4 n j = (c, 0, 5)) := by
        unfold Hid KS.doK
        rw [if_neg (show ¬ (4 : Int) = 0 by decide), if_neg hno, if_neg (show ¬ (4 : Int) = 1 by decide), if_neg (show ¬ (4 : Int) = 2 by decide), if_neg (show ¬ (4 : Int) = 3 by decide), if_pos rfl, HRO.out, if_neg hr]
      clear hj hi hr hno
      go_enter Tryd.func6, Tryd.ntmps6
      go_wp2_with (first | (go_at_call_of 20 (Value.int .i64 (n : Nat)); go_must (refine (ris_any c (n : Nat) _ _ _ _ HB.out.kb.own.isK).mono ?_; rintro e w1 ⟨rfl, hb⟩; have HK1 : Hid _ := HB.out.later hb; clear hb; obtain ⟨hx0, hx1, hx2, hf0, hf1, hf2⟩ := HK1.out.cells; rw [HI.out])) | (go_at_call_of 20 (Value.int .i64 j); go_must (refine (ris_any c j _ _ _ _ HK1.out.kb.own.isK).mono ?_; rintro e w2 ⟨rfl, hb⟩; have HK2 : Hid _ := HK1.out.later hb; clear hb; obtain ⟨hy0, hy1, hy2, hg0, hg1, hg2⟩ := HK2.out.cells; rw [HJ.out]; have hcu2 := (HK2.out.kb.below.cell (p := ⟨go, n, none⟩) hbs).trans HCU.out; obtain ⟨hX0, hX1, hX2, hY0, hY1, hY2⟩ := tri_cells HK2.out.res; have HEND : Hid _ := HK2.out.end_)) | (go_at_call 21; go_must (refine (has_any _ (rowAt c.outs n) j _ (IsInts.below (OwnI.isInts HIU.out) HK2.out.kb.below)).mono ?_; rintro e w' ⟨rfl, hw⟩; have hw := hw.symm; subst hw; rw [HH.out])))
      refine bodyPost_ret_by (results_cell2_row Tryd.results6 _ _ (w.heap.size + 1) 28 _ (0, 0) _ rfl HEND.out.1 Tryd.underlying28 rfl (by kernel_rfl)) rfl ?_
      unfold DoIs
      rw [HD.out]
      exact ⟨_, _, _, rfl, HEND.out.2.1, HEND.out.2.2⟩
end Go.Proofs.YtmibnceadciidaaDoor
