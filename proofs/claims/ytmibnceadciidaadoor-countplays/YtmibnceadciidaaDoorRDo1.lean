/- The walks of the document's Do (larderwickref2): a root more, and one less. -/
import Derived.Test.YtmibnceadciidaaDoorSides
import Derived.Test.YtmibnceadciidaaDoorWithoutS
import Derived.Test.YtmibnceadciidaaDoorHas
namespace Go.Proofs.YtmibnceadciidaaDoor
set_option maxRecDepth 100000
open Go.ChangeShapes Go.WideShapes Go.ChangeAt Go.RowKit Go.Sort Go.Maps

set_option maxHeartbeats 4000000 in
theorem rdo_root {S : Nat → Prop} (c : KS) (i j : Int) (vo vr vh : Value) (B : Nat) (w : World) (h : OwnK S w B vo vr vh c) (hc : KGood c) (hB : B ≤ w.heap.size) (hS : ∀ k, S k → k < w.heap.size) :
    Calls Tryd.prog 6 #[.agg #[vo, vr, vh], .int .i64 1, .int .i64 i, .int .i64 j] w (DoIs S w B c 1 i j) := by
  obtain ⟨ao, co, ar, cr, ah, ch, rfl, rfl, rfl, hco, hcr, hch⟩ := h.isK.forms
  have HB : Hid (KB2 S w ((w.alloc (.cells #[.slice ao c.outs.length co, .slice ar c.roots.length cr, .slice ah c.here.length ch] 28)).alloc (.cells #[.slice none 0 0, .slice none 0 0, .slice none 0 0] 28)) B w.heap.size (.slice ao c.outs.length co) (.slice ar c.roots.length cr) (.slice ah c.here.length ch) c) := KB2.new h hB hS
  have HC : Hid (KGood c) := hc
  have HR12 : Hid (c.roots.length ≤ 12) := hc.roots
  clear h hc hS
  by_cases hi : c.is i = false
  · have HI : Hid (c.is i = false) := hi
    have HD : Hid (c.doK 1 i j = (c, 0, 1)) := by
      unfold Hid KS.doK
      rw [if_neg (show ¬ (1 : Int) = 0 by decide), if_pos (.inl hi)]
    clear hi
    go_enter Tryd.func6, Tryd.ntmps6
    go_wp2_with (go_at_call_of 20 (Value.int .i64 i); go_must (refine (ris_any c i _ _ _ _ HB.out.kb.own.isK).mono ?_; rintro e w1 ⟨rfl, hb⟩; have HK1 : Hid _ := HB.out.later hb; clear hb; obtain ⟨hx0, hx1, hx2, hf0, hf1, hf2⟩ := HK1.out.cells; rw [HI.out]; obtain ⟨hX0, hX1, hX2, hY0, hY1, hY2⟩ := tri_cells HK1.out.res; have HEND : Hid _ := HK1.out.end_))
    refine bodyPost_ret_by (results_cell2_row Tryd.results6 _ _ (w.heap.size + 1) 28 _ (0, 0) _ rfl HEND.out.1 Tryd.underlying28 rfl (by kernel_rfl)) rfl ?_
    unfold DoIs
    rw [HD.out]
    exact ⟨_, _, _, rfl, HEND.out.2.1, HEND.out.2.2⟩
  · have hi : c.is i = true := by simpa using hi
    have HI : Hid (c.is i = true) := hi
    by_cases h12 : 12 ≤ c.roots.length
    · have h12' : (12 : Int) ≤ (c.roots.length : Int) := by omega
      have HD : Hid (c.doK 1 i j = (c, 0, 4)) := by
        unfold Hid KS.doK
        rw [if_neg (show ¬ (1 : Int) = 0 by decide), if_neg (by rintro (e | e); rw [hi] at e; cases e; omega), if_pos rfl, if_pos h12]
      clear hi h12
      go_enter Tryd.func6, Tryd.ntmps6
      go_wp2_with (go_at_call_of 20 (Value.int .i64 i); go_must (refine (ris_any c i _ _ _ _ HB.out.kb.own.isK).mono ?_; rintro e w1 ⟨rfl, hb⟩; have HK1 : Hid _ := HB.out.later hb; clear hb; obtain ⟨hx0, hx1, hx2, hf0, hf1, hf2⟩ := HK1.out.cells; rw [HI.out]; obtain ⟨hX0, hX1, hX2, hY0, hY1, hY2⟩ := tri_cells HK1.out.res; have HEND : Hid _ := HK1.out.end_))
      refine bodyPost_ret_by (results_cell2_row Tryd.results6 _ _ (w.heap.size + 1) 28 _ (0, 0) _ rfl HEND.out.1 Tryd.underlying28 rfl (by kernel_rfl)) rfl ?_
      unfold DoIs
      rw [HD.out]
      exact ⟨_, _, _, rfl, HEND.out.2.1, HEND.out.2.2⟩
    · have h12' : ¬ (12 : Int) ≤ (c.roots.length : Int) := by omega
      have HG : Hid (KGood ⟨c.outs, c.roots ++ [i], c.here⟩) := root_good HC.out hi (by omega)
      have HD : Hid (c.doK 1 i j = ((⟨c.outs, c.roots ++ [i], c.here⟩ : KS).swept, 0, 0)) := by
        unfold Hid KS.doK
        rw [if_neg (show ¬ (1 : Int) = 0 by decide), if_neg (by rintro (e | e); rw [hi] at e; cases e; omega), if_pos rfl, if_neg h12]
      clear hi h12
      go_enter Tryd.func6, Tryd.ntmps6
      go_wp2_with (first | (go_at_call_of 20 (Value.int .i64 i); go_must (refine (ris_any c i _ _ _ _ HB.out.kb.own.isK).mono ?_; rintro e w1 ⟨rfl, hb⟩; have HK1 : Hid _ := HB.out.later hb; clear hb; obtain ⟨hx0, hx1, hx2, hf0, hf1, hf2⟩ := HK1.out.cells; rw [HI.out])) | (go_at_call 19; go_must (refine (rput_any _ c.roots c.roots.length i _ B HK1.out.kb.own.ints (Nat.le_refl _) (by have := HR12.out; omega)).mono ?_; rintro e w2 ⟨v2, rfl, h2, hb2⟩; rw [List.take_length, List.drop_length] at h2; (obtain ⟨a2, c2, hf2⟩ := OwnI.form h2); have HK2 : Hid _ := HK1.out.later hb2; obtain ⟨hy0, hy1, hy2, hg0, hg1, hg2⟩ := HK2.out.cells; have H2 : Hid (OwnI w2 B v2 (c.roots ++ [i])) := ownI_mono h2 HK1.out.hB; have H2O : Hid (Out S v2) := Out.new h2 HK1.out.hS; clear h2 hb2; rw [List.length_append, List.length_singleton] at hf2; subst hf2; have HK3 : Hid _ := HK2.out.setR H2.out H2O.out; obtain ⟨hz0, hz1, hz2, hh0, hh1, hh2⟩ := HK3.out.cells)) | (go_at_call 24; fail))
      refine (rswept_any (⟨c.outs, c.roots ++ [i], c.here⟩ : KS) _ _ _ B _ HK3.out.kb.own HG.out.mid HK3.out.hB HK3.out.hS).mono ?_
      rintro e w9 ⟨vo9, vr9, vh9, rfl, h9, hb9⟩
      obtain ⟨ao9, co9, ar9, cr9, ah9, ch9, rfl, rfl, rfl, _, _, _⟩ := h9.isK.forms
      have HK9 : Hid _ := HK3.out.later hb9
      obtain ⟨hX0, hX1, hX2, hY0, hY1, hY2⟩ := tri_cells HK9.out.res
      have HEND := k_end (w0 := w) HK9.out.res h9 (by omega) HK9.out.kb.below
      go_wp2
      refine bodyPost_ret_by (results_cell2_row Tryd.results6 _ _ (w.heap.size + 1) 28 _ (0, 0) _ rfl HEND.1 Tryd.underlying28 rfl (by kernel_rfl)) rfl ?_
      unfold DoIs
      rw [HD.out]
      exact ⟨_, _, _, rfl, HEND.2.1, HEND.2.2⟩
set_option maxHeartbeats 4000000 in
theorem rdo_drop {S : Nat → Prop} (c : KS) (i j : Int) (vo vr vh : Value) (B : Nat) (w : World) (h : OwnK S w B vo vr vh c) (hc : KGood c) (hB : B ≤ w.heap.size) (hS : ∀ k, S k → k < w.heap.size) :
    Calls Tryd.prog 6 #[.agg #[vo, vr, vh], .int .i64 2, .int .i64 i, .int .i64 j] w (DoIs S w B c 2 i j) := by
  obtain ⟨ao, co, ar, cr, ah, ch, rfl, rfl, rfl, hco, hcr, hch⟩ := h.isK.forms
  have HB : Hid (KB2 S w ((w.alloc (.cells #[.slice ao c.outs.length co, .slice ar c.roots.length cr, .slice ah c.here.length ch] 28)).alloc (.cells #[.slice none 0 0, .slice none 0 0, .slice none 0 0] 28)) B w.heap.size (.slice ao c.outs.length co) (.slice ar c.roots.length cr) (.slice ah c.here.length ch) c) := KB2.new h hB hS
  have HC : Hid (KGood c) := hc
  have HR12 : Hid (c.roots.length ≤ 12) := hc.roots
  clear h hc hS
  by_cases hi : c.is i = false
  · have HI : Hid (c.is i = false) := hi
    have HD : Hid (c.doK 2 i j = (c, 0, 1)) := by
      unfold Hid KS.doK
      rw [if_neg (show ¬ (2 : Int) = 0 by decide), if_pos (.inl hi)]
    clear hi
    go_enter Tryd.func6, Tryd.ntmps6
    go_wp2_with (go_at_call_of 20 (Value.int .i64 i); go_must (refine (ris_any c i _ _ _ _ HB.out.kb.own.isK).mono ?_; rintro e w1 ⟨rfl, hb⟩; have HK1 : Hid _ := HB.out.later hb; clear hb; obtain ⟨hx0, hx1, hx2, hf0, hf1, hf2⟩ := HK1.out.cells; rw [HI.out]; obtain ⟨hX0, hX1, hX2, hY0, hY1, hY2⟩ := tri_cells HK1.out.res; have HEND : Hid _ := HK1.out.end_))
    refine bodyPost_ret_by (results_cell2_row Tryd.results6 _ _ (w.heap.size + 1) 28 _ (0, 0) _ rfl HEND.out.1 Tryd.underlying28 rfl (by kernel_rfl)) rfl ?_
    unfold DoIs
    rw [HD.out]
    exact ⟨_, _, _, rfl, HEND.out.2.1, HEND.out.2.2⟩
  · have hi : c.is i = true := by simpa using hi
    have HI : Hid (c.is i = true) := hi
    by_cases hr : i ∈ c.roots
    · have HH : Hid (c.roots.contains i = true) := by unfold Hid; simpa using hr
      have HU := (unroot HC.out i).1
      have HM : Hid (KMid ⟨c.outs, c.roots.erase i, c.here⟩) := HU
      have HD : Hid (c.doK 2 i j = ((⟨c.outs, c.roots.erase i, c.here⟩ : KS).swept, 0, 0)) := by
        unfold Hid KS.doK
        rw [if_neg (show ¬ (2 : Int) = 0 by decide), if_neg (by rintro (e | e); rw [hi] at e; cases e; omega), if_neg (show ¬ (2 : Int) = 1 by decide), if_pos rfl, if_pos hr]
      clear hi hr HU
      go_enter Tryd.func6, Tryd.ntmps6
      go_wp2_with (first | (go_at_call_of 20 (Value.int .i64 i); go_must (refine (ris_any c i _ _ _ _ HB.out.kb.own.isK).mono ?_; rintro e w1 ⟨rfl, hb⟩; have HK1 : Hid _ := HB.out.later hb; clear hb; obtain ⟨hx0, hx1, hx2, hf0, hf1, hf2⟩ := HK1.out.cells; rw [HI.out])) | (go_at_call 21; go_must (refine (has_any _ c.roots i _ HK1.out.kb.own.ints.isInts).mono ?_; rintro e w' ⟨rfl, hw⟩; have hw := hw.symm; subst hw; rw [HH.out])) | (go_at_call 22; go_must (refine (without_any _ c.roots i _ HK1.out.kb.own.ints.isInts (by have := HR12.out; omega)).mono ?_; rintro e w2 ⟨v2, rfl, h2, hb2⟩; (obtain ⟨a2, c2, hf2⟩ := OwnI.form h2); have HK2 : Hid _ := HK1.out.later hb2; obtain ⟨hy0, hy1, hy2, hg0, hg1, hg2⟩ := HK2.out.cells; have H2 : Hid (OwnI w2 B v2 (c.roots.erase i)) := ownI_mono h2 HK1.out.hB; have H2O : Hid (Out S v2) := Out.new h2 HK1.out.hS; clear h2 hb2; subst hf2; have HK3 : Hid _ := HK2.out.setR H2.out H2O.out; obtain ⟨hz0, hz1, hz2, hh0, hh1, hh2⟩ := HK3.out.cells)) | (go_at_call 24; fail))
      refine (rswept_any (⟨c.outs, c.roots.erase i, c.here⟩ : KS) _ _ _ B _ HK3.out.kb.own HM.out HK3.out.hB HK3.out.hS).mono ?_
      rintro e w9 ⟨vo9, vr9, vh9, rfl, h9, hb9⟩
      obtain ⟨ao9, co9, ar9, cr9, ah9, ch9, rfl, rfl, rfl, _, _, _⟩ := h9.isK.forms
      have HK9 : Hid _ := HK3.out.later hb9
      obtain ⟨hX0, hX1, hX2, hY0, hY1, hY2⟩ := tri_cells HK9.out.res
      have HEND := k_end (w0 := w) HK9.out.res h9 (by omega) HK9.out.kb.below
      go_wp2
      refine bodyPost_ret_by (results_cell2_row Tryd.results6 _ _ (w.heap.size + 1) 28 _ (0, 0) _ rfl HEND.1 Tryd.underlying28 rfl (by kernel_rfl)) rfl ?_
      unfold DoIs
      rw [HD.out]
      exact ⟨_, _, _, rfl, HEND.2.1, HEND.2.2⟩
    · have HH : Hid (c.roots.contains i = false) := by unfold Hid; simpa using hr
      have HD : Hid (c.doK 2 i j = (c, 0, 5)) := by
        unfold Hid KS.doK
        rw [if_neg (show ¬ (2 : Int) = 0 by decide), if_neg (by rintro (e | e); rw [hi] at e; cases e; omega), if_neg (show ¬ (2 : Int) = 1 by decide), if_pos rfl, if_neg hr]
      clear hi hr
      go_enter Tryd.func6, Tryd.ntmps6
      go_wp2_with (first | (go_at_call_of 20 (Value.int .i64 i); go_must (refine (ris_any c i _ _ _ _ HB.out.kb.own.isK).mono ?_; rintro e w1 ⟨rfl, hb⟩; have HK1 : Hid _ := HB.out.later hb; clear hb; obtain ⟨hx0, hx1, hx2, hf0, hf1, hf2⟩ := HK1.out.cells; rw [HI.out]; obtain ⟨hX0, hX1, hX2, hY0, hY1, hY2⟩ := tri_cells HK1.out.res; have HEND : Hid _ := HK1.out.end_)) | (go_at_call 21; go_must (refine (has_any _ c.roots i _ HK1.out.kb.own.ints.isInts).mono ?_; rintro e w' ⟨rfl, hw⟩; have hw := hw.symm; subst hw; rw [HH.out])))
      refine bodyPost_ret_by (results_cell2_row Tryd.results6 _ _ (w.heap.size + 1) 28 _ (0, 0) _ rfl HEND.out.1 Tryd.underlying28 rfl (by kernel_rfl)) rfl ?_
      unfold DoIs
      rw [HD.out]
      exact ⟨_, _, _, rfl, HEND.out.2.1, HEND.out.2.2⟩
end Go.Proofs.YtmibnceadciidaaDoor
