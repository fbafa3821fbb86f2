/- The walk of Make. -/
import Derived.Test.YtmibnceadciidaaDoorCDo
namespace Go.Proofs.YtmibnceadciidaaDoor
set_option maxRecDepth 100000
open Go.RowKit Go.Sort

theorem rows_form {w : World} {v : Value} {t n : Nat} {xs : List Value} (h : w.ownsRow 0 t 1 v n xs) : ∃ ao cap, v = .slice ao n cap := by
  rcases h.2 with ⟨rfl, h0⟩ | ⟨g, cap, cur, rfl, _⟩
  · exact ⟨none, 0, by rw [h0]⟩
  · exact ⟨_, cap, rfl⟩
set_option maxHeartbeats 4000000 in
theorem makeP_any (S : Nat → Prop) (a : Nat) (c : KS) (i j : Int) (w : World) (hw : CHeap w S a c) (hc : KGood c) :
    Calls Tryd.prog 7 #[.pointer (some ⟨a, 0, none⟩)] w fun e w' => e = .returned (.tuple #[.int .i64 (((c.doK 0 i j).2.1 : Nat) : Int), errV (c.doK 0 i j).2.2]) ∧ Done w S a (c.doK 0 i j).1 w' := by
  have HW : Hid (CHeap w S a c) := hw
  obtain ⟨vo, vr, us, h⟩ := hw
  obtain ⟨ao, co, ar, cr, rfl, rfl, hco, hcr, hlo, hlr⟩ := h.forms
  obtain ⟨hc0, hc1, hf0, hf1⟩ := box_cells h.box
  have HH : Hid (CH w S a c (.slice ao c.outs.length co) (.slice ar c.roots.length cr) us) := h
  have has : a < w.heap.size := h.lt a h.at_
  have hev : c.outs.length = c.here.length := hc.even
  have hl12 := hc.few
  by_cases h12 : 12 ≤ c.here.length ∨ 12 ≤ c.roots.length
  · have HD : Hid (c.doK 0 i j = (c, 0, 4)) := by
      unfold Hid KS.doK
      rw [if_pos rfl, if_pos h12]
    by_cases ho : 12 ≤ c.outs.length
    · have ho' : (12 : Int) ≤ (c.outs.length : Int) := by omega
      clear h hc h12 hev hl12
      go_enter Tryd.func7, Tryd.ntmps7
      go_wp2
      go_ret2
      rw [HD.out]
      exact ⟨rfl, S, HW.out, Stp.refl _ _⟩
    · have ho' : ¬ (12 : Int) ≤ (c.outs.length : Int) := by omega
      have HF : Hid (decide (12 ≤ c.roots.length) = true) := by unfold Hid; simp; omega
      clear h hc h12 hev hl12
      go_enter Tryd.func7, Tryd.ntmps7
      go_wp2_with (go_at_call 25; go_must (refine (full_any S a c _ HW.out).mono ?_; rintro e w' ⟨rfl, hw⟩; have hw := hw.symm; subst hw; rw [HF.out]))
      go_ret2
      rw [HD.out]
      exact ⟨rfl, S, HW.out, Stp.refl _ _⟩
  · have HD : Hid (c.doK 0 i j = (⟨c.outs ++ [[]], c.roots ++ [(c.outs.length : Int)], c.here ++ [true]⟩, c.outs.length, 0)) := by
      unfold Hid KS.doK
      rw [if_pos rfl, if_neg h12, hev]
    have ho' : ¬ (12 : Int) ≤ (c.outs.length : Int) := by omega
    have HF : Hid (decide (12 ≤ c.roots.length) = false) := by unfold Hid; simp; omega
    have hr12 : c.roots.length < 12 := by omega
    have ho12 : c.outs.length < 12 := by omega
    obtain ⟨i0, hi, hz0, hz1, hz2⟩ := info_parts Tryd.info3
    have HI : Hid (Tryd.prog.info? 3 = some i0 ∧ i0.zero = some (.int .i64 0) ∧ i0.size = 1 ∧ i0.bytes = 8) := ⟨hi, hz0, hz1, hz2⟩
    obtain ⟨j0, hj, hy0, hy1, hy2⟩ := info_parts info_row
    have HJ : Hid (Tryd.prog.info? 25 = some j0 ∧ j0.zero = some (.slice none 0 0) ∧ j0.size = 1 ∧ j0.bytes = 24) := ⟨hj, hy0, hy1, hy2⟩
    have HOO : Hid (w.ownsRow 0 25 1 (.slice ao c.outs.length co) c.outs.length us) := h.outs
    have HAN : Hid ((.slice ao c.outs.length co : Value).ownBlock ≠ some a) := own_not h.outs h.box (by decide)
    clear h hc h12 hev hl12 hi hz0 hz1 hz2 hj hy0 hy1 hy2
    go_enter Tryd.func7, Tryd.ntmps7
    go_wp2_with (first | (go_at_call 25; go_must (refine (full_any S a c _ HW.out).mono ?_; rintro e w' ⟨rfl, hw⟩; have hw := hw.symm; subst hw; rw [HF.out])) | (at_builtin; refine wpList_append_own_at _ rfl _ _ 22 rfl 0 25 j0 (.slice none 0 0) 1 24 Tryd.underlying22 HJ.out.1 HJ.out.2.1 HJ.out.2.2.1 HJ.out.2.2.2 rfl (by decide) _ c.outs.length us rfl (World.ownsRow.alloc HOO.out _) ⟨w.heap.size, 0, none⟩ 1 1 [.slice none 0 0] rfl rfl (by exact new_one _ _ _) (ownI_one (OwnI.nil w 0)) (by unfold maxLen; omega) (by omega) (by omega) ?_; intro vo' w5 hown' hgrow _ hat; have hgr := grown_alloc hgrow; obtain ⟨a9, c9, e9⟩ := rows_form hown'; subst e9; have k := HH.out.addRow hgr hown' (hat_of hat); have hc5 := hgr.cell hc0 (fun e => HAN.out e.symm); have hf5 := (World.frozen?_of_block (a := ⟨a, 0, none⟩) (hgr.block a has (fun e => HAN.out e.symm))).trans hf0; have K1 : Hid _ := k.1; have K2 : Hid _ := k.2; obtain ⟨_, hg1, _, hg2⟩ := box_cells k.1.box; have has5 := k.1.lt a k.1.at_; have HOR : Hid _ := k.1.roots; have HAR : Hid _ := own_not k.1.roots k.1.box (by decide); clear k hgr hgrow hown' hat) | (at_builtin; go_must (refine wpList_append_own_at _ rfl _ _ 25 rfl 0 3 i0 (.int .i64 0) 1 8 Tryd.underlying25 HI.out.1 HI.out.2.1 HI.out.2.2.1 HI.out.2.2.2 rfl (by decide) _ c.roots.length (c.roots.map (Value.int .i64)) rfl (World.ownsRow.alloc HOR.out _) ⟨w5.heap.size, 0, none⟩ 1 1 [.int .i64 (c.outs.length : Int)] rfl rfl (by have h := new_one (w5.setCell ⟨a, 0, none⟩ (.slice a9 (c.outs.length + 1) c9)) (.int .i64 (c.outs.length : Int)) 3; rw [show (w5.setCell ⟨a, 0, none⟩ (.slice a9 (c.outs.length + 1) c9)).heap.size = w5.heap.size by simp [World.setCell]] at h; exact h) (one_cell _) (by unfold maxLen; omega) (by omega) (by omega) ?_; intro vr' w6 hown' hgrow _ hat; have hgr := grown_alloc hgrow; have how := own_more hown'; obtain ⟨a8, c8, e8⟩ := OwnI.form how; rw [show (c.roots ++ [(c.outs.length : Int)]).length = c.roots.length + 1 by simp] at e8; subst e8; have k := K1.out.setRoots hgr how (hat_of hat); have hc6 := hgr.cell hg1 (fun e => HAR.out e.symm); have hf6 := (World.frozen?_of_block (a := ⟨a, 1, none⟩) (hgr.block a has5 (fun e => HAR.out e.symm))).trans hg2; have K3 : Hid _ := k.1; have K4 : Hid _ := k.2; clear k hgr hgrow hown' how hat)))
    go_ret2
    rw [HD.out]
    exact ⟨rfl, _, ⟨_, _, _, K3.out.same rfl rfl⟩, K2.out.trans K4.out⟩
end Go.Proofs.YtmibnceadciidaaDoor
