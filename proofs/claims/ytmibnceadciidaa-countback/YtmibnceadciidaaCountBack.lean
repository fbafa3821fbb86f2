/- CountBack is proved: whatever is done, in whatever memory and on every schedule, it returns true and leaves its argument as it was: what is undone is undone. No condition. -/
import Derived.Test.YtmibnceadciidaaCRun
import Derived.Test.YtmibnceadciidaaCHeapP
import Derived.Test.YtmibnceadciidaaCHeld
import Derived.Test.YtmibnceadciidaaCBackL
import Derived.Test.YtmibnceadciidaaInRange
import Derived.Test.YtmibnceadciidaaHas
import Derived.Test.YtmibnceadciidaaRowsS
import Derived.Test.YtmibnceadciidaaArgHeap
import Derived.Test.YtmibnceadciidaaCField
import Derived.Deep.RegionWith
import Derived.Deep.DrawnRows
namespace Go.Proofs.Ytmibnceadciidaa
set_option maxRecDepth 100000
open Go.ChangeShapes Go.WideShapes Go.ChangeAt Go.RowKit Go.Sort

attribute [local go_sem ↓] Go.wp_at_zero Go.wp_at_succ
set_option maxHeartbeats 8000000 in
theorem cback_any (v : Value) (L : List (List Int)) (i j : Int) (w : World) (hv : IsRows w v L) :
    Calls Try.prog 5 #[v, .int .i64 i, .int .i64 j] w fun e w' => e = .returned (.bool true) ∧ Below w.heap.size w w' := by
  have HV : Hid (IsRows w v L) := hv
  clear hv
  go_enter Try.func5, Try.ntmps5
  go_wp2_with (go_at_call 7; fail)
  refine (cfact_any _).mono ?_
  rintro e w1 ⟨rfl, hb1⟩
  have HB1 : Hid (Below w.heap.size w w1) := hb1
  clear hb1
  go_wp2_with (go_at_call 8; fail)
  refine (counted_any v L _ (HV.out.below HB1.out)).mono ?_
  rintro e w2 ⟨a, rfl, S, h2⟩
  have H2 : Hid (Obj w1 w2 S a (cntK L)) := h2
  clear h2
  generalize cntK L = c at *
  go_wp2_with (go_at_call 9; fail)
  refine (heapP_any S a c _ H2.out.heap H2.out.good.mid).mono ?_
  rintro e w3 ⟨ao, co, ar, cr, rfl, h3, h4, hb3⟩
  have HA : Hid (Below w3.heap.size w3 (w3.alloc (.cells #[.slice ao c.outs.length co, .slice ar c.roots.length cr] 28))) := (Below.refl _ _).alloc (Nat.le_refl _) _
  have H3 : Hid (Obj w1 (w3.alloc (.cells #[.slice ao c.outs.length co, .slice ar c.roots.length cr] 28)) S a c) := (H2.out.later hb3).later HA.out
  have HT : Hid (Told3 S (w3.alloc (.cells #[.slice ao c.outs.length co, .slice ar c.roots.length cr] 28)) w3.heap.size (.slice ao c.outs.length co) (.slice ar c.roots.length cr) c.outs c.roots) := Told3.new (B := w2.heap.size) H2.out.heap.lt hb3.size h3 h4
  have HG : Hid (KGood c) := H2.out.good
  clear H2 h3 h4 hb3 HA
  have HBK := back1 HG.out i j
  go_wp2_with (first | (go_at_call 10; go_must (refine (hereP_any S a c _ H3.out.heap HG.out).mono ?_; rintro e w' ⟨rfl, hw⟩; have hw := hw.symm; subst hw)) | (go_at_call 16; fail))
  generalize (w3.alloc (.cells #[.slice ao c.outs.length co, .slice ar c.roots.length cr] 28)) = w4 at *
  rcases HBK with (h1 | h1) | ⟨r, d, h1, h2, hr, hd, ho, hh, hl⟩
  focus (
    obtain ⟨d, hd0⟩ : ∃ d : KS, d = c := ⟨_, rfl⟩
    have H1 : Hid (c.doK 1 i j = (c, 0, 1)) := h1
    have HDO : Hid (d.outs = c.outs) := by rw [hd0]; rfl
    have HDH : Hid (d.here = c.here) := by rw [hd0]; rfl
    have HDG : Hid (KGood d) := by rw [hd0]; exact HG
    clear h1
    refine (rootP_any S a c i j _ H3.out.heap HG.out).mono ?_
    rintro e w8 ⟨rfl, hd⟩
    rw [H1.out] at hd ⊢
    obtain ⟨S8, h5, h6⟩ := H3.out.both HT.out hd HG.out
    have HO : Hid (Obj w1 w8 S8 a d) := by rw [hd0]; exact h5
    have HTT : Hid (Told3 S8 w8 w3.heap.size (.slice ao c.outs.length co) (.slice ar c.roots.length cr) c.outs c.roots) := h6
    clear hd h5 h6 hd0 H3 HT H1
    rw [show errV 1 = .iface 54 (.int .i64 1) from rfl]
    go_wp2_with (go_at_call 18; fail))
  rotate_left
  focus (
    obtain ⟨d, hd0⟩ : ∃ d : KS, d = c := ⟨_, rfl⟩
    have H1 : Hid (c.doK 1 i j = (c, 0, 4)) := h1
    have HDO : Hid (d.outs = c.outs) := by rw [hd0]; rfl
    have HDH : Hid (d.here = c.here) := by rw [hd0]; rfl
    have HDG : Hid (KGood d) := by rw [hd0]; exact HG
    clear h1
    refine (rootP_any S a c i j _ H3.out.heap HG.out).mono ?_
    rintro e w8 ⟨rfl, hd⟩
    rw [H1.out] at hd ⊢
    obtain ⟨S8, h5, h6⟩ := H3.out.both HT.out hd HG.out
    have HO : Hid (Obj w1 w8 S8 a d) := by rw [hd0]; exact h5
    have HTT : Hid (Told3 S8 w8 w3.heap.size (.slice ao c.outs.length co) (.slice ar c.roots.length cr) c.outs c.roots) := h6
    clear hd h5 h6 hd0 H3 HT H1
    rw [show errV 4 = .iface 54 (.int .i64 4) from rfl]
    go_wp2_with (go_at_call 18; fail))
  rotate_left
  focus (
    have H1 : Hid (c.doK 1 i j = (r, 0, 0)) := h1
    have H2 : Hid (r.doK 2 i j = (d, 0, 0)) := h2
    have HR : Hid (KGood r) := hr
    have HDG : Hid (KGood d) := hd
    have HDO : Hid (d.outs = c.outs) := ho
    have HDH : Hid (d.here = c.here) := hh
    have HDL : Hid (d.roots.length = c.roots.length) := hl
    have HHB : Hid (hereB d = hereB c) := hereB_congr hh
    clear h1 h2 hr hd ho hh hl
    refine (rootP_any S a c i j _ H3.out.heap HG.out).mono ?_
    rintro e w5 ⟨rfl, hd⟩
    rw [H1.out] at hd ⊢
    obtain ⟨S5, h5, h6⟩ := H3.out.both HT.out hd HR.out
    have HO5 : Hid (Obj w1 w5 S5 a r) := h5
    have HT5 : Hid (Told3 S5 w5 w3.heap.size (.slice ao c.outs.length co) (.slice ar c.roots.length cr) c.outs c.roots) := h6
    clear hd h5 h6 H3 HT H1
    have HOD : Hid (Obj w1 w5.drew S5 a r) := HO5.out.later (Below.refl _ _).drew
    have HTD : Hid (Told3 S5 w5.drew w3.heap.size (.slice ao c.outs.length co) (.slice ar c.roots.length cr) c.outs c.roots) := HT5.out.later (Below.refl _ _).drew
    have HE0 : Hid (errV 0 = .nilIface) := rfl
    rw [HE0.out]
    clear HO5 HT5
    go_wp2
    go_region_with (first
      | (go_at_call 17; go_must (refine (dropP_any S5 a r i j _ HOD.out.heap HR.out).mono ?_; rintro e w6 ⟨rfl, hd⟩; rw [H2.out] at hd ⊢; obtain ⟨S8, h5, h6⟩ := HOD.out.both HTD.out hd HDG.out; have HO6 : Hid (Obj w1 w6 S8 a d) := h5; have HT6 : Hid (Told3 S8 w6 w3.heap.size (.slice ao c.outs.length co) (.slice ar c.roots.length cr) c.outs c.roots) := h6; clear hd h5 h6; obtain ⟨hy0, hy1⟩ := HT6.out.cells; rw [HE0.out]))
      | (go_at_call 10; go_must (refine (hereP_any S8 a d _ HO6.out.heap HDG.out).mono ?_; rintro e w' ⟨rfl, hw⟩; have hw := hw.symm; subst hw; rw [HHB.out]))
      | (go_at_call 9; go_must (refine (heapP_any S8 a d _ HO6.out.heap HDG.out.mid).mono ?_; rintro e w8 ⟨ao7, co7, ar7, cr7, rfl, h3, h4, hb7⟩; have HO : Hid (Obj w1 w8 S8 a d) := HO6.out.later hb7; have HTT : Hid (Told3 S8 w8 w3.heap.size (.slice ao c.outs.length co) (.slice ar c.roots.length cr) c.outs c.roots) := HT6.out.later hb7; obtain ⟨hz0, hz1⟩ := HTT.out.cells; rw [HDL.out]; have hfl := field_roots (.slice ao7 d.outs.length co7) (.slice ar7 c.roots.length cr7) w8; clear h3 h4 hb7)))
    all_goals (go_wp2_with (go_at_call 18; fail)))
  rotate_left
  all_goals (
    have HHB : Hid (hereB d = hereB c) := hereB_congr HDH.out
    rcases back2 HDG.out i j with (h1 | h1) | ⟨r2, f, hi, h1, h2, hr, hf, hh2, ho2⟩
    · have H1 : Hid (d.doK 3 i j = (d, 0, 1)) := h1
      clear h1
      refine (linkP_any S8 a d i j _ HO.out.heap HDG.out).mono ?_
      rintro e w9 ⟨rfl, hd⟩
      rw [H1.out] at hd ⊢
      obtain ⟨S9, h9, _⟩ := HO.out.both HTT.out hd HDG.out
      have H9 : Hid (Obj w1 w9 S9 a d) := h9
      clear hd h9 HO HTT H1
      rw [show errV 1 = .iface 54 (.int .i64 1) from rfl]
      go_wp2_with (go_at_call 10; go_must (refine (hereP_any S9 a d _ H9.out.heap HDG.out).mono ?_; rintro e w' ⟨rfl, hw⟩; have hw := hw.symm; subst hw; rw [HHB.out]))
      go_ret
      exact ⟨by simp, HB1.out.trans (H9.out.below.mono HB1.out.size)⟩
    · have H1 : Hid (d.doK 3 i j = (d, 0, 4)) := h1
      clear h1
      refine (linkP_any S8 a d i j _ HO.out.heap HDG.out).mono ?_
      rintro e w9 ⟨rfl, hd⟩
      rw [H1.out] at hd ⊢
      obtain ⟨S9, h9, _⟩ := HO.out.both HTT.out hd HDG.out
      have H9 : Hid (Obj w1 w9 S9 a d) := h9
      clear hd h9 HO HTT H1
      rw [show errV 4 = .iface 54 (.int .i64 4) from rfl]
      go_wp2_with (go_at_call 10; go_must (refine (hereP_any S9 a d _ H9.out.heap HDG.out).mono ?_; rintro e w' ⟨rfl, hw⟩; have hw := hw.symm; subst hw; rw [HHB.out]))
      go_ret
      exact ⟨by simp, HB1.out.trans (H9.out.below.mono HB1.out.size)⟩
    · have hil := is_lt hi
      obtain ⟨n, rfl⟩ : ∃ n : Nat, i = (n : Int) := ⟨i.toNat, by omega⟩
      have hnl : n < c.outs.length := by have := HDG.out.even; rw [← HDO.out, this]; omega
      have HNL : Hid (n < c.outs.length) := hnl
      have H1 : Hid (d.doK 3 n j = (r2, 0, 0)) := h1
      have H2 : Hid (r2.doK 4 n j = (f, 0, 0)) := h2
      have HR : Hid (KGood r2) := hr
      have HF : Hid (KGood f) := hf
      have HFB : Hid (hereB f = hereB c) := (hereB_congr hh2).trans HHB.out
      have HFO : Hid (j ∉ rowAt c.outs n → f.outs = c.outs) := fun h => by
        refine (ho2 ?_).trans HDO.out
        unfold KS.row
        rw [HDO.out, Int.toNat_natCast]; exact h
      have HIN : Hid ((decide (0 ≤ (n : Int)) && decide ((n : Int) ≤ (c.outs.length : Int) - 1)) = true) := by unfold Hid; simp; omega
      clear h1 h2 hr hf hh2 ho2 hi hil
      refine (linkP_any S8 a d n j _ HO.out.heap HDG.out).mono ?_
      rintro e w9 ⟨rfl, hd⟩
      rw [H1.out] at hd ⊢
      obtain ⟨S9, h9, h10⟩ := HO.out.both HTT.out hd HR.out
      have H9 : Hid (Obj w1 w9 S9 a r2) := h9
      have HT9 : Hid (Told3 S9 w9 w3.heap.size (.slice ao c.outs.length co) (.slice ar c.roots.length cr) c.outs c.roots) := h10
      clear hd h9 h10 HO HTT H1
      rw [show errV 0 = .nilIface from rfl]
      go_wp2_with (go_at_call 19; fail)
      refine (cutP_any S9 a r2 n j _ H9.out.heap HR.out).mono ?_
      rintro e wA ⟨rfl, hd⟩
      rw [H2.out] at hd ⊢
      obtain ⟨SA, h9, h10⟩ := H9.out.both HT9.out hd HF.out
      have HA : Hid (Obj w1 wA SA a f) := h9
      have HTA : Hid (Told3 SA wA w3.heap.size (.slice ao c.outs.length co) (.slice ar c.roots.length cr) c.outs c.roots) := h10
      clear hd h9 h10 H9 HT9 H2
      rw [show errV 0 = .nilIface from rfl]
      obtain ⟨hy0, hy1⟩ := HTA.out.cells
      obtain ⟨bo, offo, rfl, hlco, hbso, au, cu, hcu, hiu, hmm, hcum⟩ := HTA.out.rows.ownR.isRows.at hnl
      have HIU : Hid (IsInts wA (.slice au (rowAt c.outs n).length cu) (rowAt c.outs n)) := hiu
      have hl12 : c.outs.length ≤ 12 := HG.out.mid.outs12
      clear hiu
      by_cases hc : (rowAt c.outs n).contains j = true
      · have HCT : Hid ((rowAt c.outs n).contains j = true) := hc
        clear hc
        go_wp2_with (first | (go_at_call 10; go_must (refine (hereP_any SA a f _ HA.out.heap HF.out).mono ?_; rintro e w' ⟨rfl, hw⟩; have hw := hw.symm; subst hw; rw [HFB.out])) | (go_at_call 20; go_must (refine (in_range _ _ _ _).mono ?_; rintro e w' ⟨rfl, hw⟩; have hw := hw.symm; subst hw; rw [HIN.out])) | (go_at_call 21; go_must (refine (has_any _ (rowAt c.outs n) j _ HIU.out).mono ?_; rintro e w' ⟨rfl, hw⟩; have hw := hw.symm; subst hw; rw [HCT.out])))
        go_ret
        exact ⟨rfl, HB1.out.trans (HA.out.below.mono HB1.out.size)⟩
      · have HCF : Hid ((rowAt c.outs n).contains j = false) := by unfold Hid; simpa using hc
        have HEQ : Hid (f.outs = c.outs) := HFO.out (by simpa using hc)
        clear hc
        go_wp2_with (first | (go_at_call 10; go_must (refine (hereP_any SA a f _ HA.out.heap HF.out).mono ?_; rintro e w' ⟨rfl, hw⟩; have hw := hw.symm; subst hw; rw [HFB.out])) | (go_at_call 20; go_must (refine (in_range _ _ _ _).mono ?_; rintro e w' ⟨rfl, hw⟩; have hw := hw.symm; subst hw; rw [HIN.out])) | (go_at_call 21; go_must (refine (has_any _ (rowAt c.outs n) j _ HIU.out).mono ?_; rintro e w' ⟨rfl, hw⟩; have hw := hw.symm; subst hw; rw [HCF.out])))
        have HAD : Hid (Obj w1 wA.drew SA a f) := HA.out.later (Below.refl _ _).drew
        have HTD : Hid _ := HTA.out.later (Below.refl _ _).drew
        clear HA HTA
        go_region_with (first
          | (go_at_call 9; go_must (refine (heapP_any SA a f _ HAD.out.heap HF.out.mid).mono ?_; rintro e wB ⟨aoB, coB, arB, crB, rfl, h3, h4, hbB⟩; have HOB : Hid (Obj w1 wB SA a f) := HAD.out.later hbB; have HTB : Hid _ := HTD.out.later hbB; obtain ⟨hz0, hz1⟩ := HTB.out.cells; rw [HEQ.out] at h3 ⊢; have hfl := field_outs (.slice aoB c.outs.length coB) (.slice arB f.roots.length crB) wB; have HRB : Hid (IsRows wB (.slice aoB c.outs.length coB) c.outs) := h3.isRows; clear h3 h4 hbB))
          | (go_at_call 22; go_must (refine (rows_same _ _ c.outs _ HRB.out HTB.out.rows.ownR.isRows).mono ?_; rintro e wC ⟨rfl, q, rfl⟩)))
        all_goals (
          go_wp2
          go_ret
          exact ⟨rfl, below_drewN (HB1.out.trans (HOB.out.below.mono HB1.out.size)) _⟩))

theorem countBack_own : ownKnob Try.prog.godebug = none := by kernel_rfl
theorem countBack_laidOut : laidOutB Try.prog = true := by kernel_rfl

set_option maxRecDepth 100000 in
theorem countBack_lifted (os : Os) (started : os.Started) (H : Type) (enc : TypeId × Value → H) :
    ReturnsInHanded {} Try.checked os 5 .any (Rows.countBackSpec.pre6 enc Try.prog Try.f5 Rows.countBackRow.domain false) (Rows.countBackSpec.post enc Try.prog Try.f5 false true false false) := by
  refine returnsInHanded_of_change (C := Try.checked) countBack_own started (by kernel_rfl) Try.func5
    (ChangeSpec.witness6 (enc := enc) (C := Try.checked) false ⟨#[], #[.slice none 0 0, .int .i64 0, .int .i64 0], []⟩ 8 (by kernel_rfl) (by kernel_rfl) (by kernel_rfl) (by kernel_rfl)) ?_
  intro W base args ds gs before hval0 hW _ _
  have hval : ∀ (j : Nat) t v, Try.f5.params[j]? = some t → args[j]? = some v → Value.okWide Try.prog W .any base t v := hval0
  have hW' : DataW.Whole enc Try.prog Try.f5.params.toList Rows.countBackSpec.vars false W args.toList ds gs before := hW
  obtain ⟨p, q, hA0, hV, rfl, hfz, hnd⟩ := hW
  have hA : DataW.TrodAll enc Try.prog W 0 (fun _ => true) true Try.f5.params.toList args.toList ds p := hA0
  rw [Try.params5] at hA hval
  obtain ⟨v0, vs0, d0, ds0, p0, q0, hargs, rfl, rfl, h0, r0⟩ := trodAll_cons hA
  obtain ⟨v1, vs1, d1, ds1, p1, q1, rfl, rfl, rfl, h1, r1⟩ := trodAll_cons r0
  obtain ⟨v2, vs2, d2, ds2, p2, q2, rfl, rfl, rfl, h2, r2⟩ := trodAll_cons r1
  obtain ⟨rfl, rfl, rfl⟩ := trodAll_nil r2
  obtain rfl : args = #[v0, v1, v2] := by cases args; simp_all
  obtain ⟨rfl, rfl⟩ := trodVars_none hV
  obtain ⟨n1, rfl, rfl, rfl, wn1⟩ := open_int Try.underlying3 (hval 1 3 v1 rfl rfl) h1
  obtain ⟨n2, rfl, rfl, rfl, wn2⟩ := open_int Try.underlying3 (hval 2 3 v2 rfl rfl) h2
  obtain ⟨l0, hl0⟩ := arg_rows (hval 0 22 v0 rfl rfl) h0
  clear hA0 hval0
  refine (cback_any v0 l0 n1 n2 W hl0).mono fun e W' ⟨he, hb⟩ => ?_
  subst he
  exact ⟨_, rfl, law_post hW' hb countBack_laidOut rfl (by kernel_rfl) (by kernel_rfl) Try.underlying4 rfl rfl rfl⟩

theorem countBack_holds : Rows.CountBackSaid :=
  OpenClaim.holds_of_wide 5 Try.f5 rfl rfl rfl rfl rfl rfl rfl ⟨rfl, rfl, rfl, rfl, rfl⟩ rfl rfl rfl rfl rfl (by kernel_rfl) Try.func5 (by kernel_rfl)
    (of_decide_eq_true (by kernel_rfl)) (by unfold Func.isWrapper; first | (rw [if_pos (by decide +kernel)]; kernel_rfl) | (rw [if_neg (by decide +kernel)]; exact ⟨rfl, rfl⟩))
    (fun os started H enc _ => countBack_lifted os started H enc)
end Go.Proofs.Ytmibnceadciidaa
