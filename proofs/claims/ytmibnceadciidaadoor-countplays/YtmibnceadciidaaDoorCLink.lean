/- The walks of Link and Cut. -/
import Derived.Test.YtmibnceadciidaaDoorCDo
import Derived.Test.YtmibnceadciidaaDoorStepL
namespace Go.Proofs.YtmibnceadciidaaDoor
set_option maxRecDepth 100000
open Go.RowKit Go.Sort

theorem doK_none2 {c : KS} {kind i j : Int} (h0 : 2 < kind) (h : c.is j = false) : c.doK kind i j = (c, 0, 1) := by
  unfold KS.doK
  rw [if_neg (by omega), if_pos (.inr ⟨h0, h⟩)]
theorem grown_drawn {w w0 w1 : World} {o : Obj} {row : Option Nat} (h : w0.grownBy w1 row) (h1 : w0.os = w.os) (h2 : w0.tape = w.tape) (h3 : w0.output = w.output) (h4 : w0.heap = (w.alloc o).heap) : w.grownBy w1 row :=
  ⟨h.os.trans h1, h.tape.trans h2, h.output.trans h3, by have := h.size; rw [h4] at this; simp at this; omega, fun k hk hn => by rw [h.block k (by rw [h4]; simp; omega) hn, h4, heap_alloc_old _ _ hk]⟩
set_option maxHeartbeats 4000000 in
theorem linkP_any (S : Nat → Prop) (a : Nat) (c : KS) (i j : Int) (w : World) (hw : CHeap w S a c) (hc : KGood c) :
    Calls Tryd.prog 10 #[.pointer (some ⟨a, 0, none⟩), .int .i64 i, .int .i64 j] w fun e w' => e = .returned (errV (c.doK 3 i j).2.2) ∧ Done w S a (c.doK 3 i j).1 w' := by
  have HW : Hid (CHeap w S a c) := hw
  have HC : Hid (KGood c) := hc
  have HG : Hid (∀ i, decide (c.count i = 0) = !c.is i) := gone_is hc
  cases hb : c.is i with
  | false =>
    have HB : Hid (c.is i = false) := hb
    clear hb hc hw
    go_enter Tryd.func10, Tryd.ntmps10
    go_wp2_with (go_at_call 26; go_must (refine (gone_any S a c i _ HW.out HC.out.mid).mono ?_; rintro e w' ⟨rfl, hw⟩; have hw := hw.symm; subst hw; rw [HG.out, HB.out]; simp only [Bool.not_false]))
    go_ret
    rw [doK_none (by decide) HB.out]
    exact ⟨rfl, S, HW.out, Stp.refl _ _⟩
  | true =>
  cases hbj : c.is j with
  | false =>
    have HB : Hid (c.is i = true) := hb
    have HBJ : Hid (c.is j = false) := hbj
    have hij : i ≠ j := by rintro rfl; rw [hb] at hbj; exact Bool.noConfusion hbj
    clear hb hc hw hbj
    go_enter Tryd.func10, Tryd.ntmps10
    go_wp2_with (first | (go_at_call_of 26 (Value.int .i64 i); go_must (refine (gone_any S a c i _ HW.out HC.out.mid).mono ?_; rintro e w' ⟨rfl, hw⟩; have hw := hw.symm; subst hw; rw [HG.out, HB.out]; simp only [Bool.not_true])) | (go_at_call_of 26 (Value.int .i64 j); go_must (refine (gone_any S a c j _ HW.out HC.out.mid).mono ?_; rintro e w' ⟨rfl, hw⟩; have hw := hw.symm; subst hw; rw [HG.out, HBJ.out]; simp only [Bool.not_false])))
    go_ret
    rw [doK_none2 (by decide) HBJ.out]
    exact ⟨rfl, S, HW.out, Stp.refl _ _⟩
  | true =>
    have HB : Hid (c.is i = true) := hb
    have HBJ : Hid (c.is j = true) := hbj
    have hlt := is_lt hb
    obtain ⟨n, rfl⟩ : ∃ n : Nat, i = (n : Int) := ⟨i.toNat, by omega⟩
    obtain ⟨vo, vr, us, h⟩ := hw
    obtain ⟨ao, co, ar, cr, rfl, rfl, hco, hcr, hlo, hlr⟩ := h.forms
    have HH : Hid (CH w S a c (.slice ao c.outs.length co) (.slice ar c.roots.length cr) us) := h
    obtain ⟨hc0, _, hf0, _⟩ := box_cells h.box
    have hno : n < c.outs.length := by rw [hc.even]; omega
    have hni : (n : Int) < (c.outs.length : Int) := by omega
    obtain ⟨g, u, rfl, hu, hcell, hfr, hgs, hown⟩ := h.row hno
    obtain ⟨au, cu, rfl⟩ := OwnI.form hown
    have HOW0 : Hid (OwnI w 0 (.slice au (rowAt c.outs n).length cu) (rowAt c.outs n)) := hown
    have HU : Hid (us[n]? = some (.slice au (rowAt c.outs n).length cu)) := hu
    have hcu : (rowAt c.outs n).length ≤ cu := by
      rcases hown.2 with ⟨e, h0⟩ | ⟨_, _, _, e, _, _, hn, _⟩
      · simp only [Value.slice.injEq] at e; omega
      · simp only [Value.slice.injEq] at e; omega
    have HROW : Hid (c.row (n : Int) = rowAt c.outs n) := by unfold Hid KS.row rowAt; rw [Int.toNat_natCast]
    by_cases h4 : 4 ≤ (rowAt c.outs n).length
    · have HD : Hid (c.doK 3 (n : Int) j = (c, 0, 4)) := by
        unfold Hid KS.doK
        rw [if_neg (by decide), if_neg (by rintro (e | e); rw [hb] at e; exact Bool.noConfusion e; rw [hbj] at e; exact Bool.noConfusion e.2), if_neg (by decide), if_neg (by decide), if_pos rfl, HROW.out, if_pos h4]
      have h4' : (4 : Int) ≤ ((rowAt c.outs n).length : Int) := by omega
      clear h hb hbj hc hown hu h4 hlt
      go_enter Tryd.func10, Tryd.ntmps10
      go_wp2_with (first | (go_at_call_of 26 (Value.int .i64 (n : Int)); go_must (refine (gone_any S a c (n : Int) _ HW.out HC.out.mid).mono ?_; rintro e w' ⟨rfl, hw⟩; have hw := hw.symm; subst hw; rw [HG.out, HB.out]; simp only [Bool.not_true])) | (go_at_call_of 26 (Value.int .i64 j); go_must (refine (gone_any S a c j _ HW.out HC.out.mid).mono ?_; rintro e w' ⟨rfl, hw⟩; have hw := hw.symm; subst hw; rw [HG.out, HBJ.out]; simp only [Bool.not_true])))
      go_ret
      rw [HD.out]
      exact ⟨rfl, S, HW.out, Stp.refl _ _⟩
    · have HD : Hid (c.doK 3 (n : Int) j = (⟨c.outs.set n (rowAt c.outs n ++ [j]), c.roots, c.here⟩, 0, 0)) := by
        have hg := link_good hc hb hbj (by rw [HROW.out]; omega)
        unfold Hid KS.doK
        rw [if_neg (by decide), if_neg (by rintro (e | e); rw [hb] at e; exact Bool.noConfusion e; rw [hbj] at e; exact Bool.noConfusion e.2), if_neg (by decide), if_neg (by decide), if_pos rfl, if_neg (by rw [HROW.out]; exact h4), swept_settled hg.even hg.few hg.good hg.settled, HROW.out]
        rfl
      have h4' : ¬ (4 : Int) ≤ ((rowAt c.outs n).length : Int) := by omega
      have h4n : (rowAt c.outs n).length < 4 := by omega
      obtain ⟨i0, hi, hz0, hz1, hz2⟩ := info_parts Tryd.info3
      have HI : Hid (Tryd.prog.info? 3 = some i0 ∧ i0.zero = some (.int .i64 0) ∧ i0.size = 1 ∧ i0.bytes = 8) := ⟨hi, hz0, hz1, hz2⟩
      have HOR : Hid (w.ownsRow 0 3 1 (.slice au (rowAt c.outs n).length cu) (rowAt c.outs n).length ((rowAt c.outs n).map (Value.int .i64))) := hown
      have HAN : Hid ((.slice au (rowAt c.outs n).length cu : Value).ownBlock ≠ some a) := own_not hown h.box (by decide)
      have HGN : Hid ((.slice au (rowAt c.outs n).length cu : Value).ownBlock ≠ some g) := fun e => apart_type h.outs hown (by decide) g rfl e
      have has : a < w.heap.size := h.lt a h.at_
      clear h hb hbj hc hown hu h4 hlt hi hz0 hz1 hz2
      go_enter Tryd.func10, Tryd.ntmps10
      go_wp2_with (first | (go_at_call_of 26 (Value.int .i64 (n : Int)); go_must (refine (gone_any S a c (n : Int) _ HW.out HC.out.mid).mono ?_; rintro e w' ⟨rfl, hw⟩; have hw := hw.symm; subst hw; rw [HG.out, HB.out]; simp only [Bool.not_true])) | (go_at_call_of 26 (Value.int .i64 j); go_must (refine (gone_any S a c j _ HW.out HC.out.mid).mono ?_; rintro e w' ⟨rfl, hw⟩; have hw := hw.symm; subst hw; rw [HG.out, HBJ.out]; simp only [Bool.not_true])))
      have hca : (w.alloc (.cells #[.int .i64 j] 3)).cell? ⟨a, 0, none⟩ = some (.slice (some ⟨g, 0, none⟩) c.outs.length co) := Lib.cell?_alloc_some _ hc0
      have hcb : (w.alloc (.cells #[.int .i64 j] 3)).cell? ⟨g, n, none⟩ = some (.slice au (rowAt c.outs n).length cu) := Lib.cell?_alloc_some _ hcell
      go_region_law (refine step_append_own_at rfl (.tmp 37) (.tmp 39) 25 rfl 0 3 i0 (.int .i64 0) 1 8 Tryd.underlying25 HI.out.1 HI.out.2.1 HI.out.2.2.1 HI.out.2.2.2 rfl (by decide) (.slice au (rowAt c.outs n).length cu) (rowAt c.outs n).length ((rowAt c.outs n).map (Value.int .i64)) (by first | rfl | (simp [Act.eval]; done) | simp [Act.eval, Act.put]) (World.ownsRow.alloc (w := w.drew) HOR.out _) ⟨w.heap.size, 0, none⟩ 1 1 [.int .i64 j] (by first | rfl | (simp [Act.eval]; done) | simp [Act.eval, Act.put]) rfl (by exact new_one _ _ _) (one_cell _) (by unfold maxLen; omega) (by omega) (by omega) ?_; intro vo' w5 hown' hgrow hat; have HGR : Hid (w.grownBy w5 _) := grown_drawn hgrow rfl rfl rfl rfl; have how := own_more hown'; obtain ⟨a9, c9, e9⟩ := OwnI.form how; subst e9; have HOW : Hid _ := how; have HAT : Hid _ := hat_of (w := w) (o := .cells #[.int .i64 j] 3) hat; have hc5 := HGR.out.cell hc0 (fun e => HAN.out e.symm); have hc6 := HGR.out.cell hcell (fun e => HGN.out e.symm); have hf6 := (World.frozen?_of_block (a := ⟨g, n, none⟩) (HGR.out.block g hgs (fun e => HGN.out e.symm))).trans hfr; clear hgrow hown' how hat)
      all_goals (
        go_wp2
        go_ret
        rw [HD.out]
        obtain ⟨k1, k2⟩ := HH.out.setRow HU.out HGR.out HOW.out HAT.out
        rw [show (rowAt c.outs n ++ [j]).length = (rowAt c.outs n).length + 1 by simp] at k1 k2
        exact ⟨rfl, _, ⟨_, _, _, k1⟩, k2⟩)
set_option maxHeartbeats 4000000 in
theorem cutP_any (S : Nat → Prop) (a : Nat) (c : KS) (i j : Int) (w : World) (hw : CHeap w S a c) (hc : KGood c) :
    Calls Tryd.prog 11 #[.pointer (some ⟨a, 0, none⟩), .int .i64 i, .int .i64 j] w fun e w' => e = .returned (errV (c.doK 4 i j).2.2) ∧ Done w S a (c.doK 4 i j).1 w' := by
  have HW : Hid (CHeap w S a c) := hw
  have HC : Hid (KGood c) := hc
  have HG : Hid (∀ i, decide (c.count i = 0) = !c.is i) := gone_is hc
  cases hb : c.is i with
  | false =>
    have HB : Hid (c.is i = false) := hb
    clear hb hc hw
    go_enter Tryd.func11, Tryd.ntmps11
    go_wp2_with (go_at_call 26; go_must (refine (gone_any S a c i _ HW.out HC.out.mid).mono ?_; rintro e w' ⟨rfl, hw⟩; have hw := hw.symm; subst hw; rw [HG.out, HB.out]; simp only [Bool.not_false]))
    go_ret
    rw [doK_none (by decide) HB.out]
    exact ⟨rfl, S, HW.out, Stp.refl _ _⟩
  | true =>
  cases hbj : c.is j with
  | false =>
    have HB : Hid (c.is i = true) := hb
    have HBJ : Hid (c.is j = false) := hbj
    have hij : i ≠ j := by rintro rfl; rw [hb] at hbj; exact Bool.noConfusion hbj
    clear hb hc hw hbj
    go_enter Tryd.func11, Tryd.ntmps11
    go_wp2_with (first | (go_at_call_of 26 (Value.int .i64 i); go_must (refine (gone_any S a c i _ HW.out HC.out.mid).mono ?_; rintro e w' ⟨rfl, hw⟩; have hw := hw.symm; subst hw; rw [HG.out, HB.out]; simp only [Bool.not_true])) | (go_at_call_of 26 (Value.int .i64 j); go_must (refine (gone_any S a c j _ HW.out HC.out.mid).mono ?_; rintro e w' ⟨rfl, hw⟩; have hw := hw.symm; subst hw; rw [HG.out, HBJ.out]; simp only [Bool.not_false])))
    go_ret
    rw [doK_none2 (by decide) HBJ.out]
    exact ⟨rfl, S, HW.out, Stp.refl _ _⟩
  | true =>
    have HB : Hid (c.is i = true) := hb
    have HBJ : Hid (c.is j = true) := hbj
    have hlt := is_lt hb
    have hltj := is_lt hbj
    obtain ⟨n, rfl⟩ : ∃ n : Nat, i = (n : Int) := ⟨i.toNat, by omega⟩
    obtain ⟨x, rfl⟩ : ∃ n : Nat, j = (n : Int) := ⟨j.toNat, by omega⟩
    obtain ⟨vo, vr, us, h⟩ := hw
    obtain ⟨ao, co, ar, cr, rfl, rfl, hco, hcr, hlo, hlr⟩ := h.forms
    have HH : Hid (CH w S a c (.slice ao c.outs.length co) (.slice ar c.roots.length cr) us) := h
    obtain ⟨hc0, _, hf0, _⟩ := box_cells h.box
    have hno : n < c.outs.length := by rw [hc.even]; omega
    have hni : (n : Int) < (c.outs.length : Int) := by omega
    obtain ⟨g, u, rfl, hu, hcell, hfr, hgs, hown⟩ := h.row hno
    have HOW0 : Hid (OwnI w 0 u (rowAt c.outs n)) := hown
    have HCF : Hid (w.cell? ⟨g, n, none⟩ = some u ∧ w.frozen? ⟨g, n, none⟩ = false) := ⟨hcell, hfr⟩
    have HU : Hid (us[n]? = some u) := hu
    have HROW : Hid (c.row (n : Int) = rowAt c.outs n) := by unfold Hid KS.row rowAt; rw [Int.toNat_natCast]
    have HGN : Hid (u.ownBlock ≠ some g) := fun e => apart_type h.outs hown (by decide) g rfl e
    by_cases hr : (x : Int) ∈ rowAt c.outs n
    · have HD : Hid (c.doK 4 (n : Int) (x : Int) = ((⟨c.outs.set n ((rowAt c.outs n).erase (x : Int)), c.roots, c.here⟩ : KS).swept, 0, 0)) := by
        unfold Hid KS.doK
        rw [if_neg (by decide), if_neg (by rintro (e | e); rw [hb] at e; exact Bool.noConfusion e; rw [hbj] at e; exact Bool.noConfusion e.2), if_neg (by decide), if_neg (by decide), if_neg (by decide), if_pos rfl, HROW.out, if_pos hr]
        rfl
      have HUN := unlink hc hb (x : Int)
      rw [HROW.out] at HUN
      have HUL : Hid (KMid ⟨c.outs.set n ((rowAt c.outs n).erase (x : Int)), c.roots, c.here⟩ ∧ ∀ y, (⟨c.outs.set n ((rowAt c.outs n).erase (x : Int)), c.roots, c.here⟩ : KS).is y = true → (⟨c.outs.set n ((rowAt c.outs n).erase (x : Int)), c.roots, c.here⟩ : KS).abs.Unp y → y ∈ [(x : Int)]) := HUN
      have HR : Hid ((x : Int) ∈ rowAt c.outs n) := hr
      have HX : Hid (x < c.here.length) := by unfold Hid; omega
      clear h hb hbj hc hown hu hlt hltj HUN hr hcell hfr
      go_enter Tryd.func11, Tryd.ntmps11
      go_wp2_with (first | (go_at_call_of 26 (Value.int .i64 (n : Int)); go_must (refine (gone_any S a c (n : Int) _ HW.out HC.out.mid).mono ?_; rintro e w' ⟨rfl, hw⟩; have hw := hw.symm; subst hw; rw [HG.out, HB.out]; simp only [Bool.not_true])) | (go_at_call_of 26 (Value.int .i64 (x : Int)); go_must (refine (gone_any S a c (x : Int) _ HW.out HC.out.mid).mono ?_; rintro e w' ⟨rfl, hw⟩; have hw := hw.symm; subst hw; rw [HG.out, HBJ.out]; simp only [Bool.not_true])) | (go_at_call 27; go_must (refine (take_hit a ⟨g, n, none⟩ S ⟨c.outs.set n ((rowAt c.outs n).erase (x : Int)), c.roots, c.here⟩ u (rowAt c.outs n) x _ HCF.out.1 HCF.out.2 HOW0.out HGN.out HR.out HX.out HUL.out.1 (fun u' w2 h1 h2 h3 => ⟨_, ⟨_, _, _, (HH.out.setRow HU.out h2 h1 (fun k hk => .inl (by rw [← h3]; exact hk))).1⟩, (HH.out.setRow HU.out h2 h1 (fun k hk => .inl (by rw [← h3]; exact hk))).2⟩)).mono ?_; rintro e w3 ⟨rfl, d, S3, k1, k2, k3⟩)))
      go_ret
      rw [HD.out, ← sets_swept HUL.out.1 HUL.out.2 k3]
      exact ⟨rfl, S3, k1, k2⟩
    · have HD : Hid (c.doK 4 (n : Int) (x : Int) = (c, 0, 5)) := by
        unfold Hid KS.doK
        rw [if_neg (by decide), if_neg (by rintro (e | e); rw [hb] at e; exact Bool.noConfusion e; rw [hbj] at e; exact Bool.noConfusion e.2), if_neg (by decide), if_neg (by decide), if_neg (by decide), if_pos rfl, HROW.out, if_neg hr]
      have HR : Hid ((x : Int) ∉ rowAt c.outs n) := hr
      clear h hb hbj hc hown hu hlt hltj hr hcell hfr
      go_enter Tryd.func11, Tryd.ntmps11
      go_wp2_with (first | (go_at_call_of 26 (Value.int .i64 (n : Int)); go_must (refine (gone_any S a c (n : Int) _ HW.out HC.out.mid).mono ?_; rintro e w' ⟨rfl, hw⟩; have hw := hw.symm; subst hw; rw [HG.out, HB.out]; simp only [Bool.not_true])) | (go_at_call_of 26 (Value.int .i64 (x : Int)); go_must (refine (gone_any S a c (x : Int) _ HW.out HC.out.mid).mono ?_; rintro e w' ⟨rfl, hw⟩; have hw := hw.symm; subst hw; rw [HG.out, HBJ.out]; simp only [Bool.not_true])) | (go_at_call 27; go_must (refine (take_miss a ⟨g, n, none⟩ u (rowAt c.outs n) (x : Int) _ HCF.out.1 HOW0.out.isInts HR.out).mono ?_; rintro e w' ⟨rfl, hw⟩; have hw := hw.symm; subst hw)))
      go_ret
      rw [HD.out]
      exact ⟨rfl, S, HW.out, Stp.refl _ _⟩
end Go.Proofs.YtmibnceadciidaaDoor
