/- The walk of Heap. -/
import Derived.Test.YtmibnceadciidaaDoorCDo
import Derived.Test.YtmibnceadciidaaDoorSClone
import Derived.Test.YtmibnceadciidaaDoorStepL
namespace Go.Proofs.YtmibnceadciidaaDoor
set_option maxRecDepth 100000
open Go.RowKit Go.Sort

/-- Rows and roots in a box of their own, while they are made. -/
structure Made (w0 w : World) (B g : Nat) (v u : Value) (X : List (List Int)) (Y : List Int) : Prop where
  box : w.heap[g]? = some (.cells #[v, u] 45 (0, 0))
  rows : OwnR w B v X
  ints : OwnI w B u Y
  below : Below B w0 w
  le : B ≤ w0.heap.size
  ge : B ≤ g
section
variable {w0 w w1 : World} {B g : Nat} {v v' u x : Value} {X : List (List Int)} {Y r : List Int} {us : List Value} {o : Obj}
theorem Made.later (h : Made w0 w B g v u X Y) (hb : Below w.heap.size w w1) : Made w0 w1 B g v u X Y :=
  ⟨(hb.block g (Array.getElem?_eq_some_iff.1 h.box).1).trans h.box, h.rows.later hb, h.ints.later hb, h.below.trans (hb.mono (by have := h.below.size; have := h.le; omega)), h.le, h.ge⟩
theorem Made.append (h : Made w0 w B g v u X Y) (hl : us.length = X.length) (h2 : w.ownsRow B 25 1 v X.length us) (h3 : ∀ (j : Nat) (u : Value), us[j]? = some u → OwnI w B u (rowAt X j)) (hx : OwnI w B x r)
    (ha : w1.ownsRow B 25 1 v' (X.length + 1) (us ++ [x])) (hg : (w.alloc o).grownBy w1 v.ownBlock) : w1.heap[g]? = some (.cells #[v, u] 45 (0, 0)) ∧ Made w0 (w1.setCell ⟨g, 0, none⟩ v') B g v' u (X ++ [r]) Y := by
  have hle : B ≤ w.heap.size := by have := h.below.size; have := h.le; omega
  have R := ownR_append hl h2 h3 hx (Below.refl B w) hle ha hg
  have hgs := (Array.getElem?_eq_some_iff.1 h.box).1
  have hb : w1.heap[g]? = some (.cells #[v, u] 45 (0, 0)) := by rw [hg.block g (by simp; omega) (fun e => own_not h2 h.box (by decide) e.symm), heap_alloc_old _ _ hgs]; exact h.box
  have hi : OwnI w1 B u Y := OwnI.kept (World.ownsRow.alloc h.ints o) hg (apart_ri (World.ownsRow.alloc h2 o) (World.ownsRow.alloc h.ints o))
  obtain ⟨us1, a1, a2, a3⟩ := R.1
  refine ⟨hb, box_set0 _ hb, ⟨us1, a1, own_set a2 hb (by decide) _, fun j y hj => own_set (a3 j y hj) hb (by decide) _⟩, own_set hi hb (by decide) _, (h.below.trans R.2).setCell h.ge _, h.le, h.ge⟩
end
set_option maxHeartbeats 4000000 in
theorem heapP_any (S : Nat → Prop) (a : Nat) (c : KS) (w : World) (hw : CHeap w S a c) (hc : KMid c) :
    Calls Tryd.prog 18 #[.pointer (some ⟨a, 0, none⟩)] w fun e w' => ∃ ao co ar cr, e = .returned (.agg #[.slice ao c.outs.length co, .slice ar c.roots.length cr]) ∧ OwnR w' w.heap.size (.slice ao c.outs.length co) c.outs ∧ OwnI w' w.heap.size (.slice ar c.roots.length cr) c.roots ∧ Below w.heap.size w w' := by
  obtain ⟨vo, vr, us, h⟩ := hw
  obtain ⟨ao, co, ar, cr, rfl, rfl, hco, hcr, hlo, hlr⟩ := h.forms
  obtain ⟨hc0, hc1, _, _⟩ := box_cells h.box
  have HH : Hid (CH w S a c (.slice ao c.outs.length co) (.slice ar c.roots.length cr) us) := h
  have HRI : Hid (IsInts w (.slice ar c.roots.length cr) c.roots) := h.roots.isInts
  have has : a < w.heap.size := h.lt a h.at_
  have hr12 : c.roots.length ≤ 100 := by have := hc.roots; omega
  have hl12 : c.outs.length ≤ 12 := hc.outs12
  have HROWS : Hid (∀ r, r ∈ c.outs → r.length ≤ 4) := hc.rows
  obtain ⟨i0, hi, hz0, hz1, hz2⟩ := info_parts info_row
  have HI : Hid (Tryd.prog.info? 25 = some i0 ∧ i0.zero = some (.slice none 0 0) ∧ i0.size = 1 ∧ i0.bytes = 24) := ⟨hi, hz0, hz1, hz2⟩
  clear h hc hi hz0 hz1 hz2
  go_enter Tryd.func18, Tryd.ntmps18
  go_wp2_with (go_at_call 32; fail)
  have HS1 : Hid ((w.alloc (.cells #[.slice none 0 0, .slice none 0 0] 45)).heap.size = w.heap.size + 1) := by unfold Hid; simp
  have HB1 : Hid (Below w.heap.size w (w.alloc (.cells #[.slice none 0 0, .slice none 0 0] 45))) := (Below.refl _ w).alloc (Nat.le_refl _) _
  have HX1 : Hid ((w.alloc (.cells #[.slice none 0 0, .slice none 0 0] 45)).heap[w.heap.size]? = some (.cells #[.slice none 0 0, .slice none 0 0] 45 (0, 0))) := heap_alloc_new w _
  generalize (w.alloc (.cells #[.slice none 0 0, .slice none 0 0] 45)) = w1 at *
  refine (clone_any _ c.roots _ (HRI.out.below HB1.out) hr12).mono ?_
  rintro e w2 ⟨u, rfl, hu, hb2⟩
  obtain ⟨aU, cU, rfl⟩ := OwnI.form hu
  have HU : Hid (OwnI w2 (w.heap.size + 1) (.slice aU c.roots.length cU) c.roots) := ownI_mono hu (by have := HS1.out; omega)
  have HB2 : Hid (Below w.heap.size w w2) := HB1.out.trans (hb2.mono (by have := HS1.out; omega))
  have HX2 : Hid (w2.heap[w.heap.size]? = some (.cells #[.slice none 0 0, .slice none 0 0] 45 (0, 0))) := (hb2.block _ (by have := HS1.out; omega)).trans HX1.out
  have hs2 : w.heap.size + 1 ≤ w2.heap.size := by have := hb2.size; have := HS1.out; omega
  have HCH : Hid (CH w2 S a c (.slice ao c.outs.length co) (.slice ar c.roots.length cr) us) := HH.out.kept HB2.out.size fun k hk => HB2.out.block k (HH.out.lt k hk)
  obtain ⟨i1, i2, i3, i4⟩ := box_cells (heap_alloc_new w2 (.cells #[.slice none 0 0, .slice aU c.roots.length cU] 45))
  have hd0 : (w2.alloc (.cells #[.slice none 0 0, .slice aU c.roots.length cU] 45)).cell? ⟨a, 0, none⟩ = some (.slice ao c.outs.length co) := Lib.cell?_alloc_some _ (box_cells HCH.out.box).1
  have HB3 : Hid (Below w.heap.size w (w2.alloc (.cells #[.slice none 0 0, .slice aU c.roots.length cU] 45))) := HB2.out.alloc (by omega) _
  have HM3 : Hid (Made w2 (w2.alloc (.cells #[.slice none 0 0, .slice aU c.roots.length cU] 45)) (w.heap.size + 1) w2.heap.size (.slice none 0 0) (.slice aU c.roots.length cU) (c.outs.take 0) c.roots) :=
    ⟨heap_alloc_new w2 _, OwnR.nil _ _, World.ownsRow.alloc HU.out _, (Below.refl _ _).alloc hs2 _, hs2, hs2⟩
  have HX3 : Hid ((w2.alloc (.cells #[.slice none 0 0, .slice aU c.roots.length cU] 45)).heap[w.heap.size]? = some (.cells #[.slice none 0 0, .slice none 0 0] 45 (0, 0))) := (heap_alloc_old _ _ (by omega)).trans HX2.out
  have HCR : Hid (IsRows (w2.alloc (.cells #[.slice none 0 0, .slice aU c.roots.length cU] 45)) (.slice ao c.outs.length co) c.outs) := HH.out.isRows.below HB3.out
  clear hu hb2 hc0 hc1 HX1 HB1 i1 i2 i3 i4
  go_wp2
  clear hd0
  generalize (w2.alloc (.cells #[.slice none 0 0, .slice aU c.roots.length cU] 45)) = w3 at *
  go_loopw [17] (fun i wr => ∃ (k : Nat) (v : Value), k ≤ c.outs.length ∧ i = .int .i64 (k : Nat) ∧ Hid (Made w2 wr (w.heap.size + 1) w2.heap.size v (.slice aU c.roots.length cU) (c.outs.take k) c.roots)) (fun i _ => c.outs.length - (intOf i).toNat)
  case atStart => exact ⟨0, _, Nat.zero_le _, rfl, HM3⟩
  case round =>
    obtain ⟨k, v, hk, rfl, HM⟩ := hrel
    have HBW : Hid (Below w.heap.size w wr) := HB2.out.trans (HM.out.below.mono (by omega))
    by_cases hlt : k < c.outs.length
    · have hlt' : (k : Int) < (c.outs.length : Int) := by omega
      obtain ⟨b, off, rfl, hlc, hbs, au, cu, hcu0, hiu, hmm, hcum⟩ := HH.out.isRows.at hlt
      have hcu := (HBW.out.cell (p := ⟨b, off + k, none⟩) hbs).trans hcu0
      have HIU : Hid (IsInts wr (.slice au (rowAt c.outs k).length cu) (rowAt c.outs k)) := hiu.below HBW.out
      have HCL : Hid _ := clone_any (.slice au (rowAt c.outs k).length cu) (rowAt c.outs k) wr.drew HIU.out (by have := HROWS.out _ (rowAt_mem hlt); omega)
      have HLK : Hid (c.outs.take (k+1) = c.outs.take k ++ [rowAt c.outs k]) := by
        unfold Hid rowAt
        rw [List.take_succ_eq_append_getElem hlt, List.getElem?_eq_getElem hlt]; rfl
      have HLL : Hid ((c.outs.take k).length = k) := by unfold Hid; simp; omega
      obtain ⟨aX, cX, hfX⟩ := HM.out.rows.form
      rw [HLL.out] at hfX
      subst hfX
      obtain ⟨hx0, hx1, hf0, hf1⟩ := box_cells HM.out.box
      have HMD : Hid (Made w2 wr.drew (w.heap.size + 1) w2.heap.size (.slice aX k cX) (.slice aU c.roots.length cU) (c.outs.take k) c.roots) := HM.out.later (Below.refl _ _).drew
      have HWS : Hid (w.heap.size + 1 ≤ wr.drew.heap.size) := Nat.le_trans hs2 HMD.out.below.size
      clear hiu hcu0 HM
      go_wp2
      go_region_law (first
        | (refine step_call rfl 32 _ _ rfl #[.slice au (rowAt c.outs k).length cu] (by first | rfl | (simp [Act.eval]; done) | simp [Act.eval, Act.put]) (enters_of Tryd.func32 (by kernel_rfl) rfl _) HCL.out ?_; rintro e W5 ⟨u5, rfl, hu5, hb5⟩; refine ⟨_, rfl, ?_⟩; have HM5 : Hid _ := HMD.out.later hb5; obtain ⟨a5, c5, rfl⟩ := OwnI.form hu5; have HU5 : Hid (OwnI W5 (w.heap.size + 1) (.slice a5 (rowAt c.outs k).length c5) (rowAt c.outs k)) := ownI_mono hu5 HWS.out; obtain ⟨us5, hus, hown, hrow⟩ := HM5.out.rows; have HUS : Hid _ := hus; have HOWN : Hid _ := hown; have HROW : Hid _ := hrow; have hs5 : w.heap.size + 1 ≤ W5.heap.size := (by have := HM5.out.below.size; omega); clear hus hown hrow hu5 hb5; obtain ⟨hy0, hy1, hg0, hg1⟩ := box_cells HM5.out.box; have hya := Lib.cell?_alloc_some (.cells #[.slice a5 (rowAt c.outs k).length c5] 25) hy0)
        | (refine step_append_own_at rfl (.tmp 22) (.tmp 25) 22 rfl (w.heap.size + 1) 25 i0 (.slice none 0 0) 1 24 Tryd.underlying22 HI.out.1 HI.out.2.1 HI.out.2.2.1 HI.out.2.2.2 rfl (by decide) (.slice aX k cX) k us5 (by first | rfl | (simp [Act.eval]; done) | simp [Act.eval, Act.put]) (World.ownsRow.alloc (by have h := HOWN.out; rw [HLL.out] at h; exact h) _) ⟨W5.heap.size, 0, none⟩ 1 1 [.slice a5 (rowAt c.outs k).length c5] (by first | rfl | (simp [Act.eval]; done) | simp [Act.eval, Act.put]) rfl (by exact new_one _ _ _) (ownI_one HU5.out) (by unfold maxLen; omega) (by omega) (by show _ ≤ (W5.alloc _).heap.size; rw [World.size_alloc]; omega) ?_; intro v6 w6 hown' hgrow hat; have HEN : Hid _ := HM5.out.append HUS.out HOWN.out HROW.out HU5.out (by rw [HLL.out]; exact hown') hgrow; clear hown' hgrow hat; obtain ⟨a6, c6, hf6⟩ := HEN.out.2.rows.form; rw [List.length_append, HLL.out, List.length_singleton] at hf6; subst hf6; obtain ⟨hz0, hz1, hh0, hh1⟩ := box_cells HEN.out.1))
      all_goals (
        have HXE : Hid (Made w2 (w6.setCell ⟨w2.heap.size, 0, none⟩ (.slice a6 (k + 1) c6)) (w.heap.size + 1) w2.heap.size (.slice a6 (k + 1) c6) (.slice aU c.roots.length cU) (c.outs.take (k+1)) c.roots) := by unfold Hid; rw [HLK.out]; exact HEN.out.2
        clear HEN HM5 HUS HOWN HROW HU5 hy0 hy1 hg0 hg1 hya hz0 hz1 hh0 hh1 hx0 hx1 hf0 hf1 hcu
        go_wp2
        go_roundw
        case rel => exact ⟨k + 1, _, by omega, by go_num, HXE⟩
        case measure => simp [intOf]; omega)
    · have hlt' : ¬ (k : Int) < (c.outs.length : Int) := by omega
      have HML : Hid (Made w2 wr (w.heap.size + 1) w2.heap.size v (.slice aU c.roots.length cU) c.outs c.roots) := by have := HM.out; rwa [List.take_of_length_le (by omega)] at this
      obtain ⟨aX, cX, hfX⟩ := HML.out.rows.form
      subst hfX
      obtain ⟨hx0, hx1, hf0, hf1⟩ := box_cells HML.out.box
      have HXR : Hid (wr.heap[w.heap.size]? = some (.cells #[.slice none 0 0, .slice none 0 0] 45 (0, 0))) := (HML.out.below.block _ (by omega)).trans HX2.out
      obtain ⟨hr0, hr1, hrf0, hrf1⟩ := box_cells HXR.out
      have HEND : Hid _ := heap_end (w0 := w) HXR.out HML.out.rows HML.out.ints (by omega) (by omega) HBW.out
      clear HM
      go_wp2
      refine bodyPost_ret_by (results_cell_row Tryd.results18 _ _ w.heap.size 45 #[.slice aX c.outs.length cX, .slice aU c.roots.length cU] (0, 0) _ rfl HEND.out.1 Tryd.underlying45 rfl (by kernel_rfl)) rfl ?_
      exact ⟨_, _, _, _, rfl, HEND.out.2.1.1.mono (by omega), ownI_mono HEND.out.2.1.2 (by omega), HEND.out.2.2⟩
end Go.Proofs.YtmibnceadciidaaDoor
