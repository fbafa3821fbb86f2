/- The walk of CountPlays. -/
import Derived.Test.YtmibnceadciidaaDoorPEnv
import Derived.Test.YtmibnceadciidaaDoorRDoA
import Derived.Test.YtmibnceadciidaaDoorCHeapP
import Derived.Test.YtmibnceadciidaaDoorHereL
import Derived.Test.YtmibnceadciidaaDoorRefSet
import Derived.Test.YtmibnceadciidaaDoorInRange
import Derived.Test.YtmibnceadciidaaDoorEnds
import Derived.Deep.CutBlock
import Derived.Deep.RegionWith
import Derived.Deep.DrawnRows
namespace Go.Proofs.YtmibnceadciidaaDoor
set_option maxRecDepth 100000
open Go.ChangeShapes Go.WideShapes Go.ChangeAt Go.RowKit Go.Sort

theorem count_out (S : Nat → Prop) (a : Nat) (c : KS) (x : Int) (w : World) (hw : CHeap w S a c) (hc : KGood c) (hx : x < 0 ∨ 12 ≤ x) :
    Calls Tryd.prog 14 #[.pointer (some ⟨a, 0, none⟩), .int .i64 x] w fun e w' => e = .returned (.int .i64 0) ∧ w' = w := by
  have h0 : c.count x = 0 := by
    have hg := good_count hc x
    have hn : ¬ c.is x = true := fun e => by have := is_lt e; have := hc.few; omega
    have : ¬ 0 < c.count x := fun h => hn (hg.1 h)
    omega
  refine (countP_any S a c x w hw hc.mid).mono ?_
  rintro e w' ⟨rfl, rfl⟩
  rw [h0]
  exact ⟨rfl, rfl⟩
attribute [local go_sem ↓] Go.wp_at_zero Go.wp_at_succ
set_option maxHeartbeats 20000000 in
theorem cplays_any (v : Value) (L : List (List Int)) (w : World) (hv : IsRows w v L) (hg : Handle w) :
    Calls Tryd.prog 3 #[v] w fun e w' => e = .returned (.bool true) ∧ Below w.heap.size w w' := by
  obtain ⟨ao, co, rfl⟩ := hv.form
  have HV : Hid (IsRows w (.slice ao L.length co) L) := hv
  have HG : Hid (Handle w) := hg
  clear hv hg
  obtain ⟨i0, hi, hz0, hz1, hz2⟩ := info_parts Tryd.info3
  have HI : Hid (Tryd.prog.info? 3 = some i0 ∧ i0.zero = some (.int .i64 0) ∧ i0.size = 1 ∧ i0.bytes = 8) := ⟨hi, hz0, hz1, hz2⟩
  clear hi hz0 hz1 hz2
  go_enter Tryd.func3, Tryd.ntmps3
  go_wp2_with (go_at_call 4; fail)
  refine (newC_any _).mono ?_
  rintro e w1 ⟨a, S0, rfl, h0, hs0, hb0⟩
  have H0 : Hid (Obj w w1 S0 a ⟨[], [], []⟩) := ⟨h0, hs0, hb0, start_good⟩
  clear h0 hs0 hb0
  obtain ⟨g, hgs⟩ : ∃ g, w1.heap.size = g := ⟨_, rfl⟩
  have HP0 : Hid (PEnv S0 w (w1.alloc (.cells #[.slice none 0 0, .slice none 0 0, .slice none 0 0] 28)) a g (.slice none 0 0) (.slice none 0 0) (.slice none 0 0) (cntTo L 0) (cntTo L 0)) :=
    ⟨H0.out.later ((Below.refl _ _).alloc (Nat.le_refl _) _), by rw [← hgs]; exact heap_alloc_new w1 _, fun e => by have := H0.out.heap.lt _ e; omega, by rw [← hgs]; exact H0.out.below.size, ⟨⟨[], rfl, World.ownsRow_nil _ _ _ _, out_nil, fun j u h => by simp at h⟩, OwnI.nil _ _, OwnB.nil _ _, out_nil, out_nil⟩⟩
  go_wp2
  clear hgs H0
  generalize (w1.alloc (.cells #[.slice none 0 0, .slice none 0 0, .slice none 0 0] 28)) = W at *
  go_loopw [5] (fun i wr => ∃ (k : Nat) (S : Nat → Prop) (vo vr vh : Value), k ≤ 60 ∧ k ≤ L.length ∧ i = .int .i64 (k : Nat) ∧ Hid (PEnv S w wr a g vo vr vh (cntTo L k) (cntTo L k))) (fun i _ => 60 - (intOf i).toNat)
  case atStart => exact ⟨0, S0, _, _, _, by omega, by omega, rfl, HP0⟩
  case round =>
    obtain ⟨k, S, vo, vr, vh, hk60, hkL, rfl, HP⟩ := hrel
    have HGK : Hid (KGood (cntTo L k)) := HP.out.obj.good
    by_cases hlt : k < L.length
    · have hlt' : (k : Int) < (L.length : Int) := by omega
      by_cases h60 : k < 60
      · have h60' : (k : Int) < 60 := by omega
        obtain ⟨bo, offo, rfl, hlco, hbso, au, cu, hcu0, hiu, hmm, hcum⟩ := HV.out.at hlt
        have hcu := (HP.out.obj.below.cell (p := ⟨bo, offo + k, none⟩) hbso).trans hcu0
        clear hcu0
        by_cases h3 : (rowAt L k).length = 3
        · obtain ⟨b, off, rfl, hw0, hw1, hw2⟩ := three_at hiu h3
          have HW0 : Hid _ := hw0
          have HW1 : Hid _ := hw1
          have HW2 : Hid _ := hw2
          have hc0 := kept_cell HW0.out HP.out.obj.below
          have hc1 := kept_cell HW1.out HP.out.obj.below
          have hc2 := kept_cell HW2.out HP.out.obj.below
          rw [h3] at hcu
          clear hiu hw0 hw1 hw2
          by_cases hkr : 0 ≤ at3 (rowAt L k) 0 ∧ at3 (rowAt L k) 0 ≤ 4
          · have HKR : Hid (at3 (rowAt L k) 0 = 0 ∨ at3 (rowAt L k) 0 = 1 ∨ at3 (rowAt L k) 0 = 2 ∨ at3 (rowAt L k) 0 = 3 ∨ at3 (rowAt L k) 0 = 4) := by unfold Hid; omega
            have HIR : Hid ((decide (0 ≤ at3 (rowAt L k) 0) && decide (at3 (rowAt L k) 0 ≤ 4)) = true) := by unfold Hid; simp; exact hkr
            have HST : Hid (cntTo L (k+1) = ((cntTo L k).doK (at3 (rowAt L k) 0) (at3 (rowAt L k) 1) (at3 (rowAt L k) 2)).1) := step_do h3 rfl hkr.1 hkr.2
            clear h3 hkr
            obtain ⟨cN, hcN⟩ : ∃ cN, cntTo L (k+1) = cN := ⟨_, rfl⟩
            have HCN : Hid (cntTo L (k+1) = cN) := hcN
            rw [hcN] at HST
            clear hcN
            generalize cntTo L k = c at *
            generalize at3 (rowAt L k) 0 = kk at *
            generalize at3 (rowAt L k) 1 = x1 at *
            generalize at3 (rowAt L k) 2 = x2 at *
            obtain ⟨hx0, hx1, hx2, hf0, hf1, hf2⟩ := HP.out.cells
            obtain ⟨ao2, co2, ar2, cr2, ah2, ch2, rfl, rfl, rfl, _, _, _⟩ := HP.out.own.isK.forms
            go_upto_region 8 with (go_at_call 5; go_must (refine (in_range _ _ _ _).mono ?_; rintro e w' ⟨rfl, hw⟩; have hw := hw.symm; subst hw; rw [HIR.out]))
            go_cut [7, 8, 9] from 16 to 148 (fun s7 s8 s9 wx => ∃ gy a0 c0 a1 c1 a2 c2, s7 = .pointer (some ⟨gy, 0, none⟩) ∧ s8 = .int .i64 (((c.doK kk x1 x2).2.1 : Nat) : Int) ∧ s9 = .int .i64 (((c.doK kk x1 x2).2.2 : Nat) : Int) ∧ Hid (PEnv S w wx a g (.slice ao2 c.outs.length co2) (.slice ar2 c.roots.length cr2) (.slice ah2 c.here.length ch2) c c) ∧ Hid (wx.heap[gy]? = some (.cells #[(.slice a0 (c.doK kk x1 x2).1.outs.length c0), (.slice a1 (c.doK kk x1 x2).1.roots.length c1), (.slice a2 (c.doK kk x1 x2).1.here.length c2)] 28 (0, 0))) ∧ Hid (OwnK S wx 0 (.slice a0 (c.doK kk x1 x2).1.outs.length c0) (.slice a1 (c.doK kk x1 x2).1.roots.length c1) (.slice a2 (c.doK kk x1 x2).1.here.length c2) (c.doK kk x1 x2).1))
            case first =>
              go_region_held3 (fun w' => w'.cell? ⟨g, 0, none⟩ = some (.slice ao2 c.outs.length co2) ∧ w'.cell? ⟨g, 1, none⟩ = some (.slice ar2 c.roots.length cr2) ∧ w'.cell? ⟨g, 2, none⟩ = some (.slice ah2 c.here.length ch2) ∧ w'.cell? ⟨b, off, none⟩ = some (.int .i64 kk) ∧ w'.cell? ⟨b, off + 1, none⟩ = some (.int .i64 x1) ∧ w'.cell? ⟨b, off + 2, none⟩ = some (.int .i64 x2) ∧ Hid (Below wr.heap.size wr w'))
                (((try go_split_ands); refine ⟨?_, ?_, ?_, ?_, ?_, ?_, ?_⟩ <;> first | with_reducible assumption | (with_reducible refine kept_cell hx0 ?_; (first | with_reducible assumption | with_reducible exact kept_start _ | (with_reducible refine kept_set3 ?_ ?_ <;> first | with_reducible assumption | exact Nat.le_refl _) | (with_reducible apply kept_drew; first | with_reducible assumption | with_reducible exact kept_start _ | (with_reducible apply kept_alloc; first | with_reducible assumption | with_reducible exact kept_start _ | (with_reducible apply kept_drew; first | with_reducible assumption | with_reducible exact kept_start _))) | (with_reducible apply kept_alloc; first | with_reducible assumption | with_reducible exact kept_start _ | (with_reducible apply kept_drew; first | with_reducible assumption | with_reducible exact kept_start _)))) | (with_reducible refine kept_cell hx1 ?_; (first | with_reducible assumption | with_reducible exact kept_start _ | (with_reducible refine kept_set3 ?_ ?_ <;> first | with_reducible assumption | exact Nat.le_refl _) | (with_reducible apply kept_drew; first | with_reducible assumption | with_reducible exact kept_start _ | (with_reducible apply kept_alloc; first | with_reducible assumption | with_reducible exact kept_start _ | (with_reducible apply kept_drew; first | with_reducible assumption | with_reducible exact kept_start _))) | (with_reducible apply kept_alloc; first | with_reducible assumption | with_reducible exact kept_start _ | (with_reducible apply kept_drew; first | with_reducible assumption | with_reducible exact kept_start _)))) | (with_reducible refine kept_cell hx2 ?_; (first | with_reducible assumption | with_reducible exact kept_start _ | (with_reducible refine kept_set3 ?_ ?_ <;> first | with_reducible assumption | exact Nat.le_refl _) | (with_reducible apply kept_drew; first | with_reducible assumption | with_reducible exact kept_start _ | (with_reducible apply kept_alloc; first | with_reducible assumption | with_reducible exact kept_start _ | (with_reducible apply kept_drew; first | with_reducible assumption | with_reducible exact kept_start _))) | (with_reducible apply kept_alloc; first | with_reducible assumption | with_reducible exact kept_start _ | (with_reducible apply kept_drew; first | with_reducible assumption | with_reducible exact kept_start _)))) | (with_reducible refine kept_cell hc0 ?_; (first | with_reducible assumption | with_reducible exact kept_start _ | (with_reducible refine kept_set3 ?_ ?_ <;> first | with_reducible assumption | exact Nat.le_refl _) | (with_reducible apply kept_drew; first | with_reducible assumption | with_reducible exact kept_start _ | (with_reducible apply kept_alloc; first | with_reducible assumption | with_reducible exact kept_start _ | (with_reducible apply kept_drew; first | with_reducible assumption | with_reducible exact kept_start _))) | (with_reducible apply kept_alloc; first | with_reducible assumption | with_reducible exact kept_start _ | (with_reducible apply kept_drew; first | with_reducible assumption | with_reducible exact kept_start _)))) | (with_reducible refine kept_cell hc1 ?_; (first | with_reducible assumption | with_reducible exact kept_start _ | (with_reducible refine kept_set3 ?_ ?_ <;> first | with_reducible assumption | exact Nat.le_refl _) | (with_reducible apply kept_drew; first | with_reducible assumption | with_reducible exact kept_start _ | (with_reducible apply kept_alloc; first | with_reducible assumption | with_reducible exact kept_start _ | (with_reducible apply kept_drew; first | with_reducible assumption | with_reducible exact kept_start _))) | (with_reducible apply kept_alloc; first | with_reducible assumption | with_reducible exact kept_start _ | (with_reducible apply kept_drew; first | with_reducible assumption | with_reducible exact kept_start _)))) | (with_reducible refine kept_cell hc2 ?_; (first | with_reducible assumption | with_reducible exact kept_start _ | (with_reducible refine kept_set3 ?_ ?_ <;> first | with_reducible assumption | exact Nat.le_refl _) | (with_reducible apply kept_drew; first | with_reducible assumption | with_reducible exact kept_start _ | (with_reducible apply kept_alloc; first | with_reducible assumption | with_reducible exact kept_start _ | (with_reducible apply kept_drew; first | with_reducible assumption | with_reducible exact kept_start _))) | (with_reducible apply kept_alloc; first | with_reducible assumption | with_reducible exact kept_start _ | (with_reducible apply kept_drew; first | with_reducible assumption | with_reducible exact kept_start _)))) | (first | with_reducible assumption | with_reducible exact kept_start _ | (with_reducible refine kept_set3 ?_ ?_ <;> first | with_reducible assumption | exact Nat.le_refl _) | (with_reducible apply kept_drew; first | with_reducible assumption | with_reducible exact kept_start _ | (with_reducible apply kept_alloc; first | with_reducible assumption | with_reducible exact kept_start _ | (with_reducible apply kept_drew; first | with_reducible assumption | with_reducible exact kept_start _))) | (with_reducible apply kept_alloc; first | with_reducible assumption | with_reducible exact kept_start _ | (with_reducible apply kept_drew; first | with_reducible assumption | with_reducible exact kept_start _)))))
                (first | (go_at_call 6; go_split_ands; refine (do_since (rdo_any c kk x1 x2 _ _ _ 0 _ (HP.out.own.later' (by assumption)) HGK.out (Nat.zero_le _) (lt_since HP.out (by assumption)) HKR.out) (by assumption)).mono ?_; rintro e w5 ⟨a0, c0, a1, c1, a2, c2, rfl, HO5, HB5, HW5⟩; (try (have HYB : Hid (w5.heap[wr.heap.size]? = some (.cells #[.slice none 0 0, .slice none 0 0, .slice none 0 0] 28 (0, 0))) := (HW5.out.block _ (by simp)).trans (heap_alloc_new wr _); obtain ⟨hq0, hq1, hq2, hr0, hr1, hr2⟩ := tri_cells HYB.out))))
              focus (
                have HPE : Hid (PEnv S w (w5.alloc (.cells #[(.slice a0 (c.doK kk x1 x2).1.outs.length c0), (.slice a1 (c.doK kk x1 x2).1.roots.length c1), (.slice a2 (c.doK kk x1 x2).1.here.length c2)] 28)) a g (.slice ao2 c.outs.length co2) (.slice ar2 c.roots.length cr2) (.slice ah2 c.here.length ch2) c c) := HP.out.later (kept_alloc HB5 _).out
                have HYX : Hid ((w5.alloc (.cells #[(.slice a0 (c.doK kk x1 x2).1.outs.length c0), (.slice a1 (c.doK kk x1 x2).1.roots.length c1), (.slice a2 (c.doK kk x1 x2).1.here.length c2)] 28)).heap[w5.heap.size]? = some (.cells #[(.slice a0 (c.doK kk x1 x2).1.outs.length c0), (.slice a1 (c.doK kk x1 x2).1.roots.length c1), (.slice a2 (c.doK kk x1 x2).1.here.length c2)] 28 (0, 0))) := heap_alloc_new _ _
                have HOY : Hid (OwnK S (w5.alloc (.cells #[(.slice a0 (c.doK kk x1 x2).1.outs.length c0), (.slice a1 (c.doK kk x1 x2).1.roots.length c1), (.slice a2 (c.doK kk x1 x2).1.here.length c2)] 28)) 0 (.slice a0 (c.doK kk x1 x2).1.outs.length c0) (.slice a1 (c.doK kk x1 x2).1.roots.length c1) (.slice a2 (c.doK kk x1 x2).1.here.length c2) (c.doK kk x1 x2).1) := HO5.out.later ((Below.refl _ _).alloc (Nat.le_refl _) _)
                clear HO5 HB5 HW5
                go_wp2_with fail
                go_meet
                exact ⟨_, _, _, _, _, _, _, rfl, rfl, rfl, HPE, HYX, HOY⟩)
              focus (
                have HPE : Hid (PEnv S w (((w5.setCell ⟨wr.heap.size, 0, none⟩ (.slice a0 (c.doK kk x1 x2).1.outs.length c0)).setCell ⟨wr.heap.size, 1, none⟩ (.slice a1 (c.doK kk x1 x2).1.roots.length c1)).setCell ⟨wr.heap.size, 2, none⟩ (.slice a2 (c.doK kk x1 x2).1.here.length c2)) a g (.slice ao2 c.outs.length co2) (.slice ar2 c.roots.length cr2) (.slice ah2 c.here.length ch2) c c) := HP.out.later (kept_set3 HB5 (Nat.le_refl _)).out
                have HYX : Hid ((((w5.setCell ⟨wr.heap.size, 0, none⟩ (.slice a0 (c.doK kk x1 x2).1.outs.length c0)).setCell ⟨wr.heap.size, 1, none⟩ (.slice a1 (c.doK kk x1 x2).1.roots.length c1)).setCell ⟨wr.heap.size, 2, none⟩ (.slice a2 (c.doK kk x1 x2).1.here.length c2)).heap[wr.heap.size]? = some (.cells #[(.slice a0 (c.doK kk x1 x2).1.outs.length c0), (.slice a1 (c.doK kk x1 x2).1.roots.length c1), (.slice a2 (c.doK kk x1 x2).1.here.length c2)] 28 (0, 0))) := (tri_set _ (tri_set _ (tri_set _ HYB.out).1).2.1).2.2
                have HOY : Hid (OwnK S (((w5.setCell ⟨wr.heap.size, 0, none⟩ (.slice a0 (c.doK kk x1 x2).1.outs.length c0)).setCell ⟨wr.heap.size, 1, none⟩ (.slice a1 (c.doK kk x1 x2).1.roots.length c1)).setCell ⟨wr.heap.size, 2, none⟩ (.slice a2 (c.doK kk x1 x2).1.here.length c2)) 0 (.slice a0 (c.doK kk x1 x2).1.outs.length c0) (.slice a1 (c.doK kk x1 x2).1.roots.length c1) (.slice a2 (c.doK kk x1 x2).1.here.length c2) (c.doK kk x1 x2).1) := ((HO5.out.set HYB.out).set (tri_set _ HYB.out).1).set (tri_set _ (tri_set _ HYB.out).1).2.1
                clear HO5 HB5 HW5 HYB hq0 hq1 hq2 hr0 hr1 hr2
                go_wp2_with fail
                go_meet
                exact ⟨_, _, _, _, _, _, _, rfl, rfl, rfl, HPE, HYX, HOY⟩)
            case rest =>
              obtain ⟨gy, a0, c0, a1, c1, a2, c2, rfl, rfl, rfl, HPE, HYX, HOY⟩ := hcut
              clear hx0 hx1 hx2 hf0 hf1 hf2 hc0 hc1 hc2 HP hcu
              obtain ⟨hy0, hy1, hy2, hg0, hg1, hg2⟩ := tri_cells HYX.out
              obtain ⟨hx0, hx1, hx2, hf0, hf1, hf2⟩ := HPE.out.cells
              have HP7 : Hid _ := HPE.out.set3 HOY.out
              have HGD : Hid (KGood (c.doK kk x1 x2).1) := do_good HGK.out _ _ _
              have hc0 := kept_cell HW0.out HP7.out.obj.below
              have hc1 := kept_cell HW1.out HP7.out.obj.below
              have hc2 := kept_cell HW2.out HP7.out.obj.below
              clear HPE HYX HOY
              go_upto_block 2 with fail
              go_cut [10, 11] from 16 to 148 (fun s10 s11 wx => ∃ S8, s10 = .int .i64 (((c.doK kk x1 x2).2.1 : Nat) : Int) ∧ s11 = errV (c.doK kk x1 x2).2.2 ∧ Hid (PEnv S8 w wx a g (.slice a0 (c.doK kk x1 x2).1.outs.length c0) (.slice a1 (c.doK kk x1 x2).1.roots.length c1) (.slice a2 (c.doK kk x1 x2).1.here.length c2) (c.doK kk x1 x2).1 (c.doK kk x1 x2).1))
              case first =>
                rcases HKR.out with rfl | rfl | rfl | rfl | rfl
                · go_wp2_with (go_at_call 7; go_must (refine (makeP_any S a c x1 x2 _ HP7.out.obj.heap HP7.out.obj.good).mono ?_; rintro e w8 ⟨rfl, hd⟩; (obtain ⟨S8, h8⟩ := HP7.out.done hd HGD.out); have HP8 : Hid _ := h8; clear hd h8))
                  go_meet
                  exact ⟨S8, rfl, rfl, HP8⟩
                · have HN0 : Hid ((c.doK 1 x1 x2).2.1 = 0) := doK_num (by decide)
                  go_wp2_with (go_at_call 8; go_must (refine (rootP_any S a c x1 x2 _ HP7.out.obj.heap HP7.out.obj.good).mono ?_; rintro e w8 ⟨rfl, hd⟩; (obtain ⟨S8, h8⟩ := HP7.out.done hd HGD.out); have HP8 : Hid _ := h8; clear hd h8))
                  go_meet
                  exact ⟨S8, by rw [HN0.out]; rfl, rfl, HP8⟩
                · have HN0 : Hid ((c.doK 2 x1 x2).2.1 = 0) := doK_num (by decide)
                  go_wp2_with (go_at_call 9; go_must (refine (dropP_any S a c x1 x2 _ HP7.out.obj.heap HP7.out.obj.good).mono ?_; rintro e w8 ⟨rfl, hd⟩; (obtain ⟨S8, h8⟩ := HP7.out.done hd HGD.out); have HP8 : Hid _ := h8; clear hd h8))
                  go_meet
                  exact ⟨S8, by rw [HN0.out]; rfl, rfl, HP8⟩
                · have HN0 : Hid ((c.doK 3 x1 x2).2.1 = 0) := doK_num (by decide)
                  go_wp2_with fail
                  have HDR : Hid _ := HP7.out.later (Below.refl _ _).drew
                  go_region_law (refine step_call rfl 10 _ _ rfl #[.pointer (some ⟨a, 0, none⟩), .int .i64 x1, .int .i64 x2] (by first | rfl | (simp [Act.eval]; done) | simp [Act.eval, Act.put]) (enters_of Tryd.func10 (by kernel_rfl) rfl _) (linkP_any S a c x1 x2 _ HDR.out.obj.heap HDR.out.obj.good) ?_; rintro e w8 ⟨rfl, hd⟩; refine ⟨_, rfl, ?_⟩; (obtain ⟨S8, h8⟩ := HDR.out.done hd HGD.out); have HP8 : Hid _ := h8; clear hd h8)
                  all_goals (go_wp2_with fail; go_meet; exact ⟨S8, by rw [HN0.out]; rfl, rfl, HP8⟩)
                · have HN0 : Hid ((c.doK 4 x1 x2).2.1 = 0) := doK_num (by decide)
                  go_wp2_with fail
                  have HDR : Hid _ := HP7.out.later (Below.refl _ _).drew
                  go_region_law (refine step_call rfl 11 _ _ rfl #[.pointer (some ⟨a, 0, none⟩), .int .i64 x1, .int .i64 x2] (by first | rfl | (simp [Act.eval]; done) | simp [Act.eval, Act.put]) (enters_of Tryd.func11 (by kernel_rfl) rfl _) (cutP_any S a c x1 x2 _ HDR.out.obj.heap HDR.out.obj.good) ?_; rintro e w8 ⟨rfl, hd⟩; refine ⟨_, rfl, ?_⟩; (obtain ⟨S8, h8⟩ := HDR.out.done hd HGD.out); have HP8 : Hid _ := h8; clear hd h8)
                  all_goals (go_wp2_with fail; go_meet; exact ⟨S8, by rw [HN0.out]; rfl, rfl, HP8⟩)
              case rest =>
                obtain ⟨S8, rfl, rfl, HP8⟩ := hcut
                have HHD : Hid (Handle wc) := HG.out.below HP8.out.obj.below
                rw [← HST.out] at HP8
                generalize (c.doK kk x1 x2).2.1 = nn at *
                generalize (c.doK kk x1 x2).2.2 = ee at *
                clear HW0 HW1 HW2 hc0 hc1 hc2 HP7 HGD hx0 hx1 hx2 hf0 hf1 hf2 hy0 hy1 hy2 hg0 hg1 hg2 HKR HIR HST HGK
                have HGN : Hid (KGood cN) := HP8.out.obj.good
                have hh12 : cN.here.length ≤ 12 := HGN.out.few
                obtain ⟨hx0, hx1, hx2, hf0, hf1, hf2⟩ := HP8.out.cells
                go_wp2_with (go_at_call 12; go_must (refine (error_same ee _ HHD.out).mono ?_; rintro e w9 ⟨rfl, hb9⟩; have HP9 : Hid _ := HP8.out.later hb9; clear hb9))
                clear hx0 hx1 hx2 hf0 hf1 hf2 HP8
                go_loopw [12, 13, 14] (fun v i _ w2 => ∃ j : Nat, j ≤ cN.here.length ∧ i = .int .i64 (j : Nat) ∧ Hid (OwnI w2 w9.heap.size v (hereL cN j)) ∧ Hid (Below w9.heap.size w9 w2)) (fun _ i _ _ => cN.here.length - (intOf i).toNat)
                case atStart => exact ⟨0, Nat.zero_le _, rfl, OwnI.nil _ _, Below.refl _ _⟩
                case round =>
                  obtain ⟨j, hj, rfl, HOJ, HBJ⟩ := hrel
                  obtain ⟨av, cv, rfl⟩ := OwnI.form HOJ.out
                  have HPJ : Hid _ := HP9.out.later HBJ.out
                  have hlj := hereL_len cN j
                  obtain ⟨hx0, hx1, hx2, hf0, hf1, hf2⟩ := HPJ.out.cells
                  have hs9 := HBJ.out.size
                  by_cases hjl : j < cN.here.length
                  · have hjl' : (j : Int) < (cN.here.length : Int) := by omega
                    obtain ⟨bh, offh, hea, hlch, hbsh, hck⟩ := HPJ.out.own.isK.bools.at hjl
                    subst hea
                    have HIS : Hid (cN.isN j = cN.here[j]?.getD false) := rfl
                    have HHL : Hid (hereL cN (j+1) = if cN.isN j then hereL cN j ++ [(j : Int)] else hereL cN j) := rfl
                    cases hb : cN.here[j]?.getD false with
                    | true =>
                      have HHN : Hid (hereL cN (j+1) = hereL cN j ++ [(j : Int)]) := by unfold Hid; rw [HHL.out, if_pos (HIS.out.trans hb)]
                      rw [hb] at hck
                      clear hb HIS HHL
                      generalize hereL cN j = hl at *
                      go_wp2_with (first
                        | (go_at_call 13; go_must (refine (rcnt_any cN (j : Int) _ _ _ _ HPJ.out.own.isK HGN.out.mid).mono ?_; rintro e wa ⟨rfl, hb⟩; have HBA : Hid (Below w9.heap.size w9 wa) := HBJ.out.trans (hb.mono HBJ.out.size); have HOA : Hid (OwnI wa w9.heap.size (.slice av hl.length cv) hl) := OwnI.later HOJ.out hb; clear hb; have hsa := HBA.out.size))
                        | (at_builtin; go_must (refine wpList_append_own _ rfl _ _ 25 rfl w9.heap.size 3 i0 (.int .i64 0) 1 8 Tryd.underlying25 HI.out.1 HI.out.2.1 HI.out.2.2.1 HI.out.2.2.2 rfl (by decide) (.slice av hl.length cv) hl.length (hl.map (Value.int .i64)) rfl (World.ownsRow.alloc HOA.out _) ⟨wa.heap.size, 0, none⟩ 1 1 [.int .i64 (j : Int)] rfl rfl (by exact new_one _ _ _) (one_cell _) (by unfold maxLen; omega) (by omega) (by simp; omega) ?_; intro v' wb hown' hgrow _; have R := own_append HOA.out HBA.out (Nat.le_refl _) hown' hgrow; have HOB : Hid (OwnI wb w9.heap.size v' (hl ++ [(j : Int)])) := R.1; have HBB : Hid (Below w9.heap.size w9 wb) := R.2; have HPB : Hid _ := HP9.out.later HBB.out; clear R hown' hgrow))
                        | (go_at_call 14; go_must (refine (countP_any S8 a cN (j : Int) _ HPB.out.obj.heap HGN.out.mid).mono ?_; rintro e w' ⟨rfl, hw⟩; have hw := hw.symm; subst hw)))
                      go_roundw
                      case rel => exact ⟨j + 1, by omega, by go_num, by rw [HHN.out]; exact HOB, HBB⟩
                      case measure => simp [intOf]; omega
                    | false =>
                      have HHN : Hid (hereL cN (j+1) = hereL cN j) := by unfold Hid; rw [HHL.out, HIS.out, hb]; rfl
                      have HZ : Hid (cN.count (j : Int) = 0) := by
                        unfold Hid
                        have hg := good_count HGN.out (j : Int)
                        have hn : ¬ cN.is (j : Int) = true := by rw [isN_is, HIS.out, hb]; simp
                        have : ¬ 0 < cN.count (j : Int) := fun h => hn (hg.1 h)
                        omega
                      rw [hb] at hck
                      clear hb HIS HHL
                      go_wp2_with (go_at_call 14; go_must (refine (countP_any S8 a cN (j : Int) _ HPJ.out.obj.heap HGN.out.mid).mono ?_; rintro e w' ⟨rfl, hw⟩; have hw := hw.symm; subst hw; rw [HZ.out]))
                      go_roundw
                      case rel => exact ⟨j + 1, by omega, by go_num, by rw [HHN.out]; exact HOJ, HBJ⟩
                      case measure => simp [intOf]; omega
                  · have hjl' : ¬ (j : Int) < (cN.here.length : Int) := by omega
                    have HSE : Hid (setN (hereL cN j) = hereB cN) := by unfold Hid hereB; rw [hereL_set, show cN.here.length = j by omega]
                    have HIN : Hid (allIn (hereL cN j) ∧ (hereL cN j).length ≤ 40) := ⟨hereL_in cN j (by omega), by omega⟩
                    go_upto_region 35 with fail
                    have HPD : Hid _ := HPJ.out.later (Below.refl _ _).drew
                    have HOD : Hid (IsInts wr.drew (.slice av (hereL cN j).length cv) (hereL cN j)) := HOJ.out.isInts.below (Below.refl _ _).drew
                    obtain ⟨hy0, hy1, hy2, hg0, hg1, hg2⟩ := HPD.out.cells
                    clear hx0 hx1 hx2 hf0 hf1 hf2 HOJ HBJ
                    generalize hereL cN j = hl at *
                    go_cut [148] from 16 to 148 (fun s148 wx => s148 = .bool false ∧ Hid (PEnv S8 w wx a g (.slice a0 cN.outs.length c0) (.slice a1 cN.roots.length c1) (.slice a2 cN.here.length c2) cN cN))
                    case first =>
                      go_region_with (first
                        | (go_at_call 15; go_must (refine (hereP_any S8 a cN _ HPD.out.obj.heap HGN.out).mono ?_; rintro e w' ⟨rfl, hw⟩; have hw := hw.symm; subst hw))
                        | (go_at_call 16; go_must (refine (refset_any _ hl _ HOD.out HIN.out.1 HIN.out.2).mono ?_; rintro e w' ⟨rfl, hw⟩; have hw := hw.symm; subst hw; rw [HSE.out]))
                        | (go_at_call 18; go_must (refine (heapP_any S8 a cN _ HPD.out.obj.heap HGN.out.mid).mono ?_; rintro e wb ⟨ao7, co7, ar7, cr7, rfl, h3, h4, hb7⟩; have HPB : Hid _ := HPD.out.later hb7; obtain ⟨hz0, hz1, hz2, hh0, hh1, hh2⟩ := HPB.out.cells; have HIB : Hid (IsHeap wb (.agg #[.slice ao7 cN.outs.length co7, .slice ar7 cN.roots.length cr7]) cN.outs cN.roots) := ⟨_, _, rfl, h3.isRows, h4.isInts⟩; clear h3 h4 hb7))
                        | (go_at_call 17; go_must (refine (heaps_same _ _ cN.outs cN.roots _ HIB.out ⟨_, _, rfl, HPB.out.own.isK.rows, HPB.out.own.isK.ints⟩).mono ?_; rintro e wz ⟨rfl, hbz⟩; have HPZ : Hid _ := HPB.out.later hbz; clear hbz)))
                      all_goals (go_wp2_with fail; go_meet; exact ⟨rfl, HPZ⟩)
                    case rest =>
                      obtain ⟨rfl, HPZ⟩ := hcut
                      clear hy0 hy1 hy2 hg0 hg1 hg2 HPD HOD HPJ
                      go_wp2_with fail
                      go_roundw
                      case rel => exact ⟨k + 1, S8, _, _, _, by omega, by omega, by go_num, by rw [HCN.out]; exact HPZ⟩
                      case measure => simp [intOf]; omega
          · have HIR : Hid ((decide (0 ≤ at3 (rowAt L k) 0) && decide (at3 (rowAt L k) 0 ≤ 4)) = false) := by
              unfold Hid
              rw [Bool.eq_false_iff]
              intro e
              rw [Bool.and_eq_true, decide_eq_true_eq, decide_eq_true_eq] at e
              exact hkr e
            have HST : Hid (cntTo L (k+1) = cntTo L k) := step_other hkr
            clear h3 hkr
            generalize at3 (rowAt L k) 0 = kk at *
            go_wp2_with (go_at_call 5; go_must (refine (in_range _ _ _ _).mono ?_; rintro e w' ⟨rfl, hw⟩; have hw := hw.symm; subst hw; rw [HIR.out]))
            go_roundw
            case rel => exact ⟨k + 1, S, _, _, _, by omega, by omega, by go_num, by rw [HST.out]; exact HP⟩
            case measure => simp [intOf]; omega
        · have h3' : ¬ ((rowAt L k).length : Int) = 3 := by omega
          have HST : Hid (cntTo L (k+1) = cntTo L k) := step_skip h3
          clear h3 hiu
          go_wp2
          go_roundw
          case rel => exact ⟨k + 1, S, _, _, _, by omega, by omega, by go_num, by rw [HST.out]; exact HP⟩
          case measure => simp [intOf]; omega
      · have h60' : ¬ (k : Int) < 60 := by omega
        generalize cntTo L k = c at *
        go_wp2_with (go_at_call 14; go_must (refine (count_out S a c _ _ HP.out.obj.heap HGK.out (by decide)).mono ?_; rintro e w' ⟨rfl, hw⟩; have hw := hw.symm; subst hw))
        go_ret
        exact ⟨rfl, HP.out.obj.below⟩
    · have hlt' : ¬ (k : Int) < (L.length : Int) := by omega
      generalize cntTo L k = c at *
      go_wp2_with (go_at_call 14; go_must (refine (count_out S a c _ _ HP.out.obj.heap HGK.out (by decide)).mono ?_; rintro e w' ⟨rfl, hw⟩; have hw := hw.symm; subst hw))
      go_ret
      exact ⟨rfl, HP.out.obj.below⟩
end Go.Proofs.YtmibnceadciidaaDoor
