/- The walk of cheney.Copy. -/
import Derived.Test.YtennlinnclcngaaDoorYMove
import Derived.Test.YtennlinnclcngaaDoorYRows
import Derived.Test.YtennlinnclcngaaDoorStepV
import Derived.Test.YtennlinnclcngaaDoorGCheck
namespace Go.Proofs.YtennlinnclcngaaDoor
set_option maxRecDepth 100000
open Go.RowKit Go.Sort

theorem mover_any (bo : Nat) (w : World) :
    Calls Tryd.prog 15 #[.pointer (some ⟨bo, 0, none⟩)] w fun e w' => e = .returned (.func (.func 21) #[] #[.pointer (some ⟨w.heap.size, 0, none⟩)]) ∧ w' = w.alloc (.cells #[.pointer (some ⟨bo, 0, none⟩)] 43) := by
  go_enter Tryd.func15, Tryd.ntmps15
  go_wp2
  go_ret
  exact ⟨rfl, rfl⟩
/-- Which nodes are copied, in which order, and the copy. -/
def CopyIs (L : List (List Int)) (R A : List Int) (X : List (List Int)) (Y : List Int) : Prop := if chkH L R = 0 then IsFrom (gOf L) R A ∧ X = anewO L A ∧ Y = R.map (plc A) else A = [] ∧ X = [] ∧ Y = []
set_option maxHeartbeats 4000000 in
theorem ycopy_any (v : Value) (L : List (List Int)) (R : List Int) (w : World) (hv : IsHeap w v L R) :
    Calls Tryd.prog 7 #[v] w fun e w' => (∃ vo vx, e = .returned (.tuple #[vo, vx, errV (chkH L R)]) ∧ ∃ A X Y, IsInts w' vo A ∧ IsHeap w' vx X Y ∧ CopyIs L R A X Y) ∧ Below w.heap.size w w' := by
  obtain ⟨ao, co, ar, cr, rfl, h1, h2⟩ := hv.form
  have HBX : Hid (Boxed w (w.alloc (.cells #[.slice ao L.length co, .slice ar R.length cr] 25)) w.heap.size ao co ar cr L R) := boxed h1 h2 _
  clear hv h1 h2
  have HB1 : Hid (Boxed w ((w.alloc (.cells #[.slice ao L.length co, .slice ar R.length cr] 25)).alloc (.cells #[.slice none 0 0, .slice none 0 0] 25)) w.heap.size ao co ar cr L R) := HBX.out.later ((Below.refl _ _).alloc (Nat.le_refl _) _)
  have HX1 : Hid (((w.alloc (.cells #[.slice ao L.length co, .slice ar R.length cr] 25)).alloc (.cells #[.slice none 0 0, .slice none 0 0] 25)).heap[w.heap.size + 1]? = some (.cells #[.slice none 0 0, .slice none 0 0] 25 (0, 0))) := by
    have h := heap_alloc_new (w.alloc (.cells #[.slice ao L.length co, .slice ar R.length cr] 25)) (.cells #[.slice none 0 0, .slice none 0 0] 25)
    rw [show (w.alloc (.cells #[.slice ao L.length co, .slice ar R.length cr] 25)).heap.size = w.heap.size + 1 by simp] at h
    exact h
  have HS1 : Hid (((w.alloc (.cells #[.slice ao L.length co, .slice ar R.length cr] 25)).alloc (.cells #[.slice none 0 0, .slice none 0 0] 25)).heap.size = w.heap.size + 1 + 1) := by unfold Hid; simp
  have hd0 : ((w.alloc (.cells #[.slice ao L.length co, .slice ar R.length cr] 25)).alloc (.cells #[.slice none 0 0, .slice none 0 0] 25)).cell? ⟨w.heap.size, 0, none⟩ = some (.slice ao L.length co) := HB1.out.outs
  have hd1 : ((w.alloc (.cells #[.slice ao L.length co, .slice ar R.length cr] 25)).alloc (.cells #[.slice none 0 0, .slice none 0 0] 25)).cell? ⟨w.heap.size, 1, none⟩ = some (.slice ar R.length cr) := HB1.out.roots
  clear HBX
  go_enter Tryd.func7, Tryd.ntmps7
  go_wp2_with (go_at_call 14; fail)
  generalize (w.alloc (.cells #[.slice ao L.length co, .slice ar R.length cr] 25)).alloc (.cells #[.slice none 0 0, .slice none 0 0] 25) = w1 at *
  refine (gcheck_any _ L R _ HB1.out.isHeap).mono ?_
  rintro e w2 ⟨rfl, hb2⟩
  have HB2 : Hid (Boxed w w2 w.heap.size ao co ar cr L R) := HB1.out.later hb2
  have HX2 : Hid (w2.heap[w.heap.size + 1]? = some (.cells #[.slice none 0 0, .slice none 0 0] 25 (0, 0))) := (hb2.block _ (by have := HS1.out; omega)).trans HX1.out
  have HS2 : Hid (w.heap.size + 1 + 1 ≤ w2.heap.size) := by have := hb2.size; have := HS1.out; unfold Hid; omega
  clear hb2 hd0 hd1 HB1 HX1 HS1
  by_cases h0 : chkH L R = 0
  · have HF : Hid (FineH L R) := chkH_zero.1 h0
    have H0 : Hid (chkH L R = 0) := h0
    have hl12 := HF.out.few
    obtain ⟨i0, hi, hz0, hz1, hz2⟩ := info_parts Tryd.info3
    have HI : Hid (Tryd.prog.info? 3 = some i0 ∧ i0.zero = some (.int .i64 0) ∧ i0.size = 1 ∧ i0.bytes = 8) := ⟨hi, hz0, hz1, hz2⟩
    rw [h0, show errV 0 = .nilIface from rfl]
    clear h0 hi hz0 hz1 hz2
    go_wp2_with (go_at_call 15; fail)
    refine (mover_any _ _).mono ?_
    rintro e w3 ⟨rfl, rfl⟩
    have HN : Hid (Ord ((w2.alloc (.cells #[.slice none 0 0] 23)).alloc (.cells #[.pointer (some ⟨w2.heap.size, 0, none⟩)] 43)) (w2.heap.size + 1 + 1) w2.heap.size [] (.slice none 0 0)) := ord_start w2 _
    have HGM : Hid (((w2.alloc (.cells #[.slice none 0 0] 23)).alloc (.cells #[.pointer (some ⟨w2.heap.size, 0, none⟩)] 43)).cell? ⟨w2.heap.size + 1, 0, none⟩ = some (.pointer (some ⟨w2.heap.size, 0, none⟩))) := by unfold Hid; simp
    have HB3 : Hid (Below w2.heap.size w2 ((w2.alloc (.cells #[.slice none 0 0] 23)).alloc (.cells #[.pointer (some ⟨w2.heap.size, 0, none⟩)] 43))) := ((Below.refl _ w2).alloc (Nat.le_refl _) _).alloc (by simp) _
    have HS3 : Hid (((w2.alloc (.cells #[.slice none 0 0] 23)).alloc (.cells #[.pointer (some ⟨w2.heap.size, 0, none⟩)] 43)).heap.size = w2.heap.size + 1 + 1) := by unfold Hid; simp
    rw [show (w2.alloc (.cells #[.slice none 0 0] 23)).heap.size = w2.heap.size + 1 by simp]
    generalize (w2.alloc (.cells #[.slice none 0 0] 23)).alloc (.cells #[.pointer (some ⟨w2.heap.size, 0, none⟩)] 43) = w3 at *
    have HBX3 : Hid (Boxed w w3 w.heap.size ao co ar cr L R) := HB2.out.later HB3.out
    have hd0 : w3.cell? ⟨w.heap.size, 0, none⟩ = some (.slice ao L.length co) := HBX3.out.outs
    have hd1 : w3.cell? ⟨w.heap.size, 1, none⟩ = some (.slice ar R.length cr) := HBX3.out.roots
    obtain ⟨C, hC⟩ := from_total HF.out HF.out.root
    have HC : Hid (IsFrom (gOf L) R C) := hC
    have HCI : Hid (Inn L C) := ⟨hC.mem.1, fun y hy => HF.out.come HF.out.root ((hC.mem.2 y).1 hy)⟩
    clear hC
    go_wp2_with (go_at_call 21; fail)
    refine (move_any (w0 := w2) _ R C HB2.out.ints HB3.out (Nat.le_refl _) HF.out.roots (HC.out.begins (k := 0) (fun j hj => by omega)) (by have := (bfs_few HF.out HF.out.root (k := 0) (fun j hj => by omega)).1; show (bfsA (gOf L) R 0).length ≤ 100; omega) HN.out HGM.out (by omega) (by omega)).mono ?_
    rintro e w4 ⟨u, rfl, hu, vo, hap, ho, hm⟩
    obtain ⟨aU, cU, hfU⟩ := OwnI.form hu
    rw [List.length_map] at hfU
    subst hfU
    have hB3s := HS3.out
    rw [hB3s] at hu
    have HU4 : Hid (OwnI w4 (w2.heap.size + 1 + 1) (.slice aU R.length cU) (R.map (plc C)) ∧ Apart (.slice aU R.length cU) vo) := ⟨hu, hap⟩
    have HO4 : Hid (Ord w4 (w2.heap.size + 1 + 1) w2.heap.size (bfsA (gOf L) R 0) vo) := ho
    have HBU4 : Hid (But (w2.heap.size + 1 + 1) w2.heap.size w3 w4) := hm.but HN.out
    have HG4 : Hid ((w4.alloc (.cells #[.slice none 0 0, .slice aU R.length cU] 25)).heap[w4.heap.size]? = some (.cells #[.slice none 0 0, .slice aU R.length cU] 25 (0, 0))) := heap_alloc_new _ _
    have HS4 : Hid (w2.heap.size + 1 + 1 ≤ w4.heap.size) := HO4.out.le
    clear hu hap ho hm hd0 hd1
    go_wp2
    have HOA : Hid (Ord (w4.alloc (.cells #[.slice none 0 0, .slice aU R.length cU] 25)) (w2.heap.size + 1 + 1) w2.heap.size (bfsA (gOf L) R 0) vo) := HO4.out.alloc _
    have HUA : Hid (OwnI (w4.alloc (.cells #[.slice none 0 0, .slice aU R.length cU] 25)) (w2.heap.size + 1 + 1) (.slice aU R.length cU) (R.map (plc C)) ∧ Apart (.slice aU R.length cU) vo) := ⟨World.ownsRow.alloc HU4.out.1 _, HU4.out.2⟩
    have HBA : Hid (But (w2.heap.size + 1 + 1) w2.heap.size w3 (w4.alloc (.cells #[.slice none 0 0, .slice aU R.length cU] 25))) := HBU4.out.trans (But.later ((Below.refl _ _).alloc (Nat.le_refl _) _) HS4.out)
    clear HO4 HU4 HBU4
    generalize w4.alloc (.cells #[.slice none 0 0, .slice aU R.length cU] 25) = wA at *
    generalize w4.heap.size = g2 at *
    obtain ⟨iR, hri, hrz0, hrz1, hrz2⟩ := info_parts info_row
    have HIR : Hid (Tryd.prog.info? 23 = some iR ∧ iR.zero = some (.slice none 0 0) ∧ iR.size = 1 ∧ iR.bytes = 24) := ⟨hri, hrz0, hrz1, hrz2⟩
    clear hri hrz0 hrz1 hrz2 HN
    go_loopw [9] (fun i wr => ∃ (k : Nat) (vo2 vX : Value), i = .int .i64 (k : Nat) ∧ Hid (Ahead (gOf L) R k) ∧ Hid (Ord wr (w2.heap.size + 1 + 1) w2.heap.size (bfsA (gOf L) R k) vo2) ∧ Hid (RowsA wr (w2.heap.size + 1 + 1) vo2 vX ((C.take k).map fun x => (gOf L x).map (plc C))) ∧ Hid (OwnI wr (w2.heap.size + 1 + 1) (.slice aU R.length cU) (R.map (plc C)) ∧ Apart (.slice aU R.length cU) vo2) ∧ Hid (wr.heap[g2]? = some (.cells #[vX, .slice aU R.length cU] 25 (0, 0))) ∧ Hid (But (w2.heap.size + 1 + 1) w2.heap.size w3 wr)) (fun i _ => C.length - (intOf i).toNat)
    case atStart => exact ⟨0, _, _, rfl, fun j hj => by omega, HOA, by rw [List.take_zero]; exact rowsA_nil _ _ _, HUA, HG4, HBA⟩
    case round =>
      obtain ⟨k, vo2, vX, rfl, HAH, HO2, HX, HY, HG, HBU⟩ := hrel
      have hk12 := bfs_ahead HAH.out
      have hA12 := (bfs_few HF.out HF.out.root HAH.out).1
      have hs4 := HS4.out
      obtain ⟨ao2, cap2, rfl⟩ := HO2.out.form
      have hcb := HO2.out.cell
      by_cases hlt : k < (bfsA (gOf L) R k).length
      · have hlt' : (k : Int) < ((bfsA (gOf L) R k).length : Int) := by omega
        obtain ⟨D, hD⟩ := HC.out.begins HAH.out
        have hCk : k < C.length := by rw [hD, List.length_append]; omega
        have hCx : C[k] = (bfsA (gOf L) R k)[k] := by
          have h : C[k]? = (bfsA (gOf L) R k)[k]? := by rw [hD, List.getElem?_append_left hlt]
          rw [List.getElem?_eq_getElem hCk, List.getElem?_eq_getElem hlt] at h
          exact Option.some.inj h
        have HLK : Hid ((C.take (k+1)).map (fun x => (gOf L x).map (plc C)) = (C.take k).map (fun x => (gOf L x).map (plc C)) ++ [(gOf L ((bfsA (gOf L) R k)[k])).map (plc C)]) := by
          unfold Hid
          rw [List.take_succ_eq_append_getElem hCk, List.map_append, hCx]; rfl
        have HLL : Hid (((C.take k).map fun x => (gOf L x).map (plc C)).length = k) := by unfold Hid; simp; omega
        have hnx := bfs_next HAH.out hlt
        have hin := (bfs_few HF.out HF.out.root HAH.out).2 _ (List.getElem_mem hlt)
        have hin3 := HF.out.root
        have hfw := (bfs_few HF.out HF.out.root hnx.1).1
        have hbg := HC.out.begins hnx.1
        have HAH1 : Hid (Ahead (gOf L) R (k+1)) := hnx.1
        have hbf := hnx.2
        obtain ⟨b2, off2, hao2, hlc2, hbs2, hcell2⟩ := IsInts.open_at HO2.out.own.isInts hlt
        subst hao2
        have hck := hcell2 k hlt
        rw [List.getElem?_eq_getElem hlt, Option.getD_some] at hck hbf
        generalize (bfsA (gOf L) R k)[k] = x at *
        obtain ⟨x, rfl⟩ : ∃ t : Nat, x = (t : Int) := ⟨x.toNat, by omega⟩
        have hxl : x < L.length := by omega
        have hxi : (x : Int) < (L.length : Int) := by omega
        rw [gOf_at] at hbf
        have HGX : Hid (gOf L (x : Int) = rowAt L x) := gOf_at x
        have HBF : Hid (bfsA (gOf L) R (k+1) = addNew (bfsA (gOf L) R k) (rowAt L x)) := hbf
        rw [HBF.out] at hfw hbg
        have HBG : Hid (∃ D, C = addNew (bfsA (gOf L) R k) (rowAt L x) ++ D) := hbg
        have hA2l : (bfsA (gOf L) R k).length ≤ 12 := by omega
        have HFW : Hid ((addNew (bfsA (gOf L) R k) (rowAt L x)).length ≤ 100) := by unfold Hid; omega
        clear hnx hin hin3 hfw hbg hbf hcell2 hD hCx
        generalize bfsA (gOf L) R k = A2 at *
        have HBW : Hid (Below w2.heap.size w2 wr) := HB3.out.trans (HBU.out.below (by omega))
        have HBR : Hid (Boxed w wr w.heap.size ao co ar cr L R) := HB2.out.later HBW.out
        have hd0 := HBR.out.outs
        obtain ⟨bo, offo, rfl, hlco, hbso, au, cu, hcu0, hiu, hmm, hcum⟩ := HB2.out.rows.at hxl
        have hcu := (HBW.out.cell (p := ⟨bo, offo + x, none⟩) hbso).trans hcu0
        have h4 : (rowAt L x).length ≤ 12 := by have := HF.out.outs _ (rowAt_mem hxl); omega
        have hgm := (HBU.out.cell (p := ⟨w2.heap.size + 1, 0, none⟩) (by show w2.heap.size + 1 < _; omega) (by show w2.heap.size + 1 ≠ _; omega)).trans HGM.out
        have HMV : Hid _ := move_any (w := wr.drew) (w0 := w2) _ (rowAt L x) C hiu HBW.out.drew (Nat.le_refl _) h4 HBG.out HFW.out (HO2.out.later (Below.refl _ _).drew) hgm (by omega) (by omega)
        obtain ⟨us, hus, hown, hrow⟩ := HX.out
        obtain ⟨aX, cX, hfX⟩ := HX.out.ownR.form
        rw [HLL.out] at hfX
        subst hfX
        obtain ⟨hx0, hx1, hf0, hf1⟩ := box_cells HG.out
        clear hiu hcu0 hus hown hrow
        have HXD : Hid (RowsA wr.drew (w2.heap.size + 1 + 1) (.slice (some ⟨b2, off2, none⟩) A2.length cap2) (.slice aX k cX) ((C.take k).map fun x => (gOf L x).map (plc C))) := HX.out
        have HOD : Hid (Ord wr.drew (w2.heap.size + 1 + 1) w2.heap.size A2 (.slice (some ⟨b2, off2, none⟩) A2.length cap2)) := HO2.out.later (Below.refl _ _).drew
        have HYD : Hid (OwnI wr.drew (w2.heap.size + 1 + 1) (.slice aU R.length cU) (R.map (plc C)) ∧ Apart (.slice aU R.length cU) (.slice (some ⟨b2, off2, none⟩) A2.length cap2)) := HY.out
        have HGD : Hid (wr.drew.heap[g2]? = some (.cells #[.slice aX k cX, .slice aU R.length cU] 25 (0, 0))) := HG.out
        have HGE : Hid (w2.heap.size + 1 + 1 ≤ g2) := hs4
        have HRL : Hid (((rowAt L x).map (plc C)).length = (rowAt L x).length) := List.length_map _
        clear HX HO2 HY HG
        go_wp2
        go_region_law (first
          | (refine step_callv rfl (.tmp 30) _ _ rfl 21 #[.pointer (some ⟨w2.heap.size + 1, 0, none⟩)] (by first | rfl | (simp [Act.eval]; done) | simp [Act.eval, Act.put]) #[.slice au (rowAt L x).length cu] #[.slice au (rowAt L x).length cu, .pointer (some ⟨w2.heap.size + 1, 0, none⟩)] (by first | rfl | (simp [Act.eval]; done) | simp [Act.eval, Act.put]) rfl (enters_of Tryd.func21 (by kernel_rfl) rfl _) HMV.out ?_; rintro e W5 ⟨u5, rfl, hu5, vo5, hap5, ho5, hm5⟩; refine ⟨_, rfl, ?_⟩; have HMID : Hid _ := copy_mid HXD.out HOD.out HYD.out.1 HYD.out.2 HGD.out HGE.out hm5 hu5; have HO5 : Hid _ := ho5; have HAP5 : Hid _ := hap5; clear hu5 hap5 ho5 hm5; obtain ⟨a5, c5, hf5⟩ := OwnI.form HMID.out.2.2.2.2.1; rw [HRL.out] at hf5; subst hf5; obtain ⟨us, hus, hown, hrow⟩ := HMID.out.1; have HUS : Hid _ := hus; have HOWN : Hid _ := hown; have HROW : Hid _ := hrow; clear hus hown hrow; obtain ⟨hy0, hy1, hg0, hg1⟩ := box_cells HMID.out.2.2.2.1; have hya := Lib.cell?_alloc_some (.cells #[.slice a5 (rowAt L x).length c5] 23) hy0)
          | (refine step_append_own_at rfl (.tmp 29) (.tmp 40) 22 rfl (w2.heap.size + 1 + 1) 23 iR (.slice none 0 0) 1 24 Tryd.underlying22 HIR.out.1 HIR.out.2.1 HIR.out.2.2.1 HIR.out.2.2.2 rfl (by decide) (.slice aX k cX) k us (by first | rfl | (simp [Act.eval]; done) | simp [Act.eval, Act.put]) (World.ownsRow.alloc (by have h := HOWN.out; rw [HLL.out] at h; exact h) _) ⟨W5.heap.size, 0, none⟩ 1 1 [.slice a5 (rowAt L x).length c5] (by first | rfl | (simp [Act.eval]; done) | simp [Act.eval, Act.put]) rfl (by exact new_one _ _ _) (ownI_one HMID.out.2.2.2.2.1) (by unfold maxLen; omega) (by omega) (by have := HO5.out.le; show _ ≤ (W5.alloc _).heap.size; rw [World.size_alloc]; omega) ?_; intro v6 w6 hown' hgrow hat; have HEN : Hid _ := copy_end HO5.out HMID.out.2.1 HMID.out.2.2.1 HMID.out.2.2.2.1 HGE.out HUS.out HOWN.out HROW.out HMID.out.2.2.2.2.1 HAP5.out (by rw [HLL.out]; exact hown') hgrow hat; clear hown' hgrow hat; obtain ⟨a6, c6, hf6⟩ := HEN.out.2.2.1.ownR.form; rw [List.length_append, HLL.out, List.length_singleton] at hf6; subst hf6; obtain ⟨hz0, hz1, hh0, hh1⟩ := box_cells HEN.out.1))
        all_goals (
          have HXE : Hid (RowsA (w6.setCell ⟨g2, 0, none⟩ (.slice a6 (k + 1) c6)) (w2.heap.size + 1 + 1) vo5 (.slice a6 (k + 1) c6) ((C.take (k+1)).map fun x => (gOf L x).map (plc C))) := by unfold Hid; rw [HLK.out, HGX.out]; exact HEN.out.2.2.1
          have HOE : Hid (Ord (w6.setCell ⟨g2, 0, none⟩ (.slice a6 (k + 1) c6)) (w2.heap.size + 1 + 1) w2.heap.size (bfsA (gOf L) R (k+1)) vo5) := by unfold Hid; rw [HBF.out]; exact HEN.out.2.1
          have HBE : Hid (But (w2.heap.size + 1 + 1) w2.heap.size w3 (w6.setCell ⟨g2, 0, none⟩ (.slice a6 (k + 1) c6))) := ((HBU.out.trans (But.drewN _ _ wr 1)).trans HMID.out.2.2.2.2.2).trans HEN.out.2.2.2.2.2
          have HYE : Hid _ := HEN.out.2.2.2.1
          have HGN : Hid _ := HEN.out.2.2.2.2.1
          clear HEN HMID HUS HOWN HROW HO5 HAP5 hy0 hy1 hg0 hg1 hya hz0 hz1 hh0 hh1 hx0 hx1 hf0 hf1 hck hcu hgm hd0 hcb
          go_wp2
          go_roundw
          case rel => exact ⟨k + 1, _, _, by go_num, HAH1, HOE, HXE, HYE, HGN, HBE⟩
          case measure => simp [intOf]; omega)
      · have hlt' : ¬ (k : Int) < ((bfsA (gOf L) R k).length : Int) := by omega
        have hec : C = bfsA (gOf L) R k := (HC.out.ends HAH.out hlt).symm
        have hkl : k = C.length := by rw [hec]; omega
        generalize bfsA (gOf L) R k = A2 at *
        subst hec
        have HOX : Hid (RowsA wr (w2.heap.size + 1 + 1) (.slice ao2 C.length cap2) vX (anewO L C)) := by have := HX.out; rw [List.take_of_length_le (by omega)] at this; exact this
        obtain ⟨aX, cX, hfX⟩ := HOX.out.ownR.form
        rw [anew_length] at hfX
        subst hfX
        subst hkl
        clear HX HAH
        obtain ⟨hx0, hx1, hf0, hf1⟩ := box_cells HG.out
        have HXR : Hid (wr.heap[w.heap.size + 1]? = some (.cells #[.slice none 0 0, .slice none 0 0] 25 (0, 0))) := (HBU.out.block _ (by have := HS2.out; omega) (by have := HS2.out; omega)).trans ((HB3.out.block _ (by have := HS2.out; omega)).trans HX2.out)
        obtain ⟨hr0, hr1, hrf0, hrf1⟩ := box_cells HXR.out
        have HBE : Hid (Below w.heap.size w wr) := HB2.out.below.trans ((HB3.out.trans (HBU.out.below (by omega))).mono HB2.out.below.size)
        have HEND : Hid _ := heap_end (w0 := w) HXR.out HOX.out.ownR HY.out.1 (by have := HS2.out; omega) (by omega) HBE.out
        have HOE : Hid (OwnI ((wr.setCell ⟨w.heap.size + 1, 0, none⟩ (.slice aX C.length cX)).setCell ⟨w.heap.size + 1, 1, none⟩ (.slice aU R.length cU)) (w2.heap.size + 1 + 1) (.slice ao2 C.length cap2) C) := own_box (own_box HO2.out.own _ (by have := HS2.out; omega)) _ (by have := HS2.out; omega)
        go_wp2
        go_region_law (fail)
        all_goals go_wp2
        all_goals refine bodyPost_ret_by (results_tmp_cell_tmp Tryd.results7 _ _ (w.heap.size + 1) 25 #[.slice aX C.length cX, .slice aU R.length cU] (0, 0) _ rfl HEND.out.1 Tryd.underlying25 rfl (by kernel_rfl)) rfl ?_
        all_goals exact ⟨⟨_, _, by first | rfl | (rw [H0.out]; rfl), C, _, _, HOE.out.isInts, ⟨_, _, rfl, HEND.out.2.1.1.isRows, HEND.out.2.1.2.isInts⟩, by unfold CopyIs; rw [if_pos H0.out]; exact ⟨HC.out, rfl, rfl⟩⟩, HEND.out.2.2.drew⟩
  · have HE : Hid (errV (chkH L R) = .iface 44 (.int .i64 (chkH L R))) := errV_pos h0
    have H0 : Hid (chkH L R ≠ 0) := h0
    rw [HE.out]
    clear h0
    have HEND : Hid _ := heap_end (w0 := w) HX2.out (OwnR.nil w2 (w.heap.size + 1 + 1)) (OwnI.nil w2 (w.heap.size + 1 + 1)) (by omega) (by omega) HB2.out.below
    obtain ⟨hx0, hx1, hf0, hf1⟩ := box_cells HX2.out
    go_wp2
    refine bodyPost_ret_by (results_tmp_cell_tmp Tryd.results7 _ _ (w.heap.size + 1) 25 #[.slice none 0 0, .slice none 0 0] (0, 0) _ rfl HEND.out.1 Tryd.underlying25 rfl (by kernel_rfl)) rfl ?_
    exact ⟨⟨_, _, by rw [HE.out]; rfl, [], [], [], .inl ⟨rfl, none, 0, rfl, by simp⟩, ⟨_, _, rfl, HEND.out.2.1.1.isRows, HEND.out.2.1.2.isInts⟩, by unfold CopyIs; rw [if_neg H0.out]; exact ⟨rfl, rfl, rfl⟩⟩, HEND.out.2.2⟩
end Go.Proofs.YtennlinnclcngaaDoor
