/- The walk of the document's Anew (larderwickref2): a heap of some nodes, numbered anew. -/
import Derived.Test.YtennlinnclcngaaDoorInnL
import Derived.Test.YtennlinnclcngaaDoorOrdM
import Derived.Test.YtennlinnclcngaaDoorRPlace
import Derived.Test.YtennlinnclcngaaDoorResCell
import Derived.Test.YtennlinnclcngaaDoorStepL
import Derived.Deep.RegionWith
namespace Go.Proofs.YtennlinnclcngaaDoor
set_option maxRecDepth 100000
open Go.RowKit Go.Sort

theorem plcR_plc {N : List Int} {x : Int} (h : x ∈ N) : plcR N x = plc N x := plc_idx h
set_option maxHeartbeats 4000000 in
theorem ranew_any (v vn : Value) (L : List (List Int)) (R N : List Int) (w : World) (hv : IsHeap w v L R) (hn : IsInts w vn N) (hf : FineH L R) (hs : Shut L R N) (hN : Inn L N) :
    Calls Tryd.prog 6 #[v, vn] w fun e w' => ∃ ao co ar cr, e = .returned (.agg #[.slice ao N.length co, .slice ar R.length cr]) ∧ OwnR w' w.heap.size (.slice ao N.length co) (anewO L N) ∧ OwnI w' w.heap.size (.slice ar R.length cr) (R.map (plc N)) ∧ Below w.heap.size w w' := by
  obtain ⟨ao, co, ar, cr, rfl, h1, h2⟩ := hv.form
  obtain ⟨an, cn, rfl, hcn, _⟩ := hn.opened
  unfold maxLen at hcn
  have HBX : Hid (Boxed w (w.alloc (.cells #[.slice ao L.length co, .slice ar R.length cr] 25)) w.heap.size ao co ar cr L R) := boxed h1 h2 _
  have HF : Hid (FineH L R) := hf
  have HS : Hid (Shut L R N) := hs
  have HNN : Hid (Inn L N) := hN
  have HN : Hid (IsInts w (.slice an N.length cn) N) := hn
  have hl12 := hf.few
  obtain ⟨i0, hi, hz0, hz1, hz2⟩ := info_parts Tryd.info3
  have HI0 : Hid (Tryd.prog.info? 3 = some i0 ∧ i0.zero = some (.int .i64 0) ∧ i0.size = 1 ∧ i0.bytes = 8) := ⟨hi, hz0, hz1, hz2⟩
  obtain ⟨i1, hi, hz0, hz1, hz2⟩ := info_parts info_row
  have HI1 : Hid (Tryd.prog.info? 23 = some i1 ∧ i1.zero = some (.slice none 0 0) ∧ i1.size = 1 ∧ i1.bytes = 24) := ⟨hi, hz0, hz1, hz2⟩
  clear hv hn h1 h2 hf hs hN hi hz0 hz1 hz2
  go_enter Tryd.func6, Tryd.ntmps6
  go_wp2
  have HBH : Hid (Below (w.heap.size + 1) (w.alloc (.cells #[.slice ao L.length co, .slice ar R.length cr] 25)) (((w.alloc (.cells #[.slice ao L.length co, .slice ar R.length cr] 25)).alloc (.cells #[.slice none 0 0, .slice none 0 0] 25)).alloc (.cells #[.slice none 0 0, .slice none 0 0] 25))) := ((Below.refl _ _).alloc (by simp) _).alloc (by simp) _
  have HSH : Hid ((w.alloc (.cells #[.slice ao L.length co, .slice ar R.length cr] 25)).heap.size = w.heap.size + 1) := by unfold Hid; simp
  have HS1 : Hid ((((w.alloc (.cells #[.slice ao L.length co, .slice ar R.length cr] 25)).alloc (.cells #[.slice none 0 0, .slice none 0 0] 25)).alloc (.cells #[.slice none 0 0, .slice none 0 0] 25)).heap.size = w.heap.size + 1 + 1 + 1) := by unfold Hid; simp
  have HXR : Hid ((((w.alloc (.cells #[.slice ao L.length co, .slice ar R.length cr] 25)).alloc (.cells #[.slice none 0 0, .slice none 0 0] 25)).alloc (.cells #[.slice none 0 0, .slice none 0 0] 25)).heap[w.heap.size + 1]? = some (.cells #[.slice none 0 0, .slice none 0 0] 25 (0, 0))) := by
    have h := heap_alloc_new (w.alloc (.cells #[.slice ao L.length co, .slice ar R.length cr] 25)) (.cells #[.slice none 0 0, .slice none 0 0] 25)
    rw [HSH.out] at h
    unfold Hid
    rw [heap_alloc_old _ _ (by simp)]
    exact h
  have HXO : Hid ((((w.alloc (.cells #[.slice ao L.length co, .slice ar R.length cr] 25)).alloc (.cells #[.slice none 0 0, .slice none 0 0] 25)).alloc (.cells #[.slice none 0 0, .slice none 0 0] 25)).heap[w.heap.size + 1 + 1]? = some (.cells #[.slice none 0 0, .slice none 0 0] 25 (0, 0))) := by
    have h := heap_alloc_new ((w.alloc (.cells #[.slice ao L.length co, .slice ar R.length cr] 25)).alloc (.cells #[.slice none 0 0, .slice none 0 0] 25)) (.cells #[.slice none 0 0, .slice none 0 0] 25)
    rw [show ((w.alloc (.cells #[.slice ao L.length co, .slice ar R.length cr] 25)).alloc (.cells #[.slice none 0 0, .slice none 0 0] 25)).heap.size = w.heap.size + 1 + 1 by simp] at h
    exact h
  generalize (((w.alloc (.cells #[.slice ao L.length co, .slice ar R.length cr] 25)).alloc (.cells #[.slice none 0 0, .slice none 0 0] 25)).alloc (.cells #[.slice none 0 0, .slice none 0 0] 25)) = w1 at *
  generalize w.alloc (.cells #[.slice ao L.length co, .slice ar R.length cr] 25) = wH at *
  -- what is read: whatever leaves the blocks ahead of the answer's own
  have HRD : Hid (∀ W : World, Below (w.heap.size + 1) wH W → Boxed w W w.heap.size ao co ar cr L R ∧ IsInts W (.slice an N.length cn) N) := fun W hW => by
    have h := HBX.out.later (by rw [HSH.out]; exact hW)
    exact ⟨h, HN.out.below h.below⟩
  clear HBX HN
  have hNl : N.length ≤ 12 := by have := HNN.out.few; omega
  go_loopw [6] (fun i wr => ∃ (k : Nat) (vo : Value), k ≤ N.length ∧ i = .int .i64 (k : Nat) ∧ Hid (wr.heap[w.heap.size + 1 + 1]? = some (.cells #[vo, .slice none 0 0] 25 (0, 0))) ∧ Hid (OwnR wr w1.heap.size vo ((N.take k).map fun x => (gOf L x).map (plc N))) ∧ Hid (But w1.heap.size (w.heap.size + 1 + 1) w1 wr)) (fun i _ => N.length - (intOf i).toNat)
  case atStart => exact ⟨0, _, Nat.zero_le _, rfl, HXO, by rw [List.take_zero]; exact OwnR.nil _ _, But.refl _ _ _⟩
  case round =>
    obtain ⟨k, vo, hk, rfl, HX, HO, HB⟩ := hrel
    have hs1 := HS1.out
    have HBR : Hid (Below (w.heap.size + 1) wH wr) := HBH.out.trans ((HB.out.below (by omega)).mono (by omega))
    obtain ⟨hbx, hni⟩ := HRD.out wr HBR.out
    have HBX : Hid (Boxed w wr w.heap.size ao co ar cr L R) := hbx
    have HNI : Hid (IsInts wr (.slice an N.length cn) N) := hni
    have hd0 := hbx.outs
    clear hbx hni
    by_cases hlt : k < N.length
    · have hlt' : (k : Int) < (N.length : Int) := by omega
      obtain ⟨b, off, rfl, hlc, hbs, hcell⟩ := HNI.out.open_at hlt
      have hck := hcell k hlt
      have hin := HNN.out.2 _ (List.getElem_mem hlt)
      have hsh := HS.out.outs _ (List.getElem_mem hlt)
      have HLK : Hid ((N.take (k+1)).map (fun x => (gOf L x).map (plc N)) = (N.take k).map (fun x => (gOf L x).map (plc N)) ++ [(gOf L (N[k])).map (plc N)]) := by
        unfold Hid
        rw [List.take_succ_eq_append_getElem hlt, List.map_append]; rfl
      have HLL : Hid (((N.take k).map fun x => (gOf L x).map (plc N)).length = k) := by unfold Hid; simp; omega
      rw [List.getElem?_eq_getElem hlt, Option.getD_some] at hck
      generalize N[k] = x at *
      obtain ⟨x, rfl⟩ : ∃ t : Nat, x = (t : Int) := ⟨x.toNat, by omega⟩
      have hxl : x < L.length := by omega
      have hxi : (x : Int) < (L.length : Int) := by omega
      rw [gOf_at] at hsh
      have HSH2 : Hid (∀ y, y ∈ rowAt L x → y ∈ N) := hsh
      have HGX : Hid (gOf L (x : Int) = rowAt L x) := gOf_at x
      obtain ⟨bo, offo, rfl, hlco, hbso, au, cu, hcu, hiu, hmm, hcum⟩ := HBX.out.rows.at hxl
      have HIU : Hid (IsInts wr (.slice au (rowAt L x).length cu) (rowAt L x)) := hiu
      have h4 : (rowAt L x).length ≤ 12 := by have := HF.out.outs _ (rowAt_mem hxl); omega
      have HD0 : Hid (wr.cell? ⟨w.heap.size, 0, none⟩ = some (.slice (some ⟨bo, offo, none⟩) L.length co)) := hd0
      have HCK : Hid (wr.cell? ⟨b, off + k, none⟩ = some (.int .i64 (x : Nat))) := hck
      have HCU : Hid (wr.cell? ⟨bo, offo + x, none⟩ = some (.slice au (rowAt L x).length cu)) := hcu
      have HLT : Hid (w.heap.size < wr.heap.size ∧ b < wr.heap.size ∧ bo < wr.heap.size) := ⟨HBX.out.lt, hbs, hbso⟩
      clear hcell hin hsh hiu hd0 hck hcu hbs hbso
      obtain ⟨ws, hws⟩ : ∃ ws, ws = wr := ⟨_, rfl⟩
      subst hws
      go_wp2
      go_loopw [7, 8] (fun rv i wr => ∃ (j : Nat), j ≤ (rowAt L x).length ∧ i = .int .i64 (j : Nat) ∧ Hid (OwnI wr ws.heap.size rv (((rowAt L x).take j).map (plc N))) ∧ Hid (Below ws.heap.size ws wr)) (fun _ i _ => (rowAt L x).length - (intOf i).toNat)
      case atStart => exact ⟨0, Nat.zero_le _, rfl, by rw [List.take_zero]; exact OwnI.nil _ _, Below.refl _ _⟩
      case round =>
        obtain ⟨j, hj, rfl, HOL, HBL⟩ := hrel
        have hd0 : wr.cell? ⟨w.heap.size, 0, none⟩ = some (.slice (some ⟨bo, offo, none⟩) L.length co) := (HBL.out.cell (p := ⟨w.heap.size, 0, none⟩) HLT.out.1).trans HD0.out
        have hck : wr.cell? ⟨b, off + k, none⟩ = some (.int .i64 (x : Nat)) := (HBL.out.cell (p := ⟨b, off + k, none⟩) HLT.out.2.1).trans HCK.out
        have hcu : wr.cell? ⟨bo, offo + x, none⟩ = some (.slice au (rowAt L x).length cu) := (HBL.out.cell (p := ⟨bo, offo + x, none⟩) HLT.out.2.2).trans HCU.out
        by_cases hjl : j < (rowAt L x).length
        · have hjl' : (j : Int) < ((rowAt L x).length : Int) := by omega
          obtain ⟨bu, offu, rfl, hlu, _, hcellu⟩ := (HIU.out.below HBL.out).open_at hjl
          have hcz := hcellu j hjl
          have hzN := HSH2.out _ (List.getElem_mem hjl)
          have HJK : Hid (((rowAt L x).take (j+1)).map (plc N) = ((rowAt L x).take j).map (plc N) ++ [plc N ((rowAt L x)[j])]) := by
            unfold Hid
            rw [List.take_succ_eq_append_getElem hjl, List.map_append]; rfl
          have HJL : Hid ((((rowAt L x).take j).map (plc N)).length = j) := by unfold Hid; simp; omega
          rw [List.getElem?_eq_getElem hjl, Option.getD_some] at hcz
          generalize (rowAt L x)[j] = z at *
          have HPZ : Hid (plcR N z = plc N z) := plcR_plc hzN
          obtain ⟨a7, c7, hf7⟩ := OwnI.form HOL.out
          rw [HJL.out] at hf7
          subst hf7
          clear hcellu hzN
          go_wp2
          go_quiet (fail)
          have HOL5 : Hid (OwnI (wr.drewN nq) ws.heap.size (.slice a7 j c7) (((rowAt L x).take j).map (plc N))) := HOL.out.drewN nq
          have HBL5 : Hid (Below ws.heap.size ws (wr.drewN nq)) := below_drewN HBL.out nq
          have hd05 : (wr.drewN nq).cell? ⟨w.heap.size, 0, none⟩ = some (.slice (some ⟨bo, offo, none⟩) L.length co) := hd0
          have hck5 : (wr.drewN nq).cell? ⟨b, off + k, none⟩ = some (.int .i64 (x : Nat)) := hck
          have hcu5 : (wr.drewN nq).cell? ⟨bo, offo + x, none⟩ = some (.slice (some ⟨bu, offu, none⟩) (rowAt L x).length cu) := hcu
          have hcz5 : (wr.drewN nq).cell? ⟨bu, offu + j, none⟩ = some (.int .i64 z) := hcz
          have HPC : Hid (∀ W : World, W.heap = (wr.drewN nq).heap → Calls Tryd.prog 13 #[.slice (some ⟨b, off, none⟩) N.length cn, .int .i64 z] W fun e w' => e = .returned (.int .i64 (plc N z)) ∧ w' = W) := fun W hW => by
            rw [← HPZ.out]
            exact rplace_any _ N z W ((HNI.out.below HBL.out).heap hW)
          clear HOL HBL hd0 hck hcu hcz
          generalize wr.drewN nq = wk at *
          have HOD : Hid (OwnI wk.drew ws.heap.size (.slice a7 j c7) (((rowAt L x).take j).map (plc N))) := HOL5.out.later (Below.refl _ _).drew
          have HBD : Hid (Below ws.heap.size ws wk.drew) := HBL5.out.drew
          have hszk := HBL5.out.size
          go_wp2
          go_region_law (first
            | (refine step_call rfl 13 _ _ rfl #[.slice (some ⟨b, off, none⟩) N.length cn, .int .i64 z] (by first | rfl | (simp [Act.eval]; done) | simp [Act.eval, Act.put]) (enters_of Tryd.func13 (by kernel_rfl) rfl _) (HPC.out _ (by rfl)) ?_; rintro e W5 ⟨rfl, hW5⟩; have hW5 := hW5.symm; subst hW5; refine ⟨_, rfl, ?_⟩)
            | (refine step_append_own rfl (.tmp 29) (.tmp 43) 23 rfl ws.heap.size 3 i0 (.int .i64 0) 1 8 Tryd.underlying23 HI0.out.1 HI0.out.2.1 HI0.out.2.2.1 HI0.out.2.2.2 rfl (by decide) (.slice a7 j c7) j ((((rowAt L x).take j).map (plc N)).map (Value.int .i64)) (by first | rfl | (simp [Act.eval]; done) | simp [Act.eval, Act.put]) (World.ownsRow.alloc (HOD.out.rows HJL.out rfl) _) ⟨wk.heap.size, 0, none⟩ 1 1 [.int .i64 (plc N z)] (by first | rfl | (simp [Act.eval]; done) | simp [Act.eval, Act.put]) rfl (by exact new_one _ _ _) (one_cell _) (by unfold maxLen; omega) (by omega) (by show ws.heap.size ≤ (wk.alloc _).heap.size; rw [World.size_alloc]; omega) ?_; intro v5 w5 hown' hgrow _; have RR := own_append2 HOD.out HJL.out HBD.out (Nat.le_refl _) hown' hgrow; have R1 : Hid (OwnI w5 ws.heap.size v5 (((rowAt L x).take (j+1)).map (plc N))) := (by unfold Hid; rw [HJK.out]; exact RR.1); have R2 : Hid (Below ws.heap.size ws w5) := RR.2; clear RR hown' hgrow))
          all_goals go_wp2
          all_goals exact ⟨⟨j + 1, by omega, by go_num, R1, R2⟩, by simp [intOf]; omega⟩
        · have hjl' : ¬ (j : Int) < ((rowAt L x).length : Int) := by omega
          have HOE : Hid (OwnI wr ws.heap.size u7 ((rowAt L x).map (plc N))) := by have := HOL.out; rwa [List.take_of_length_le (by omega)] at this
          clear HOL
          go_wp2
          go_quiet (fail)
          have hsw := HB.out.size
          have hsl := HBL.out.size
          have HBK : Hid (But w1.heap.size (w.heap.size + 1 + 1) w1 (wr.drewN nq)) := (HB.out.trans (But.later HBL.out hsw)).trans (But.drewN _ _ _ _)
          have HXK : Hid ((wr.drewN nq).heap[w.heap.size + 1 + 1]? = some (.cells #[vo, .slice none 0 0] 25 (0, 0))) := (HBL.out.block _ (by omega)).trans HX.out
          have HOK0 : Hid (OwnR (wr.drewN nq) w1.heap.size vo ((N.take k).map fun x => (gOf L x).map (plc N))) := HO.out.later (below_drewN HBL.out nq)
          have HUK : Hid (OwnI (wr.drewN nq) w1.heap.size u7 ((rowAt L x).map (plc N))) := ownI_mono (HOE.out.drewN nq) hsw
          have HSK : Hid (w1.heap.size ≤ (wr.drewN nq).heap.size) := Nat.le_trans hsw hsl
          clear HX HO HB HBL HOE hsw hsl hd0 hck hcu
          generalize wr.drewN nq = wk at *
          obtain ⟨us, hus, hown, hrow⟩ := HOK0.out
          obtain ⟨aV, cV, hfV⟩ := HOK0.out.form
          rw [HLL.out] at hfV
          subst hfV
          obtain ⟨aU, cU, hfU⟩ := OwnI.form HUK.out
          rw [List.length_map] at hfU
          subst hfU
          have HOWN : Hid (wk.ownsRow w1.heap.size 23 1 (.slice aV k cV) ((N.take k).map fun x => (gOf L x).map (plc N)).length us) := hown
          have HOWK : Hid (wk.ownsRow w1.heap.size 23 1 (.slice aV k cV) k us) := by have := HOWN.out; rw [HLL.out] at this; exact this
          have HROW : Hid (∀ j u, us[j]? = some u → OwnI wk w1.heap.size u (rowAt ((N.take k).map fun x => (gOf L x).map (plc N)) j)) := hrow
          have HUS : Hid (us.length = ((N.take k).map fun x => (gOf L x).map (plc N)).length) := hus
          have HU1 : Hid (∀ y ∈ [Value.slice aU (rowAt L x).length cU], y.oneCell' = true) := ownI_one HUK.out
          obtain ⟨hx0, hx1, hf0, hf1⟩ := box_cells HXK.out
          have hss := HSK.out
          have HLM : Hid (((N.take (k+1)).map fun x => (gOf L x).map (plc N)).length = k + 1) := by unfold Hid; simp; omega
          clear hus hown hrow HOK0
          go_wp2_with (at_builtin; go_must (refine wpList_append_own _ rfl _ _ 22 rfl w1.heap.size 23 i1 (.slice none 0 0) 1 24 Tryd.underlying22 HI1.out.1 HI1.out.2.1 HI1.out.2.2.1 HI1.out.2.2.2 rfl (by decide) _ k us rfl (World.ownsRow.alloc HOWK.out _) ⟨wk.heap.size, 0, none⟩ 1 1 [.slice aU (rowAt L x).length cU] rfl rfl (by exact new_one _ _ _) HU1.out (by unfold maxLen; omega) (by omega) (by simp; omega) ?_; intro vo' w5 hown' hgrow _; have RR := ownR_append HUS.out HOWN.out HROW.out HUK.out (Below.refl w1.heap.size wk) HSK.out (by rw [HLL.out]; exact hown') hgrow; have R1 : Hid (OwnR w5 w1.heap.size vo' ((N.take (k+1)).map fun x => (gOf L x).map (plc N))) := (by unfold Hid; rw [HLK.out, HGX.out]; exact RR.1); have R2 : Hid (But w1.heap.size (w.heap.size + 1 + 1) wk w5) := But.grown hgrow HSK.out (fun q hq => (World.ownsRow.lt HOWK.out q hq).1); have R3 : Hid (w5.heap[w.heap.size + 1 + 1]? = some (.cells #[.slice aV k cV, .slice none 0 0] 25 (0, 0))) := (RR.2.block _ (by omega)).trans HXK.out; clear RR hown' hgrow; obtain ⟨a5, c5, hf5⟩ := R1.out.form; rw [HLM.out] at hf5; subst hf5; obtain ⟨hy0, hy1, hg0, hg1⟩ := box_cells R3.out))
          go_roundw
          case rel => exact ⟨k + 1, _, by omega, by go_num, box_set0 _ R3.out, R1.out.box (g := w.heap.size + 1 + 1) (j := 0) (.slice a5 (k + 1) c5) (by omega), (HBK.out.trans R2.out).trans (But.set _ _ _ _ _)⟩
          case measure => simp [intOf]; omega
    · have hlt' : ¬ (k : Int) < (N.length : Int) := by omega
      have HOX : Hid (OwnR wr w1.heap.size vo (anewO L N)) := by have := HO.out; rwa [List.take_of_length_le (by omega)] at this
      clear HO
      obtain ⟨ws, hws⟩ : ∃ ws, ws = wr := ⟨_, rfl⟩
      subst hws
      have hss := HB.out.size
      have hR12 := HF.out.roots
      go_wp2
      go_loopw [9] (fun i wr => ∃ (j : Nat) (vr : Value), j ≤ R.length ∧ i = .int .i64 (j : Nat) ∧ Hid (wr.heap[w.heap.size + 1 + 1]? = some (.cells #[vo, vr] 25 (0, 0))) ∧ Hid (OwnI wr ws.heap.size vr ((R.take j).map (plc N))) ∧ Hid (But ws.heap.size (w.heap.size + 1 + 1) ws wr)) (fun i _ => R.length - (intOf i).toNat)
      case atStart => exact ⟨0, _, Nat.zero_le _, rfl, HX, by rw [List.take_zero]; exact OwnI.nil _ _, But.refl _ _ _⟩
      case round =>
        obtain ⟨j, vr, hj, rfl, HXJ, HOJ, HBJ⟩ := hrel
        have HBT : Hid (Below (w.heap.size + 1) wH wr) := HBR.out.trans ((HBJ.out.below (by omega)).mono (by omega))
        obtain ⟨hbx, hni⟩ := HRD.out wr HBT.out
        have HBX2 : Hid (Boxed w wr w.heap.size ao co ar cr L R) := hbx
        have HNI2 : Hid (IsInts wr (.slice an N.length cn) N) := hni
        have hd1 := hbx.roots
        have hsj := HBJ.out.size
        clear hbx hni hd0
        by_cases hjl : j < R.length
        · have hjl' : (j : Int) < (R.length : Int) := by omega
          obtain ⟨bu, offu, rfl, hlu, _, hcellu⟩ := HBX2.out.ints.open_at hjl
          have hcz := hcellu j hjl
          have hzN := HS.out.root _ (List.getElem_mem hjl)
          have HJK : Hid ((R.take (j+1)).map (plc N) = (R.take j).map (plc N) ++ [plc N (R[j])]) := by
            unfold Hid
            rw [List.take_succ_eq_append_getElem hjl, List.map_append]; rfl
          have HJL : Hid (((R.take j).map (plc N)).length = j) := by unfold Hid; simp; omega
          have HJM : Hid (((R.take (j+1)).map (plc N)).length = j + 1) := by unfold Hid; simp; omega
          rw [List.getElem?_eq_getElem hjl, Option.getD_some] at hcz
          generalize R[j] = z at *
          have HPZ : Hid (plcR N z = plc N z) := plcR_plc hzN
          have HPC : Hid (∀ W : World, W.heap = wr.heap → Calls Tryd.prog 13 #[.slice an N.length cn, .int .i64 z] W fun e w' => e = .returned (.int .i64 (plc N z)) ∧ w' = W) := fun W hW => by
            rw [← HPZ.out]
            exact rplace_any _ N z W (HNI2.out.heap hW)
          obtain ⟨a7, c7, hf7⟩ := OwnI.form HOJ.out
          rw [HJL.out] at hf7
          subst hf7
          have HOD : Hid (OwnI wr.drew ws.heap.size (.slice a7 j c7) ((R.take j).map (plc N))) := HOJ.out.later (Below.refl _ _).drew
          obtain ⟨hx0, hx1, hf0, hf1⟩ := box_cells HXJ.out
          have hxa : (wr.alloc (.cells #[.int .i64 (plc N z)] 3)).cell? ⟨w.heap.size + 1 + 1, 1, none⟩ = some (.slice a7 j c7) := Lib.cell?_alloc_some _ hx1
          clear hcellu hzN
          go_wp2
          go_region_law (first
            | (refine step_call rfl 13 _ _ rfl #[.slice an N.length cn, .int .i64 z] (by first | rfl | (simp [Act.eval]; done) | simp [Act.eval, Act.put]) (enters_of Tryd.func13 (by kernel_rfl) rfl _) (HPC.out _ (by rfl)) ?_; rintro e W5 ⟨rfl, hW5⟩; have hW5 := hW5.symm; subst hW5; refine ⟨_, rfl, ?_⟩)
            | (refine step_append_own rfl (.tmp 59) (.tmp 67) 23 rfl ws.heap.size 3 i0 (.int .i64 0) 1 8 Tryd.underlying23 HI0.out.1 HI0.out.2.1 HI0.out.2.2.1 HI0.out.2.2.2 rfl (by decide) (.slice a7 j c7) j (((R.take j).map (plc N)).map (Value.int .i64)) (by first | rfl | (simp [Act.eval]; done) | simp [Act.eval, Act.put]) (World.ownsRow.alloc (HOD.out.rows HJL.out rfl) _) ⟨wr.heap.size, 0, none⟩ 1 1 [.int .i64 (plc N z)] (by first | rfl | (simp [Act.eval]; done) | simp [Act.eval, Act.put]) rfl (by exact new_one _ _ _) (one_cell _) (by unfold maxLen; omega) (by omega) (by show ws.heap.size ≤ (wr.alloc _).heap.size; rw [World.size_alloc]; omega) ?_; intro v5 w5 hown' hgrow _; have RR := own_append2 HOD.out HJL.out (Below.refl ws.heap.size wr.drew) (by show ws.heap.size ≤ wr.heap.size; omega) hown' hgrow; have R1 : Hid (OwnI w5 ws.heap.size v5 ((R.take (j+1)).map (plc N))) := (by unfold Hid; rw [HJK.out]; exact RR.1); have R2 : Hid (But ws.heap.size (w.heap.size + 1 + 1) wr.drew w5) := But.grown hgrow (by show ws.heap.size ≤ wr.heap.size; omega) (fun q hq => (World.ownsRow.lt HOD.out q hq).1); have R3 : Hid (w5.heap[w.heap.size + 1 + 1]? = some (.cells #[vo, .slice a7 j c7] 25 (0, 0))) := (RR.2.block _ (by omega)).trans HXJ.out; clear RR hown' hgrow; obtain ⟨a5, c5, hf5⟩ := OwnI.form R1.out; rw [HJM.out] at hf5; subst hf5; obtain ⟨hy0, hy1, hg0, hg1⟩ := box_cells R3.out))
          all_goals go_wp2
          all_goals exact ⟨⟨j + 1, _, by omega, by go_num, box_set1 _ R3.out, own_box R1.out (g := w.heap.size + 1 + 1) (j := 1) (.slice a5 (j + 1) c5) (by omega), (HBJ.out.trans (But.drewN _ _ wr 1)).trans (R2.out.trans (But.set _ _ _ _ _))⟩, by simp [intOf]; omega⟩
        · have hjl' : ¬ (j : Int) < (R.length : Int) := by omega
          have HOE : Hid (OwnI wr ws.heap.size vr (R.map (plc N))) := by have := HOJ.out; rwa [List.take_of_length_le (by omega)] at this
          obtain ⟨a7, c7, hf7⟩ := OwnI.form HOE.out
          rw [List.length_map] at hf7
          subst hf7
          obtain ⟨aV, cV, hfV⟩ := HOX.out.form
          rw [anew_length] at hfV
          subst hfV
          obtain ⟨hx0, hx1, hf0, hf1⟩ := box_cells HXJ.out
          have HBE : Hid (But w1.heap.size (w.heap.size + 1 + 1) w1 wr) := HB.out.trans ⟨HBJ.out.os, HBJ.out.tape, HBJ.out.output, HBJ.out.size, fun i hi hn => HBJ.out.block i (by omega) hn⟩
          have HXE : Hid (wr.heap[w.heap.size + 1]? = some (.cells #[.slice none 0 0, .slice none 0 0] 25 (0, 0))) := (HBE.out.block _ (by omega) (by omega)).trans HXR.out
          have HOXE : Hid (OwnR wr w1.heap.size (.slice aV N.length cV) (anewO L N)) := HOX.out.but HBJ.out (by omega) (Nat.le_refl _)
          have HEND : Hid _ := heap_end (w0 := w) HXE.out HOXE.out (ownI_mono HOE.out hss) (by omega) (by omega) HBX2.out.below
          obtain ⟨hr0, hr1, hrf0, hrf1⟩ := box_cells HXE.out
          go_wp2
          refine bodyPost_ret_by (results_cell_row Tryd.results6 _ _ (w.heap.size + 1) 25 #[.slice aV N.length cV, .slice a7 R.length c7] (0, 0) _ rfl HEND.out.1 Tryd.underlying25 rfl (by kernel_rfl)) rfl ?_
          exact ⟨_, _, _, _, rfl, HEND.out.2.1.1.mono (by omega), ownI_mono HEND.out.2.1.2 (by omega), HEND.out.2.2⟩
end Go.Proofs.YtennlinnclcngaaDoor
