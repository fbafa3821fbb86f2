/- The walks of sweep.heapOf and what numbers anew. -/
import Derived.Test.YtelmfccpcejdnaaDoorSCome
import Derived.Test.YtelmfccpcejdnaaDoorIndex
import Derived.Test.YtelmfccpcejdnaaDoorOwns
namespace Go.Proofs.YtelmfccpcejdnaaDoor
set_option maxRecDepth 100000
open Go.RowKit Go.Sort

theorem at_plc {N : List Int} {x : Int} (h : x ∈ N) : at_ N x = plc N x := by
  unfold at_ plc
  have hi : N.idxOf x < N.length := List.idxOf_lt_length_iff.2 h
  refine Lib.idxOf_hit N N.length _ x hi (Nat.le_refl _) ?_ ?_
  · rw [List.getD_eq_getElem?_getD, List.getElem?_eq_getElem hi]; simp
  · intro j hj e
    have hjl : j < N.length := by omega
    rw [List.getD_eq_getElem?_getD, List.getElem?_eq_getElem hjl] at e
    simp at e
    have := List.not_of_lt_findIdx (xs := N) (p := fun y => y == x) (i := j) hj
    simp [e] at this
set_option maxHeartbeats 1000000 in
theorem anew_any (v vn : Value) (l N : List Int) (gn : Nat) (w : World) (hv : IsInts w v l) (hn : IsInts w vn N) (hl : l.length ≤ 12) (hin : ∀ x, x ∈ l → x ∈ N) (hc : w.cell? ⟨gn, 0, none⟩ = some vn) :
    Calls Tryd.prog 36 #[v, .pointer (some ⟨gn, 0, none⟩)] w fun e w' => ∃ v', e = .returned v' ∧ OwnI w' w.heap.size v' (l.map (plc N)) ∧ Below w.heap.size w w' := by
  obtain ⟨ao, cap, rfl, hcap, _⟩ := hv.opened
  obtain ⟨an, cn, rfl, hcn, _⟩ := hn.opened
  have HV : Hid (IsInts w (.slice ao l.length cap) l) := hv
  have HN : Hid (IsInts w (.slice an N.length cn) N) := hn
  have HIN : Hid (∀ x, x ∈ l → x ∈ N) := hin
  have HC : Hid (w.cell? ⟨gn, 0, none⟩ = some (.slice an N.length cn)) := hc
  obtain ⟨i0, hi, hz0, hz1, hz2⟩ := info_parts Tryd.info3
  have HI : Hid (Tryd.prog.info? 3 = some i0 ∧ i0.zero = some (.int .i64 0) ∧ i0.size = 1 ∧ i0.bytes = 8) := ⟨hi, hz0, hz1, hz2⟩
  unfold maxLen at hcap hcn
  clear hv hn hin hc hi hz0 hz1 hz2
  go_enter Tryd.func36, Tryd.ntmps36
  go_wp2
  go_loopw [4, 9] (fun rv i wr => ∃ (k : Nat), k ≤ l.length ∧ i = .int .i64 (k : Nat) ∧ Hid (OwnI wr w.heap.size rv ((l.take k).map (plc N))) ∧ Hid (Below w.heap.size w wr)) (fun _ i _ => l.length - (intOf i).toNat)
  case atStart => exact ⟨0, Nat.zero_le _, rfl, by rw [List.take_zero]; exact OwnI.nil _ _, Below.refl _ _⟩
  case round =>
    obtain ⟨k, hk, rfl, HO, HB⟩ := hrel
    by_cases hlt : k < l.length
    · have hlt' : (k : Int) < (l.length : Int) := by omega
      obtain ⟨b, off, rfl, hlc, hbs, hcell⟩ := (HV.out.below HB.out).open_at hlt
      have hck := hcell k hlt
      have hgn : wr.cell? ⟨gn, 0, none⟩ = some (.slice an N.length cn) := (HB.out.cell (p := ⟨gn, 0, none⟩) (World.block_lt_of_cell? w _ HC.out)).trans HC.out
      have hmem := HIN.out _ (List.getElem_mem hlt)
      have HLK : Hid ((l.take (k+1)).map (plc N) = (l.take k).map (plc N) ++ [plc N (l[k])]) := by
        unfold Hid
        rw [List.take_succ_eq_append_getElem hlt, List.map_append]; rfl
      have HLL : Hid (((l.take k).map (plc N)).length = k) := by unfold Hid; simp; omega
      rw [List.getElem?_eq_getElem hlt, Option.getD_some] at hck
      generalize l[k] = x at *
      have HAT : Hid (at_ N x = plc N x) := at_plc hmem
      have HND : Hid (IsInts wr (.slice an N.length cn) N) := HN.out.below HB.out
      have HOR : Hid (wr.ownsRow w.heap.size 3 1 u4 k (((l.take k).map (plc N)).map (Value.int .i64))) := HO.out.rows HLL.out rfl
      clear hcell hmem
      go_wp2_with (first | (go_at_call 37; go_must (refine (index_any _ N x _ HND.out).mono ?_; rintro e w' ⟨rfl, hw⟩; have hw := hw.symm; subst hw; rw [HAT.out])) | (at_builtin; go_must (refine wpList_append_own _ rfl _ _ 23 rfl w.heap.size 3 i0 (.int .i64 0) 1 8 Tryd.underlying23 HI.out.1 HI.out.2.1 HI.out.2.2.1 HI.out.2.2.2 rfl (by decide) _ k (((l.take k).map (plc N)).map (Value.int .i64)) rfl (World.ownsRow.alloc HOR.out _) ⟨wr.heap.size, 0, none⟩ 1 1 [.int .i64 (plc N x)] rfl rfl (by exact new_one _ _ _) (one_cell _) (by unfold maxLen; omega) (by omega) (by have := HB.out.size; simp; omega) ?_; intro vo' w5 hown' hgrow _)))
      have R := own_append2 HO.out HLL.out HB.out (Nat.le_refl _) hown' hgrow
      have R1 : Hid (OwnI w5 w.heap.size vo' ((l.take (k+1)).map (plc N))) := by unfold Hid; rw [HLK.out]; exact R.1
      have R2 : Hid (Below w.heap.size w w5) := R.2
      clear R hown' hgrow
      go_roundw
      case rel => exact ⟨k + 1, by omega, by go_num, R1, R2⟩
      case measure => simp [intOf]; omega
    · have hlt' : ¬ (k : Int) < (l.length : Int) := by omega
      have HOL : Hid (OwnI wr w.heap.size u4 (l.map (plc N))) := by have := HO.out; rwa [List.take_of_length_le (by omega)] at this
      go_wp2
      go_ret
      exact ⟨_, rfl, HOL.out, HB.out⟩
set_option maxHeartbeats 4000000 in
theorem heapof_any (v vn : Value) (L : List (List Int)) (R N : List Int) (w : World) (hv : IsHeap w v L R) (hn : IsInts w vn N) (hf : FineH L R) (hs : Shut L R N) (hN : Inn L N) :
    Calls Tryd.prog 26 #[v, vn] w fun e w' => ∃ ao co ar cr, e = .returned (.agg #[.slice ao N.length co, .slice ar R.length cr]) ∧ OwnR w' w.heap.size (.slice ao N.length co) (anewO L N) ∧ OwnI w' w.heap.size (.slice ar R.length cr) (R.map (plc N)) ∧ Below w.heap.size w w' := by
  obtain ⟨ao, co, ar, cr, rfl, h1, h2⟩ := hv.form
  obtain ⟨an, cn, rfl, hcn, _⟩ := hn.opened
  unfold maxLen at hcn
  have HBX : Hid (Boxed w (w.alloc (.cells #[.slice ao L.length co, .slice ar R.length cr] 25)) w.heap.size ao co ar cr L R) := boxed h1 h2 _
  have HF : Hid (FineH L R) := hf
  have HS : Hid (Shut L R N) := hs
  have HNN : Hid (Inn L N) := hN
  have HN : Hid (IsInts w (.slice an N.length cn) N) := hn
  obtain ⟨i0, hi, hz0, hz1, hz2⟩ := info_parts info_row
  have HI : Hid (Tryd.prog.info? 23 = some i0 ∧ i0.zero = some (.slice none 0 0) ∧ i0.size = 1 ∧ i0.bytes = 24) := ⟨hi, hz0, hz1, hz2⟩
  have hl12 := hf.few
  clear hv hn h1 h2 hf hs hN hi hz0 hz1 hz2
  go_enter Tryd.func26, Tryd.ntmps26
  go_wp2
  have HB1 : Hid (Below w.heap.size w (((w.alloc (.cells #[.slice ao L.length co, .slice ar R.length cr] 25)).alloc (.cells #[.slice an N.length cn] 23)).alloc (.cells #[.slice none 0 0, .slice none 0 0] 25))) := (((Below.refl _ w).alloc (Nat.le_refl _) _).alloc (by simp) _).alloc (by simp; omega) _
  have HS1 : Hid ((((w.alloc (.cells #[.slice ao L.length co, .slice ar R.length cr] 25)).alloc (.cells #[.slice an N.length cn] 23)).alloc (.cells #[.slice none 0 0, .slice none 0 0] 25)).heap.size = w.heap.size + 1 + 1 + 1) := by unfold Hid; simp
  have HX1 : Hid ((((w.alloc (.cells #[.slice ao L.length co, .slice ar R.length cr] 25)).alloc (.cells #[.slice an N.length cn] 23)).alloc (.cells #[.slice none 0 0, .slice none 0 0] 25)).heap[w.heap.size + 1 + 1]? = some (.cells #[.slice none 0 0, .slice none 0 0] 25 (0, 0))) := by
    have h := heap_alloc_new ((w.alloc (.cells #[.slice ao L.length co, .slice ar R.length cr] 25)).alloc (.cells #[.slice an N.length cn] 23)) (.cells #[.slice none 0 0, .slice none 0 0] 25)
    rw [show ((w.alloc (.cells #[.slice ao L.length co, .slice ar R.length cr] 25)).alloc (.cells #[.slice an N.length cn] 23)).heap.size = w.heap.size + 1 + 1 by simp] at h
    exact h
  have HBW : Hid (Boxed w (((w.alloc (.cells #[.slice ao L.length co, .slice ar R.length cr] 25)).alloc (.cells #[.slice an N.length cn] 23)).alloc (.cells #[.slice none 0 0, .slice none 0 0] 25)) w.heap.size ao co ar cr L R) := HBX.out.later (((Below.refl _ _).alloc (Nat.le_refl _) _).alloc (by simp) _)
  have HCN : Hid ((((w.alloc (.cells #[.slice ao L.length co, .slice ar R.length cr] 25)).alloc (.cells #[.slice an N.length cn] 23)).alloc (.cells #[.slice none 0 0, .slice none 0 0] 25)).cell? ⟨w.heap.size + 1, 0, none⟩ = some (.slice an N.length cn)) := by
    refine Lib.cell?_alloc_some _ ?_
    have h := new_one (w.alloc (.cells #[.slice ao L.length co, .slice ar R.length cr] 25)) (.slice an N.length cn) 23 0 _ rfl
    simp only [show (w.alloc (.cells #[.slice ao L.length co, .slice ar R.length cr] 25)).heap.size = w.heap.size + 1 by simp, Addr.add_lit, Nat.add_zero] at h
    exact h
  have HNI : Hid (IsInts (((w.alloc (.cells #[.slice ao L.length co, .slice ar R.length cr] 25)).alloc (.cells #[.slice an N.length cn] 23)).alloc (.cells #[.slice none 0 0, .slice none 0 0] 25)) (.slice an N.length cn) N) := HN.out.below HB1.out
  clear HBX HN
  generalize (((w.alloc (.cells #[.slice ao L.length co, .slice ar R.length cr] 25)).alloc (.cells #[.slice an N.length cn] 23)).alloc (.cells #[.slice none 0 0, .slice none 0 0] 25)) = w1 at *
  go_loopw [6, 12] (fun rv i wr => ∃ (k : Nat), k ≤ N.length ∧ i = .int .i64 (k : Nat) ∧ Hid (OwnR wr w1.heap.size rv ((N.take k).map fun x => (gOf L x).map (plc N))) ∧ Hid (Below w1.heap.size w1 wr)) (fun _ i _ => N.length - (intOf i).toNat)
  case atStart => exact ⟨0, Nat.zero_le _, rfl, by rw [List.take_zero]; exact OwnR.nil _ _, Below.refl _ _⟩
  case round =>
    obtain ⟨k, hk, rfl, HO, HB⟩ := hrel
    have HBR : Hid (Boxed w wr w.heap.size ao co ar cr L R) := HBW.out.later HB.out
    have HCR : Hid (wr.cell? ⟨w.heap.size + 1, 0, none⟩ = some (.slice an N.length cn)) := (HB.out.cell (p := ⟨w.heap.size + 1, 0, none⟩) (World.block_lt_of_cell? w1 _ HCN.out)).trans HCN.out
    have HNR : Hid (IsInts wr (.slice an N.length cn) N) := HNI.out.below HB.out
    have hNl : N.length ≤ 12 := by have := HNN.out.few; omega
    by_cases hlt : k < N.length
    · have hlt' : (k : Int) < (N.length : Int) := by omega
      obtain ⟨b, off, rfl, hlc, hbs, hcell⟩ := HNR.out.open_at hlt
      have hck := hcell k hlt
      have hin := HNN.out.2 _ (List.getElem_mem hlt)
      have hsh := HS.out.outs _ (List.getElem_mem hlt)
      have HLK : Hid ((N.take (k+1)).map (fun x => (gOf L x).map (plc N)) = (N.take k).map (fun x => (gOf L x).map (plc N)) ++ [(gOf L (N[k])).map (plc N)]) := by
        unfold Hid
        rw [List.take_succ_eq_append_getElem hlt, List.map_append]; rfl
      have HLL : Hid (((N.take k).map fun x => (gOf L x).map (plc N)).length = k) := by unfold Hid; simp; omega
      rw [List.getElem?_eq_getElem hlt, Option.getD_some] at hck
      generalize N[k] = x at *
      obtain ⟨x, rfl⟩ : ∃ t : Nat, x = (t : Int) := ⟨x.toNat, by omega⟩
      have hxl : x < L.length := by omega
      have hxi : (x : Int) < (L.length : Int) := by omega
      rw [gOf_at] at hsh
      have HSH : Hid (∀ y, y ∈ rowAt L x → y ∈ N) := hsh
      have HGX : Hid (gOf L (x : Int) = rowAt L x) := gOf_at x
      obtain ⟨bo, offo, rfl, hlco, hbso, au, cu, hcu, hiu, hmm, hcum⟩ := HBR.out.rows.at hxl
      have HIU : Hid (IsInts wr (.slice au (rowAt L x).length cu) (rowAt L x)) := hiu
      have hd0 := HBR.out.outs
      have h4 : (rowAt L x).length ≤ 12 := by have := HF.out.outs _ (rowAt_mem hxl); omega
      clear hcell hin hsh hiu
      go_wp2_with (go_at_call 36; fail)
      refine (anew_any _ _ (rowAt L x) N (w.heap.size + 1) _ HIU.out HNR.out h4 HSH.out HCR.out).mono ?_
      rintro e w3 ⟨u, rfl, hu, hb3⟩
      obtain ⟨aU, cU, hfU⟩ := OwnI.form hu
      rw [List.length_map] at hfU
      subst hfU
      obtain ⟨us, hus, hown, hrow⟩ := HO.out.later hb3
      have HOWN : Hid (w3.ownsRow w1.heap.size 23 1 u6 ((N.take k).map fun x => (gOf L x).map (plc N)).length us) := hown
      have HOWK : Hid (w3.ownsRow w1.heap.size 23 1 u6 k us) := by have := HOWN.out; rw [HLL.out] at this; exact this
      have HROW : Hid (∀ j u, us[j]? = some u → OwnI w3 w1.heap.size u (rowAt ((N.take k).map fun x => (gOf L x).map (plc N)) j)) := hrow
      have HU : Hid (OwnI w3 w1.heap.size (.slice aU (rowAt L x).length cU) ((rowAt L x).map (plc N))) := ownI_mono hu HB.out.size
      have HUS : Hid (us.length = ((N.take k).map fun x => (gOf L x).map (plc N)).length) := hus
      have HB3 : Hid (Below w1.heap.size w1 w3) := HB.out.trans (hb3.mono HB.out.size)
      have HU1 : Hid (∀ x_1 ∈ [Value.slice aU (rowAt L x).length cU], x_1.oneCell' = true) := ownI_one hu
      clear hus hown hrow hu hb3 HO
      go_wp2_with (at_builtin; go_must (refine wpList_append_own _ rfl _ _ 22 rfl w1.heap.size 23 i0 (.slice none 0 0) 1 24 Tryd.underlying22 HI.out.1 HI.out.2.1 HI.out.2.2.1 HI.out.2.2.2 rfl (by decide) _ k us rfl (World.ownsRow.alloc HOWK.out _) ⟨w3.heap.size, 0, none⟩ 1 1 [.slice aU (rowAt L x).length cU] rfl rfl (by exact new_one _ _ _) HU1.out (by unfold maxLen; omega) (by omega) (by have := HB3.out.size; simp; omega) ?_; intro vo' w5 hown' hgrow _))
      have R := ownR_append HUS.out HOWN.out HROW.out HU.out HB3.out (Nat.le_refl _) (by rw [HLL.out]; exact hown') hgrow
      have R1 : Hid (OwnR w5 w1.heap.size vo' ((N.take (k+1)).map fun x => (gOf L x).map (plc N))) := by unfold Hid; rw [HLK.out, HGX.out]; exact R.1
      have R2 : Hid (Below w1.heap.size w1 w5) := R.2
      clear R hown' hgrow
      go_roundw
      case rel => exact ⟨k + 1, by omega, by go_num, R1, R2⟩
      case measure => simp [intOf]; omega
    · have hlt' : ¬ (k : Int) < (N.length : Int) := by omega
      have HOL : Hid (OwnR wr w1.heap.size u6 (anewO L N)) := by have := HO.out; rwa [List.take_of_length_le (by omega)] at this
      have hd1 := HBR.out.roots
      have hR12 := HF.out.roots
      clear HO
      go_wp2_with (go_at_call 36; fail)
      refine (anew_any _ _ R N (w.heap.size + 1) _ HBR.out.ints HNR.out hR12 HS.out.root HCR.out).mono ?_
      rintro e w3 ⟨u, rfl, hu, hb3⟩
      obtain ⟨aU, cU, hfU⟩ := OwnI.form hu
      rw [List.length_map] at hfU
      subst hfU
      obtain ⟨aO, cO, hfO⟩ := HOL.out.form
      rw [anew_length] at hfO
      subst hfO
      have hs1 := HS1.out
      have hsr := HB.out.size
      have HX3 : Hid (w3.heap[w.heap.size + 1 + 1]? = some (.cells #[.slice none 0 0, .slice none 0 0] 25 (0, 0))) := ((HB.out.trans (hb3.mono hsr)).block _ (by omega)).trans HX1.out
      have HEND : Hid _ := heap_end (w0 := w) HX3.out (HOL.out.later hb3) (ownI_mono hu hsr) (by omega) (by omega) (HB1.out.trans ((HB.out.trans (hb3.mono hsr)).mono HB1.out.size))
      obtain ⟨hx0, hx1, hf0, hf1⟩ := box_cells HX3.out
      clear hu hb3 hd1 HCR
      go_wp2
      refine bodyPost_ret_by (results_cell_row Tryd.results26 _ _ (w.heap.size + 1 + 1) 25 #[.slice aO N.length cO, .slice aU R.length cU] (0, 0) _ rfl HEND.out.1 Tryd.underlying25 rfl (by kernel_rfl)) rfl ?_
      exact ⟨_, _, _, _, rfl, HEND.out.2.1.1.mono (by omega), ownI_mono HEND.out.2.1.2 (by omega), HEND.out.2.2⟩
end Go.Proofs.YtelmfccpcejdnaaDoor
