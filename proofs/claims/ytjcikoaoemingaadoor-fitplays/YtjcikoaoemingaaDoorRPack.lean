/- The walk of the document's Packed (larderwickref2): all moved down. -/
import Derived.Test.YtjcikoaoemingaaDoorRArE
import Derived.Test.YtjcikoaoemingaaDoorFitB
namespace Go.Proofs.YtjcikoaoemingaaDoor
open Go.RowKit Go.Maps Go.Sort

set_option maxRecDepth 100000 in
set_option maxHeartbeats 4000000 in
theorem rpack_any (L : List (Nat × Nat)) (hLD : LaidF 0 L) (v : Value) (B : Nat) (w : World) (hv : IsAr w B v L) :
    Calls Tryd.prog 14 #[v] w fun e w' => ∃ u, e = .returned u ∧ IsAr w' w.heap.size u (packF 0 L) ∧ Below w.heap.size w w' := by
  have hL : L.length ≤ 64 := by have := laid_len hLD; omega
  obtain ⟨va, vo, rfl, h1, h2⟩ := hv
  obtain ⟨aa, ca, hva⟩ := h1.form
  obtain ⟨ao, co, hvo⟩ := h2.form
  rw [atsI_length] at hva
  rw [ordsI_length] at hvo
  subst hva hvo
  have HLD : Hid (LaidF 0 L) := hLD
  have HO1 : Hid (OwnI w B (.slice aa L.length ca) (atsI L)) := h1
  have HO2 : Hid (OwnI w B (.slice ao L.length co) (ordsI L)) := h2
  obtain ⟨i0, hi0, hz0, hz1, hz2⟩ := info_parts Tryd.info3
  have HI0 : Hid (Tryd.prog.info? 3 = some i0 ∧ i0.zero = some (.int .i64 0) ∧ i0.size = 1 ∧ i0.bytes = 8) := ⟨hi0, hz0, hz1, hz2⟩
  clear h1 h2 hLD hi0 hz0 hz1 hz2
  go_enter Tryd.func14, Tryd.ntmps14
  go_wp2
  have HW1 : Hid ((w.alloc (.cells #[.slice aa L.length ca, .slice ao L.length co] 37)).heap[w.heap.size]? = some (.cells #[.slice aa L.length ca, .slice ao L.length co] 37 (0, 0))) := heap_alloc_new w _
  have HS1 : Hid ((w.alloc (.cells #[.slice aa L.length ca, .slice ao L.length co] 37)).heap.size = w.heap.size + 1) := by unfold Hid; simp
  have HBA : Hid (Below w.heap.size w (w.alloc (.cells #[.slice aa L.length ca, .slice ao L.length co] 37))) := (Below.refl _ w).alloc (Nat.le_refl _) _
  generalize w.alloc (.cells #[.slice aa L.length ca, .slice ao L.length co] 37) = w1 at *
  have HWR : Hid ((w1.alloc (.cells #[.slice none 0 0, .slice none 0 0] 37)).heap[w.heap.size + 1]? = some (.cells #[.slice none 0 0, .slice none 0 0] 37 (0, 0))) := by
    have := heap_alloc_new w1 (.cells #[.slice none 0 0, .slice none 0 0] 37)
    rw [HS1.out] at this
    exact this
  have HW2 : Hid ((w1.alloc (.cells #[.slice none 0 0, .slice none 0 0] 37)).heap[w.heap.size]? = some (.cells #[.slice aa L.length ca, .slice ao L.length co] 37 (0, 0))) := (Below.heap_alloc _ _ _ (by have := HS1.out; omega)).trans HW1.out
  have HS2 : Hid ((w1.alloc (.cells #[.slice none 0 0, .slice none 0 0] 37)).heap.size = w.heap.size + 1 + 1) := by unfold Hid; have := HS1.out; simp; omega
  have HBR : Hid (Below w.heap.size w (w1.alloc (.cells #[.slice none 0 0, .slice none 0 0] 37))) := HBA.out.alloc (by have := HS1.out; omega) _
  generalize w1.alloc (.cells #[.slice none 0 0, .slice none 0 0] 37) = wR at *
  have HTS : Hid (Tri wR (wR.alloc (.cells #[.slice none 0 0, .slice none 0 0] 37)) (.slice none 0 0) (.slice none 0 0) (.slice none 0 0) [] [] []) := (Tri.start wR).alloc _
  have HXS : Hid ((wR.alloc (.cells #[.slice none 0 0, .slice none 0 0] 37)).heap[w.heap.size + 1 + 1]? = some (.cells #[.slice none 0 0, .slice none 0 0] 37 (0, 0))) := by
    have := heap_alloc_new wR (.cells #[.slice none 0 0, .slice none 0 0] 37)
    rw [HS2.out] at this
    exact this
  have HOA : Hid (OwnI wR B (.slice aa L.length ca) (atsI L)) := HO1.out.later HBR.out
  have HOO : Hid (OwnI wR B (.slice ao L.length co) (ordsI L)) := HO2.out.later HBR.out
  clear HW1 HS1 HBA HO1 HO2
  go_loopw [4, 5] (fun v4 v5 wr => ∃ (k : Nat) (a5 b5 : Value), k ≤ L.length ∧ v5 = .int .i64 (k : Nat) ∧ v4 = .int .i64 (sumF (L.take k) : Nat) ∧ Hid (wr.heap[w.heap.size + 1 + 1]? = some (.cells #[a5, b5] 37 (0, 0))) ∧ Hid (Tri wR wr (.slice none 0 0) a5 b5 [] (atsI (packF 0 (L.take k))) (ordsI (packF 0 (L.take k))))) (fun _ v5 _ => L.length - (RowKit.intOf v5).toNat)
  case atStart => exact ⟨0, _, _, Nat.zero_le _, rfl, rfl, HXS.out, HTS.out⟩
  case round =>
    obtain ⟨k, a5, b5, hk, rfl, rfl, HX, HT⟩ := hrel
    clear HXS HTS
    have hsz := HS2.out
    have hlw := HT.out.below.size
    have HBX : Hid (wr.heap[w.heap.size]? = some (.cells #[.slice aa L.length ca, .slice ao L.length co] 37 (0, 0))) := (HT.out.below.block _ (by omega)).trans HW2.out
    obtain ⟨hb0, hb1, _, _⟩ := box_cells HBX.out
    by_cases hkn : k = L.length
    · have HTN : Hid (Tri wR wr (.slice none 0 0) a5 b5 [] (atsI (packF 0 L)) (ordsI (packF 0 L))) := by
        have := HT.out
        rwa [hkn, List.take_length] at this
      have HXR : Hid (wr.heap[w.heap.size + 1]? = some (.cells #[.slice none 0 0, .slice none 0 0] 37 (0, 0))) := (HT.out.below.block _ (by omega)).trans HWR.out
      have hlt : ¬ (k : Int) < (L.length : Int) := by omega
      obtain ⟨ap, cp, hvp⟩ := HTN.out.p.form
      obtain ⟨aq, cq, hvq⟩ := HTN.out.a.form
      rw [atsI_length] at hvp
      rw [ordsI_length] at hvq
      subst hvp hvq
      have HE := two_end (w := w) (wr := wR) (W2 := wr) (W3 := wr) (g := w.heap.size + 1) (by omega) (by omega) HBR.out HTN.out.p HTN.out.a (fun _ _ h => h) HT.out.below
      have HW4 := two_set (.slice ap (packF 0 L).length cp) (.slice aq (packF 0 L).length cq) HXR.out
      have HE : Hid _ := HE
      have HW4 : Hid _ := HW4
      obtain ⟨hx0, hx1, _, _⟩ := box_cells HX.out
      obtain ⟨hr0, hr1, hf0, hf1⟩ := box_cells HXR.out
      clear HT hkn hsz hlw
      go_wp2
      refine bodyPost_ret_by (results_cell_row Tryd.results14 _ _ (w.heap.size + 1) 37 #[.slice ap (packF 0 L).length cp, .slice aq (packF 0 L).length cq] (0, 0) _ rfl HW4.out Tryd.underlying37 rfl (by kernel_rfl)) rfl ?_
      exact ⟨_, rfl, HE.out⟩
    · have hkn' : k < L.length := by omega
      have hlt : (k : Int) < (L.length : Int) := by omega
      obtain ⟨gO, rfl, hgO, hnco, hmco, hco⟩ := own_at HOO.out (ordsI_length L) hkn'
      rw [ordsI_get hkn'] at hco
      unfold maxLen at hmco
      have HPA : Hid (packF 0 (L.take (k+1)) = packF 0 (L.take k) ++ [(sumF (L.take k), (L[k]).2)]) := by unfold Hid; rw [List.take_succ_eq_append_getElem hkn', packF_add, Nat.zero_add]
      have HST : Hid (sumF (L.take (k+1)) = sumF (L.take k) + (L[k]).2) := sumF_take hkn'
      have hs1 := sumF_part HLD.out k
      have hs2 := sumF_part HLD.out (k+1)
      rw [HST.out] at hs2
      have hpm : (packF 0 (L.take k)).length = k := by rw [packF_length, List.length_take]; omega
      have HLA : Hid ((atsI (packF 0 (L.take k))).length = k) := by unfold Hid; rw [atsI_length, hpm]
      have HLO : Hid ((ordsI (packF 0 (L.take k))).length = k) := by unfold Hid; rw [ordsI_length, hpm]
      have HAN : Hid (atsI (packF 0 (L.take (k+1))) = atsI (packF 0 (L.take k)) ++ [((sumF (L.take k) : Nat) : Int)]) := by unfold Hid; rw [HPA.out, atsI_add]
      have HON : Hid (ordsI (packF 0 (L.take (k+1))) = ordsI (packF 0 (L.take k)) ++ [((L[k]).2 : Int)]) := by unfold Hid; rw [HPA.out, ordsI_add]
      obtain ⟨ap, cp, hvp⟩ := HT.out.p.form
      obtain ⟨aq, cq, hvq⟩ := HT.out.a.form
      rw [HLA.out] at hvp
      rw [HLO.out] at hvq
      subst hvp hvq
      have HCO : Hid (wR.cell? ⟨gO, k, none⟩ = some (.int .i64 ((L[k]).2 : Nat))) := hco
      clear hco HPA hpm
      generalize (L[k]).2 = y at *
      generalize sumF (L.take k) = x at *
      generalize atsI (packF 0 (L.take k)) = la at *
      generalize ordsI (packF 0 (L.take k)) = lo at *
      obtain ⟨hx0, hx1, hf0, hf1⟩ := box_cells HX.out
      have hwR := HT.out.below.size
      have hx0a : (wr.alloc (.cells #[.int .i64 (x : Nat)] 3)).cell? ⟨w.heap.size + 1 + 1, 0, none⟩ = some (.slice ap k cp) := Lib.cell?_alloc_some _ hx0
      go_wp2_with (at_builtin; go_must (refine wpList_append_own_at _ rfl _ _ 22 rfl wR.heap.size 3 i0 (.int .i64 0) 1 8 Tryd.underlying22 HI0.out.1 HI0.out.2.1 HI0.out.2.2.1 HI0.out.2.2.2 rfl (by decide) _ k (la.map (Value.int .i64)) rfl (World.ownsRow.alloc (HT.out.p.rows HLA.out rfl) _) ⟨wr.heap.size, 0, none⟩ 1 1 [.int .i64 (x : Nat)] rfl rfl (by exact new_one _ _ _) (one_cell _) (by unfold maxLen; omega) (by omega) (by show wR.heap.size ≤ (wr.alloc _).heap.size; rw [World.size_alloc]; omega) ?_; intro v8 w8 hown' hgrow _ hat; have HTP : Hid (Tri wR w8 (.slice none 0 0) v8 (.slice aq k cq) [] (la ++ [(x : Int)]) lo) := HT.out.pages HLA.out hown' hgrow hat; have HX8 : Hid (w8.heap[w.heap.size + 1 + 1]? = some (.cells #[.slice ap k cp, .slice aq k cq] 37 (0, 0))) := ((hgrow.block _ (by have := (Array.getElem?_eq_some_iff.1 HX.out).1; show w.heap.size + 1 + 1 < (wr.alloc _).heap.size; rw [World.size_alloc]; omega) (own_ne HT.out.p HX.out (by decide))).trans (Below.heap_alloc _ _ _ (Array.getElem?_eq_some_iff.1 HX.out).1)).trans HX.out; obtain ⟨hg0, hg1, hh0, hh1⟩ := box_cells HX8.out; obtain ⟨a8, c8, hv8⟩ := HTP.out.p.form; rw [List.length_append, HLA.out] at hv8; subst hv8; clear hown' hgrow hat))
      have HT9 : Hid (Tri wR (w8.setCell ⟨w.heap.size + 1 + 1, 0, none⟩ (.slice a8 (k + 1) c8)) (.slice none 0 0) (.slice a8 (k + 1) c8) (.slice aq k cq) [] (la ++ [(x : Int)]) lo) := HTP.out.box HX8.out (by decide) (by omega)
      have HX9 : Hid ((w8.setCell ⟨w.heap.size + 1 + 1, 0, none⟩ (.slice a8 (k + 1) c8)).heap[w.heap.size + 1 + 1]? = some (.cells #[.slice a8 (k + 1) c8, .slice aq k cq] 37 (0, 0))) := box_set0 _ HX8.out
      clear HTP HX8 hg0 hg1 hh0 hh1
      generalize w8.setCell ⟨w.heap.size + 1 + 1, 0, none⟩ (.slice a8 (k + 1) c8) = w9 at *
      obtain ⟨hg0, hg1, hh0, hh1⟩ := box_cells HX9.out
      obtain ⟨hb0', hb1', _, _⟩ := box_cells ((HT9.out.below.block w.heap.size (by omega)).trans HW2.out)
      have hco' : w9.cell? ⟨gO, k, none⟩ = some (.int .i64 (y : Nat)) := (HT9.out.below.cell (p := ⟨gO, k, none⟩) hgO).trans HCO.out
      have hw9R := HT9.out.below.size
      have hg1a : (w9.alloc (.cells #[.int .i64 (y : Nat)] 3)).cell? ⟨w.heap.size + 1 + 1, 1, none⟩ = some (.slice aq k cq) := Lib.cell?_alloc_some _ hg1
      have HTE : Hid (Tri wR w9.drew (.slice none 0 0) (.slice a8 (k + 1) c8) (.slice aq k cq) [] (la ++ [(x : Int)]) lo) := HT9.out.later (Below.refl _ _).drew
      clear hx0 hx1 hf0 hf1 hb0 hb1 hx0a HT HX HBX
      go_region_law (refine step_append_own_at rfl (.tmp 20) (.tmp 26) 22 rfl wR.heap.size 3 i0 (.int .i64 0) 1 8 Tryd.underlying22 HI0.out.1 HI0.out.2.1 HI0.out.2.2.1 HI0.out.2.2.2 rfl (by decide) (.slice aq k cq) k (lo.map (Value.int .i64)) (by first | rfl | simp [Act.eval, Act.put]) (World.ownsRow.alloc (HTE.out.a.rows HLO.out rfl) _) ⟨w9.heap.size, 0, none⟩ 1 1 [.int .i64 (y : Nat)] (by first | rfl | simp [Act.eval, Act.put]) rfl (by exact new_one _ _ _) (one_cell _) (by unfold maxLen; omega) (by omega) (by show wR.heap.size ≤ (w9.alloc _).heap.size; rw [World.size_alloc]; omega) ?_; intro v10 w10 hown' hgrow hat; have HTQ : Hid (Tri wR w10 (.slice none 0 0) (.slice a8 (k + 1) c8) v10 [] (la ++ [(x : Int)]) (lo ++ [(y : Int)])) := HTE.out.asked HLO.out hown' hgrow hat; have HX10 : Hid (w10.heap[w.heap.size + 1 + 1]? = some (.cells #[.slice a8 (k + 1) c8, .slice aq k cq] 37 (0, 0))) := ((hgrow.block _ (by have := (Array.getElem?_eq_some_iff.1 HX9.out).1; show w.heap.size + 1 + 1 < (w9.alloc _).heap.size; rw [World.size_alloc]; omega) (own_ne HTE.out.a (show w9.drew.heap[w.heap.size + 1 + 1]? = _ from HX9.out) (by decide))).trans (Below.heap_alloc _ _ _ (Array.getElem?_eq_some_iff.1 HX9.out).1)).trans HX9.out; obtain ⟨hk0, hk1, hl0, hl1⟩ := box_cells HX10.out; obtain ⟨a10, c10, hv10⟩ := HTQ.out.a.form; rw [List.length_append, HLO.out] at hv10; subst hv10; clear hown' hgrow hat)
      all_goals
        rw [show k + [(y : Int)].length = k + 1 from rfl] at HTQ
        have HT11 : Hid (Tri wR (w10.setCell ⟨w.heap.size + 1 + 1, 1, none⟩ (.slice a10 (k + 1) c10)) (.slice none 0 0) (.slice a8 (k + 1) c8) (.slice a10 (k + 1) c10) [] (la ++ [(x : Int)]) (lo ++ [(y : Int)])) := HTQ.out.box HX10.out (by decide) (by omega)
        have HX11 : Hid ((w10.setCell ⟨w.heap.size + 1 + 1, 1, none⟩ (.slice a10 (k + 1) c10)).heap[w.heap.size + 1 + 1]? = some (.cells #[.slice a8 (k + 1) c8, .slice a10 (k + 1) c10] 37 (0, 0))) := box_set1 _ HX10.out
        clear HTQ HX10 hk0 hk1 hl0 hl1 hg0 hg1 hh0 hh1 hb0' hb1' hco' hg1a HTE HT9 HX9
        generalize w10.setCell ⟨w.heap.size + 1 + 1, 1, none⟩ (.slice a10 (k + 1) c10) = w11 at *
        obtain ⟨hb0, hb1, _, _⟩ := box_cells ((HT11.out.below.block w.heap.size (by omega)).trans HW2.out)
        have hco2 : w11.cell? ⟨gO, k, none⟩ = some (.int .i64 (y : Nat)) := (HT11.out.below.cell (p := ⟨gO, k, none⟩) hgO).trans HCO.out
        go_wp2
        go_roundw
        case rel => exact ⟨k + 1, _, _, by omega, by go_num, by rw [HST.out]; go_num, HX11, by rw [HAN.out, HON.out]; exact HT11⟩
        case measure => simp [RowKit.intOf]; omega
end Go.Proofs.YtjcikoaoemingaaDoor
