/- The walk of the document's without (larderwickref2): a block less. -/
import Derived.Test.YtjcikoaoemingaaDoorRArW
import Derived.Test.YtjcikoaoemingaaDoorTri
namespace Go.Proofs.YtjcikoaoemingaaDoor
open Go.RowKit Go.Maps Go.Sort

theorem del_here {L : List (Nat × Nat)} {p k : Nat} (hk : k < L.length) (h : (L[k]).1 = p) : delP p (L.take (k+1)) = delP p (L.take k) := by
  rw [List.take_succ_eq_append_getElem hk]
  unfold delP
  rw [List.filter_append, List.filter_cons, List.filter_nil]
  simp [h]
theorem del_next {L : List (Nat × Nat)} {p k : Nat} (hk : k < L.length) (h : (L[k]).1 ≠ p) : delP p (L.take (k+1)) = delP p (L.take k) ++ [((L[k]).1, (L[k]).2)] := by
  rw [List.take_succ_eq_append_getElem hk]
  unfold delP
  rw [List.filter_append, List.filter_cons, List.filter_nil]
  simp [h]
theorem up_ne {L : List (Nat × Nat)} (hU : Up L) {i k : Nat} (hi : i < L.length) (hk : k < L.length) (h : k ≠ i) : (L[k]).1 ≠ (L[i]).1 := by
  have hp := List.pairwise_iff_getElem.1 hU
  rcases Nat.lt_or_gt_of_ne h with h | h
  · have := hp k i hk hi h; omega
  · have := hp i k hi hk h; omega
/-- A store into a block of another kind, from the beginning on. -/
theorem Tri.box {w0 w : World} {vp va : Value} {lp la : List Int} (h : Tri w0 w (.slice none 0 0) vp va [] lp la) {g j : Nat} {u : Value} {cur : Array Value} {t : TypeId} (hg : w.heap[g]? = some (.cells cur t (0, 0))) (ht : t ≠ 3) (hg0 : w0.heap.size ≤ g) : Tri w0 (w.setCell ⟨g, j, none⟩ u) (.slice none 0 0) vp va [] lp la := by
  have tu : Turn g g w (w.setCell ⟨g, j, none⟩ u) := Turn.setCell w ⟨g, j, none⟩ u rfl
  have key : ∀ {v : Value} {l : List Int}, OwnI w w0.heap.size v l → OwnI (w.setCell ⟨g, j, none⟩ u) w0.heap.size v l := by
    intro v l hv
    refine own_turn hv tu fun k hk => ?_
    have := own_ne hv hg ht
    have hne : k ≠ g := fun e => this (by rw [← e, hk])
    exact ⟨hne, hne⟩
  exact ⟨OwnB.nil _ _, key h.p, key h.a, h.ne, h.below.setCell hg0 _⟩

set_option maxRecDepth 100000 in
set_option maxHeartbeats 4000000 in
theorem rwithout_any (L : List (Nat × Nat)) (hU : Up L) (hL : L.length ≤ 64) (v : Value) (B i : Nat) (hi : i < L.length) (w : World) (hv : IsAr w B v L) :
    Calls Tryd.prog 34 #[v, .int .i64 (i : Nat)] w fun e w' => ∃ u, e = .returned u ∧ IsAr w' w.heap.size u (delP (L[i]).1 L) ∧ Below w.heap.size w w' := by
  obtain ⟨va, vo, rfl, h1, h2⟩ := hv
  obtain ⟨aa, ca, hva⟩ := h1.form
  obtain ⟨ao, co, hvo⟩ := h2.form
  rw [atsI_length] at hva
  rw [ordsI_length] at hvo
  subst hva hvo
  have HUP : Hid (Up L) := hU
  have HO1 : Hid (OwnI w B (.slice aa L.length ca) (atsI L)) := h1
  have HO2 : Hid (OwnI w B (.slice ao L.length co) (ordsI L)) := h2
  obtain ⟨i0, hi0, hz0, hz1, hz2⟩ := info_parts Tryd.info3
  have HI0 : Hid (Tryd.prog.info? 3 = some i0 ∧ i0.zero = some (.int .i64 0) ∧ i0.size = 1 ∧ i0.bytes = 8) := ⟨hi0, hz0, hz1, hz2⟩
  clear h1 h2 hU hi0 hz0 hz1 hz2
  go_enter Tryd.func34, Tryd.ntmps34
  go_wp2
  have HW1 : Hid ((w.alloc (.cells #[.slice aa L.length ca, .slice ao L.length co] 37)).heap[w.heap.size]? = some (.cells #[.slice aa L.length ca, .slice ao L.length co] 37 (0, 0))) := heap_alloc_new w _
  have HS1 : Hid ((w.alloc (.cells #[.slice aa L.length ca, .slice ao L.length co] 37)).heap.size = w.heap.size + 1) := by unfold Hid; simp
  have HBA : Hid (Below w.heap.size w (w.alloc (.cells #[.slice aa L.length ca, .slice ao L.length co] 37))) := (Below.refl _ w).alloc (Nat.le_refl _) _
  generalize w.alloc (.cells #[.slice aa L.length ca, .slice ao L.length co] 37) = w1 at *
  have HWR : Hid ((w1.alloc (.cells #[.slice none 0 0, .slice none 0 0] 37)).heap[w.heap.size + 1]? = some (.cells #[.slice none 0 0, .slice none 0 0] 37 (0, 0))) := by
    have := heap_alloc_new w1 (.cells #[.slice none 0 0, .slice none 0 0] 37)
    rw [HS1.out] at this
    exact this
  have HW2 : Hid ((w1.alloc (.cells #[.slice none 0 0, .slice none 0 0] 37)).heap[w.heap.size]? = some (.cells #[.slice aa L.length ca, .slice ao L.length co] 37 (0, 0))) := (Below.heap_alloc _ _ _ (by have := HS1.out; omega)).trans HW1.out
  have HS2 : Hid ((w1.alloc (.cells #[.slice none 0 0, .slice none 0 0] 37)).heap.size = w.heap.size + 1 + 1) := by unfold Hid; have := HS1.out; simp; omega
  have HBR : Hid (Below w.heap.size w (w1.alloc (.cells #[.slice none 0 0, .slice none 0 0] 37))) := HBA.out.alloc (by have := HS1.out; omega) _
  generalize w1.alloc (.cells #[.slice none 0 0, .slice none 0 0] 37) = wR at *
  have HTS : Hid (Tri wR (wR.alloc (.cells #[.slice none 0 0, .slice none 0 0] 37)) (.slice none 0 0) (.slice none 0 0) (.slice none 0 0) [] [] []) := (Tri.start wR).alloc _
  have HXS : Hid ((wR.alloc (.cells #[.slice none 0 0, .slice none 0 0] 37)).heap[w.heap.size + 1 + 1]? = some (.cells #[.slice none 0 0, .slice none 0 0] 37 (0, 0))) := by
    have := heap_alloc_new wR (.cells #[.slice none 0 0, .slice none 0 0] 37)
    rw [HS2.out] at this
    exact this
  have HOA : Hid (OwnI wR B (.slice aa L.length ca) (atsI L)) := HO1.out.later HBR.out
  have HOO : Hid (OwnI wR B (.slice ao L.length co) (ordsI L)) := HO2.out.later HBR.out
  clear HW1 HS1 HBA HO1 HO2
  generalize hpp : (L[i]).1 = p at *
  have HPP : Hid ((L[i]).1 = p) := hpp
  clear hpp
  go_loopw [6] (fun v6 wr => ∃ (k : Nat) (a5 b5 : Value), k ≤ L.length ∧ v6 = .int .i64 (k : Nat) ∧ Hid (wr.heap[w.heap.size + 1 + 1]? = some (.cells #[a5, b5] 37 (0, 0))) ∧ Hid (Tri wR wr (.slice none 0 0) a5 b5 [] (atsI (delP p (L.take k))) (ordsI (delP p (L.take k))))) (fun v6 _ => L.length - (RowKit.intOf v6).toNat)
  case atStart => exact ⟨0, _, _, Nat.zero_le _, rfl, HXS.out, HTS.out⟩
  case round =>
    obtain ⟨k, a5, b5, hk, rfl, HX, HT⟩ := hrel
    clear HXS HTS
    have hsz := HS2.out
    have hlw := HT.out.below.size
    have HBX : Hid (wr.heap[w.heap.size]? = some (.cells #[.slice aa L.length ca, .slice ao L.length co] 37 (0, 0))) := (HT.out.below.block _ (by omega)).trans HW2.out
    obtain ⟨hb0, hb1, _, _⟩ := box_cells HBX.out
    by_cases hkn : k = L.length
    · have HTN : Hid (Tri wR wr (.slice none 0 0) a5 b5 [] (atsI (delP p L)) (ordsI (delP p L))) := by
        have := HT.out
        rwa [hkn, List.take_length] at this
      have HXR : Hid (wr.heap[w.heap.size + 1]? = some (.cells #[.slice none 0 0, .slice none 0 0] 37 (0, 0))) := (HT.out.below.block _ (by omega)).trans HWR.out
      have hlt : ¬ (k : Int) < (L.length : Int) := by omega
      obtain ⟨ap, cp, hvp⟩ := HTN.out.p.form
      obtain ⟨aq, cq, hvq⟩ := HTN.out.a.form
      rw [atsI_length] at hvp
      rw [ordsI_length] at hvq
      subst hvp hvq
      have HE := two_end (w := w) (wr := wR) (W2 := wr) (W3 := wr) (g := w.heap.size + 1) (by omega) (by omega) HBR.out HTN.out.p HTN.out.a (fun _ _ h => h) HT.out.below
      have HW4 := two_set (.slice ap (delP p L).length cp) (.slice aq (delP p L).length cq) HXR.out
      have HE : Hid _ := HE
      have HW4 : Hid _ := HW4
      obtain ⟨hx0, hx1, _, _⟩ := box_cells HX.out
      obtain ⟨hr0, hr1, hf0, hf1⟩ := box_cells HXR.out
      clear HT hkn hsz hlw
      go_wp2
      refine bodyPost_ret_by (results_cell_row Tryd.results34 _ _ (w.heap.size + 1) 37 #[.slice ap (delP p L).length cp, .slice aq (delP p L).length cq] (0, 0) _ rfl HW4.out Tryd.underlying37 rfl (by kernel_rfl)) rfl ?_
      rw [HPP.out]
      exact ⟨_, rfl, HE.out⟩
    · have hkn' : k < L.length := by omega
      have hlt : (k : Int) < (L.length : Int) := by omega
      obtain ⟨ga, rfl, hga, hnca, hmca, hcx⟩ := own_at HOA.out (atsI_length L) hkn'
      obtain ⟨gO, rfl, hgO, hnco, hmco, hco⟩ := own_at HOO.out (ordsI_length L) hkn'
      rw [atsI_get hkn'] at hcx
      rw [ordsI_get hkn'] at hco
      unfold maxLen at hmca hmco
      by_cases hki : k = i
      · have HTN : Hid (Tri wR wr (.slice none 0 0) a5 b5 [] (atsI (delP p (L.take (k+1)))) (ordsI (delP p (L.take (k+1))))) := by
          rw [del_here hkn' (by have := HPP.out; subst hki; exact this)]
          exact HT.out
        have hkb : ((k : Int) != (i : Int)) = false := by simp [hki]
        have HKI : Hid (k = i) := hki
        clear hki HT
        go_wp2
        go_roundw
        case rel => exact ⟨k + 1, a5, b5, by omega, by go_num, HX, HTN⟩
        case measure => simp [RowKit.intOf]; omega
      · have hne := up_ne HUP.out hi hkn' hki
        rw [HPP.out] at hne
        have HDN : Hid (delP p (L.take (k+1)) = delP p (L.take k) ++ [((L[k]).1, (L[k]).2)]) := del_next hkn' hne
        have hkb : ((k : Int) != (i : Int)) = true := by simp; omega
        have HLA : Hid ((atsI (delP p (L.take k))).length = (delP p (L.take k)).length) := atsI_length _
        have HLO : Hid ((ordsI (delP p (L.take k))).length = (delP p (L.take k)).length) := ordsI_length _
        have hml : (delP p (L.take k)).length ≤ 64 := by
          have h1 := List.length_filter_le (fun b : Nat × Nat => !(b.1 == p)) (L.take k)
          rw [List.length_take] at h1
          have h2 : (delP p (L.take k)).length = ((L.take k).filter fun b => !(b.1 == p)).length := rfl
          omega
        have HAN : Hid (atsI (delP p (L.take (k+1))) = atsI (delP p (L.take k)) ++ [((L[k]).1 : Int)]) := by unfold Hid; rw [HDN.out, atsI_add]
        have HON : Hid (ordsI (delP p (L.take (k+1))) = ordsI (delP p (L.take k)) ++ [((L[k]).2 : Int)]) := by unfold Hid; rw [HDN.out, ordsI_add]
        obtain ⟨ap, cp, hvp⟩ := HT.out.p.form
        obtain ⟨aq, cq, hvq⟩ := HT.out.a.form
        rw [atsI_length] at hvp
        rw [ordsI_length] at hvq
        subst hvp hvq
        have hcx' : wr.cell? ⟨ga, k, none⟩ = some (.int .i64 ((L[k]).1 : Nat)) := (HT.out.below.cell (p := ⟨ga, k, none⟩) hga).trans hcx
        have HCO : Hid (wR.cell? ⟨gO, k, none⟩ = some (.int .i64 ((L[k]).2 : Nat))) := hco
        clear hcx hco HDN hne
        generalize (L[k]).1 = x at *
        generalize (L[k]).2 = y at *
        generalize (delP p (L.take k)).length = m at *
        generalize atsI (delP p (L.take k)) = la at *
        generalize ordsI (delP p (L.take k)) = lo at *
        obtain ⟨hx0, hx1, hf0, hf1⟩ := box_cells HX.out
        have HTD : Hid (Tri wR wr.drew (.slice none 0 0) (.slice ap m cp) (.slice aq m cq) [] la lo) := HT.out.later (Below.refl _ _).drew
        have hwR := HT.out.below.size
        have hx0a : (wr.alloc (.cells #[.int .i64 (x : Nat)] 3)).cell? ⟨w.heap.size + 1 + 1, 0, none⟩ = some (.slice ap m cp) := Lib.cell?_alloc_some _ hx0
        go_wp2
        go_region_law (refine step_append_own_at rfl (.tmp 18) (.tmp 24) 22 rfl wR.heap.size 3 i0 (.int .i64 0) 1 8 Tryd.underlying22 HI0.out.1 HI0.out.2.1 HI0.out.2.2.1 HI0.out.2.2.2 rfl (by decide) (.slice ap m cp) m (la.map (Value.int .i64)) (by first | rfl | simp [Act.eval, Act.put]) (World.ownsRow.alloc (HTD.out.p.rows HLA.out rfl) _) ⟨wr.heap.size, 0, none⟩ 1 1 [.int .i64 (x : Nat)] (by first | rfl | simp [Act.eval, Act.put]) rfl (by exact new_one _ _ _) (one_cell _) (by unfold maxLen; omega) (by omega) (by show wR.heap.size ≤ (wr.alloc _).heap.size; rw [World.size_alloc]; omega) ?_; intro v8 w8 hown' hgrow hat; have HTP : Hid (Tri wR w8 (.slice none 0 0) v8 (.slice aq m cq) [] (la ++ [(x : Int)]) lo) := HTD.out.pages HLA.out hown' hgrow hat; have HX8 : Hid (w8.heap[w.heap.size + 1 + 1]? = some (.cells #[.slice ap m cp, .slice aq m cq] 37 (0, 0))) := ((hgrow.block _ (by have := (Array.getElem?_eq_some_iff.1 HX.out).1; show w.heap.size + 1 + 1 < (wr.alloc _).heap.size; rw [World.size_alloc]; omega) (own_ne HTD.out.p (show wr.drew.heap[w.heap.size + 1 + 1]? = _ from HX.out) (by decide))).trans (Below.heap_alloc _ _ _ (Array.getElem?_eq_some_iff.1 HX.out).1)).trans HX.out; obtain ⟨hg0, hg1, hh0, hh1⟩ := box_cells HX8.out; obtain ⟨a8, c8, hv8⟩ := HTP.out.p.form; rw [List.length_append, HLA.out] at hv8; subst hv8; clear hown' hgrow hat)
        all_goals
          rw [show m + [(x : Int)].length = m + 1 from rfl] at HTP
          have HT9 : Hid (Tri wR (w8.setCell ⟨w.heap.size + 1 + 1, 0, none⟩ (.slice a8 (m + 1) c8)) (.slice none 0 0) (.slice a8 (m + 1) c8) (.slice aq m cq) [] (la ++ [(x : Int)]) lo) := HTP.out.box HX8.out (by decide) (by omega)
          have HX9 : Hid ((w8.setCell ⟨w.heap.size + 1 + 1, 0, none⟩ (.slice a8 (m + 1) c8)).heap[w.heap.size + 1 + 1]? = some (.cells #[.slice a8 (m + 1) c8, .slice aq m cq] 37 (0, 0))) := box_set0 _ HX8.out
          clear HTP HX8 hg0 hg1 hh0 hh1
          generalize w8.setCell ⟨w.heap.size + 1 + 1, 0, none⟩ (.slice a8 (m + 1) c8) = w9 at *
          obtain ⟨hg0, hg1, hh0, hh1⟩ := box_cells HX9.out
          obtain ⟨hb0', hb1', _, _⟩ := box_cells ((HT9.out.below.block w.heap.size (by omega)).trans HW2.out)
          have hco' : w9.cell? ⟨gO, k, none⟩ = some (.int .i64 (y : Nat)) := (HT9.out.below.cell (p := ⟨gO, k, none⟩) hgO).trans HCO.out
          have hw9R := HT9.out.below.size
          have hg1a : (w9.alloc (.cells #[.int .i64 (y : Nat)] 3)).cell? ⟨w.heap.size + 1 + 1, 1, none⟩ = some (.slice aq m cq) := Lib.cell?_alloc_some _ hg1
          have HTE : Hid (Tri wR w9.drew (.slice none 0 0) (.slice a8 (m + 1) c8) (.slice aq m cq) [] (la ++ [(x : Int)]) lo) := HT9.out.later (Below.refl _ _).drew
          clear hx0 hx1 hf0 hf1 hb0 hb1 hcx' hx0a HTD HT HX HBX
          go_wp2
          go_region_law (refine step_append_own_at rfl (.tmp 28) (.tmp 34) 22 rfl wR.heap.size 3 i0 (.int .i64 0) 1 8 Tryd.underlying22 HI0.out.1 HI0.out.2.1 HI0.out.2.2.1 HI0.out.2.2.2 rfl (by decide) (.slice aq m cq) m (lo.map (Value.int .i64)) (by first | rfl | simp [Act.eval, Act.put]) (World.ownsRow.alloc (HTE.out.a.rows HLO.out rfl) _) ⟨w9.heap.size, 0, none⟩ 1 1 [.int .i64 (y : Nat)] (by first | rfl | simp [Act.eval, Act.put]) rfl (by exact new_one _ _ _) (one_cell _) (by unfold maxLen; omega) (by omega) (by show wR.heap.size ≤ (w9.alloc _).heap.size; rw [World.size_alloc]; omega) ?_; intro v10 w10 hown' hgrow hat; have HTQ : Hid (Tri wR w10 (.slice none 0 0) (.slice a8 (m + 1) c8) v10 [] (la ++ [(x : Int)]) (lo ++ [(y : Int)])) := HTE.out.asked HLO.out hown' hgrow hat; have HX10 : Hid (w10.heap[w.heap.size + 1 + 1]? = some (.cells #[.slice a8 (m + 1) c8, .slice aq m cq] 37 (0, 0))) := ((hgrow.block _ (by have := (Array.getElem?_eq_some_iff.1 HX9.out).1; show w.heap.size + 1 + 1 < (w9.alloc _).heap.size; rw [World.size_alloc]; omega) (own_ne HTE.out.a (show w9.drew.heap[w.heap.size + 1 + 1]? = _ from HX9.out) (by decide))).trans (Below.heap_alloc _ _ _ (Array.getElem?_eq_some_iff.1 HX9.out).1)).trans HX9.out; obtain ⟨hk0, hk1, hl0, hl1⟩ := box_cells HX10.out; obtain ⟨a10, c10, hv10⟩ := HTQ.out.a.form; rw [List.length_append, HLO.out] at hv10; subst hv10; clear hown' hgrow hat)
          all_goals
            rw [show m + [(y : Int)].length = m + 1 from rfl] at HTQ
            have HT11 : Hid (Tri wR (w10.setCell ⟨w.heap.size + 1 + 1, 1, none⟩ (.slice a10 (m + 1) c10)) (.slice none 0 0) (.slice a8 (m + 1) c8) (.slice a10 (m + 1) c10) [] (la ++ [(x : Int)]) (lo ++ [(y : Int)])) := HTQ.out.box HX10.out (by decide) (by omega)
            have HX11 : Hid ((w10.setCell ⟨w.heap.size + 1 + 1, 1, none⟩ (.slice a10 (m + 1) c10)).heap[w.heap.size + 1 + 1]? = some (.cells #[.slice a8 (m + 1) c8, .slice a10 (m + 1) c10] 37 (0, 0))) := box_set1 _ HX10.out
            clear HTQ HX10 hk0 hk1 hl0 hl1
            go_wp2
            go_roundw
            case rel => exact ⟨k + 1, _, _, by omega, by go_num, HX11, by rw [HAN.out, HON.out]; exact HT11⟩
            case measure => simp [RowKit.intOf]; omega
end Go.Proofs.YtjcikoaoemingaaDoor
