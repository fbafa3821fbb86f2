/- The walk of the document's answer: Clock. -/
import Derived.Test.YtkeaeekbnmlbjaaDoorAsked
import Derived.Deep.LoopGhost
import Derived.Deep.RegionWith
namespace Go.Proofs.YtkeaeekbnmlbjaaDoor
open Go.RowKit Go.Sort

/-- The loop's relation: the rows behind k requests. -/
def RefClockRel (w : World) (s : Nat) (l : List Int) (vb vp va hv i : Value) (wr : World) : Prop :=
  ∃ (k : Nat) (A : List Int), k ≤ l.length ∧ i = .int .i64 k ∧ hv = .int .i64 ((cst s l k).2 : Nat) ∧ Tri w wr vb vp va (marks (chit s l) k) (pagesOf (cst s l k).1) A ∧ AInv (cst s l k).1 A ∧ A.length ≤ k

theorem OwnI.blockN {w : World} {base n : Nat} {v : Value} {l : List Int} (h : OwnI w base v l) (hn : l.length = n) (h0 : 0 < n) :
    ∃ g cap, v = .slice (some ⟨g, 0, none⟩) n cap ∧ n ≤ cap ∧ cap ≤ maxLen := by
  subst hn
  obtain ⟨g, cap, cur, hv, _, _, _, hn, hm, _⟩ := h.block (by intro e; rw [e] at h0; simp at h0)
  exact ⟨g, cap, hv, hn, hm⟩
theorem OwnI.cellN {w : World} {base n g cap : Nat} {l : List Int} (h : OwnI w base (.slice (some ⟨g, 0, none⟩) n cap) l) (hn : l.length = n) {j : Nat} (hj : j < n) : w.cell? ⟨g, j, none⟩ = some (.int .i64 (l[j]?.getD 0)) := by
  subst hn
  rw [World.ownsRow.cellAt h j (by omega), List.getElem?_map, List.getElem?_eq_getElem hj]; rfl
theorem OwnI.unfrozenN {w : World} {base n g cap : Nat} {l : List Int} (h : OwnI w base (.slice (some ⟨g, 0, none⟩) n cap) l) (hn : l.length = n) (j : Nat) : w.frozen? ⟨g, j, none⟩ = false := by
  subst hn
  exact World.ownsRow.frozenAt h j
theorem many_cells (l : List Int) : ∀ u ∈ l.map (Value.int .i64), u.oneCell' = true := by
  intro u hu
  obtain ⟨x, _, rfl⟩ := List.mem_map.1 hu
  rfl
theorem next_place (h n : Nat) : ((h : Int) + 1) % (n : Int) = (((h + 1) % n : Nat) : Int) := by
  rw [Int.natCast_emod]; rfl

theorem setCell_size (w : World) (a : Addr) (v : Value) : (w.setCell a v).heap.size = w.heap.size := by simp

set_option maxRecDepth 100000 in
set_option maxHeartbeats 8000000 in
theorem refclock_any (v : Value) (l : List Int) (s : Nat) (w : World) (hv : IsInts w v l) (hform : ∃ ao cap, v = .slice ao l.length cap) (hl40 : l.length ≤ 40) (hs1 : 1 ≤ s) (hs8 : s ≤ 8) :
    Calls Tryd.prog 5 #[v, .int .i64 s] w fun e w' => ∃ vb vh, e = .returned (.tuple #[vb, vh, .int .i64 ((cst s l l.length).2 : Nat)]) ∧ OwnB w' w.heap.size vb (marks (chit s l) l.length) ∧ OwnI w' w.heap.size vh (pagesOf (cst s l l.length).1) ∧ Below w.heap.size w w' := by
  have HV : Hid (IsInts w v l) := hv
  obtain ⟨av, cv, rfl⟩ := hform
  clear hv
  obtain ⟨i0, hi, hz0, hz1, hz2⟩ := info_parts Tryd.info3
  have HI : Hid (Tryd.prog.info? 3 = some i0 ∧ i0.zero = some (.int .i64 0) ∧ i0.size = 1 ∧ i0.bytes = 8) := ⟨hi, hz0, hz1, hz2⟩
  clear hi hz0 hz1 hz2
  obtain ⟨i1, hi, hz0, hz1, hz2⟩ := info_parts Tryd.infoB
  have HI1 : Hid (Tryd.prog.info? 4 = some i1 ∧ i1.zero = some (.bool false) ∧ i1.size = 1 ∧ i1.bytes = 1) := ⟨hi, hz0, hz1, hz2⟩
  clear hi hz0 hz1 hz2
  go_enter Tryd.func5, Tryd.ntmps5
  go_wp2
  go_loopw [7, 8, 9, 10, 11, 12, 13] (fun vb vp va hv i _ _ wr => RefClockRel w s l vb vp va hv i wr) (fun _ _ _ _ i _ _ _ => l.length - (intOf i).toNat)
  case atStart => exact ⟨0, [], Nat.zero_le _, rfl, rfl, Tri.start w, ⟨by simp, by simp [cst]⟩, Nat.le_refl _⟩
  case round =>
    obtain ⟨k, A, hk, rfl, rfl, tri, hA, hAk⟩ := hrel
    have INV := cinv s hs1 l k
    obtain ⟨ab, bcp, hvb⟩ := tri.b.form
    obtain ⟨aa, acp, hva⟩ := tri.a.form
    rw [marks_length] at hvb
    subst hvb hva
    by_cases hlt : k < l.length
    rotate_left
    · have hkl : k = l.length := by omega
      have HB2 : Hid (OwnB wr w.heap.size (.slice ab k bcp) (marks (chit s l) l.length)) := by rw [← hkl]; exact tri.b
      have HO : Hid (OwnI wr w.heap.size u8 (pagesOf (cst s l l.length).1)) := by rw [← hkl]; exact tri.p
      have HE : Hid ((cst s l k).2 = (cst s l l.length).2) := by rw [hkl]; rfl
      have HBL : Hid (Below w.heap.size w wr) := tri.below
      clear tri hkl INV hA
      generalize (cst s l k).2 = hk2 at *
      go_wp2
      go_ret3
      exact ⟨_, _, by rw [← HE.out]; rfl, HB2.out, HO.out, HBL.out⟩
    · rcases HV.out with ⟨h, _⟩ | ⟨b, off, cap, hv, hp, hlc, hcap, hc⟩
      · subst h; simp at hlt
      simp only [Value.slice.injEq] at hv
      obtain ⟨rfl, _, rfl⟩ := hv
      have hbB : b < w.heap.size := World.block_lt_of_cell? w _ (hc 0 hp)
      have hck : wr.cell? ⟨b, off + k, none⟩ = some (.int .i64 (l[k]?.getD 0)) := (tri.below.cell (by exact hbB)).trans (hc k hlt)
      unfold maxLen at hcap
      clear hc
      cases hh : chit s l k
      rotate_left
      · have HM : Hid (marks (chit s l) (k+1) = marks (chit s l) k ++ [true]) := by unfold Hid; rw [marks_succ, hh]
        have HH : Hid ((pagesOf (cst s l k).1).contains (l[k]?.getD 0) = true) := hh
        have HF : Hid (cst s l (k+1) = (markPage (cst s l k).1 (l[k]?.getD 0), (cst s l k).2)) := cst_hit hh
        have HMP : Hid (pagesOf (markPage (cst s l k).1 (l[k]?.getD 0)) = pagesOf (cst s l k).1) := mark_pages hh
        cases hac : A.contains (l[k]?.getD 0)
        · have HAC : Hid (A.contains (l[k]?.getD 0) = false) := hac
          have HAI : Hid (AInv (markPage (cst s l k).1 (l[k]?.getD 0)) (A ++ [l[k]?.getD 0])) := ainv_mark_new hA hh hac
          clear hh hA INV hac
          generalize (cst s l k).1 = t at *
          generalize (cst s l k).2 = h at *
          generalize l[k]?.getD 0 = p at *
          generalize markPage t p = tn at *
          generalize hm : A.length = m at *
          have HAL : Hid (A.length = m) := hm
          clear hm
          have HT : Hid (Tri w wr (.slice ab k bcp) u8 (.slice aa m acp) (marks (chit s l) k) (pagesOf t) A) := tri
          clear tri
          go_wp2_with (first | (go_at_call_of 12 u8; go_must (refine (has_eq HT.out.p.isInts HH.out).mono ?_; rintro e w' ⟨rfl, hw⟩; have hw := hw.symm; subst hw)) | (at_builtin; refine wpList_append_own _ rfl _ _ 24 rfl w.heap.size 4 i1 (.bool false) 1 1 Tryd.underlying24 HI1.out.1 HI1.out.2.1 HI1.out.2.2.1 HI1.out.2.2.2 rfl (by decide) _ k ((marks (chit s l) k).map Value.bool) rfl (World.ownsRow.alloc (HT.out.b.rows (marks_length _ k) rfl) _) ⟨wr.heap.size, 0, none⟩ 1 1 [.bool true] rfl rfl (by exact new_one _ _ _) (one_cellB _) (by unfold maxLen; omega) (by omega) (by have := HT.out.below.size; simp; omega) ?_; intro vb' w1 hown' hgrow _; have HT1 : Hid (Tri w w1 vb' u8 (.slice aa m acp) (marks (chit s l) k ++ [true]) (pagesOf t) A) := HT.out.bools (marks_length _ k) hown' hgrow; clear hown' hgrow) | (go_at_call_of 12 (Value.slice aa m acp); go_must (refine (has_eq HT1.out.a.isInts HAC.out).mono ?_; rintro e w' ⟨rfl, hw⟩; have hw := hw.symm; subst hw)) | (at_builtin; go_must (refine wpList_append_own_at _ rfl _ _ 22 rfl w.heap.size 3 i0 (.int .i64 0) 1 8 Tryd.underlying22 HI.out.1 HI.out.2.1 HI.out.2.2.1 HI.out.2.2.2 rfl (by decide) _ m (A.map (Value.int .i64)) rfl (World.ownsRow.alloc (HT1.out.a.rows HAL.out rfl) _) ⟨w1.heap.size, 0, none⟩ 1 1 [.int .i64 p] rfl rfl (by exact new_one _ _ _) (one_cell _) (by unfold maxLen; omega) (by omega) (by have := HT1.out.below.size; simp; omega) ?_; intro va' w2 hown' hgrow _ hat; have HT2 : Hid (Tri w w2 vb' u8 va' (marks (chit s l) k ++ [true]) (pagesOf t) (A ++ [p])) := HT1.out.asked HAL.out hown' hgrow hat; clear hown' hgrow hat)))
          go_roundw
          case rel => exact ⟨k + 1, A ++ [p], by omega, by go_num, by rw [HF.out], by rw [HM.out, HF.out]; show Tri _ _ _ _ _ _ (pagesOf tn) _; rw [HMP.out]; exact HT2.out, by rw [HF.out]; exact HAI.out, by rw [List.length_append, List.length_singleton, HAL.out]; omega⟩
          case measure => simp [intOf]; omega
        · have HAC : Hid (A.contains (l[k]?.getD 0) = true) := hac
          have HAI : Hid (AInv (markPage (cst s l k).1 (l[k]?.getD 0)) A) := ainv_mark_old hA hh hac
          clear hh hA INV hac
          generalize (cst s l k).1 = t at *
          generalize (cst s l k).2 = h at *
          generalize l[k]?.getD 0 = p at *
          generalize markPage t p = tn at *
          generalize hm : A.length = m at *
          have HAL : Hid (A.length = m) := hm
          clear hm
          have HT : Hid (Tri w wr (.slice ab k bcp) u8 (.slice aa m acp) (marks (chit s l) k) (pagesOf t) A) := tri
          clear tri
          go_wp2_with (first | (go_at_call_of 12 u8; go_must (refine (has_eq HT.out.p.isInts HH.out).mono ?_; rintro e w' ⟨rfl, hw⟩; have hw := hw.symm; subst hw)) | (at_builtin; refine wpList_append_own _ rfl _ _ 24 rfl w.heap.size 4 i1 (.bool false) 1 1 Tryd.underlying24 HI1.out.1 HI1.out.2.1 HI1.out.2.2.1 HI1.out.2.2.2 rfl (by decide) _ k ((marks (chit s l) k).map Value.bool) rfl (World.ownsRow.alloc (HT.out.b.rows (marks_length _ k) rfl) _) ⟨wr.heap.size, 0, none⟩ 1 1 [.bool true] rfl rfl (by exact new_one _ _ _) (one_cellB _) (by unfold maxLen; omega) (by omega) (by have := HT.out.below.size; simp; omega) ?_; intro vb' w1 hown' hgrow _; have HT1 : Hid (Tri w w1 vb' u8 (.slice aa m acp) (marks (chit s l) k ++ [true]) (pagesOf t) A) := HT.out.bools (marks_length _ k) hown' hgrow; clear hown' hgrow) | (go_at_call_of 12 (Value.slice aa m acp); go_must (refine (has_eq HT1.out.a.isInts HAC.out).mono ?_; rintro e w' ⟨rfl, hw⟩; have hw := hw.symm; subst hw)))
          go_roundw
          case rel => exact ⟨k + 1, A, by omega, by go_num, by rw [HF.out], by rw [HM.out, HF.out]; show Tri _ _ _ _ _ _ (pagesOf tn) _; rw [HMP.out]; exact HT1.out, by rw [HF.out]; exact HAI.out, by rw [HAL.out]; omega⟩
          case measure => simp [intOf]; omega
      · have HM : Hid (marks (chit s l) (k+1) = marks (chit s l) k ++ [false]) := by unfold Hid; rw [marks_succ, hh]
        have HH : Hid ((pagesOf (cst s l k).1).contains (l[k]?.getD 0) = false) := hh
        by_cases hr : (cst s l k).1.length < s
        · have HF : Hid (cst s l (k+1) = ((cst s l k).1 ++ [(l[k]?.getD 0, true)], (cst s l k).2)) := cst_room hh hr
          have HAI : Hid (AInv ((cst s l k).1 ++ [(l[k]?.getD 0, true)]) (A ++ [l[k]?.getD 0])) := ainv_room hA hh
          clear hh hA INV
          generalize (cst s l k).1 = t at *
          generalize (cst s l k).2 = h at *
          obtain ⟨ap, pcp, hvp⟩ := tri.p.form
          rw [pagesOf_length] at hvp
          subst hvp
          generalize l[k]?.getD 0 = p at *
          generalize hn : t.length = n at *
          generalize hm : A.length = m at *
          have HPL : Hid ((pagesOf t).length = n) := by unfold Hid; rw [pagesOf_length]; exact hn
          have HAL : Hid (A.length = m) := hm
          clear hn hm
          have HT : Hid (Tri w wr (.slice ab k bcp) (.slice ap n pcp) (.slice aa m acp) (marks (chit s l) k) (pagesOf t) A) := tri
          clear tri
          go_wp2_with (first | (go_at_call_of 12 (Value.slice ap n pcp); go_must (refine (has_eq HT.out.p.isInts HH.out).mono ?_; rintro e w' ⟨rfl, hw⟩; have hw := hw.symm; subst hw)) | (at_builtin; refine wpList_append_own _ rfl _ _ 24 rfl w.heap.size 4 i1 (.bool false) 1 1 Tryd.underlying24 HI1.out.1 HI1.out.2.1 HI1.out.2.2.1 HI1.out.2.2.2 rfl (by decide) _ k ((marks (chit s l) k).map Value.bool) rfl (World.ownsRow.alloc (HT.out.b.rows (marks_length _ k) rfl) _) ⟨wr.heap.size, 0, none⟩ 1 1 [.bool false] rfl rfl (by exact new_one _ _ _) (one_cellB _) (by unfold maxLen; omega) (by omega) (by have := HT.out.below.size; simp; omega) ?_; intro vb' w1 hown' hgrow _; have HT1 : Hid (Tri w w1 vb' (.slice ap n pcp) (.slice aa m acp) (marks (chit s l) k ++ [false]) (pagesOf t) A) := HT.out.bools (marks_length _ k) hown' hgrow; clear hown' hgrow) | (at_builtin; refine wpList_append_own_at _ rfl _ _ 22 rfl w.heap.size 3 i0 (.int .i64 0) 1 8 Tryd.underlying22 HI.out.1 HI.out.2.1 HI.out.2.2.1 HI.out.2.2.2 rfl (by decide) _ n ((pagesOf t).map (Value.int .i64)) rfl (World.ownsRow.alloc (HT1.out.p.rows HPL.out rfl) _) ⟨w1.heap.size, 0, none⟩ 1 1 [.int .i64 p] rfl rfl (by exact new_one _ _ _) (one_cell _) (by unfold maxLen; omega) (by omega) (by have := HT1.out.below.size; simp; omega) ?_; intro vp' w2 hown' hgrow _ hat; have HT2 : Hid (Tri w w2 vb' vp' (.slice aa m acp) (marks (chit s l) k ++ [false]) (pagesOf t ++ [p]) A) := HT1.out.pages HPL.out hown' hgrow hat; clear hown' hgrow hat) | (at_builtin; go_must (refine wpList_append_own_at _ rfl _ _ 22 rfl w.heap.size 3 i0 (.int .i64 0) 1 8 Tryd.underlying22 HI.out.1 HI.out.2.1 HI.out.2.2.1 HI.out.2.2.2 rfl (by decide) _ m (A.map (Value.int .i64)) rfl (World.ownsRow.alloc (HT2.out.a.rows HAL.out rfl) _) ⟨w2.heap.size, 0, none⟩ 1 1 [.int .i64 p] rfl rfl (by exact new_one _ _ _) (one_cell _) (by unfold maxLen; omega) (by omega) (by have := HT2.out.below.size; simp; omega) ?_; intro va' w3 hown' hgrow _ hat; have HT3 : Hid (Tri w w3 vb' vp' va' (marks (chit s l) k ++ [false]) (pagesOf t ++ [p]) (A ++ [p])) := HT2.out.asked HAL.out hown' hgrow hat; clear hown' hgrow hat)))
          go_roundw
          case rel => exact ⟨k + 1, A ++ [p], by omega, by go_num, by rw [HF.out], by rw [HM.out, HF.out]; simpa [pagesOf] using HT3.out, by rw [HF.out]; exact HAI.out, by rw [List.length_append, List.length_singleton, HAL.out]; omega⟩
          case measure => simp [intOf]; omega
        · have HF : Hid (cst s l (k+1) = turned (cst s l k).1 (cst s l k).2 (l[k]?.getD 0)) := cst_full hh hr
          have hha := INV.hand
          have hle := INV.len
          have HND : Hid (pagesOf (cst s l k).1).Nodup := INV.nodup
          have HA : Hid (AInv (cst s l k).1 A) := hA
          clear hh hA INV
          generalize (cst s l k).1 = t at *
          generalize (cst s l k).2 = h at *
          have hts : t.length = s := by omega
          have HPL : Hid ((pagesOf t).length = s) := by unfold Hid; rw [pagesOf_length]; exact hts
          obtain ⟨gp, pcp, hvp, hpc1, hpc2⟩ := tri.p.blockN HPL.out (by omega)
          subst hvp
          unfold maxLen at hpc2
          generalize l[k]?.getD 0 = p at *
          have HTS : Hid (t.length = s) := hts
          generalize hm : A.length = m at *
          have HAL : Hid (A.length = m) := hm
          clear hm hts hle hr
          have HT : Hid (Tri w wr (.slice ab k bcp) (.slice (some ⟨gp, 0, none⟩) s pcp) (.slice aa m acp) (marks (chit s l) k) (pagesOf t) A) := tri
          clear tri
          have HTU : Hid (turned t h p = letIn (sweep (nmarks t) t h).1 (sweep (nmarks t) t h).2 p) := rfl
          generalize hsw : sweep (nmarks t) t h = S at HTU
          have HS : Hid (sweep (nmarks t) t h = S) := hsw
          clear hsw
          have hs0 : 0 < s := by omega
          go_wp2_with (first | (go_at_call_of 12 (Value.slice (some ⟨gp, 0, none⟩) s pcp); go_must (refine (has_eq HT.out.p.isInts HH.out).mono ?_; rintro e w' ⟨rfl, hw⟩; have hw := hw.symm; subst hw)) | (at_builtin; go_must (refine wpList_append_own _ rfl _ _ 24 rfl w.heap.size 4 i1 (.bool false) 1 1 Tryd.underlying24 HI1.out.1 HI1.out.2.1 HI1.out.2.2.1 HI1.out.2.2.2 rfl (by decide) _ k ((marks (chit s l) k).map Value.bool) rfl (World.ownsRow.alloc (HT.out.b.rows (marks_length _ k) rfl) _) ⟨wr.heap.size, 0, none⟩ 1 1 [.bool false] rfl rfl (by exact new_one _ _ _) (one_cellB _) (by unfold maxLen; omega) (by omega) (by have := HT.out.below.size; simp; omega) ?_; intro vb' w1 hown' hgrow _; have HT1 : Hid (Tri w w1 vb' (.slice (some ⟨gp, 0, none⟩) s pcp) (.slice aa m acp) (marks (chit s l) k ++ [false]) (pagesOf t) A) := HT.out.bools (marks_length _ k) hown' hgrow; clear hown' hgrow)))
          go_loopg [9, 10] (nmarks t) (fun f va2 hv2 wz => ∃ (tt : List Slot) (h2 : Nat) (A2 : List Int), hv2 = .int .i64 h2 ∧ h2 < s ∧ Hid (tt.length = s) ∧ Hid (pagesOf tt = pagesOf t) ∧ Hid (nmarks tt ≤ f) ∧ Hid (sweep f tt h2 = S) ∧ Hid (AInv tt A2) ∧ A2.length ≤ k ∧ Hid (Tri w wz vb' (.slice (some ⟨gp, 0, none⟩) s pcp) va2 (marks (chit s l) k ++ [false]) (pagesOf t) A2))
          case atStart => exact ⟨t, h, A, rfl, hha, HTS, rfl, Nat.le_refl _, HS, HA, by rw [HAL.out]; exact hAk, HT1⟩
          case round =>
            obtain ⟨tt, h2, A2, rfl, hh2, HTL, HPP, HNM, HSW, HA2, hA2k, HT2⟩ := hrel
            have HGET : Hid ((pagesOf t)[h2]?.getD 0 = (slotAt tt h2).1) := by unfold Hid; rw [← HPP.out, pagesOf_get]
            have hcp : wr.cell? ⟨gp, h2, none⟩ = some (.int .i64 (slotAt tt h2).1) := by rw [← HGET.out]; exact HT2.out.p.cellN HPL.out hh2
            have HX : Hid (((h2 : Int) + 1) % (s : Int) = (((h2 + 1) % s : Nat) : Int)) := next_place h2 s
            have HCO : Hid (A2.contains (slotAt tt h2).1 = (slotAt tt h2).2) := ainv_at HA2.out (by rw [HPP.out]; exact HND.out) (by rw [HTL.out]; exact hh2)
            obtain ⟨aa2, acp2, hva2⟩ := HT2.out.a.form
            subst hva2
            generalize hm2 : A2.length = m2 at *
            have HAL2 : Hid (A2.length = m2) := hm2
            clear hm2
            cases hmk : (slotAt tt h2).2
            · have HMK : Hid ((slotAt tt h2).2 = false) := hmk
              rw [hmk] at HCO
              clear hmk
              have HFIN : Hid (cst s l (k+1) = letIn tt h2 p) := by
                unfold Hid
                rw [HF.out, HTU.out, ← HSW.out, sweep_end HMK.out]
              have HAI : Hid (AInv (letIn tt h2 p).1 (A2 ++ [p])) := ainv_letin HA2.out (by rw [HPP.out]; exact HH.out) (by rw [HTL.out]; exact hh2) HMK.out
              generalize (slotAt tt h2).1 = q at *
              go_wp2_with (first | (go_at_call_of 12 (Value.slice aa2 m2 acp2); go_must (refine (has_eq HT2.out.a.isInts HCO.out).mono ?_; rintro e w' ⟨rfl, hw⟩; have hw := hw.symm; subst hw)) | (at_builtin; refine wpList_append_own_at _ rfl _ _ 22 rfl w.heap.size 3 i0 (.int .i64 0) 1 8 Tryd.underlying22 HI.out.1 HI.out.2.1 HI.out.2.2.1 HI.out.2.2.2 rfl (by decide) (.slice none 0 0) 0 [] rfl (World.ownsRow_nil _ _ _ _) ⟨gp, 0, none⟩ s pcp ((pagesOf t).map (Value.int .i64)) rfl (by rw [List.length_map, HPL.out, Nat.mul_one]) (World.ownsRow.cells HT2.out.p rfl) (many_cells _) (by unfold maxLen; omega) (by omega) HT2.out.below.size ?_; intro vn w3 hown' hgrow _ hat; have ht3 := HT2.out.copied HPL.out hown' hgrow hat; obtain ⟨g3, c3, hvn, hg31, hg32⟩ := ht3.p.blockN HPL.out hs0; subst hvn; unfold maxLen at hg32; have hc3 := ht3.p.cellN HPL.out hh2; have hf3 := ht3.p.unfrozenN HPL.out h2; have HT3 : Hid (Tri w w3 vb' (.slice (some ⟨g3, 0, none⟩) s c3) (.slice aa2 m2 acp2) (marks (chit s l) k ++ [false]) (pagesOf t) A2) := ht3; have HT4 : Hid (Tri w (w3.setCell ⟨g3, h2, none⟩ (.int .i64 p)) vb' (.slice (some ⟨g3, 0, none⟩) s c3) (.slice aa2 m2 acp2) (marks (chit s l) k ++ [false]) ((pagesOf t).set h2 p) A2) := ht3.stored HPL.out h2 p; clear ht3 hown' hgrow hat) | (at_builtin; go_must (refine wpList_append_own_at _ rfl _ _ 22 rfl w.heap.size 3 i0 (.int .i64 0) 1 8 Tryd.underlying22 HI.out.1 HI.out.2.1 HI.out.2.2.1 HI.out.2.2.2 rfl (by decide) _ m2 (A2.map (Value.int .i64)) rfl (World.ownsRow.alloc (HT4.out.a.rows HAL2.out rfl) _) ⟨w3.heap.size, 0, none⟩ 1 1 [.int .i64 p] rfl rfl (by have h := new_one (w3.setCell ⟨g3, h2, none⟩ (.int .i64 p)) (.int .i64 p) 3; rw [setCell_size] at h; exact h) (one_cell _) (by unfold maxLen; omega) (by omega) (by have := HT3.out.below.size; simp; omega) ?_; intro va' w5 hown' hgrow _ hat; have HT5 : Hid (Tri w w5 vb' (.slice (some ⟨g3, 0, none⟩) s c3) va' (marks (chit s l) k ++ [false]) ((pagesOf t).set h2 p) (A2 ++ [p])) := HT4.out.asked HAL2.out hown' hgrow hat; clear hown' hgrow hat)))
              go_roundw
              case rel =>
                refine ⟨k + 1, A2 ++ [p], by omega, by go_num, ?_, ?_, by rw [HFIN.out]; exact HAI.out, by rw [List.length_append, List.length_singleton, HAL2.out]; omega⟩
                · rw [HFIN.out, HX.out]; unfold letIn; rw [HTL.out]
                · rw [HM.out, HFIN.out]
                  have := HT5.out
                  unfold letIn
                  rw [pagesOf_set, HPP.out]
                  exact this
              case measure => simp [intOf]; omega
            · have HMK : Hid ((slotAt tt h2).2 = true) := hmk
              rw [hmk] at HCO
              clear hmk
              have HP1 : Hid (nmarks (tt.set h2 ((slotAt tt h2).1, false)) + 1 = nmarks tt) := nmarks_off (by rw [HTL.out]; exact hh2) HMK.out
              have HAI : Hid (AInv (tt.set h2 ((slotAt tt h2).1, false)) (A2.erase (slotAt tt h2).1)) := ainv_off HA2.out (by rw [HPP.out]; exact HND.out) (by rw [HTL.out]; exact hh2)
              have HSW2 : Hid (sweep (gk - 1) (tt.set h2 ((slotAt tt h2).1, false)) ((h2 + 1) % s) = S) := by
                unfold Hid
                rw [← HSW.out, show gk = gk - 1 + 1 by have := HNM.out; have := HP1.out; omega, sweep_on HMK.out, HTL.out]; rfl
              have HPP2 : Hid (pagesOf (tt.set h2 ((slotAt tt h2).1, false)) = pagesOf t) := by unfold Hid; rw [pagesOf_off (by rw [HTL.out]; exact hh2)]; exact HPP.out
              have HTL2 : Hid ((tt.set h2 ((slotAt tt h2).1, false)).length = s) := by unfold Hid; rw [List.length_set]; exact HTL.out
              generalize tt.set h2 ((slotAt tt h2).1, false) = tn at *
              generalize (slotAt tt h2).1 = q at *
              have HLE : Hid ((A2.erase q).length ≤ k) := by unfold Hid; have := @List.length_erase_le _ _ q A2; rw [HAL2.out] at this; omega
              go_wp2_with (first | (go_at_call_of 12 (Value.slice aa2 m2 acp2); go_must (refine (has_eq HT2.out.a.isInts HCO.out).mono ?_; rintro e w' ⟨rfl, hw⟩; have hw := hw.symm; subst hw)) | (go_at_call 13; go_must (refine (without_any _ A2 q _ HT2.out.a.isInts (by rw [HAL2.out]; omega)).mono ?_; rintro e w3 ⟨va3, rfl, ho3, hb3⟩; have HT3 : Hid (Tri w w3 vb' (.slice (some ⟨gp, 0, none⟩) s pcp) va3 (marks (chit s l) k ++ [false]) (pagesOf t) (A2.erase q)) := HT2.out.without ho3 hb3; clear ho3 hb3)))
              go_roundg (gk - 1)
              case measure => have := HNM.out; have := HP1.out; omega
              case rel => exact ⟨tn, _, _, by rw [HX.out], Nat.mod_lt _ hs0, HTL2, HPP2, by unfold Hid; have := HNM.out; have := HP1.out; omega, HSW2, HAI, HLE.out, HT3⟩
end Go.Proofs.YtkeaeekbnmlbjaaDoor
