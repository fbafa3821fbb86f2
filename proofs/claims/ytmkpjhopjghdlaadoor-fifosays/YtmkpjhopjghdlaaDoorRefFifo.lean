/- The walk of the document's answer: Fifo. -/
import Derived.Test.YtmkpjhopjghdlaaDoorTailD
namespace Go.Proofs.YtmkpjhopjghdlaaDoor
open Go.RowKit Go.Sort

/-- The loop's relation: the rows behind k requests. -/
def RefRel (w : World) (s : Nat) (l : List Int) (vb vc i : Value) (wr : World) : Prop :=
  ∃ k : Nat, k ≤ l.length ∧ i = .int .i64 k ∧ OwnB wr w.heap.size vb (marks (fhit s l) k) ∧ OwnI wr w.heap.size vc (came s l k) ∧ (came s l k = [] → vc = .slice none 0 0) ∧ Below w.heap.size w wr

theorem snoc_ne {c : List Int} {p : Int} {v : Value} : c ++ [p] = [] → v = .slice none 0 0 := by simp

set_option maxHeartbeats 2000000 in
theorem reffifo_any (v : Value) (l : List Int) (s : Nat) (w : World) (hv : IsInts w v l) (hform : ∃ ao cap, v = .slice ao l.length cap) (hl40 : l.length ≤ 40) (hs1 : 1 ≤ s) (hs8 : s ≤ 8) :
    Calls Tryd.prog 5 #[v, .int .i64 s] w fun e w' => ∃ vb vh, e = .returned (.tuple #[vb, vh]) ∧ OwnB w' w.heap.size vb (marks (fhit s l) l.length) ∧ IsInts w' vh (lastn s (came s l l.length)) ∧ Below w.heap.size w w' := by
  have HV : Hid (IsInts w v l) := hv
  obtain ⟨av, cv, rfl⟩ := hform
  clear hv
  obtain ⟨i0, hi, hz0, hz1, hz2⟩ := info_parts Tryd.info3
  have HI : Hid (Tryd.prog.info? 3 = some i0 ∧ i0.zero = some (.int .i64 0) ∧ i0.size = 1 ∧ i0.bytes = 8) := ⟨hi, hz0, hz1, hz2⟩
  clear hi hz0 hz1 hz2
  obtain ⟨i1, hi, hz0, hz1, hz2⟩ := info_parts Tryd.infoB
  have HI1 : Hid (Tryd.prog.info? 4 = some i1 ∧ i1.zero = some (.bool false) ∧ i1.size = 1 ∧ i1.bytes = 1) := ⟨hi, hz0, hz1, hz2⟩
  clear hi hz0 hz1 hz2
  go_enter Tryd.func5, Tryd.ntmps5
  go_wp2
  go_loopw [6, 7, 8, 9, 10] (fun vb vc i _ _ wr => RefRel w s l vb vc i wr) (fun _ _ i _ _ _ => l.length - (intOf i).toNat)
  case atStart => exact ⟨0, Nat.zero_le _, rfl, OwnB.nil _ _, OwnI.nil _ _, fun _ => rfl, Below.refl _ _⟩
  case round =>
    obtain ⟨k, hk, rfl, hob, hoc, hnil, hbel⟩ := hrel
    obtain ⟨ab, bcp, hvb⟩ := hob.form
    rw [marks_length] at hvb
    subst hvb
    have HB : Hid (OwnB wr w.heap.size (.slice ab k bcp) (marks (fhit s l) k)) := hob
    have HO : Hid (OwnI wr w.heap.size u7 (came s l k)) := hoc
    have hcl := came_le s l k
    have hcs := tail_cases hs1 hoc hnil
    clear hob hoc hnil
    by_cases hlt : k < l.length
    · rcases HV.out with ⟨h, _⟩ | ⟨b, off, cap, hv, hp, hlc, hcap, hc⟩
      · subst h; simp at hlt
      simp only [Value.slice.injEq] at hv
      obtain ⟨rfl, _, rfl⟩ := hv
      have hbB : b < w.heap.size := World.block_lt_of_cell? w _ (hc 0 hp)
      have hck : wr.cell? ⟨b, off + k, none⟩ = some (.int .i64 (l[k]?.getD 0)) := (hbel.cell (by exact hbB)).trans (hc k hlt)
      unfold maxLen at hcap
      clear hc
      rcases hcs with ⟨rfl, hce⟩ | ⟨g, gc, m, rfl, hcm, hm1, hms, hmc, hgm, htl⟩ | ⟨g, gc, m, a, rfl, hcm, hm1, ham, hmc, hgm, htl⟩
      · have hcl0 : (came s l k).length = 0 := by rw [hce]; rfl
        have HCM : Hid ((came s l k).length = 0) := hcl0
        have hwr : IntKind.i64.wrap ((0 : Int) - (s : Int)) = 0 - (s : Int) := by rw [IntKind.wrap_i64]; omega
        have hwr2 : IntKind.i64.wrap (- (s : Int)) = - (s : Int) := by rw [IntKind.wrap_i64]; omega
        have hneg : (0 : Int) - (s : Int) < 0 := by omega
        have hneg2 : - (s : Int) < 0 := by omega
        have HTL : Hid (IsInts wr (.slice none 0 0) (lastn s (came s l k))) := by unfold Hid; rw [hce, lastn_nil]; exact (OwnI.nil wr 0).isInts
        clear hce hcl0 hcl
        cases hh : fhit s l k
        · have HH : Hid ((lastn s (came s l k)).contains (l[k]?.getD 0) = false) := hh
          have HM : Hid (marks (fhit s l) (k+1) = marks (fhit s l) k ++ [false]) := by unfold Hid; rw [marks_succ, hh]
          have HN : Hid (came s l (k+1) = came s l k ++ [l[k]?.getD 0]) := came_miss hh
          clear hh
          generalize l[k]?.getD 0 = p at *
          go_wp2
          go_quiet (first | (go_at_call 12; exact (has_is HTL.out HH.out _ (by rfl)).mono fun _ _ ⟨he, hm⟩ => ⟨he, _, hm⟩))
          have HBq : Hid (OwnB (wr.drewN nq) w.heap.size (.slice ab k bcp) (marks (fhit s l) k)) := HB
          have HOq : Hid (OwnI (wr.drewN nq) w.heap.size _ (came s l k)) := HO
          have hbq : Below w.heap.size w (wr.drewN nq) := below_drewN hbel nq
          have hckq : (wr.drewN nq).cell? ⟨b, off + k, none⟩ = some (.int .i64 p) := hck
          clear HB HO hbel hck HTL
          generalize wr.drewN nq = wq at *
          go_wp2_with (first | (at_builtin; (refine wpList_append_own _ rfl _ _ 24 rfl w.heap.size 4 i1 (.bool false) 1 1 Tryd.underlying24 HI1.out.1 HI1.out.2.1 HI1.out.2.2.1 HI1.out.2.2.2 rfl (by decide) _ k ((marks (fhit s l) k).map Value.bool) rfl (World.ownsRow.alloc (HBq.out.rows (marks_length _ k) rfl) _) ⟨wq.heap.size, 0, none⟩ 1 1 [.bool false] rfl rfl (by exact new_one _ _ _) (one_cellB _) (by unfold maxLen; omega) (by omega) (by have := hbq.size; simp; omega) ?_; intro vb' w1 hown' hgrow _; have HOW := bool_append HBq.out (marks_length _ k) HOq.out hbq (Nat.le_refl _) hown' hgrow; have hck1 : w1.cell? ⟨b, off + k, none⟩ = some (.int .i64 p) := (HOW.2.2.cell (p := ⟨b, off + k, none⟩) (by exact hbB)).trans ((hbq.cell (by exact hbB)).symm.trans hckq); have HW1 : Hid (OwnB w1 w.heap.size vb' (marks (fhit s l) k ++ [false])) := HOW.1; have HW2 : Hid (OwnI w1 w.heap.size _ (came s l k)) := HOW.2.1; have HW3 : Hid (Below w.heap.size w w1) := HOW.2.2; clear hown' hgrow hckq HOW)) | (at_builtin; go_must (refine wpList_append_own _ rfl _ _ 22 rfl w.heap.size 3 i0 (.int .i64 0) 1 8 Tryd.underlying22 HI.out.1 HI.out.2.1 HI.out.2.2.1 HI.out.2.2.2 rfl (by decide) _ 0 ((came s l k).map (Value.int .i64)) rfl (World.ownsRow.alloc (HW2.out.rows HCM.out rfl) _) ⟨w1.heap.size, 0, none⟩ 1 1 [.int .i64 p] rfl rfl (by exact new_one _ _ _) (one_cell _) (by unfold maxLen; omega) (by omega) (by have := HW3.out.size; simp; omega) ?_; intro vc' w2 hown' hgrow _; have HOX := held_append HW2.out HCM.out HW1.out HW3.out (Nat.le_refl _) hown' hgrow; have HX1 : Hid (OwnI w2 w.heap.size vc' (came s l k ++ [p])) := HOX.1; have HX2 : Hid (OwnB w2 w.heap.size vb' (marks (fhit s l) k ++ [false])) := HOX.2.1; have HX3 : Hid (Below w.heap.size w w2) := HOX.2.2; clear hown' hgrow HOX)))
          go_roundw
          case rel => exact ⟨k + 1, by omega, by go_num, by rw [HM.out]; exact HX2.out, by rw [HN.out]; exact HX1.out, by rw [HN.out]; exact snoc_ne, HX3.out⟩
          case measure => simp [intOf]; omega
        · have HH : Hid ((lastn s (came s l k)).contains (l[k]?.getD 0) = true) := hh
          have HM : Hid (marks (fhit s l) (k+1) = marks (fhit s l) k ++ [true]) := by unfold Hid; rw [marks_succ, hh]
          have HN : Hid (came s l (k+1) = came s l k) := came_hit hh
          clear hh
          generalize l[k]?.getD 0 = p at *
          go_wp2
          go_quiet (first | (go_at_call 12; exact (has_is HTL.out HH.out _ (by rfl)).mono fun _ _ ⟨he, hm⟩ => ⟨he, _, hm⟩))
          have HBq : Hid (OwnB (wr.drewN nq) w.heap.size (.slice ab k bcp) (marks (fhit s l) k)) := HB
          have HOq : Hid (OwnI (wr.drewN nq) w.heap.size _ (came s l k)) := HO
          have hbq : Below w.heap.size w (wr.drewN nq) := below_drewN hbel nq
          have hckq : (wr.drewN nq).cell? ⟨b, off + k, none⟩ = some (.int .i64 p) := hck
          clear HB HO hbel hck HTL
          generalize wr.drewN nq = wq at *
          go_wp2_with (at_builtin; go_must (refine wpList_append_own _ rfl _ _ 24 rfl w.heap.size 4 i1 (.bool false) 1 1 Tryd.underlying24 HI1.out.1 HI1.out.2.1 HI1.out.2.2.1 HI1.out.2.2.2 rfl (by decide) _ k ((marks (fhit s l) k).map Value.bool) rfl (World.ownsRow.alloc (HBq.out.rows (marks_length _ k) rfl) _) ⟨wq.heap.size, 0, none⟩ 1 1 [.bool true] rfl rfl (by exact new_one _ _ _) (one_cellB _) (by unfold maxLen; omega) (by omega) (by have := hbq.size; simp; omega) ?_; intro vb' w1 hown' hgrow _; have HOW := bool_append HBq.out (marks_length _ k) HOq.out hbq (Nat.le_refl _) hown' hgrow; have hck1 : w1.cell? ⟨b, off + k, none⟩ = some (.int .i64 p) := (HOW.2.2.cell (p := ⟨b, off + k, none⟩) (by exact hbB)).trans ((hbq.cell (by exact hbB)).symm.trans hckq); have HW1 : Hid (OwnB w1 w.heap.size vb' (marks (fhit s l) k ++ [true])) := HOW.1; have HW2 : Hid (OwnI w1 w.heap.size _ (came s l k)) := HOW.2.1; have HW3 : Hid (Below w.heap.size w w1) := HOW.2.2; clear hown' hgrow hckq HOW))
          go_roundw
          case rel => exact ⟨k + 1, by omega, by go_num, by rw [HM.out]; exact HW1.out, by rw [HN.out]; exact HW2.out, fun _ => rfl, HW3.out⟩
          case measure => simp [intOf]; omega
      · have hwr : IntKind.i64.wrap ((m : Int) - (s : Int)) = (m : Int) - (s : Int) := by rw [IntKind.wrap_i64]; omega
        have hneg : (m : Int) - (s : Int) < 0 := by omega
        have HCM : Hid ((came s l k).length = m) := hcm
        have HTL : Hid (IsInts wr (.slice (some ⟨g, 0, none⟩) m gc) (lastn s (came s l k))) := htl
        have ha1 : ¬ (gc = 0) := by omega
        rw [hcm] at hcl
        clear hcm htl
        unfold maxLen at hgm
        have HNE : Hid (came s l k = [] → Value.slice (some ⟨g, 0, none⟩) m gc = .slice none 0 0) := by intro h; have := HCM.out; rw [h] at this; simp at this; omega
        cases hh : fhit s l k
        · have HH : Hid ((lastn s (came s l k)).contains (l[k]?.getD 0) = false) := hh
          have HM : Hid (marks (fhit s l) (k+1) = marks (fhit s l) k ++ [false]) := by unfold Hid; rw [marks_succ, hh]
          have HN : Hid (came s l (k+1) = came s l k ++ [l[k]?.getD 0]) := came_miss hh
          clear hh
          generalize l[k]?.getD 0 = p at *
          go_wp2
          go_quiet (first | (go_at_call 12; exact (has_is HTL.out HH.out _ (by rfl)).mono fun _ _ ⟨he, hm⟩ => ⟨he, _, hm⟩))
          have HBq : Hid (OwnB (wr.drewN nq) w.heap.size (.slice ab k bcp) (marks (fhit s l) k)) := HB
          have HOq : Hid (OwnI (wr.drewN nq) w.heap.size _ (came s l k)) := HO
          have hbq : Below w.heap.size w (wr.drewN nq) := below_drewN hbel nq
          have hckq : (wr.drewN nq).cell? ⟨b, off + k, none⟩ = some (.int .i64 p) := hck
          clear HB HO hbel hck HTL
          generalize wr.drewN nq = wq at *
          go_wp2_with (first | (at_builtin; (refine wpList_append_own _ rfl _ _ 24 rfl w.heap.size 4 i1 (.bool false) 1 1 Tryd.underlying24 HI1.out.1 HI1.out.2.1 HI1.out.2.2.1 HI1.out.2.2.2 rfl (by decide) _ k ((marks (fhit s l) k).map Value.bool) rfl (World.ownsRow.alloc (HBq.out.rows (marks_length _ k) rfl) _) ⟨wq.heap.size, 0, none⟩ 1 1 [.bool false] rfl rfl (by exact new_one _ _ _) (one_cellB _) (by unfold maxLen; omega) (by omega) (by have := hbq.size; simp; omega) ?_; intro vb' w1 hown' hgrow _; have HOW := bool_append HBq.out (marks_length _ k) HOq.out hbq (Nat.le_refl _) hown' hgrow; have hck1 : w1.cell? ⟨b, off + k, none⟩ = some (.int .i64 p) := (HOW.2.2.cell (p := ⟨b, off + k, none⟩) (by exact hbB)).trans ((hbq.cell (by exact hbB)).symm.trans hckq); have HW1 : Hid (OwnB w1 w.heap.size vb' (marks (fhit s l) k ++ [false])) := HOW.1; have HW2 : Hid (OwnI w1 w.heap.size _ (came s l k)) := HOW.2.1; have HW3 : Hid (Below w.heap.size w w1) := HOW.2.2; clear hown' hgrow hckq HOW)) | (at_builtin; go_must (refine wpList_append_own _ rfl _ _ 22 rfl w.heap.size 3 i0 (.int .i64 0) 1 8 Tryd.underlying22 HI.out.1 HI.out.2.1 HI.out.2.2.1 HI.out.2.2.2 rfl (by decide) _ m ((came s l k).map (Value.int .i64)) rfl (World.ownsRow.alloc (HW2.out.rows HCM.out rfl) _) ⟨w1.heap.size, 0, none⟩ 1 1 [.int .i64 p] rfl rfl (by exact new_one _ _ _) (one_cell _) (by unfold maxLen; omega) (by omega) (by have := HW3.out.size; simp; omega) ?_; intro vc' w2 hown' hgrow _; have HOX := held_append HW2.out HCM.out HW1.out HW3.out (Nat.le_refl _) hown' hgrow; have HX1 : Hid (OwnI w2 w.heap.size vc' (came s l k ++ [p])) := HOX.1; have HX2 : Hid (OwnB w2 w.heap.size vb' (marks (fhit s l) k ++ [false])) := HOX.2.1; have HX3 : Hid (Below w.heap.size w w2) := HOX.2.2; clear hown' hgrow HOX)))
          go_roundw
          case rel => exact ⟨k + 1, by omega, by go_num, by rw [HM.out]; exact HX2.out, by rw [HN.out]; exact HX1.out, by rw [HN.out]; exact snoc_ne, HX3.out⟩
          case measure => simp [intOf]; omega
        · have HH : Hid ((lastn s (came s l k)).contains (l[k]?.getD 0) = true) := hh
          have HM : Hid (marks (fhit s l) (k+1) = marks (fhit s l) k ++ [true]) := by unfold Hid; rw [marks_succ, hh]
          have HN : Hid (came s l (k+1) = came s l k) := came_hit hh
          clear hh
          generalize l[k]?.getD 0 = p at *
          go_wp2
          go_quiet (first | (go_at_call 12; exact (has_is HTL.out HH.out _ (by rfl)).mono fun _ _ ⟨he, hm⟩ => ⟨he, _, hm⟩))
          have HBq : Hid (OwnB (wr.drewN nq) w.heap.size (.slice ab k bcp) (marks (fhit s l) k)) := HB
          have HOq : Hid (OwnI (wr.drewN nq) w.heap.size _ (came s l k)) := HO
          have hbq : Below w.heap.size w (wr.drewN nq) := below_drewN hbel nq
          have hckq : (wr.drewN nq).cell? ⟨b, off + k, none⟩ = some (.int .i64 p) := hck
          clear HB HO hbel hck HTL
          generalize wr.drewN nq = wq at *
          go_wp2_with (at_builtin; go_must (refine wpList_append_own _ rfl _ _ 24 rfl w.heap.size 4 i1 (.bool false) 1 1 Tryd.underlying24 HI1.out.1 HI1.out.2.1 HI1.out.2.2.1 HI1.out.2.2.2 rfl (by decide) _ k ((marks (fhit s l) k).map Value.bool) rfl (World.ownsRow.alloc (HBq.out.rows (marks_length _ k) rfl) _) ⟨wq.heap.size, 0, none⟩ 1 1 [.bool true] rfl rfl (by exact new_one _ _ _) (one_cellB _) (by unfold maxLen; omega) (by omega) (by have := hbq.size; simp; omega) ?_; intro vb' w1 hown' hgrow _; have HOW := bool_append HBq.out (marks_length _ k) HOq.out hbq (Nat.le_refl _) hown' hgrow; have hck1 : w1.cell? ⟨b, off + k, none⟩ = some (.int .i64 p) := (HOW.2.2.cell (p := ⟨b, off + k, none⟩) (by exact hbB)).trans ((hbq.cell (by exact hbB)).symm.trans hckq); have HW1 : Hid (OwnB w1 w.heap.size vb' (marks (fhit s l) k ++ [true])) := HOW.1; have HW2 : Hid (OwnI w1 w.heap.size _ (came s l k)) := HOW.2.1; have HW3 : Hid (Below w.heap.size w w1) := HOW.2.2; clear hown' hgrow hckq HOW))
          go_roundw
          case rel => exact ⟨k + 1, by omega, by go_num, by rw [HM.out]; exact HW1.out, by rw [HN.out]; exact HW2.out, by rw [HN.out]; exact HNE.out, HW3.out⟩
          case measure => simp [intOf]; omega
      · have hwr : IntKind.i64.wrap ((m : Int) - (s : Int)) = (a : Int) := by rw [IntKind.wrap_i64]; omega
        have HCM : Hid ((came s l k).length = m) := hcm
        have HTL : Hid (IsInts wr (.slice (some ⟨g, a, none⟩) (m - a) (gc - a)) (lastn s (came s l k))) := htl
        have ha0 : (a : Int) ≤ (m : Int) := by omega
        have ha1 : ¬ (gc = a) := by omega
        rw [hcm] at hcl
        clear hcm htl
        unfold maxLen at hgm
        have HNE : Hid (came s l k = [] → Value.slice (some ⟨g, 0, none⟩) m gc = .slice none 0 0) := by intro h; have := HCM.out; rw [h] at this; simp at this; omega
        cases hh : fhit s l k
        · have HH : Hid ((lastn s (came s l k)).contains (l[k]?.getD 0) = false) := hh
          have HM : Hid (marks (fhit s l) (k+1) = marks (fhit s l) k ++ [false]) := by unfold Hid; rw [marks_succ, hh]
          have HN : Hid (came s l (k+1) = came s l k ++ [l[k]?.getD 0]) := came_miss hh
          clear hh
          generalize l[k]?.getD 0 = p at *
          go_wp2
          go_quiet (first | (go_at_call 12; exact (has_is HTL.out HH.out _ (by rfl)).mono fun _ _ ⟨he, hm⟩ => ⟨he, _, hm⟩))
          have HBq : Hid (OwnB (wr.drewN nq) w.heap.size (.slice ab k bcp) (marks (fhit s l) k)) := HB
          have HOq : Hid (OwnI (wr.drewN nq) w.heap.size _ (came s l k)) := HO
          have hbq : Below w.heap.size w (wr.drewN nq) := below_drewN hbel nq
          have hckq : (wr.drewN nq).cell? ⟨b, off + k, none⟩ = some (.int .i64 p) := hck
          clear HB HO hbel hck HTL
          generalize wr.drewN nq = wq at *
          go_wp2_with (first | (at_builtin; (refine wpList_append_own _ rfl _ _ 24 rfl w.heap.size 4 i1 (.bool false) 1 1 Tryd.underlying24 HI1.out.1 HI1.out.2.1 HI1.out.2.2.1 HI1.out.2.2.2 rfl (by decide) _ k ((marks (fhit s l) k).map Value.bool) rfl (World.ownsRow.alloc (HBq.out.rows (marks_length _ k) rfl) _) ⟨wq.heap.size, 0, none⟩ 1 1 [.bool false] rfl rfl (by exact new_one _ _ _) (one_cellB _) (by unfold maxLen; omega) (by omega) (by have := hbq.size; simp; omega) ?_; intro vb' w1 hown' hgrow _; have HOW := bool_append HBq.out (marks_length _ k) HOq.out hbq (Nat.le_refl _) hown' hgrow; have hck1 : w1.cell? ⟨b, off + k, none⟩ = some (.int .i64 p) := (HOW.2.2.cell (p := ⟨b, off + k, none⟩) (by exact hbB)).trans ((hbq.cell (by exact hbB)).symm.trans hckq); have HW1 : Hid (OwnB w1 w.heap.size vb' (marks (fhit s l) k ++ [false])) := HOW.1; have HW2 : Hid (OwnI w1 w.heap.size _ (came s l k)) := HOW.2.1; have HW3 : Hid (Below w.heap.size w w1) := HOW.2.2; clear hown' hgrow hckq HOW)) | (at_builtin; go_must (refine wpList_append_own _ rfl _ _ 22 rfl w.heap.size 3 i0 (.int .i64 0) 1 8 Tryd.underlying22 HI.out.1 HI.out.2.1 HI.out.2.2.1 HI.out.2.2.2 rfl (by decide) _ m ((came s l k).map (Value.int .i64)) rfl (World.ownsRow.alloc (HW2.out.rows HCM.out rfl) _) ⟨w1.heap.size, 0, none⟩ 1 1 [.int .i64 p] rfl rfl (by exact new_one _ _ _) (one_cell _) (by unfold maxLen; omega) (by omega) (by have := HW3.out.size; simp; omega) ?_; intro vc' w2 hown' hgrow _; have HOX := held_append HW2.out HCM.out HW1.out HW3.out (Nat.le_refl _) hown' hgrow; have HX1 : Hid (OwnI w2 w.heap.size vc' (came s l k ++ [p])) := HOX.1; have HX2 : Hid (OwnB w2 w.heap.size vb' (marks (fhit s l) k ++ [false])) := HOX.2.1; have HX3 : Hid (Below w.heap.size w w2) := HOX.2.2; clear hown' hgrow HOX)))
          go_roundw
          case rel => exact ⟨k + 1, by omega, by go_num, by rw [HM.out]; exact HX2.out, by rw [HN.out]; exact HX1.out, by rw [HN.out]; exact snoc_ne, HX3.out⟩
          case measure => simp [intOf]; omega
        · have HH : Hid ((lastn s (came s l k)).contains (l[k]?.getD 0) = true) := hh
          have HM : Hid (marks (fhit s l) (k+1) = marks (fhit s l) k ++ [true]) := by unfold Hid; rw [marks_succ, hh]
          have HN : Hid (came s l (k+1) = came s l k) := came_hit hh
          clear hh
          generalize l[k]?.getD 0 = p at *
          go_wp2
          go_quiet (first | (go_at_call 12; exact (has_is HTL.out HH.out _ (by rfl)).mono fun _ _ ⟨he, hm⟩ => ⟨he, _, hm⟩))
          have HBq : Hid (OwnB (wr.drewN nq) w.heap.size (.slice ab k bcp) (marks (fhit s l) k)) := HB
          have HOq : Hid (OwnI (wr.drewN nq) w.heap.size _ (came s l k)) := HO
          have hbq : Below w.heap.size w (wr.drewN nq) := below_drewN hbel nq
          have hckq : (wr.drewN nq).cell? ⟨b, off + k, none⟩ = some (.int .i64 p) := hck
          clear HB HO hbel hck HTL
          generalize wr.drewN nq = wq at *
          go_wp2_with (at_builtin; go_must (refine wpList_append_own _ rfl _ _ 24 rfl w.heap.size 4 i1 (.bool false) 1 1 Tryd.underlying24 HI1.out.1 HI1.out.2.1 HI1.out.2.2.1 HI1.out.2.2.2 rfl (by decide) _ k ((marks (fhit s l) k).map Value.bool) rfl (World.ownsRow.alloc (HBq.out.rows (marks_length _ k) rfl) _) ⟨wq.heap.size, 0, none⟩ 1 1 [.bool true] rfl rfl (by exact new_one _ _ _) (one_cellB _) (by unfold maxLen; omega) (by omega) (by have := hbq.size; simp; omega) ?_; intro vb' w1 hown' hgrow _; have HOW := bool_append HBq.out (marks_length _ k) HOq.out hbq (Nat.le_refl _) hown' hgrow; have hck1 : w1.cell? ⟨b, off + k, none⟩ = some (.int .i64 p) := (HOW.2.2.cell (p := ⟨b, off + k, none⟩) (by exact hbB)).trans ((hbq.cell (by exact hbB)).symm.trans hckq); have HW1 : Hid (OwnB w1 w.heap.size vb' (marks (fhit s l) k ++ [true])) := HOW.1; have HW2 : Hid (OwnI w1 w.heap.size _ (came s l k)) := HOW.2.1; have HW3 : Hid (Below w.heap.size w w1) := HOW.2.2; clear hown' hgrow hckq HOW))
          go_roundw
          case rel => exact ⟨k + 1, by omega, by go_num, by rw [HM.out]; exact HW1.out, by rw [HN.out]; exact HW2.out, by rw [HN.out]; exact HNE.out, HW3.out⟩
          case measure => simp [intOf]; omega
    · have hkl : k = l.length := by omega
      have HB2 : Hid (OwnB wr w.heap.size (.slice ab k bcp) (marks (fhit s l) l.length)) := by rw [← hkl]; exact HB
      rw [hkl] at hcs
      clear HB HO
      rcases hcs with ⟨rfl, hce⟩ | ⟨g, gc, m, rfl, hcm, hm1, hms, hmc, hgm, htl⟩ | ⟨g, gc, m, a, rfl, hcm, hm1, ham, hmc, hgm, htl⟩
      · have HTL : Hid (IsInts wr (.slice none 0 0) (lastn s (came s l l.length))) := by unfold Hid; rw [hce, lastn_nil]; exact (OwnI.nil wr 0).isInts
        clear hce hkl
        go_wp2
        go_ret2
        exact ⟨_, _, rfl, HB2.out, HTL.out, hbel⟩
      · have HTL : Hid (IsInts wr (.slice (some ⟨g, 0, none⟩) m gc) (lastn s (came s l l.length))) := htl
        clear hcm htl hkl
        unfold maxLen at hgm
        go_wp2
        go_ret2
        exact ⟨_, _, rfl, HB2.out, HTL.out, hbel⟩
      · have HTL : Hid (IsInts wr (.slice (some ⟨g, a, none⟩) (m - a) (gc - a)) (lastn s (came s l l.length))) := htl
        have HCM : Hid ((came s l l.length).length = m) := hcm
        have hwr : IntKind.i64.wrap ((m : Int) - (s : Int)) = (a : Int) := by rw [IntKind.wrap_i64]; unfold maxLen at hgm; omega
        have ha0 : (a : Int) ≤ (m : Int) := by omega
        have ha1 : ¬ (gc = a) := by omega
        clear hcm htl hkl
        unfold maxLen at hgm
        cases a with
        | zero =>
          go_wp2
          go_ret2
          exact ⟨_, _, rfl, HB2.out, HTL.out, hbel⟩
        | succ a =>
          go_wp2
          go_quiet (fail)
          go_wp2
          go_ret2
          exact ⟨_, _, rfl, HB2.out, HTL.out, below_drewN hbel _⟩
end Go.Proofs.YtmkpjhopjghdlaaDoor
