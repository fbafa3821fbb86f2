/- The walk of the document's answer: Flush. -/
import Derived.Test.YtggigaokllahoaaDoorRefStarts
import Derived.Deep.RegionWith
namespace Go.Proofs.YtggigaokllahoaaDoor
open Go.RowKit Go.Sort

/-- The loop's relation: the rows behind k requests. -/
def RefRel (w : World) (s : Nat) (l : List Int) (vb vh i : Value) (wr : World) : Prop :=
  ∃ k : Nat, k ≤ l.length ∧ i = .int .i64 k ∧ OwnB wr w.heap.size vb (marks (ehit s l) k) ∧ OwnI wr w.heap.size vh (since s l k) ∧ Below w.heap.size w wr

set_option maxHeartbeats 2000000 in
theorem refflush_any (v : Value) (l : List Int) (s : Nat) (w : World) (hv : IsInts w v l) (hform : ∃ ao cap, v = .slice ao l.length cap) (hl40 : l.length ≤ 40) (hs1 : 1 ≤ s) (hs8 : s ≤ 8) :
    Calls Tryd.prog 5 #[v, .int .i64 s] w fun e w' => ∃ vb vh, e = .returned (.tuple #[vb, vh]) ∧ IsBools w' vb (marks (ehit s l) l.length) ∧ IsInts w' vh (since s l l.length) ∧ Below w.heap.size w w' := by
  have HV : Hid (IsInts w v l) := hv
  have HF : Hid (∃ ao cap, v = .slice ao l.length cap) := hform
  clear hv
  obtain ⟨i0, hi, hz0, hz1, hz2⟩ := info_parts Tryd.info3
  have HI : Hid (Tryd.prog.info? 3 = some i0 ∧ i0.zero = some (.int .i64 0) ∧ i0.size = 1 ∧ i0.bytes = 8) := ⟨hi, hz0, hz1, hz2⟩
  clear hi hz0 hz1 hz2
  obtain ⟨i1, hi, hz0, hz1, hz2⟩ := info_parts Tryd.infoB
  have HI1 : Hid (Tryd.prog.info? 4 = some i1 ∧ i1.zero = some (.bool false) ∧ i1.size = 1 ∧ i1.bytes = 1) := ⟨hi, hz0, hz1, hz2⟩
  clear hi hz0 hz1 hz2
  go_enter Tryd.func5, Tryd.ntmps5
  go_wp2_with (go_at_call 12; fail)
  refine (refstarts_any v l s _ HV.out HF.out hl40 hs1 hs8).mono ?_
  rintro e w0 ⟨vs, rfl, hS, hb0⟩
  have HB0 : Hid (Below w.heap.size w w0) := hb0
  have HST : Hid (IsInts w0 vs (starts s l l.length)) := hS.isInts
  have HV0 : Hid (IsInts w0 v l) := HV.out.below hb0
  obtain ⟨av, cv, rfl⟩ := hform
  clear HV HF hS hb0
  go_wp2
  go_loopw [7, 8, 9, 10] (fun vb vh i _ wr => RefRel w0 s l vb vh i wr) (fun _ _ i _ _ => l.length - (intOf i).toNat)
  case atStart => exact ⟨0, Nat.zero_le _, rfl, OwnB.nil _ _, OwnI.nil _ _, Below.refl _ _⟩
  case round =>
    obtain ⟨k, hk, rfl, hob, hoh, hbel⟩ := hrel
    obtain ⟨ab, bcp, hvb⟩ := hob.form
    rw [marks_length] at hvb
    subst hvb
    have HB : Hid (OwnB wr w0.heap.size (.slice ab k bcp) (marks (ehit s l) k)) := hob
    by_cases hlt : k < l.length
    · rcases HV0.out with ⟨h, _⟩ | ⟨b, off, cap, hv, hp, hlc, hcap, hc⟩
      · subst h; simp at hlt
      simp only [Value.slice.injEq] at hv
      obtain ⟨rfl, _, rfl⟩ := hv
      have hbB : b < w0.heap.size := World.block_lt_of_cell? w0 _ (hc 0 hp)
      have HCK : Hid (w0.cell? ⟨b, off + k, none⟩ = some (.int .i64 (l[k]?.getD 0))) := hc k hlt
      have hck : wr.cell? ⟨b, off + k, none⟩ = some (.int .i64 (l[k]?.getD 0)) := (hbel.cell (by exact hbB)).trans HCK.out
      have HSR : Hid (IsInts wr vs (starts s l l.length)) := HST.out.below hbel
      have HSH : Hid ((starts s l l.length).contains (k : Int) = begins s l k) := starts_has hlt
      unfold maxLen at hcap
      clear hc hob
      obtain ⟨ah, hcp, hvh⟩ := hoh.form
      have hn8 := since_le hs1 l k
      generalize hn : (since s l k).length = n at *
      have HNL : Hid ((since s l k).length = n) := hn
      subst hvh
      have HO : Hid (OwnI wr w0.heap.size (.slice ah n hcp) (since s l k)) := hoh
      clear hn hoh
      cases hbg : begins s l k
      · rw [hbg] at HSH
        cases hh : ehit s l k
        · have HH : Hid ((since s l k).contains (l[k]?.getD 0) = false) := hh
          have HN : Hid (since s l (k+1) = since s l k ++ [l[k]?.getD 0]) := stays_since hbg hh
          have HM : Hid (marks (ehit s l) (k+1) = marks (ehit s l) k ++ [false]) := by unfold Hid; rw [marks_succ, hh]
          clear hh hbg
          generalize l[k]?.getD 0 = p at *
          generalize since s l k = held at *
          go_wp2_with (first | (go_at_call_of 13 vs; go_must (refine (has_eq HSR.out HSH.out).mono ?_; rintro e w' ⟨rfl, hw⟩; have hw := hw.symm; subst hw)) | (go_at_call_of 13 (Value.slice ah n hcp); go_must (refine (has_eq HO.out.isInts HH.out).mono ?_; rintro e w' ⟨rfl, hw⟩; have hw := hw.symm; subst hw)) | (at_builtin; (refine wpList_append_own _ rfl _ _ 24 rfl w0.heap.size 4 i1 (.bool false) 1 1 Tryd.underlying24 HI1.out.1 HI1.out.2.1 HI1.out.2.2.1 HI1.out.2.2.2 rfl (by decide) _ k ((marks (ehit s l) k).map Value.bool) rfl (World.ownsRow.alloc (HB.out.rows (marks_length _ k) rfl) _) ⟨wr.heap.size, 0, none⟩ 1 1 [.bool false] rfl rfl (by exact new_one _ _ _) (one_cellB _) (by unfold maxLen; omega) (by omega) (by have := hbel.size; simp; omega) ?_; intro vb' w1 hown' hgrow _; have HOW := bool_append HB.out (marks_length _ k) HO.out hbel (Nat.le_refl _) hown' hgrow; have hck1 : w1.cell? ⟨b, off + k, none⟩ = some (.int .i64 p) := (HOW.2.2.cell (p := ⟨b, off + k, none⟩) (by exact hbB)).trans HCK.out; have HW1 : Hid (OwnB w1 w0.heap.size vb' (marks (ehit s l) k ++ [false])) := HOW.1; have HW2 : Hid (OwnI w1 w0.heap.size (.slice ah n hcp) held) := HOW.2.1; have HW3 : Hid (Below w0.heap.size w0 w1) := HOW.2.2; clear hown' hgrow HOW hck HB HO)) | (at_builtin; go_must (refine wpList_append_own _ rfl _ _ 22 rfl w0.heap.size 3 i0 (.int .i64 0) 1 8 Tryd.underlying22 HI.out.1 HI.out.2.1 HI.out.2.2.1 HI.out.2.2.2 rfl (by decide) _ n ((held).map (Value.int .i64)) rfl (World.ownsRow.alloc (HW2.out.rows HNL.out rfl) _) ⟨w1.heap.size, 0, none⟩ 1 1 [.int .i64 p] rfl rfl (by exact new_one _ _ _) (one_cell _) (by unfold maxLen; omega) (by omega) (by have := HW3.out.size; simp; omega) ?_; intro vh' w2 hown' hgrow _; have HOX := held_append HW2.out HNL.out HW1.out HW3.out (Nat.le_refl _) hown' hgrow; have HX1 : Hid (OwnI w2 w0.heap.size vh' (held ++ [p])) := HOX.1; have HX2 : Hid (OwnB w2 w0.heap.size vb' (marks (ehit s l) k ++ [false])) := HOX.2.1; have HX3 : Hid (Below w0.heap.size w0 w2) := HOX.2.2; clear hown' hgrow HOX)))
          go_roundw
          case rel => exact ⟨k + 1, by omega, by go_num, by rw [HM.out]; exact HX2.out, by rw [HN.out]; exact HX1.out, HX3.out⟩
          case measure => simp [intOf]; omega
        · have HH : Hid ((since s l k).contains (l[k]?.getD 0) = true) := hh
          have HN : Hid (since s l (k+1) = since s l k) := since_hit hh
          have HM : Hid (marks (ehit s l) (k+1) = marks (ehit s l) k ++ [true]) := by unfold Hid; rw [marks_succ, hh]
          clear hh hbg
          generalize l[k]?.getD 0 = p at *
          generalize since s l k = held at *
          go_wp2_with (first | (go_at_call_of 13 vs; go_must (refine (has_eq HSR.out HSH.out).mono ?_; rintro e w' ⟨rfl, hw⟩; have hw := hw.symm; subst hw)) | (go_at_call_of 13 (Value.slice ah n hcp); go_must (refine (has_eq HO.out.isInts HH.out).mono ?_; rintro e w' ⟨rfl, hw⟩; have hw := hw.symm; subst hw)) | (at_builtin; (refine wpList_append_own _ rfl _ _ 24 rfl w0.heap.size 4 i1 (.bool false) 1 1 Tryd.underlying24 HI1.out.1 HI1.out.2.1 HI1.out.2.2.1 HI1.out.2.2.2 rfl (by decide) _ k ((marks (ehit s l) k).map Value.bool) rfl (World.ownsRow.alloc (HB.out.rows (marks_length _ k) rfl) _) ⟨wr.heap.size, 0, none⟩ 1 1 [.bool true] rfl rfl (by exact new_one _ _ _) (one_cellB _) (by unfold maxLen; omega) (by omega) (by have := hbel.size; simp; omega) ?_; intro vb' w1 hown' hgrow _; have HOW := bool_append HB.out (marks_length _ k) HO.out hbel (Nat.le_refl _) hown' hgrow; have hck1 : w1.cell? ⟨b, off + k, none⟩ = some (.int .i64 p) := (HOW.2.2.cell (p := ⟨b, off + k, none⟩) (by exact hbB)).trans HCK.out; have HW1 : Hid (OwnB w1 w0.heap.size vb' (marks (ehit s l) k ++ [true])) := HOW.1; have HW2 : Hid (OwnI w1 w0.heap.size (.slice ah n hcp) held) := HOW.2.1; have HW3 : Hid (Below w0.heap.size w0 w1) := HOW.2.2; clear hown' hgrow HOW hck HB HO)))
          go_roundw
          case rel => exact ⟨k + 1, by omega, by go_num, by rw [HM.out]; exact HW1.out, by rw [HN.out]; exact HW2.out, HW3.out⟩
          case measure => simp [intOf]; omega
      · rw [hbg] at HSH
        have hh := begins_miss hbg
        have HN : Hid (since s l (k+1) = [] ++ [l[k]?.getD 0]) := begins_since hbg
        have HM : Hid (marks (ehit s l) (k+1) = marks (ehit s l) k ++ [false]) := by unfold Hid; rw [marks_succ, hh]
        clear hh hbg hn8 HNL HO
        generalize l[k]?.getD 0 = p at *
        have HH : Hid (([] : List Int).contains p = false) := rfl
        have HO : Hid (OwnI wr w0.heap.size (.slice none 0 0) []) := OwnI.nil _ _
        go_wp2_with (first | (go_at_call_of 13 vs; go_must (refine (has_eq HSR.out HSH.out).mono ?_; rintro e w' ⟨rfl, hw⟩; have hw := hw.symm; subst hw)) | (go_at_call_of 13 (Value.slice none 0 0); go_must (refine (has_eq HO.out.isInts HH.out).mono ?_; rintro e w' ⟨rfl, hw⟩; have hw := hw.symm; subst hw)) | (at_builtin; (refine wpList_append_own _ rfl _ _ 24 rfl w0.heap.size 4 i1 (.bool false) 1 1 Tryd.underlying24 HI1.out.1 HI1.out.2.1 HI1.out.2.2.1 HI1.out.2.2.2 rfl (by decide) _ k ((marks (ehit s l) k).map Value.bool) rfl (World.ownsRow.alloc (HB.out.rows (marks_length _ k) rfl) _) ⟨wr.heap.size, 0, none⟩ 1 1 [.bool false] rfl rfl (by exact new_one _ _ _) (one_cellB _) (by unfold maxLen; omega) (by omega) (by have := hbel.size; simp; omega) ?_; intro vb' w1 hown' hgrow _; have HOW := bool_append HB.out (marks_length _ k) HO.out hbel (Nat.le_refl _) hown' hgrow; have hck1 : w1.cell? ⟨b, off + k, none⟩ = some (.int .i64 p) := (HOW.2.2.cell (p := ⟨b, off + k, none⟩) (by exact hbB)).trans HCK.out; have HW1 : Hid (OwnB w1 w0.heap.size vb' (marks (ehit s l) k ++ [false])) := HOW.1; have HW2 : Hid (OwnI w1 w0.heap.size (.slice none 0 0) []) := HOW.2.1; have HW3 : Hid (Below w0.heap.size w0 w1) := HOW.2.2; clear hown' hgrow HOW hck HB HO)) | (at_builtin; go_must (refine wpList_append_own _ rfl _ _ 22 rfl w0.heap.size 3 i0 (.int .i64 0) 1 8 Tryd.underlying22 HI.out.1 HI.out.2.1 HI.out.2.2.1 HI.out.2.2.2 rfl (by decide) _ 0 ((([] : List Int)).map (Value.int .i64)) rfl (World.ownsRow.alloc (HW2.out.rows rfl rfl) _) ⟨w1.heap.size, 0, none⟩ 1 1 [.int .i64 p] rfl rfl (by exact new_one _ _ _) (one_cell _) (by unfold maxLen; omega) (by omega) (by have := HW3.out.size; simp; omega) ?_; intro vh' w2 hown' hgrow _; have HOX := held_append HW2.out rfl HW1.out HW3.out (Nat.le_refl _) hown' hgrow; have HX1 : Hid (OwnI w2 w0.heap.size vh' (([] : List Int) ++ [p])) := HOX.1; have HX2 : Hid (OwnB w2 w0.heap.size vb' (marks (ehit s l) k ++ [false])) := HOX.2.1; have HX3 : Hid (Below w0.heap.size w0 w2) := HOX.2.2; clear hown' hgrow HOX)))
        go_roundw
        case rel => exact ⟨k + 1, by omega, by go_num, by rw [HM.out]; exact HX2.out, by rw [HN.out]; exact HX1.out, HX3.out⟩
        case measure => simp [intOf]; omega
    · have hkl : k = l.length := by omega
      have HB2 : Hid (OwnB wr w0.heap.size (.slice ab k bcp) (marks (ehit s l) l.length)) := by rw [← hkl]; exact HB
      have HO : Hid (OwnI wr w0.heap.size u8 (since s l l.length)) := by rw [hkl] at hoh; exact hoh
      have HBB : Hid (Below w.heap.size w wr) := HB0.out.trans (hbel.mono HB0.out.size)
      clear hoh hkl HB hob
      go_wp2
      go_ret2
      exact ⟨_, _, rfl, HB2.out.isBools, HO.out.isInts, HBB.out⟩
end Go.Proofs.YtggigaokllahoaaDoor
