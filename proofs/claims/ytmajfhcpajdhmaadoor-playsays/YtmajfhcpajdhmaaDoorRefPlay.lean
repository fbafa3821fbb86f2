/- The walk of the document's answer to chapter 1 (larderwickref1.Play): what it answers is 'play'. -/
import Derived.Test.YtmajfhcpajdhmaaDoorRun
import Derived.Test.YtmajfhcpajdhmaaDoorRef2
namespace Go.Proofs.YtmajfhcpajdhmaaDoor
open Go.RowKit Go.Sort

theorem ret_tuple3 {a b : Value} {c d : Value} {x y : Value} (h1 : a = b) (h2 : c = d) (h3 : x = y) : Ending.returned (.tuple #[a, c, x]) = .returned (.tuple #[b, d, y]) := by rw [h1, h2, h3]

set_option maxHeartbeats 2000000 in
theorem refplay_any (v vo : Value) (l out : List Int) (s : Nat) (w : World) (hv : IsInts w v l) (ho : IsInts w vo out) (hform : ∃ ao cap, v = .slice ao l.length cap) (hl40 : l.length ≤ 40) (hs1 : 1 ≤ s) (hs8 : s ≤ 8) :
    Calls Tryd.prog 7 #[v, .int .i64 s, vo] w fun e w' => ∃ vh, e = .returned (.tuple #[.int .i64 (play s l out [] 0).1, vh, .int .i64 (play s l out [] 0).2.2]) ∧ OwnI w' w.heap.size vh ((play s l out [] 0).2.1.mergeSort le) ∧ Below w.heap.size w w' := by
  obtain ⟨ao0, cap, rfl⟩ := hform
  have HV : Hid (IsInts w (.slice ao0 l.length cap) l) := hv
  clear hv
  obtain ⟨i0, hi, hz0, hz1, hz2⟩ := info_parts info_int
  have HI : Hid (Tryd.prog.info? 3 = some i0 ∧ i0.zero = some (.int .i64 0) ∧ i0.size = 1 ∧ i0.bytes = 8) := ⟨hi, hz0, hz1, hz2⟩
  clear hi hz0 hz1 hz2
  go_enter Tryd.func7, Tryd.ntmps7
  go_wp2
  go_loopw [2, 9, 10, 11] (fun vo vh m i wr => RunRel w s l out vo m vh i wr) (fun _ _ _ i _ => l.length - (intOf i).toNat)
  case atStart => exact rel_start ho
  case round =>
    obtain ⟨k, n, outk, held, hk, rfl, rfl, hvo, hown, hbel, hnk, hhs, hplay⟩ := hrel
    obtain ⟨ao, hcp, rfl⟩ := hown.form
    have HP : Hid (play s l out [] 0 = play s (l.drop k) outk held n) := hplay
    have HO : Hid (OwnI wr w.heap.size (.slice ao held.length hcp) held) := hown
    clear hplay hown ho
    by_cases hlt : k < l.length
    · have HVF := HV.out
      rcases HVF with ⟨h0, _⟩ | ⟨b, off, cap', hveq, hpos, hlc, hcap, hc⟩
      · subst h0; simp at hlt
      have hao : ao0 = some ⟨b, off, none⟩ := by simpa using (congrArg (fun v => match v with | Value.slice a _ _ => a | _ => none) hveq)
      have hcc : cap = cap' := by simpa using (congrArg (fun v => match v with | Value.slice _ _ c => c | _ => 0) hveq)
      subst hao hcc
      have hbB : b < w.heap.size := World.block_lt_of_cell? w _ (hc 0 hpos)
      have hck : wr.cell? ⟨b, off + k, none⟩ = some (.int .i64 (l[k]?.getD 0)) := (hbel.cell (by exact hbB)).trans (hc k hlt)
      clear hc hveq
      unfold maxLen at hcap
      cases hcn : held.contains (l[k]?.getD 0)
      · have HN : Hid (held.contains (l[k]?.getD 0) = false) := hcn
        clear hcn
        have HCK : Hid (∀ w2, Below w.heap.size w w2 → w2.cell? ⟨b, off + k, none⟩ = some (.int .i64 (l[k]?.getD 0))) := by
          intro w2 h2
          have h3 := hbel.cell (p := ⟨b, off + k, none⟩) hbB
          rw [h2.cell (p := ⟨b, off + k, none⟩) hbB, ← h3]; exact hck
        generalize hp : l[k]?.getD 0 = p at *
        have HPK : Hid (l[k]?.getD 0 = p) := hp
        clear hp
        by_cases hroom : held.length = s
        · have hr2 : ((held.length : Int) == (s : Int)) = true := by rw [beq_iff_eq]; omega
          have HR : Hid (held.length = s) := hroom
          have hh8 : held.length ≤ 8 := by omega
          clear hroom
          cases outk with
          | nil =>
            have HF : Hid (play s l out [] 0 = (0, [], 3)) := by
              unfold Hid; rw [HP.out]; exact play_shape hlt (by rw [HPK.out]; exact HN.out) HR.out
            rcases hvo with ⟨_, aov, cov, rfl, hcov⟩ | ⟨_, _, _, _, h0, _⟩
            · go_wp2_with (go_at_call 13; go_must (refine (has_any _ held p _ HO.out.isInts).mono ?_; rintro e w' ⟨rfl, hw⟩; have hw := hw.symm; subst hw; rw [HN.out]))
              go_ret3
              rw [HF.out]
              exact ⟨_, rfl, by simpa using OwnI.nil _ _, hbel⟩
            · simp at h0
          | cons o r =>
            rcases hvo with ⟨h0, _⟩ | ⟨bo, oo, co, rfl, hop, holc, hocap, hoc⟩
            · simp at h0
            have hboB : bo < w.heap.size := World.block_lt_of_cell? w _ (hoc 0 hop)
            have hoo : w.cell? ⟨bo, oo, none⟩ = some (.int .i64 o) := hoc 0 hop
            have hcO : wr.cell? ⟨bo, oo, none⟩ = some (.int .i64 o) := (hbel.cell (by exact hboB)).trans hoo
            have HOC : Hid (∀ j, j < (o :: r).length → w.cell? ⟨bo, oo + j, none⟩ = some (.int .i64 ((o :: r)[j]?.getD 0))) := hoc
            clear hoc hoo
            simp only [List.length_cons] at hop holc
            unfold maxLen at hocap
            by_cases hoh : o ∈ held
            · have HF : Hid (play s l out [] 0 = play s (l.drop (k+1)) r (held.erase o ++ [p]) (n+1)) := by
                unfold Hid; rw [HP.out, play_let hlt (by rw [HPK.out]; exact HN.out) HR.out hoh, HPK.out]
              have HOC2 : Hid (held.contains o = true) := by unfold Hid; simpa using hoh
              have HEL : Hid ((held.erase o).length = held.length - 1) := List.length_erase_of_mem hoh
              have hhp : 0 < held.length := List.length_pos_of_mem hoh
              clear hoh
              go_wp2_with (first | (go_at_call_of 13 (Value.int IntKind.i64 p); go_must (refine (has_any _ held p _ HO.out.isInts).mono ?_; rintro e w' ⟨rfl, hw⟩; have hw := hw.symm; subst hw; rw [HN.out])) | (go_at_call 13; go_must (refine (has_any _ held o _ HO.out.isInts).mono ?_; rintro e w' ⟨rfl, hw⟩; have hw := hw.symm; subst hw; rw [HOC2.out])) | (go_at_call 14; fail))
              refine (without_any _ held o _ HO.out.isInts (by omega)).mono ?_
              rintro e w1 ⟨v1, rfl, hO1', hb1'⟩
              have hb1 : Below w.heap.size w w1 := hbel.trans (hb1'.mono hbel.size)
              have HO1 : Hid (OwnI w1 w.heap.size v1 (held.erase o)) := ownI_mono hO1' hbel.size
              clear hb1' hO1'
              obtain ⟨ao1, cap1, hv1⟩ := ownI_form HO1.out
              rw [HEL.out] at hv1
              subst hv1
              have hck1 := HCK.out w1 hb1
              by_cases hco : co = 1
              · have hr0 : r = [] := List.eq_nil_of_length_eq_zero (by omega)
                subst hco hr0
                go_wp2_with (at_builtin; go_must (refine wpList_append_own _ rfl _ _ 22 rfl w.heap.size 3 i0 (.int .i64 0) 1 8 Tryd.underlying22 HI.out.1 HI.out.2.1 HI.out.2.2.1 HI.out.2.2.2 rfl (by decide) _ (held.length - 1) ((held.erase o).map (Value.int .i64)) rfl (World.ownsRow.alloc (HO1.out.rows HEL.out rfl) _) ⟨w1.heap.size, 0, none⟩ 1 1 [.int .i64 p] rfl rfl (new_one _ _ _) (one_cell _) (by unfold maxLen; omega) (by omega) (Nat.le_trans hb1.size (by simp)) ?_; intro v' w3 hown' hgrow _; have R := own_append2 HO1.out HEL.out hb1 (Nat.le_refl _) hown' hgrow; clear hown' hgrow))
                go_roundw
                case rel => exact ⟨k + 1, n + 1, [], held.erase o ++ [p], by omega, by go_num, by go_num, isInts_tail HOC.out (by simp) (by simp) (by simp), R.1, R.2, by omega, by simp [HEL.out]; omega, HF.out⟩
                case measure => simp [intOf]; omega
              · have hco2 : (co == 1) = false := by rw [beq_eq_false_iff_ne]; exact hco
                go_wp2_with (at_builtin; go_must (refine wpList_append_own _ rfl _ _ 22 rfl w.heap.size 3 i0 (.int .i64 0) 1 8 Tryd.underlying22 HI.out.1 HI.out.2.1 HI.out.2.2.1 HI.out.2.2.2 rfl (by decide) _ (held.length - 1) ((held.erase o).map (Value.int .i64)) rfl (World.ownsRow.alloc (HO1.out.rows HEL.out rfl) _) ⟨w1.heap.size, 0, none⟩ 1 1 [.int .i64 p] rfl rfl (new_one _ _ _) (one_cell _) (by unfold maxLen; omega) (by omega) (Nat.le_trans hb1.size (by simp)) ?_; intro v' w3 hown' hgrow _; have R := own_append2 HO1.out HEL.out hb1 (Nat.le_refl _) hown' hgrow; clear hown' hgrow))
                go_roundw
                case rel => exact ⟨k + 1, n + 1, r, held.erase o ++ [p], by omega, by go_num, by go_num, isInts_tail HOC.out (fun _ => rfl) (by omega) (by unfold maxLen; omega), R.1, R.2, by omega, by simp [HEL.out]; omega, HF.out⟩
                case measure => simp [intOf]; omega
            · have HF : Hid (play s l out [] 0 = (0, [], 5)) := by
                unfold Hid; rw [HP.out]; exact play_none hlt (by rw [HPK.out]; exact HN.out) HR.out hoh
              have HOC2 : Hid (held.contains o = false) := by unfold Hid; simpa using hoh
              clear hoh
              go_wp2_with (first | (go_at_call_of 13 (Value.int IntKind.i64 p); go_must (refine (has_any _ held p _ HO.out.isInts).mono ?_; rintro e w' ⟨rfl, hw⟩; have hw := hw.symm; subst hw; rw [HN.out])) | (go_at_call 13; go_must (refine (has_any _ held o _ HO.out.isInts).mono ?_; rintro e w' ⟨rfl, hw⟩; have hw := hw.symm; subst hw; rw [HOC2.out])))
              go_ret3
              rw [HF.out]
              exact ⟨_, rfl, by simpa using OwnI.nil _ _, hbel⟩
        · have hr2 : ((held.length : Int) == (s : Int)) = false := by rw [beq_eq_false_iff_ne]; omega
          go_wp2_with (first | (go_at_call 13; go_must (refine (has_any _ held p _ HO.out.isInts).mono ?_; rintro e w' ⟨rfl, hw⟩; have hw := hw.symm; subst hw; rw [HN.out])) | (at_builtin; go_must (refine wpList_append_own _ rfl _ _ 22 rfl w.heap.size 3 i0 (.int .i64 0) 1 8 Tryd.underlying22 HI.out.1 HI.out.2.1 HI.out.2.2.1 HI.out.2.2.2 rfl (by decide) _ held.length (held.map (Value.int .i64)) rfl (World.ownsRow.alloc HO.out _) ⟨wr.heap.size, 0, none⟩ 1 1 [.int .i64 p] rfl rfl (new_one _ _ _) (one_cell _) (by unfold maxLen; omega) (by omega) (by have := hbel.size; simp; omega) ?_; intro v' w1 hown' hgrow _; have R := own_append HO.out hbel (Nat.le_refl _) hown' hgrow; clear hown' hgrow)))
          go_roundw
          case rel => exact ⟨k + 1, n + 1, outk, held ++ [p], by omega, by go_num, by go_num, hvo, R.1, R.2, by omega, by simp; omega, by rw [HP.out, play_room hlt (by rw [HPK.out]; exact HN.out) hroom, HPK.out]⟩
          case measure => simp [intOf]; omega
      · have HN : Hid (held.contains (l[k]?.getD 0) = true) := hcn
        clear hcn
        generalize hp : l[k]?.getD 0 = p at *
        have HPK : Hid (l[k]?.getD 0 = p) := hp
        clear hp
        go_wp2_with (go_at_call 13; go_must (refine (has_any _ held p _ HO.out.isInts).mono ?_; rintro e w' ⟨rfl, hw⟩; have hw := hw.symm; subst hw; rw [HN.out]))
        go_roundw
        case rel => exact ⟨k + 1, n, outk, held, by omega, by go_num, rfl, hvo, HO.out, hbel, by omega, hhs, by rw [HP.out]; exact play_hit hlt (by rw [HPK.out]; exact HN.out)⟩
        case measure => simp [intOf]; omega
    · have HF : Hid (play s l out [] 0 = (n, held, 0)) := by
        unfold Hid; rw [HP.out, List.drop_of_length_le (by omega), play]
      go_wp2_with (go_at_call 15; go_must (refine (rising_any _ held _ HO.out.isInts ⟨_, _, rfl⟩ (by omega)).mono ?_; rintro e w2 ⟨v2, rfl, hs, hb2⟩))
      go_ret3
      rw [HF.out]
      exact ⟨_, rfl, ownI_mono hs hbel.size, hbel.trans (hb2.mono hbel.size)⟩
end Go.Proofs.YtmajfhcpajdhmaaDoor
