/- The walk of play.Run: what it answers is 'play'. -/
import Derived.Test.YtkhjpelghlchnabLetgo
import Derived.Test.YtkhjpelghlchnabCheck
import Derived.Test.YtkhjpelghlchnabContains
import Derived.Test.YtkhjpelghlchnabBools
import Derived.Test.YtkhjpelghlchnabShelfSort
import Derived.Test.YtkhjpelghlchnabPlayL
import Derived.Deep.QuietTactic
import Derived.BigQuiet
namespace Go.Proofs.Ytkhjpelghlchnab
open Go.RowKit Go.Sort

theorem sort_any (base : Nat) (v : Value) (l : List Int) (w : World) (hown : OwnI w base v l) (hl : l.length ≤ 40) :
    Calls Try.prog 17 #[v] w fun e w' => e = .returned (.tuple #[]) ∧ OwnI w' base v (l.mergeSort le) ∧ w.grownBy w' v.ownBlock := by
  by_cases h0 : l = []
  · subst h0
    obtain ⟨ao, cap, rfl⟩ := hown.form
    refine (Try.slices_Sort_int_none ao cap w).mono ?_
    rintro e w' ⟨rfl, hw⟩
    subst hw
    exact ⟨rfl, by simpa using hown, World.grownBy.refl _ _⟩
  · obtain ⟨g, cap, cur, rfl, hb, hgs, hg, hn, hm, hs, ht⟩ := hown.block h0
    refine (Try.slices_Sort_int g 0 cap l w (own_holds hown rfl) hgs (by omega)).mono ?_
    rintro e w' ⟨rfl, q, os, hw⟩
    have hlen : (l.mergeSort le).length = l.length := List.length_mergeSort _
    have R := own_put (q := q) (os := os) (m := l.length) hown hlen (by omega)
    rw [List.take_of_length_le (by omega)] at R
    subst hw
    exact ⟨rfl, R.1, R.2⟩

theorem isInts_tail {w : World} {bo oo : Nat} {o : Int} {r : List Int} {ao : Option Addr} {c : Nat} (h : ∀ j, j < (o :: r).length → w.cell? ⟨bo, oo + j, none⟩ = some (.int .i64 ((o :: r)[j]?.getD 0))) (hr : r ≠ [] → ao = some ⟨bo, oo + 1, none⟩) (hc : r.length ≤ c) (hm : c ≤ maxLen) : IsInts w (.slice ao r.length c) r := by
  by_cases h0 : r = []
  · subst h0; exact .inl ⟨rfl, ao, c, rfl, hm⟩
  · refine .inr ⟨bo, oo + 1, c, by rw [hr h0], List.length_pos_iff.2 h0, hc, hm, fun j hj => ?_⟩
    have := h (j + 1) (by simpa using hj)
    rw [List.getElem?_cons_succ] at this
    rwa [show oo + 1 + j = oo + (j + 1) by omega]

/-- Run's relation. -/
def RunRel (w : World) (s : Nat) (l out : List Int) (vo m vh i : Value) (wr : World) : Prop :=
  ∃ (k n : Nat) (outk held : List Int), k ≤ l.length ∧ i = .int .i64 k ∧ m = .int .i64 n ∧ IsInts w vo outk ∧ OwnI wr w.heap.size vh held ∧ Below w.heap.size w wr ∧ n ≤ k ∧ held.length ≤ s ∧ play s l out [] 0 = play s (l.drop k) outk held n

theorem rel_start {w : World} {s : Nat} {l out : List Int} {vo : Value} (ho : IsInts w vo out) : RunRel w s l out vo (.int .i64 0) (.slice none 0 0) (.int .i64 0) w :=
  ⟨0, 0, out, [], Nat.zero_le _, rfl, rfl, ho, OwnI.nil _ _, Below.refl _ _, Nat.le_refl _, Nat.zero_le _, rfl⟩

set_option maxHeartbeats 1000000 in
theorem run_ok (v vo : Value) (l out : List Int) (s : Nat) (w : World) (hv : IsInts w v l) (ho : IsInts w vo out) (hc0 : chk l s = 0) (hl40 : l.length ≤ 40) (hs1 : 1 ≤ s) (hs8 : s ≤ 8) (hpos : 0 < l.length) :
    Calls Try.prog 6 #[v, .int .i64 s, vo] w fun e w' => ∃ vh, e = .returned (.tuple #[.int .i64 (play s l out [] 0).1, vh, errV (play s l out [] 0).2.2]) ∧ OwnI w' w.heap.size vh ((play s l out [] 0).2.1.mergeSort le) ∧ Below w.heap.size w w' := by
  have HV : Hid (IsInts w v l) := hv
  rcases hv with ⟨rfl, _⟩ | ⟨b, off, cap, rfl, _, hlc, hcap, hc⟩
  · simp at hpos
  have HC : Hid (∀ j, j < l.length → w.cell? ⟨b, off + j, none⟩ = some (.int .i64 (l[j]?.getD 0))) := hc
  have HCK : Hid (chk l s = 0) := hc0
  have hbB : b < w.heap.size := World.block_lt_of_cell? w _ (hc 0 hpos)
  obtain ⟨i0, hi, hz0, hz1, hz2⟩ := info_parts Try.info3
  have HI : Hid (Try.prog.info? 3 = some i0 ∧ i0.zero = some (.int .i64 0) ∧ i0.size = 1 ∧ i0.bytes = 8) := ⟨hi, hz0, hz1, hz2⟩
  clear hc hc0 hi hz0 hz1 hz2
  unfold maxLen at hcap
  go_enter Try.func6, Try.ntmps6
  go_wp2_with (go_at_call 9; go_must (refine (check_any _ l s _ HV.out).mono ?_; rintro e w' ⟨rfl, hw⟩; have hw := hw.symm; subst hw; rw [HCK.out]; simp only [errV, if_true]))
  go_loopw [2, 10, 11, 24] (fun vo m vh i wr => RunRel w s l out vo m vh i wr) (fun _ _ _ i _ => l.length - (intOf i).toNat)
  case atStart => exact rel_start ho
  case round =>
    obtain ⟨k, n, outk, held, hk, rfl, rfl, hvo, hown, hbel, hnk, hhs, hplay⟩ := hrel
    obtain ⟨ao, hcp, rfl⟩ := hown.form
    have HP : Hid (play s l out [] 0 = play s (l.drop k) outk held n) := hplay
    have HO : Hid (OwnI wr w.heap.size (.slice ao held.length hcp) held) := hown
    clear hplay hown
    by_cases hlt : k < l.length
    · have hck : wr.cell? ⟨b, off + k, none⟩ = some (.int .i64 (l[k]?.getD 0)) := (hbel.cell (by exact hbB)).trans (HC.out k hlt)
      cases hcn : held.contains (l[k]?.getD 0)
      · have HN : Hid (held.contains (l[k]?.getD 0) = false) := hcn
        clear hcn
        generalize hp : l[k]?.getD 0 = p at *
        have HPK : Hid (l[k]?.getD 0 = p) := hp
        clear hp
        by_cases hroom : held.length = s
        · have hr2 : ((held.length : Int) == (s : Int)) = true := by rw [beq_iff_eq]; omega
          have hne : held ≠ [] := by intro h; subst h; simp at hroom; omega
          obtain ⟨g, hcp', cur, hveq, hgb, hgs, hgg, hgn, hgm, hgsz, hgt⟩ := HO.out.block hne
          have hao : ao = some ⟨g, 0, none⟩ := by simpa using (congrArg (fun v => match v with | Value.slice a _ _ => a | _ => none) hveq)
          subst hao
          have HNE : Hid (held ≠ []) := hne
          have HVO : Hid (IsInts wr u2 outk) := hvo.below hbel
          have HR : Hid (held.length = s) := hroom
          clear hgg hgt cur hgsz hveq hgm hgn hne hroom
          cases outk with
          | nil =>
            have HF : Hid (play s l out [] 0 = (0, [], 3)) := by
              unfold Hid; rw [HP.out]; exact play_shape hlt (by rw [HPK.out]; exact HN.out) HR.out
            go_wp2_with (first | (go_at_call 10; go_must (refine (contains_any _ held p _ HO.out.isInts).mono ?_; rintro e w' ⟨rfl, hw⟩; have hw := hw.symm; subst hw; rw [HN.out])) | (go_at_call 16; go_must (refine (letgo_shape _ _ _ HVO.out).mono ?_; rintro e w' ⟨rfl, hw⟩; have hw := hw.symm; subst hw; simp only [errV])))
            go_ret3
            rw [HF.out]
            exact ⟨_, rfl, by simpa using OwnI.nil _ _, hbel⟩
          | cons o r =>
            by_cases hoh : o ∈ held
            · have HF : Hid (play s l out [] 0 = play s (l.drop (k+1)) r (held.erase o ++ [p]) (n+1)) := by
                unfold Hid; rw [HP.out, play_let hlt (by rw [HPK.out]; exact HN.out) HR.out hoh, HPK.out]
              have HOH : Hid (o ∈ held) := hoh
              clear hoh
              rcases hvo with ⟨h0, _⟩ | ⟨bo, oo, co, rfl, hop, holc, hocap, hoc⟩
              · simp at h0
              have HOC : Hid (∀ j, j < (o :: r).length → w.cell? ⟨bo, oo + j, none⟩ = some (.int .i64 ((o :: r)[j]?.getD 0))) := hoc
              clear hoc
              simp only [List.length_cons] at hop holc
              unfold maxLen at hocap
              go_wp2_with (first | (go_at_call 10; go_must (refine (contains_any _ held p _ HO.out.isInts).mono ?_; rintro e w' ⟨rfl, hw⟩; have hw := hw.symm; subst hw; rw [HN.out])) | (go_at_call 16; go_must (refine (letgo_hit w.heap.size g hcp _ held r o _ HVO.out HO.out HOH.out).mono ?_; rintro e w1 ⟨rfl, hO1, hG1⟩; have HO1 := hO1; clear hO1)))
              go_quiet (fail)
              have hel : (held.erase o).length = held.length - 1 := List.length_erase_of_mem HOH.out
              have HL : Hid ((held.erase o).length = held.length - 1) := hel
              clear hel
              have hb1 : Below w.heap.size w (w1.drewN nq) := below_drewN (hbel.grown hG1 (by have := hbel.size; omega) (by intro k hk; cases hk; exact hgb)) nq
              clear hG1
              have HO2 : Hid (OwnI (w1.drewN nq) w.heap.size (.slice (some ⟨g, 0, none⟩) (held.length - 1) hcp) (held.erase o)) := HO1.drewN nq
              clear HO1
              by_cases hco : co = 1
              · have hr0 : r = [] := List.eq_nil_of_length_eq_zero (by omega)
                subst hco hr0
                go_wp2_with (at_builtin; go_must (refine wpList_append_own _ rfl _ _ 22 rfl w.heap.size 3 i0 (.int .i64 0) 1 8 Try.underlying22 HI.out.1 HI.out.2.1 HI.out.2.2.1 HI.out.2.2.2 rfl (by decide) _ (held.length - 1) ((held.erase o).map (Value.int .i64)) rfl (World.ownsRow.alloc (HO2.out.rows HL.out rfl) _) ⟨w1.heap.size, 0, none⟩ 1 1 [.int .i64 p] rfl rfl (by exact new_one _ _ _) (one_cell _) (by unfold maxLen; omega) (by omega) (Nat.le_trans hb1.size (by simp)) ?_; intro v' w3 hown' hgrow _; have R := own_append2 HO2.out HL.out hb1 (Nat.le_refl _) hown' hgrow; clear hown' hgrow))
                go_roundw
                case rel => exact ⟨k + 1, n + 1, [], held.erase o ++ [p], by omega, by go_num, by go_num, isInts_tail HOC.out (by simp) (by simp) (by simp), R.1, R.2, by omega, by simp [HL.out]; omega, HF.out⟩
                case measure => simp [intOf]; omega
              · have hco2 : (co == 1) = false := by rw [beq_eq_false_iff_ne]; exact hco
                go_wp2_with (at_builtin; go_must (refine wpList_append_own _ rfl _ _ 22 rfl w.heap.size 3 i0 (.int .i64 0) 1 8 Try.underlying22 HI.out.1 HI.out.2.1 HI.out.2.2.1 HI.out.2.2.2 rfl (by decide) _ (held.length - 1) ((held.erase o).map (Value.int .i64)) rfl (World.ownsRow.alloc (HO2.out.rows HL.out rfl) _) ⟨w1.heap.size, 0, none⟩ 1 1 [.int .i64 p] rfl rfl (by exact new_one _ _ _) (one_cell _) (by unfold maxLen; omega) (by omega) (Nat.le_trans hb1.size (by simp)) ?_; intro v' w3 hown' hgrow _; have R := own_append2 HO2.out HL.out hb1 (Nat.le_refl _) hown' hgrow; clear hown' hgrow))
                go_roundw
                case rel => exact ⟨k + 1, n + 1, r, held.erase o ++ [p], by omega, by go_num, by go_num, isInts_tail HOC.out (fun _ => rfl) (by omega) (by unfold maxLen; omega), R.1, R.2, by omega, by simp [HL.out]; omega, HF.out⟩
                case measure => simp [intOf]; omega
            · have HF : Hid (play s l out [] 0 = (0, [], 5)) := by
                unfold Hid; rw [HP.out]; exact play_none hlt (by rw [HPK.out]; exact HN.out) HR.out hoh
              have HOH : Hid (o ∉ held) := hoh
              clear hoh
              go_wp2_with (first | (go_at_call 10; go_must (refine (contains_any _ held p _ HO.out.isInts).mono ?_; rintro e w' ⟨rfl, hw⟩; have hw := hw.symm; subst hw; rw [HN.out])) | (go_at_call 16; go_must (refine (letgo_none g hcp _ held r o _ HVO.out HO.out.isInts HNE.out HOH.out).mono ?_; rintro e w' ⟨rfl, hw⟩; have hw := hw.symm; subst hw; simp only [errV])))
              go_ret3
              rw [HF.out]
              exact ⟨_, rfl, by simpa using OwnI.nil _ _, hbel⟩
        · have hr2 : ((held.length : Int) == (s : Int)) = false := by rw [beq_eq_false_iff_ne]; omega
          go_wp2_with (first | (go_at_call 10; go_must (refine (contains_any _ held p _ HO.out.isInts).mono ?_; rintro e w' ⟨rfl, hw⟩; have hw := hw.symm; subst hw; rw [HN.out])) | (at_builtin; go_must (refine wpList_append_own _ rfl _ _ 22 rfl w.heap.size 3 i0 (.int .i64 0) 1 8 Try.underlying22 HI.out.1 HI.out.2.1 HI.out.2.2.1 HI.out.2.2.2 rfl (by decide) _ held.length (held.map (Value.int .i64)) rfl (World.ownsRow.alloc HO.out _) ⟨wr.heap.size, 0, none⟩ 1 1 [.int .i64 p] rfl rfl (new_one _ _ _) (one_cell _) (by unfold maxLen; omega) (by omega) (by have := hbel.size; simp; omega) ?_; intro v' w1 hown' hgrow _; have R := own_append HO.out hbel (Nat.le_refl _) hown' hgrow; clear hown' hgrow)))
          go_roundw
          case rel => exact ⟨k + 1, n + 1, outk, held ++ [p], by omega, by go_num, by go_num, hvo, R.1, R.2, by omega, by simp; omega, by rw [HP.out, play_room hlt (by rw [HPK.out]; exact HN.out) hroom, HPK.out]⟩
          case measure => simp [intOf]; omega
      · have HN : Hid (held.contains (l[k]?.getD 0) = true) := hcn
        clear hcn
        generalize hp : l[k]?.getD 0 = p at *
        have HPK : Hid (l[k]?.getD 0 = p) := hp
        clear hp
        go_wp2_with (go_at_call 10; go_must (refine (contains_any _ held p _ HO.out.isInts).mono ?_; rintro e w' ⟨rfl, hw⟩; have hw := hw.symm; subst hw; rw [HN.out]))
        go_roundw
        case rel => exact ⟨k + 1, n, outk, held, by omega, by go_num, rfl, hvo, HO.out, hbel, by omega, hhs, by rw [HP.out]; exact play_hit hlt (by rw [HPK.out]; exact HN.out)⟩
        case measure => simp [intOf]; omega
    · have HF : Hid (play s l out [] 0 = (n, held, 0)) := by
        unfold Hid; rw [HP.out, List.drop_of_length_le (by omega), play]
      go_wp2_with (go_at_call 17; go_must (refine (sort_any w.heap.size _ held _ HO.out (by omega)).mono ?_; rintro e w2 ⟨rfl, hs, hg⟩))
      go_ret3
      rw [HF.out]
      exact ⟨_, rfl, hs, hbel.grown hg (by have := hbel.size; omega) fun k hk => (World.ownsRow.lt HO.out k hk).1⟩
end Go.Proofs.Ytkhjpelghlchnab
