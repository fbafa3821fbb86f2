/- The walk of the document's answer: Opt. -/
import Derived.Test.YtkhjpelghlchnaaDoorRefAhead
import Derived.Test.YtkhjpelghlchnaaDoorHasEq
import Derived.Test.YtkhjpelghlchnaaDoorRef2
import Derived.Test.YtkhjpelghlchnaaDoorOptRunL
import Derived.Deep.QuietTactic
import Derived.BigQuiet
namespace Go.Proofs.YtkhjpelghlchnaaDoor
open Go.RowKit Go.Sort

theorem Tri.drewN {w0 w : World} {vb vp va : Value} {lb : List Bool} {lp la : List Int} (h : Tri w0 w vb vp va lb lp la) (n : Nat) : Tri w0 (w.drewN n) vb vp va lb lp la :=
  ⟨h.b, h.p, h.a, h.ne, below_drewN h.below n⟩
theorem ahead_eq {v : Value} {l : List Int} {k t : Nat} {p : Int} {w : World} (hv : IsInts w v l) (hk : k < l.length) (hl : l.length ≤ 40) (ht : ahead l k p = t) :
    Calls Tryd.prog 13 #[v, .int .i64 k, .int .i64 p] w fun e w' => e = .returned (.int .i64 t) ∧ w' = w := by
  subst ht; exact ahead_any v l k p w hv hk hl

/-- The loop's relation: the rows behind k requests. -/
def RefOptRel (w : World) (s : Nat) (l : List Int) (vb vh vo i : Value) (wr : World) : Prop :=
  ∃ k : Nat, k ≤ l.length ∧ i = .int .i64 k ∧ Tri w wr vb vo vh (marks (ohit s l) k) (ost s l k).2 (ost s l k).1

set_option maxHeartbeats 2000000 in
theorem refopt_any (v : Value) (l : List Int) (s : Nat) (w : World) (hv : IsInts w v l) (hform : ∃ ao cap, v = .slice ao l.length cap) (hl40 : l.length ≤ 40) (hs1 : 1 ≤ s) (hs8 : s ≤ 8) (hp : inPages l) :
    Calls Tryd.prog 5 #[v, .int .i64 s] w fun e w' => ∃ vb vo vh, e = .returned (.tuple #[vb, vo, vh]) ∧ IsBools w' vb (marks (ohit s l) l.length) ∧ IsInts w' vo (ost s l l.length).2 ∧ IsInts w' vh (srt (ost s l l.length).1) ∧ Below w.heap.size w w' := by
  have HV : Hid (IsInts w v l) := hv
  have HPG : Hid (inPages l) := hp
  obtain ⟨av, cv, rfl⟩ := hform
  clear hv hp
  obtain ⟨i1, hi, hz0, hz1, hz2⟩ := info_parts Tryd.info3
  have HJ : Hid (Tryd.prog.info? 3 = some i1 ∧ i1.zero = some (.int .i64 0) ∧ i1.size = 1 ∧ i1.bytes = 8) := ⟨hi, hz0, hz1, hz2⟩
  clear hi hz0 hz1 hz2
  obtain ⟨i0, hi, hz0, hz1, hz2⟩ := info_parts Tryd.infoB
  have HI : Hid (Tryd.prog.info? 4 = some i0 ∧ i0.zero = some (.bool false) ∧ i0.size = 1 ∧ i0.bytes = 1) := ⟨hi, hz0, hz1, hz2⟩
  clear hi hz0 hz1 hz2
  go_enter Tryd.func5, Tryd.ntmps5
  go_wp2
  go_loopw [7, 8, 9, 10, 11, 12, 13] (fun vb vh vo i _ _ _ wr => RefOptRel w s l vb vh vo i wr) (fun _ _ _ i _ _ _ _ => l.length - (intOf i).toNat)
  case atStart => exact ⟨0, Nat.zero_le _, rfl, by simpa [marks, ost] using Tri.start w⟩
  case round =>
    obtain ⟨k, hk, rfl, hT⟩ := hrel
    by_cases hlt : k < l.length
    · rcases HV.out with ⟨h, _⟩ | ⟨b, off, cap, hv, hp0, hlc, hcap, hc⟩
      · subst h; simp at hlt
      simp only [Value.slice.injEq] at hv
      obtain ⟨rfl, _, rfl⟩ := hv
      have hbB : b < w.heap.size := World.block_lt_of_cell? w _ (hc 0 hp0)
      have HCK : Hid (w.cell? ⟨b, off + k, none⟩ = some (.int .i64 (l[k]?.getD 0))) := hc k hlt
      have hck : wr.cell? ⟨b, off + k, none⟩ = some (.int .i64 (l[k]?.getD 0)) := (hT.below.cell (by exact hbB)).trans HCK.out
      unfold maxLen at hcap
      clear hc
      obtain ⟨ab, bcp, hvb⟩ := hT.b.form
      obtain ⟨ao, ocp, hvo⟩ := hT.p.form
      obtain ⟨ah, hcp, hvh⟩ := hT.a.form
      rw [marks_length] at hvb
      generalize hno : (ost s l k).2.length = no at *
      generalize hnh : (ost s l k).1.length = nh at *
      subst hvb hvo hvh
      have HNO : Hid ((ost s l k).2.length = no) := hno
      have HNH : Hid ((ost s l k).1.length = nh) := hnh
      have HT : Hid (Tri w wr (.slice ab k bcp) (.slice ao no ocp) (.slice ah nh hcp) (marks (ohit s l) k) (ost s l k).2 (ost s l k).1) := hT
      clear hno hnh hT
      have HML : Hid ((marks (ohit s l) k).length = k) := marks_length _ k
      have hnh8 : nh ≤ s := by rw [← HNH.out]; exact (sched_opt hs1 HPG.out).le k (by omega)
      have hno40 : no ≤ 40 := by have := ost_count hs1 HPG.out k (by omega); rw [HNO.out] at this; omega
      cases hh : ohit s l k
      · have HM : Hid (marks (ohit s l) (k+1) = marks (ohit s l) k ++ [false]) := by unfold Hid; rw [marks_succ, hh]
        have HAT : Hid ((ost s l k).1.contains (l[k]?.getD 0) = false) := hh
        by_cases hf : nh = s
        · have hfs : ((nh : Int) == (s : Int)) = true := by rw [hf]; simp
          have HS := ost_full hh (by rw [HNH.out]; exact hf)
          have HF : Hid ((ost s l (k+1)).1 = (ost s l k).1.erase (pick l k (ost s l k).1) ++ [l[k]?.getD 0]) := by unfold Hid; rw [HS]
          have HG : Hid ((ost s l (k+1)).2 = (ost s l k).2 ++ [pick l k (ost s l k).1]) := by unfold Hid; rw [HS]
          have HEL : Hid (((ost s l k).1.erase (pick l k (ost s l k).1)).length = nh - 1) := by
            unfold Hid; rw [List.length_erase_of_mem (ost_pick hs1 HPG.out (by omega) (by rw [HNH.out]; exact hf)).1, HNH.out]
          clear hh hf HS
          generalize (ost s l k).1 = held at *
          generalize (ost s l k).2 = go at *
          generalize marks (ohit s l) k = mk at *
          generalize l[k]?.getD 0 = p at *
          go_wp2_with (first | (go_at_call 12; go_must (refine (has_eq HT.out.a.isInts HAT.out).mono ?_; rintro e w' ⟨rfl, hw⟩; have hw := hw.symm; subst hw)) | (at_builtin; go_must (refine wpList_append_own _ rfl _ _ 24 rfl w.heap.size 4 i0 (.bool false) 1 1 Tryd.underlying24 HI.out.1 HI.out.2.1 HI.out.2.2.1 HI.out.2.2.2 rfl (by decide) _ k (mk.map Value.bool) rfl (World.ownsRow.alloc (HT.out.b.rows HML.out rfl) _) ⟨wr.heap.size, 0, none⟩ 1 1 [.bool false] rfl rfl (by exact new_one _ _ _) (one_cellB _) (by unfold maxLen; omega) (by omega) (by have := HT.out.below.size; simp; omega) ?_; intro vb' w2 hown' hgrow _; have HT2 : Hid (Tri w w2 vb' (.slice ao no ocp) (.slice ah nh hcp) (mk ++ [false]) go held) := HT.out.bools HML.out hown' hgrow; clear hown' hgrow)))
          have HV2 : Hid (IsInts w2 (.slice (some ⟨b, off, none⟩) l.length cv) l) := HV.out.below HT2.out.below
          clear HT hck
          go_loop [12, 13] (fun vbest vp => ∃ m : Nat, m ≤ 16 ∧ vp = .int .i64 m ∧ vbest = .int .i64 (bst l k held m)) (fun _ vp => 16 - (intOf vp).toNat)
          case atStart => exact ⟨0, by omega, rfl, rfl⟩
          case round =>
            obtain ⟨m, hm16, rfl, rfl⟩ := hrel
            have HBF := bst_facts l k held m
            by_cases hm : m < 16
            · have HB1 : Hid (bst l k held (m+1) = if held.contains (m : Int) && (decide (bst l k held m < 0) || decide (ahead l k (bst l k held m) < ahead l k m)) then (m : Int) else bst l k held m) := rfl
              have hbr : -1 ≤ bst l k held m ∧ bst l k held m < 16 := by
                rcases HBF with ⟨h1, _⟩ | ⟨_, h1, h2, _⟩ <;> omega
              clear HBF
              cases hcm : held.contains (m : Int)
              · have HCM : Hid (held.contains (m : Int) = false) := hcm
                have HB2 : Hid (bst l k held (m+1) = bst l k held m) := by unfold Hid; rw [HB1.out, hcm]; rfl
                clear hcm HB1
                generalize bst l k held m = bb at *
                go_wp2_with (go_at_call 12; go_must (refine (has_eq HT2.out.a.isInts HCM.out).mono ?_; rintro e w' ⟨rfl, hw⟩; have hw := hw.symm; subst hw))
                go_round
                case rel => exact ⟨m + 1, by omega, by go_num, by rw [HB2.out]⟩
                case measure => simp [intOf]; omega
              · have HCM : Hid (held.contains (m : Int) = true) := hcm
                by_cases hneg : bst l k held m < 0
                · have HB2 : Hid (bst l k held (m+1) = m) := by unfold Hid; rw [HB1.out, hcm, decide_eq_true hneg]; rfl
                  clear hcm HB1
                  generalize bst l k held m = bb at *
                  go_wp2_with (go_at_call 12; go_must (refine (has_eq HT2.out.a.isInts HCM.out).mono ?_; rintro e w' ⟨rfl, hw⟩; have hw := hw.symm; subst hw))
                  go_round
                  case rel => exact ⟨m + 1, by omega, by go_num, by rw [HB2.out]⟩
                  case measure => simp [intOf]; omega
                · have hdn : decide (bst l k held m < 0) = false := by simpa using hneg
                  have HA1 : Hid (ahead l k m ≤ 40) := by unfold Hid; have := ahead_le (l := l) (k := k) (by omega) m; omega
                  have HA2 : Hid (ahead l k (bst l k held m) ≤ 40) := by unfold Hid; have := ahead_le (l := l) (k := k) (by omega) (bst l k held m); omega
                  generalize hbb : bst l k held m = bb at *
                  generalize ht1 : ahead l k m = t1 at *
                  generalize ht2 : ahead l k bb = t2 at *
                  have HT1 : Hid (ahead l k m = t1) := ht1
                  have HT22 : Hid (ahead l k bb = t2) := ht2
                  have ht140 : t1 ≤ 40 := HA1.out
                  have ht240 : t2 ≤ 40 := HA2.out
                  clear ht1 ht2
                  by_cases hgt : t2 < t1
                  · have HB2 : Hid (bst l k held (m+1) = m) := by unfold Hid; rw [HB1.out, hcm, hdn, decide_eq_true hgt]; rfl
                    have hgi : (t2 : Int) < (t1 : Int) := by omega
                    clear hcm HB1 hbb hdn
                    go_wp2_with (first | (go_at_call 12; go_must (refine (has_eq HT2.out.a.isInts HCM.out).mono ?_; rintro e w' ⟨rfl, hw⟩; have hw := hw.symm; subst hw)) | (go_at_call 13; fail))
                    refine (ahead_eq HV2.out hlt hl40 HT1.out).mono ?_
                    rintro e w' ⟨rfl, hw⟩
                    have hw := hw.symm
                    subst hw
                    go_wp2_with (go_at_call 13; fail)
                    refine (ahead_eq HV2.out hlt hl40 HT22.out).mono ?_
                    rintro e w' ⟨rfl, hw⟩
                    have hw := hw.symm
                    subst hw
                    go_wp2
                    go_round
                    case rel => exact ⟨m + 1, by omega, by go_num, by rw [HB2.out]⟩
                    case measure => simp [intOf]; omega
                  · have HB2 : Hid (bst l k held (m+1) = bb) := by
                      unfold Hid; rw [HB1.out, hcm, hdn, decide_eq_false hgt]; rfl
                    have hgi : ¬ ((t2 : Int) < (t1 : Int)) := by omega
                    clear hcm HB1 hbb hdn
                    go_wp2_with (first | (go_at_call 12; go_must (refine (has_eq HT2.out.a.isInts HCM.out).mono ?_; rintro e w' ⟨rfl, hw⟩; have hw := hw.symm; subst hw)) | (go_at_call 13; fail))
                    refine (ahead_eq HV2.out hlt hl40 HT1.out).mono ?_
                    rintro e w' ⟨rfl, hw⟩
                    have hw := hw.symm
                    subst hw
                    go_wp2_with (go_at_call 13; fail)
                    refine (ahead_eq HV2.out hlt hl40 HT22.out).mono ?_
                    rintro e w' ⟨rfl, hw⟩
                    have hw := hw.symm
                    subst hw
                    go_wp2
                    go_round
                    case rel => exact ⟨m + 1, by omega, by go_num, by rw [HB2.out]⟩
                    case measure => simp [intOf]; omega
            · have hm2 : m = 16 := by omega
              subst hm2
              clear HBF hm hm16
              have HPK : Hid (bst l k held 16 = pick l k held) := rfl
              rw [HPK.out]
              generalize pick l k held = pk at *
              have HT3 : Hid (Tri w w2 vb' (.slice ao no ocp) (.slice ah nh hcp) (mk ++ [false]) go held) := HT2
              clear HPK HT2 HV2
              generalize w2 = w3 at *
              go_wp2_with (first | (go_at_call 14; fail) | (at_builtin; go_must (refine wpList_append_own_at _ rfl _ _ 22 rfl w.heap.size 3 i1 (.int .i64 0) 1 8 Tryd.underlying22 HJ.out.1 HJ.out.2.1 HJ.out.2.2.1 HJ.out.2.2.2 rfl (by decide) _ no (go.map (Value.int .i64)) rfl (World.ownsRow.alloc (HT3.out.p.rows HNO.out rfl) _) ⟨w3.heap.size, 0, none⟩ 1 1 [.int .i64 pk] rfl rfl (by exact new_one _ _ _) (one_cell _) (by unfold maxLen; omega) (by omega) (by have := HT3.out.below.size; simp; omega) ?_; intro vo' w4 hown' hgrow _ hat; have HT4 : Hid (Tri w w4 vb' vo' (.slice ah nh hcp) (mk ++ [false]) (go ++ [pk]) held) := HT3.out.pages HNO.out hown' hgrow hat; clear hown' hgrow hat)))
              refine (without_any _ held pk _ HT4.out.a.isInts (by rw [HNH.out]; omega)).mono ?_
              rintro e w5 ⟨vn, rfl, hO5, hb5⟩
              obtain ⟨an, cn, hvn⟩ := hO5.form
              rw [HEL.out] at hvn
              subst hvn
              have HT5 : Hid (Tri w w5 vb' vo' (.slice an (nh - 1) cn) (mk ++ [false]) (go ++ [pk]) (held.erase pk)) := HT4.out.without hO5 hb5
              have hck5 : w5.cell? ⟨b, off + k, none⟩ = some (.int .i64 p) := (HT5.out.below.cell (p := ⟨b, off + k, none⟩) (by exact hbB)).trans HCK.out
              clear hO5 hb5 HT4 HT3
              generalize held.erase pk = held2 at *
              go_wp2_with (at_builtin; go_must (refine wpList_append_own_at _ rfl _ _ 22 rfl w.heap.size 3 i1 (.int .i64 0) 1 8 Tryd.underlying22 HJ.out.1 HJ.out.2.1 HJ.out.2.2.1 HJ.out.2.2.2 rfl (by decide) _ (nh - 1) (held2.map (Value.int .i64)) rfl (World.ownsRow.alloc (HT5.out.a.rows HEL.out rfl) _) ⟨w5.heap.size, 0, none⟩ 1 1 [.int .i64 p] rfl rfl (by exact new_one _ _ _) (one_cell _) (by unfold maxLen; omega) (by omega) (by have := HT5.out.below.size; simp; omega) ?_; intro vh6 w6 hown' hgrow _ hat; have HT6 : Hid (Tri w w6 vb' vo' vh6 (mk ++ [false]) (go ++ [pk]) (held2 ++ [p])) := HT5.out.asked HEL.out hown' hgrow hat; clear hown' hgrow hat))
              go_roundw
              case rel => exact ⟨k + 1, by omega, by go_num, by rw [HM.out, HG.out, HF.out]; exact HT6.out⟩
              case measure => simp [intOf]; omega
        · have hfs : ((nh : Int) == (s : Int)) = false := by rw [beq_eq_false_iff_ne]; omega
          have HS := ost_room hh (by rw [HNH.out]; exact hf)
          have HF : Hid ((ost s l (k+1)).1 = (ost s l k).1 ++ [l[k]?.getD 0]) := by unfold Hid; rw [HS]
          have HG : Hid ((ost s l (k+1)).2 = (ost s l k).2) := by unfold Hid; rw [HS]
          clear hh hf HS
          generalize (ost s l k).1 = held at *
          generalize (ost s l k).2 = go at *
          generalize marks (ohit s l) k = mk at *
          generalize l[k]?.getD 0 = p at *
          go_wp2_with (first | (go_at_call 12; go_must (refine (has_eq HT.out.a.isInts HAT.out).mono ?_; rintro e w' ⟨rfl, hw⟩; have hw := hw.symm; subst hw)) | (at_builtin; (refine wpList_append_own _ rfl _ _ 24 rfl w.heap.size 4 i0 (.bool false) 1 1 Tryd.underlying24 HI.out.1 HI.out.2.1 HI.out.2.2.1 HI.out.2.2.2 rfl (by decide) _ k (mk.map Value.bool) rfl (World.ownsRow.alloc (HT.out.b.rows HML.out rfl) _) ⟨wr.heap.size, 0, none⟩ 1 1 [.bool false] rfl rfl (by exact new_one _ _ _) (one_cellB _) (by unfold maxLen; omega) (by omega) (by have := HT.out.below.size; simp; omega) ?_; intro vb' w2 hown' hgrow _; have HT2 : Hid (Tri w w2 vb' (.slice ao no ocp) (.slice ah nh hcp) (mk ++ [false]) go held) := HT.out.bools HML.out hown' hgrow; have hck2 : w2.cell? ⟨b, off + k, none⟩ = some (.int .i64 p) := (HT2.out.below.cell (p := ⟨b, off + k, none⟩) (by exact hbB)).trans HCK.out; clear hown' hgrow hck)) | (at_builtin; go_must (refine wpList_append_own_at _ rfl _ _ 22 rfl w.heap.size 3 i1 (.int .i64 0) 1 8 Tryd.underlying22 HJ.out.1 HJ.out.2.1 HJ.out.2.2.1 HJ.out.2.2.2 rfl (by decide) _ nh (held.map (Value.int .i64)) rfl (World.ownsRow.alloc (HT2.out.a.rows HNH.out rfl) _) ⟨w2.heap.size, 0, none⟩ 1 1 [.int .i64 p] rfl rfl (by exact new_one _ _ _) (one_cell _) (by unfold maxLen; omega) (by omega) (by have := HT2.out.below.size; simp; omega) ?_; intro vh3 w3 hown' hgrow _ hat; have HT3 : Hid (Tri w w3 vb' (.slice ao no ocp) vh3 (mk ++ [false]) go (held ++ [p])) := HT2.out.asked HNH.out hown' hgrow hat; clear hown' hgrow hat)))
          go_roundw
          case rel => exact ⟨k + 1, by omega, by go_num, by rw [HM.out, HG.out, HF.out]; exact HT3.out⟩
          case measure => simp [intOf]; omega
      · have HM : Hid (marks (ohit s l) (k+1) = marks (ohit s l) k ++ [true]) := by unfold Hid; rw [marks_succ, hh]
        have HAT : Hid ((ost s l k).1.contains (l[k]?.getD 0) = true) := hh
        have HS := ost_hit hh
        have HF : Hid ((ost s l (k+1)).1 = (ost s l k).1) := by unfold Hid; rw [HS]
        have HG : Hid ((ost s l (k+1)).2 = (ost s l k).2) := by unfold Hid; rw [HS]
        clear hh HS
        generalize (ost s l k).1 = held at *
        generalize (ost s l k).2 = go at *
        generalize marks (ohit s l) k = mk at *
        generalize l[k]?.getD 0 = p at *
        go_wp2_with (first | (go_at_call 12; go_must (refine (has_eq HT.out.a.isInts HAT.out).mono ?_; rintro e w' ⟨rfl, hw⟩; have hw := hw.symm; subst hw)) | (at_builtin; go_must (refine wpList_append_own _ rfl _ _ 24 rfl w.heap.size 4 i0 (.bool false) 1 1 Tryd.underlying24 HI.out.1 HI.out.2.1 HI.out.2.2.1 HI.out.2.2.2 rfl (by decide) _ k (mk.map Value.bool) rfl (World.ownsRow.alloc (HT.out.b.rows HML.out rfl) _) ⟨wr.heap.size, 0, none⟩ 1 1 [.bool true] rfl rfl (by exact new_one _ _ _) (one_cellB _) (by unfold maxLen; omega) (by omega) (by have := HT.out.below.size; simp; omega) ?_; intro vb' w2 hown' hgrow _; have HT2 : Hid (Tri w w2 vb' (.slice ao no ocp) (.slice ah nh hcp) (mk ++ [true]) go held) := HT.out.bools HML.out hown' hgrow; clear hown' hgrow)))
        go_roundw
        case rel => exact ⟨k + 1, by omega, by go_num, by rw [HM.out, HG.out, HF.out]; exact HT2.out⟩
        case measure => simp [intOf]; omega
    · have hkl : k = l.length := by omega
      rw [hkl] at hT
      have HL8 : Hid ((ost s l l.length).1.length ≤ 1000000) := by unfold Hid; have : (ost s l l.length).1.length ≤ s := (sched_opt hs1 HPG.out).le l.length (Nat.le_refl _); omega
      have HT : Hid (Tri w wr u7 u9 u8 (marks (ohit s l) l.length) (ost s l l.length).2 (ost s l l.length).1) := hT
      clear hT hkl
      go_wp2_with (go_at_call 15; fail)
      refine (rising_any _ (ost s l l.length).1 _ HT.out.a.isInts HT.out.a.form HL8.out).mono ?_
      rintro e w2 ⟨vr, rfl, hR, hb2⟩
      have HR : Hid (OwnI w2 wr.heap.size vr (srt (ost s l l.length).1)) := hR
      have HT2 : Hid (Tri w w2 u7 u9 u8 (marks (ohit s l) l.length) (ost s l l.length).2 (ost s l l.length).1) := HT.out.later hb2
      clear hR hb2
      go_wp2
      go_ret3
      exact ⟨_, _, _, rfl, HT2.out.b.isBools, HT2.out.p.isInts, HR.out.isInts, HT2.out.below⟩
end Go.Proofs.YtkhjpelghlchnaaDoor
