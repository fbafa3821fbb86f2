/- The walk of opt.Run. -/
import Derived.Test.YtedmfehjifknbaaOptWait
import Derived.Test.YtedmfehjifknbaaOptIn
import Derived.Test.YtedmfehjifknbaaTri
import Derived.Test.YtedmfehjifknbaaCheck
import Derived.Test.YtedmfehjifknbaaContains
namespace Go.Proofs.Ytedmfehjifknbaa
open Go.RowKit Go.Sort

theorem own_cutout {w : World} {base g cap q i n : Nat} {l : List Int} (h : OwnI w base (.slice (some ⟨g, 0, none⟩) n cap) l) (hn : l.length = n) (hi : i < n) :
    OwnI (putRow (Value.int .i64) (Sort.ahead w q) g 0 (l.take i ++ l.drop (i + 1) ++ List.replicate (i + 1 - i) 0).toArray) base (.slice (some ⟨g, 0, none⟩) (n - 1) cap) (l.take i ++ l.drop (i + 1)) ∧ w.grownBy (putRow (Value.int .i64) (Sort.ahead w q) g 0 (l.take i ++ l.drop (i + 1) ++ List.replicate (i + 1 - i) 0).toArray) (some g) := by
  subst hn
  have hlen : (l.take i ++ l.drop (i + 1) ++ List.replicate (i + 1 - i) 0).length = l.length := by simp; omega
  have hel : (l.take i ++ l.drop (i + 1)).length = l.length - 1 := by simp; omega
  have := own_put (q := q) (m := l.length - 1) (os := #[]) h hlen (by omega)
  rw [grow_empty] at this
  refine ⟨?_, this.2⟩
  have h3 : (l.take i ++ l.drop (i + 1) ++ List.replicate (i + 1 - i) 0).take (l.length - 1) = l.take i ++ l.drop (i + 1) := by
    rw [List.take_append_of_le_length (by omega), List.take_of_length_le (by omega)]
  rw [h3] at this
  exact this.1
theorem rising_cutout {l : List Int} (h : l.Pairwise (· ≤ ·)) (i : Nat) : (l.take i ++ l.drop (i + 1)).Pairwise (· ≤ ·) := by
  rw [← List.eraseIdx_eq_take_drop_succ]; exact h.sublist (List.eraseIdx_sublist ..)

/-- Run's relation: the rows behind k requests. -/
def OptRel (w : World) (s : Nat) (l : List Int) (vb vo vh i : Value) (wr : World) : Prop :=
  ∃ k : Nat, k ≤ l.length ∧ i = .int .i64 k ∧ Tri w wr vb vo vh (marks (ohit s l) k) (ost s l k).2 (srt (ost s l k).1)
theorem opt_start (w : World) (s : Nat) (l : List Int) : OptRel w s l (.slice none 0 0) (.slice none 0 0) (.slice none 0 0) (.int .i64 0) w :=
  ⟨0, Nat.zero_le _, rfl, by simpa [marks, ost, srt] using Tri.start w⟩

set_option maxHeartbeats 1000000 in
theorem opt_ok (v : Value) (l : List Int) (s : Nat) (w : World) (hv : IsInts w v l) (hc0 : chk l s = 0) (hl40 : l.length ≤ 40) (hs1 : 1 ≤ s) (hs8 : s ≤ 8) (hpos : 0 < l.length) :
    Calls Try.prog 13 #[v, .int .i64 s] w fun e w' => ∃ vb vo vh, e = .returned (.tuple #[vb, vo, vh, .nilIface]) ∧ OwnB w' w.heap.size vb (marks (ohit s l) l.length) ∧ OwnI w' w.heap.size vo (ost s l l.length).2 ∧ OwnI w' w.heap.size vh (srt (ost s l l.length).1) ∧ Below w.heap.size w w' := by
  have hpg : inPages l := chk_pages hc0
  rcases hv with ⟨rfl, _⟩ | ⟨b, off, cap, rfl, _, hlc, hcap, hc⟩
  · simp at hpos
  have hbB : b < w.heap.size := World.block_lt_of_cell? w _ (hc 0 hpos)
  obtain ⟨i0, hi, hz0, hz1, hz2⟩ := info_parts Try.infoB
  have HI : Hid (Try.prog.info? 4 = some i0 ∧ i0.zero = some (.bool false) ∧ i0.size = 1 ∧ i0.bytes = 1) := ⟨hi, hz0, hz1, hz2⟩
  obtain ⟨i1, hj, hy0, hy1, hy2⟩ := info_parts Try.info3
  have HJ : Hid (Try.prog.info? 3 = some i1 ∧ i1.zero = some (.int .i64 0) ∧ i1.size = 1 ∧ i1.bytes = 8) := ⟨hj, hy0, hy1, hy2⟩
  have HCK : Hid (chk l s = 0) := hc0
  have HPG : Hid (inPages l) := hpg
  have HV0 : Hid (IsInts w (.slice (some ⟨b, off, none⟩) l.length cap) l) := .inr ⟨b, off, cap, rfl, hpos, hlc, hcap, hc⟩
  clear hc hc0 hi hz0 hz1 hz2 hj hy0 hy1 hy2 hpg
  unfold maxLen at hcap
  have HV : Hid (IsInts (w.alloc (.cells #[.slice (some ⟨b, off, none⟩) l.length cap] 22)) (.slice (some ⟨b, off, none⟩) l.length cap) l) := HV0.out.below ((Below.refl _ _).alloc (Nat.le_refl _) _)
  have HR : Hid ((w.alloc (.cells #[.slice (some ⟨b, off, none⟩) l.length cap] 22)).cell? ⟨w.heap.size, 0, none⟩ = some (.slice (some ⟨b, off, none⟩) l.length cap)) := new_one w _ _ 0 _ rfl
  have HA : Hid (Below w.heap.size w (w.alloc (.cells #[.slice (some ⟨b, off, none⟩) l.length cap] 22))) := (Below.refl _ _).alloc (Nat.le_refl _) _
  have hRA : w.heap.size < (w.alloc (.cells #[.slice (some ⟨b, off, none⟩) l.length cap] 22)).heap.size := by simp
  have hbA : b < (w.alloc (.cells #[.slice (some ⟨b, off, none⟩) l.length cap] 22)).heap.size := by simp; omega
  go_enter Try.func13, Try.ntmps13
  go_wp2_with (go_at_call 26; fail)
  generalize w.alloc (.cells #[.slice (some ⟨b, off, none⟩) l.length cap] 22) = wA at *
  refine (check_any _ l s _ HV.out).mono ?_
  rintro e w' ⟨rfl, hw⟩
  have hw := hw.symm
  subst hw
  rw [HCK.out]
  simp only [errV, if_true]
  have hRc : wA.cell? ⟨w.heap.size, 0, none⟩ = some (.slice (some ⟨b, off, none⟩) l.length cap) := HR.out
  go_wp2
  go_loopw [9, 10, 11, 12, 13, 14, 15, 24] (fun vb vo vh _ _ _ _ i wr => OptRel wA s l vb vo vh i wr) (fun _ _ _ _ _ _ _ i _ => l.length - (intOf i).toNat)
  case atStart => exact opt_start wA s l
  case round =>
    clear hRc
    obtain ⟨k, hk, rfl, hT⟩ := hrel
    by_cases hlt : k < l.length
    · have hck : wr.cell? ⟨b, off + k, none⟩ = some (.int .i64 (l[k]?.getD 0)) := by
        have h1 := HV.out
        rcases h1 with ⟨h0, _⟩ | ⟨b', off', cap', hv', _, _, _, hc'⟩
        · subst h0; simp at hlt
        · simp only [Value.slice.injEq, Option.some.injEq, Addr.mk.injEq, and_true, true_and] at hv'
          obtain ⟨⟨rfl, rfl⟩, rfl⟩ := hv'
          exact (hT.below.cell (by exact hbA)).trans (hc' k hlt)
      obtain ⟨ab, bcp, hvb⟩ := hT.b.form
      obtain ⟨ao, ocp, hvo⟩ := hT.p.form
      obtain ⟨ah, hcp, hvh⟩ := hT.a.form
      rw [marks_length] at hvb
      rw [srt_length] at hvh
      generalize hno : (ost s l k).2.length = no at *
      generalize hnh : (ost s l k).1.length = nh at *
      subst hvb hvo hvh
      have HNO : Hid ((ost s l k).2.length = no) := hno
      have HNH : Hid ((ost s l k).1.length = nh) := hnh
      have HT : Hid (Tri wA wr (.slice ab k bcp) (.slice ao no ocp) (.slice ah nh hcp) (marks (ohit s l) k) (ost s l k).2 (srt (ost s l k).1)) := hT
      clear hno hnh hT
      have HML : Hid ((marks (ohit s l) k).length = k) := marks_length _ k
      have HHL : Hid ((srt (ost s l k).1).length = nh) := by unfold Hid; rw [srt_length]; exact HNH.out
      have HHS : Hid ((srt (ost s l k).1).Pairwise (· ≤ ·)) := srt_rising _
      have hnh8 : nh ≤ s := by rw [← HNH.out]; exact (sched_opt hs1 HPG.out).le k (by omega)
      have hno40 : no ≤ 40 := by have := ost_count hs1 HPG.out k (by omega); rw [HNO.out] at this; omega
      have HT1 : Hid (Tri wA (wr.alloc (.cells #[.int .i64 (k : Int)] 3)) (.slice ab k bcp) (.slice ao no ocp) (.slice ah nh hcp) (marks (ohit s l) k) (ost s l k).2 (srt (ost s l k).1)) := HT.out.alloc _
      have HIC : Hid ((wr.alloc (.cells #[.int .i64 (k : Int)] 3)).cell? ⟨wr.heap.size, 0, none⟩ = some (.int .i64 k)) := new_one wr _ _ 0 _ rfl
      have hIw : wr.heap.size < (wr.alloc (.cells #[.int .i64 (k : Int)] 3)).heap.size := by simp
      have hIb : Hid ((Value.slice ab k bcp).ownBlock ≠ some wr.heap.size) := fun e => by have := (World.ownsRow.lt HT.out.b _ e).2; omega
      have hIo : Hid ((Value.slice ao no ocp).ownBlock ≠ some wr.heap.size) := fun e => by have := (World.ownsRow.lt HT.out.p _ e).2; omega
      have hAI : wA.heap.size ≤ wr.heap.size := HT.out.below.size
      cases hh : ohit s l k
      · have HM : Hid (marks (ohit s l) (k+1) = marks (ohit s l) k ++ [false]) := by unfold Hid; rw [marks_succ, hh]
        have HAT : Hid ((srt (ost s l k).1).contains (l[k]?.getD 0) = false) := by unfold Hid; rw [srt_has]; exact hh
        by_cases hf : nh = s
        · have hfs : ((nh : Int) == (s : Int)) = true := by rw [hf]; simp
          have hnp : 0 < nh := by omega
          have HF : Hid (∀ (a : Nat) (t : Int), Lat (wait (l.drop (k+1))) (srt (ost s l k).1) nh a t → a < nh ∧ (srt (ost s l k).1)[a]?.getD 0 = pick l k (ost s l k).1 ∧ srt (ost s l (k+1)).1 = ins ((srt (ost s l k).1).take a ++ (srt (ost s l k).1).drop (a+1)) (l[k]?.getD 0)) := fun a t hL => by
            have h1 := opt_pick_at hs1 HPG.out hlt hh (by rw [HNH.out]; exact hf) (a := a) (t := t) (by rw [HNH.out]; exact hL)
            exact ⟨by rw [← HHL.out]; exact h1.1, h1.2, srt_full hs1 HPG.out hlt hh (by rw [HNH.out]; exact hf) h1.1 h1.2⟩
          have HG : Hid ((ost s l (k+1)).2 = (ost s l k).2 ++ [pick l k (ost s l k).1]) := by unfold Hid; rw [ost_full hh (by rw [HNH.out]; exact hf)]
          obtain ⟨g, hcp', _, hveq, _, hgw, _, hgn, hgm, _, _⟩ := HT.out.a.block (by intro e; have := HHL.out; rw [e] at this; simp at this; omega)
          have hag : ah = some ⟨g, 0, none⟩ := by simpa using (congrArg (fun v => match v with | Value.slice a _ _ => a | _ => none) hveq)
          have hcc : hcp = hcp' := by simpa using (congrArg (fun v => match v with | Value.slice _ _ c => c | _ => 0) hveq)
          subst hag hcc
          rw [HHL.out] at hgn
          clear hh hf hveq
          generalize pick l k (ost s l k).1 = pk at *
          generalize srt (ost s l k).1 = held at *
          generalize (ost s l k).2 = go at *
          generalize marks (ohit s l) k = mk at *
          generalize l[k]?.getD 0 = p at *
          clear HT
          go_wp2_with (go_at_call 27; fail)
          generalize wr.alloc (.cells #[.int .i64 (k : Int)] 3) = w1 at *
          generalize wr.heap.size = I at *
          refine (contains_any _ held p _ HT1.out.a.isInts).mono ?_
          rintro e w' ⟨rfl, hw⟩
          have hw := hw.symm
          subst hw
          rw [HAT.out]
          go_wp2_with (first | (go_at_call 28; fail) | (at_builtin; go_must (refine wpList_append_own _ rfl _ _ 34 rfl wA.heap.size 4 i0 (.bool false) 1 1 Try.underlying34 HI.out.1 HI.out.2.1 HI.out.2.2.1 HI.out.2.2.2 rfl (by decide) _ k (mk.map Value.bool) rfl (World.ownsRow.alloc (HT1.out.b.rows HML.out rfl) _) ⟨w1.heap.size, 0, none⟩ 1 1 [.bool false] rfl rfl (by exact new_one _ _ _) (one_cellB _) (by unfold maxLen; omega) (by omega) (by have := HT1.out.below.size; simp; omega) ?_; intro vb' w2 hown' hgrow _; have HT2 : Hid (Tri wA w2 vb' (.slice ao no ocp) (.slice (some ⟨g, 0, none⟩) nh hcp) (mk ++ [false]) go held) := HT1.out.bools HML.out hown' hgrow; have HI2 : Hid (w2.cell? ⟨I, 0, none⟩ = some (.int .i64 k)) := hgrow.cell ((World.cell?_of_block (heap_alloc_old _ _ hIw)).trans HIC.out) (fun e => hIb.out e.symm); clear hown' hgrow)))
          have HV2 : Hid (IsInts w2 (.slice (some ⟨b, off, none⟩) l.length cap) l) := HV.out.below HT2.out.below
          have HR2 : Hid (w2.cell? ⟨w.heap.size, 0, none⟩ = some (.slice (some ⟨b, off, none⟩) l.length cap)) := (HT2.out.below.cell (by exact hRA)).trans HR.out
          refine (latest_any _ held (some ⟨b, off, none⟩) cap l k w.heap.size I w2 HT2.out.a.isInts (by rw [HHL.out]; omega) (by rw [HHL.out]; omega) HV2.out hlt hl40 HR2.out HI2.out).mono ?_
          rintro e w' ⟨⟨a, rfl, t, hL⟩, hw⟩
          have hw := hw.symm
          subst hw
          rw [HHL.out] at hL
          obtain ⟨ha, hpk, hnx⟩ := HF.out a t hL
          have HNX : Hid (srt (ost s l (k+1)).1 = ins (held.take a ++ held.drop (a+1)) p) := hnx
          have hca : w2.cell? ⟨g, a, none⟩ = some (.int .i64 pk) := by
            rcases HT2.out.a.isInts with ⟨h0, _⟩ | ⟨b', off', cap', hv', _, _, _, hc'⟩
            · have := HHL.out; rw [h0] at this; simp at this; omega
            · simp only [Value.slice.injEq, Option.some.injEq, Addr.mk.injEq, and_true] at hv'
              obtain ⟨⟨rfl, rfl⟩, _, rfl⟩ := hv'
              rw [← hpk]
              have := hc' a (by rw [HHL.out]; exact ha)
              rwa [Nat.zero_add] at this
          clear hL hpk hnx HF HV2 HR2
          unfold maxLen at hgm
          go_wp2_with (first | (go_at_call 31; fail) | (at_builtin; go_must (refine wpList_append_own_at _ rfl _ _ 22 rfl wA.heap.size 3 i1 (.int .i64 0) 1 8 Try.underlying22 HJ.out.1 HJ.out.2.1 HJ.out.2.2.1 HJ.out.2.2.2 rfl (by decide) _ no (go.map (Value.int .i64)) rfl (World.ownsRow.alloc (HT2.out.p.rows HNO.out rfl) _) ⟨w2.heap.size, 0, none⟩ 1 1 [.int .i64 pk] rfl rfl (by exact new_one _ _ _) (one_cell _) (by unfold maxLen; omega) (by omega) (by have := HT2.out.below.size; simp; omega) ?_; intro vo' w3 hown' hgrow _ hat; have HT3 : Hid (Tri wA w3 vb' vo' (.slice (some ⟨g, 0, none⟩) nh hcp) (mk ++ [false]) (go ++ [pk]) held) := HT2.out.pages HNO.out hown' hgrow hat; clear hown' hgrow hat)))
          have HD := Try.slices_Delete_int g 0 hcp a (a+1) held w3 (own_holds HT3.out.a HHL.out.symm) (by rw [HHL.out]; exact hgn) hgm (by omega) (by rw [HHL.out]; omega)
          rw [HHL.out] at HD
          refine HD.mono ?_
          clear HD
          rintro e w4 ⟨rfl, q, hw4⟩
          have HC4 := own_cutout (q := q) HT3.out.a HHL.out ha
          rw [← hw4] at HC4
          rw [show nh - (a + 1 - a) = nh - 1 by omega]
          have HT4 : Hid (Tri wA w4 vb' vo' (.slice (some ⟨g, 0, none⟩) (nh - 1) hcp) (mk ++ [false]) (go ++ [pk]) (held.take a ++ held.drop (a+1))) := HT3.out.changed HC4.1 HC4.2 (.inl rfl)
          have HR4 : Hid ((held.take a ++ held.drop (a+1)).Pairwise (· ≤ ·)) := rising_cutout HHS.out a
          have HL4 : Hid ((held.take a ++ held.drop (a+1)).length ≤ 100) := by unfold Hid; have := HHL.out; simp; omega
          clear HC4 hw4
          generalize held.take a ++ held.drop (a+1) = held2 at *
          go_wp2_with (go_at_call 32; fail)
          refine (optin_any wA.heap.size _ held2 p _ HT4.out.below.size HT4.out.a HR4.out HL4.out).mono ?_
          rintro e w5 ⟨vh', rfl, hI5⟩
          have HT5 : Hid (Tri wA w5 vb' vo' vh' (mk ++ [false]) (go ++ [pk]) (ins held2 p)) := HT4.out.changed hI5.1 hI5.2.1 hI5.2.2
          clear hI5
          go_wp2
          go_roundw
          case rel => exact ⟨k + 1, by omega, by go_num, by rw [HM.out, HG.out, HNX.out]; exact HT5.out⟩
          case measure => simp [intOf]; omega
        · have hfs : ((nh : Int) == (s : Int)) = false := by rw [beq_eq_false_iff_ne]; omega
          have HF : Hid (srt (ost s l (k+1)).1 = ins (srt (ost s l k).1) (l[k]?.getD 0)) := srt_room hh (by rw [HNH.out]; exact hf)
          have HG : Hid ((ost s l (k+1)).2 = (ost s l k).2) := by unfold Hid; rw [ost_room hh (by rw [HNH.out]; exact hf)]
          clear hh hf
          generalize srt (ost s l k).1 = held at *
          generalize (ost s l k).2 = go at *
          generalize marks (ohit s l) k = mk at *
          generalize l[k]?.getD 0 = p at *
          clear HT
          go_wp2_with (go_at_call 27; fail)
          generalize wr.alloc (.cells #[.int .i64 (k : Int)] 3) = w1 at *
          generalize wr.heap.size = I at *
          refine (contains_any _ held p _ HT1.out.a.isInts).mono ?_
          rintro e w' ⟨rfl, hw⟩
          have hw := hw.symm
          subst hw
          rw [HAT.out]
          go_wp2_with (first | (go_at_call 32; fail) | (at_builtin; go_must (refine wpList_append_own _ rfl _ _ 34 rfl wA.heap.size 4 i0 (.bool false) 1 1 Try.underlying34 HI.out.1 HI.out.2.1 HI.out.2.2.1 HI.out.2.2.2 rfl (by decide) _ k (mk.map Value.bool) rfl (World.ownsRow.alloc (HT1.out.b.rows HML.out rfl) _) ⟨w1.heap.size, 0, none⟩ 1 1 [.bool false] rfl rfl (by exact new_one _ _ _) (one_cellB _) (by unfold maxLen; omega) (by omega) (by have := HT1.out.below.size; simp; omega) ?_; intro vb' w2 hown' hgrow _; have HT2 : Hid (Tri wA w2 vb' (.slice ao no ocp) (.slice ah nh hcp) (mk ++ [false]) go held) := HT1.out.bools HML.out hown' hgrow; have HI2 : Hid (w2.cell? ⟨I, 0, none⟩ = some (.int .i64 k)) := hgrow.cell ((World.cell?_of_block (heap_alloc_old _ _ hIw)).trans HIC.out) (fun e => hIb.out e.symm); clear hown' hgrow)))
          refine (optin_any wA.heap.size _ held p _ HT2.out.below.size HT2.out.a HHS.out (by rw [HHL.out]; omega)).mono ?_
          rintro e w3 ⟨vh', rfl, hI3⟩
          have HT3 : Hid (Tri wA w3 vb' (.slice ao no ocp) vh' (mk ++ [false]) go (ins held p)) := HT2.out.changed hI3.1 hI3.2.1 hI3.2.2
          clear hI3
          go_wp2
          go_roundw
          case rel => exact ⟨k + 1, by omega, by go_num, by rw [HM.out, HG.out, HF.out]; exact HT3.out⟩
          case measure => simp [intOf]; omega
      · have HM : Hid (marks (ohit s l) (k+1) = marks (ohit s l) k ++ [true]) := by unfold Hid; rw [marks_succ, hh]
        have HAT : Hid ((srt (ost s l k).1).contains (l[k]?.getD 0) = true) := by unfold Hid; rw [srt_has]; exact hh
        have HF : Hid (ost s l (k+1) = ost s l k) := ost_hit hh
        clear hh
        have HF1 : Hid (srt (ost s l (k+1)).1 = srt (ost s l k).1) := by unfold Hid; rw [HF.out]
        have HF2 : Hid ((ost s l (k+1)).2 = (ost s l k).2) := by unfold Hid; rw [HF.out]
        clear HF HNO HNH
        generalize srt (ost s l k).1 = held at *
        generalize (ost s l k).2 = go at *
        generalize marks (ohit s l) k = mk at *
        generalize l[k]?.getD 0 = p at *
        clear HT
        go_wp2_with (go_at_call 27; fail)
        generalize wr.alloc (.cells #[.int .i64 (k : Int)] 3) = w1 at *
        generalize wr.heap.size = I at *
        refine (contains_any _ held p _ HT1.out.a.isInts).mono ?_
        rintro e w' ⟨rfl, hw⟩
        have hw := hw.symm
        subst hw
        rw [HAT.out]
        go_wp2_with (at_builtin; go_must (refine wpList_append_own _ rfl _ _ 34 rfl wA.heap.size 4 i0 (.bool false) 1 1 Try.underlying34 HI.out.1 HI.out.2.1 HI.out.2.2.1 HI.out.2.2.2 rfl (by decide) _ k (mk.map Value.bool) rfl (World.ownsRow.alloc (HT1.out.b.rows HML.out rfl) _) ⟨w1.heap.size, 0, none⟩ 1 1 [.bool true] rfl rfl (by exact new_one _ _ _) (one_cellB _) (by unfold maxLen; omega) (by omega) (by have := HT1.out.below.size; simp; omega) ?_; intro vb' w2 hown' hgrow _; have HT2 : Hid (Tri wA w2 vb' (.slice ao no ocp) (.slice ah nh hcp) (mk ++ [true]) go held) := HT1.out.bools HML.out hown' hgrow; have HI2 : Hid (w2.cell? ⟨I, 0, none⟩ = some (.int .i64 k)) := hgrow.cell ((World.cell?_of_block (heap_alloc_old _ _ hIw)).trans HIC.out) (fun e => hIb.out e.symm); clear hown' hgrow))
        go_roundw
        case rel => exact ⟨k + 1, by omega, by go_num, by rw [HM.out, HF1.out, HF2.out]; exact HT2.out⟩
        case measure => simp [intOf]; omega
    · have hkl : k = l.length := by omega
      rw [hkl] at hT
      have HT : Hid (Tri wA wr u9 u10 u11 (marks (ohit s l) l.length) (ost s l l.length).2 (srt (ost s l l.length).1)) := hT
      clear hT hkl
      go_wp2
      refine bodyPost_ret (results_four rfl _ _ _) rfl ?_
      exact ⟨_, _, _, rfl, ownB_mono HT.out.b (by omega), ownI_mono HT.out.p (by omega), ownI_mono HT.out.a (by omega), HA.out.trans (HT.out.below.mono HA.out.size)⟩
end Go.Proofs.Ytedmfehjifknbaa
