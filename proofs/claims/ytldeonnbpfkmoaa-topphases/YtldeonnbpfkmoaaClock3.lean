/- The walk of clock.Run. -/
import Derived.Test.YtldeonnbpfkmoaaClock2
namespace Go.Proofs.Ytldeonnbpfkmoaa
open Go.RowKit Go.Sort

/-- What stands behind the search for a page. -/
theorem after_find {w wr w1 : World} {B : Nat} {vb vt : Value} {lb : List Bool} {t : List Slot} {p : Int} (hob : OwnB wr B vb lb) (hot : OwnS wr B vt t) (hb : Below B w wr) (hB : B ≤ w.heap.size)
    (h1 : Below (wr.alloc (.cells #[.int .i64 p] 3)).heap.size (wr.alloc (.cells #[.int .i64 p] 3)) w1) : OwnB w1 B vb lb ∧ OwnS w1 B vt t ∧ Below B w w1 ∧ w1.cell? ⟨wr.heap.size, 0, none⟩ = some (.int .i64 p) ∧ wr.heap.size < w1.heap.size := by
  have hs := hb.size
  refine ⟨OwnB.later (World.ownsRow.alloc hob _) h1, OwnS.later (World.ownsRow.alloc hot _) h1, (hb.alloc (by omega) _).trans (h1.mono (by rw [alloc_size]; omega)), ?_, ?_⟩
  · rw [h1.cell (by rw [alloc_size]; exact Nat.lt_succ_self _)]
    simp
  · have := h1.size
    rw [alloc_size] at this; omega
/-- An append to the row of bools: the page's own cell is kept. -/
theorem page_kept {wr w1 w2 : World} {B : Nat} {vb : Value} {lb : List Bool} {p : Int} {o : Obj} (hob : OwnB wr B vb lb) (hc : w1.cell? ⟨wr.heap.size, 0, none⟩ = some (.int .i64 p)) (h2 : (w1.alloc o).grownBy w2 vb.ownBlock) : w2.cell? ⟨wr.heap.size, 0, none⟩ = some (.int .i64 p) := by
  refine h2.cell (Lib.cell?_alloc_some _ hc) ?_
  intro e
  have := (World.ownsRow.lt hob _ e.symm).2
  simp at this

/-- Run's relation: the rows behind k requests. -/
def ClockRel (w : World) (s : Nat) (l : List Int) (vb vt hv i : Value) (wr : World) : Prop :=
  ∃ k : Nat, k ≤ l.length ∧ i = .int .i64 k ∧ OwnB wr w.heap.size vb (marks (chit s l) k) ∧ OwnS wr w.heap.size vt (cst s l k).1 ∧ hv = .int .i64 ((cst s l k).2 : Nat) ∧ Below w.heap.size w wr

theorem clock_start (w : World) (s : Nat) (l : List Int) : ClockRel w s l (.slice none 0 0) (.slice none 0 0) (.int .i64 0) (.int .i64 0) w :=
  ⟨0, Nat.zero_le _, rfl, OwnB.nil _ _, OwnS.nil _ _, rfl, Below.refl _ _⟩

set_option maxHeartbeats 2000000 in
theorem clock_ok (v : Value) (l : List Int) (s : Nat) (w : World) (hv : IsInts w v l) (hc0 : chk l s = 0) (hl40 : l.length ≤ 40) (hs1 : 1 ≤ s) (hs8 : s ≤ 8) (hpos : 0 < l.length) :
    Calls Try.prog 21 #[v, .int .i64 s] w fun e w' => ∃ vb vh, e = .returned (.tuple #[vb, vh, .int .i64 ((cst s l l.length).2 : Nat), .nilIface]) ∧ OwnB w' w.heap.size vb (marks (chit s l) l.length) ∧ OwnI w' w.heap.size vh (pagesOf (cst s l l.length).1) ∧ Below w.heap.size w w' := by
  have HV : Hid (IsInts w v l) := hv
  rcases hv with ⟨rfl, _⟩ | ⟨b, off, cap, rfl, _, hlc, hcap, hc⟩
  · simp at hpos
  have HC : Hid (∀ j, j < l.length → w.cell? ⟨b, off + j, none⟩ = some (.int .i64 (l[j]?.getD 0))) := hc
  have HCK : Hid (chk l s = 0) := hc0
  have HBB : Hid (b < w.heap.size) := World.block_lt_of_cell? w _ (hc 0 hpos)
  obtain ⟨i0, hi, hz0, hz1, hz2⟩ := info_parts Try.infoB
  have HI : Hid (Try.prog.info? 4 = some i0 ∧ i0.zero = some (.bool false) ∧ i0.size = 1 ∧ i0.bytes = 1) := ⟨hi, hz0, hz1, hz2⟩
  clear hi hz0 hz1 hz2
  obtain ⟨i1, hi, hz0, hz1, hz2⟩ := info_parts Try.infoS
  have HS : Hid (Try.prog.info? 56 = some i1 ∧ i1.zero = some (.agg #[.int .i64 0, .bool false]) ∧ i1.size = 2 ∧ i1.bytes = 16) := ⟨hi, hz0, hz1, hz2⟩
  clear hc hc0 hi hz0 hz1 hz2
  unfold maxLen at hcap
  go_enter Try.func21, Try.ntmps21
  go_wp2_with (go_at_call 22; go_must (refine (check_any _ l s _ HV.out).mono ?_; rintro e w' ⟨rfl, hw⟩; have hw := hw.symm; subst hw; rw [HCK.out]; simp only [errV, if_true]))
  go_loopw [9, 10, 11, 13, 14, 23] (fun vb vt hv _ _ i wr => ClockRel w s l vb vt hv i wr) (fun _ _ _ _ _ i _ => l.length - (intOf i).toNat)
  case atStart => exact clock_start w s l
  case round =>
    obtain ⟨k, hk, rfl, hob, hot, rfl, hbel⟩ := hrel
    obtain ⟨ab, bcp, hvb⟩ := hob.form
    rw [marks_length] at hvb
    subst hvb
    have HB : Hid (OwnB wr w.heap.size (.slice ab k bcp) (marks (chit s l) k)) := hob
    clear hob
    have HBEL : Hid (Below w.heap.size w wr) := hbel
    have INV := cinv s hs1 l k
    by_cases hlt : k < l.length
    · have hck : wr.cell? ⟨b, off + k, none⟩ = some (.int .i64 (l[k]?.getD 0)) := (hbel.cell (by exact HBB.out)).trans (HC.out k hlt)
      clear hbel
      cases hh : chit s l k
      · have HM : Hid (marks (chit s l) (k+1) = marks (chit s l) k ++ [false]) := by unfold Hid; rw [marks_succ, hh]
        have HAT : Hid (place (cst s l k).1 (l[k]?.getD 0) = -1) := by unfold Hid place; rw [if_neg (by unfold chit at hh; rw [hh]; simp)]
        by_cases hr : (cst s l k).1.length < s
        · have HF : Hid (cst s l (k+1) = ((cst s l k).1 ++ [(l[k]?.getD 0, true)], (cst s l k).2)) := cst_room hh hr
          clear hh
          generalize cst s l k = st at *
          obtain ⟨t, h⟩ := st
          simp only at *
          generalize l[k]?.getD 0 = p at *
          obtain ⟨ao, tcp, rfl⟩ := hot.form
          have HO : Hid (OwnS wr w.heap.size (.slice ao t.length tcp) t) := hot
          have ht8 : t.length ≤ 8 := by omega
          clear hot INV
          generalize hn : t.length = n at *
          have HN : Hid (t.length = n) := hn
          clear hn
          have HOa : Hid (OwnS (wr.alloc (.cells #[.int .i64 p] 3)) w.heap.size (.slice ao n tcp) t) := World.ownsRow.alloc HO.out _
          have HPa : Hid ((wr.alloc (.cells #[.int .i64 p] 3)).cell? ⟨wr.heap.size, 0, none⟩ = some (.int .i64 p)) := by unfold Hid; simp
          go_wp2_with (first | (go_at_call 34; go_must (refine (find_any w.heap.size _ t p wr.heap.size _ HOa.out HPa.out (by rw [HN.out]; exact ht8)).mono ?_; rintro e w1 ⟨rfl, hb1⟩; rw [HAT.out]; have HW1 : Hid _ := after_find HB.out HO.out HBEL.out (Nat.le_refl _) hb1; clear hb1)) | (at_builtin; refine wpList_append_own _ rfl _ _ 24 rfl w.heap.size 4 i0 (.bool false) 1 1 Try.underlying24 HI.out.1 HI.out.2.1 HI.out.2.2.1 HI.out.2.2.2 rfl (by decide) _ k ((marks (chit s l) k).map Value.bool) rfl (World.ownsRow.alloc (HW1.out.1.rows (marks_length _ k) rfl) _) ⟨w1.heap.size, 0, none⟩ 1 1 [.bool false] rfl rfl (by exact new_one _ _ _) (one_cellB _) (by unfold maxLen; omega) (by omega) (by have := HW1.out.2.2.1.size; simp; omega) ?_; intro vb' w2 hown' hgrow _; have HOW : Hid _ := boolS_append HW1.out.1 (marks_length _ k) HW1.out.2.1 HW1.out.2.2.1 (Nat.le_refl _) hown' hgrow; have hpc := page_kept HB.out HW1.out.2.2.2.1 hgrow; clear hown' hgrow) | (at_builtin; go_must (refine wpList_append_own _ rfl _ _ 53 rfl w.heap.size 56 i1 (.agg #[.int .i64 0, .bool false]) 2 16 Try.underlying53 HS.out.1 HS.out.2.1 HS.out.2.2.1 HS.out.2.2.2 rfl (by decide) _ n (rowS t) rfl (World.ownsRow.alloc (HOW.out.2.1.rows HN.out rfl) _) ⟨w2.heap.size, 0, none⟩ 1 1 [.int .i64 p, .bool true] rfl rfl (by exact new_two _ _ _ _) (two_cellS _ _) (by unfold maxLen; omega) (by omega) (by have := HOW.out.2.2.size; simp; omega) ?_; intro vt' w3 hown' hgrow _; have HT3 : Hid _ := keepsS_append HOW.out.2.1 HN.out HOW.out.2.2.size hown' hgrow; clear hown' hgrow)))
          go_roundw
          case rel => exact ⟨k + 1, by omega, by go_num, by rw [HM.out]; exact HT3.out.2.1 _ _ HOW.out.1, by rw [HF.out]; exact HT3.out.1, by rw [HF.out], HT3.out.2.2 _ (Nat.le_refl _) HOW.out.2.2⟩
          case measure => simp [intOf]; omega
        · have HF : Hid (cst s l (k+1) = turned (cst s l k).1 (cst s l k).2 (l[k]?.getD 0)) := cst_full hh hr
          clear hh
          have hha := INV.hand
          have hle := INV.len
          generalize cst s l k = st at *
          obtain ⟨t, h⟩ := st
          simp only at *
          generalize l[k]?.getD 0 = p at *
          obtain ⟨ao, tcp, rfl⟩ := hot.form
          have HO : Hid (OwnS wr w.heap.size (.slice ao t.length tcp) t) := hot
          clear hot INV
          have hts : t.length = s := by omega
          rw [hts] at HO ⊢
          have HN : Hid (t.length = s) := hts
          clear hts hr hle
          have HOa : Hid (OwnS (wr.alloc (.cells #[.int .i64 p] 3)) w.heap.size (.slice ao s tcp) t) := World.ownsRow.alloc HO.out _
          have HPa : Hid ((wr.alloc (.cells #[.int .i64 p] 3)).cell? ⟨wr.heap.size, 0, none⟩ = some (.int .i64 p)) := by unfold Hid; simp
          go_wp2_with (first | (go_at_call 34; go_must (refine (find_any w.heap.size _ t p wr.heap.size _ HOa.out HPa.out (by rw [HN.out]; exact hs8)).mono ?_; rintro e w1 ⟨rfl, hb1⟩; rw [HAT.out]; have HW1 : Hid _ := after_find HB.out HO.out HBEL.out (Nat.le_refl _) hb1; clear hb1)) | (at_builtin; refine wpList_append_own _ rfl _ _ 24 rfl w.heap.size 4 i0 (.bool false) 1 1 Try.underlying24 HI.out.1 HI.out.2.1 HI.out.2.2.1 HI.out.2.2.2 rfl (by decide) _ k ((marks (chit s l) k).map Value.bool) rfl (World.ownsRow.alloc (HW1.out.1.rows (marks_length _ k) rfl) _) ⟨w1.heap.size, 0, none⟩ 1 1 [.bool false] rfl rfl (by exact new_one _ _ _) (one_cellB _) (by unfold maxLen; omega) (by omega) (by have := HW1.out.2.2.1.size; simp; omega) ?_; intro vb' w2 hown' hgrow _; have HOW : Hid _ := boolS_append HW1.out.1 (marks_length _ k) HW1.out.2.1 HW1.out.2.2.1 (Nat.le_refl _) hown' hgrow; have hpc := page_kept HB.out HW1.out.2.2.2.1 hgrow; clear hown' hgrow) | (go_at_call 36; go_must (refine (replace_any w.heap.size _ t h p _ HOW.out.2.1 (by rw [HN.out]; exact hha) (by rw [HN.out]; exact hs8)).mono ?_; rintro e w3 ⟨rfl, hO3, hK3⟩; have HT3 : Hid (OwnS w3 w.heap.size (.slice ao s tcp) (turned t h p).1 ∧ Keeps w.heap.size w2 w3) := ⟨hO3, hK3⟩; clear hO3 hK3)))
          go_roundw
          case rel => exact ⟨k + 1, by omega, by go_num, by rw [HM.out]; exact HT3.out.2.1 _ _ HOW.out.1, by rw [HF.out]; exact HT3.out.1, by rw [HF.out], HT3.out.2.2 _ (Nat.le_refl _) HOW.out.2.2⟩
          case measure => simp [intOf]; omega
      · have HM : Hid (marks (chit s l) (k+1) = marks (chit s l) k ++ [true]) := by unfold Hid; rw [marks_succ, hh]
        have HAT : Hid (place (cst s l k).1 (l[k]?.getD 0) = (((cst s l k).1.findIdx fun x => x.1 == l[k]?.getD 0 : Nat) : Int)) := by unfold Hid place; rw [if_pos (by exact hh)]
        have HF : Hid (cst s l (k+1) = ((cst s l k).1.set ((cst s l k).1.findIdx fun x => x.1 == l[k]?.getD 0) (l[k]?.getD 0, true), (cst s l k).2)) := cst_hit hh
        obtain ⟨hix, hixp⟩ := find_lt hh
        have hle := INV.len
        clear hh
        generalize cst s l k = st at *
        obtain ⟨t, h⟩ := st
        simp only at *
        generalize l[k]?.getD 0 = p at *
        generalize (t.findIdx fun x => x.1 == p) = ix at *
        have HXP : Hid ((slotAt t ix).1 = p) := hixp
        obtain ⟨g, tcp, rfl, hg1, hg2, hg3, hg4⟩ := hot.block (by omega)
        have HO : Hid (OwnS wr w.heap.size (.slice (some ⟨g, 0, none⟩) t.length tcp) t) := hot
        have ht8 : t.length ≤ 8 := by omega
        clear hot INV hixp
        unfold maxLen at hg4
        generalize hn : t.length = n at *
        have HN : Hid (t.length = n) := hn
        clear hn
        have HOa : Hid (OwnS (wr.alloc (.cells #[.int .i64 p] 3)) w.heap.size (.slice (some ⟨g, 0, none⟩) n tcp) t) := World.ownsRow.alloc HO.out _
        have HPa : Hid ((wr.alloc (.cells #[.int .i64 p] 3)).cell? ⟨wr.heap.size, 0, none⟩ = some (.int .i64 p)) := by unfold Hid; simp
        go_wp2_with (first | (go_at_call 34; go_must (refine (find_any w.heap.size _ t p wr.heap.size _ HOa.out HPa.out (by rw [HN.out]; exact ht8)).mono ?_; rintro e w1 ⟨rfl, hb1⟩; rw [HAT.out]; have HW1 : Hid _ := after_find HB.out HO.out HBEL.out (Nat.le_refl _) hb1; clear hb1)) | (at_builtin; refine wpList_append_own _ rfl _ _ 24 rfl w.heap.size 4 i0 (.bool false) 1 1 Try.underlying24 HI.out.1 HI.out.2.1 HI.out.2.2.1 HI.out.2.2.2 rfl (by decide) _ k ((marks (chit s l) k).map Value.bool) rfl (World.ownsRow.alloc (HW1.out.1.rows (marks_length _ k) rfl) _) ⟨w1.heap.size, 0, none⟩ 1 1 [.bool true] rfl rfl (by exact new_one _ _ _) (one_cellB _) (by unfold maxLen; omega) (by omega) (by have := HW1.out.2.2.1.size; simp; omega) ?_; intro vb' w2 hown' hgrow _; have HOW : Hid _ := boolS_append HW1.out.1 (marks_length _ k) HW1.out.2.1 HW1.out.2.2.1 (Nat.le_refl _) hown' hgrow; have hcm := HOW.out.2.1.mark HN.out.symm (j := ix) (by rw [HN.out]; exact hix); have hfz := HOW.out.2.1.unfrozen HN.out.symm (ix * 2 + 1); clear hown' hgrow))
        go_roundw
        case rel =>
          have P := HOW.out.2.1.setMark HN.out.symm ix true
          rw [HXP.out] at P
          have K := keepsS_grown HOW.out.2.1 P.2
          exact ⟨k + 1, by omega, by go_num, by rw [HM.out]; exact K.1 _ _ HOW.out.1, by rw [HF.out]; exact P.1, by rw [HF.out], K.2 _ (Nat.le_refl _) HOW.out.2.2⟩
        case measure => simp [intOf]; omega
    · have hkl : k = l.length := by omega
      have HB2 : Hid (OwnB wr w.heap.size (.slice ab k bcp) (marks (chit s l) l.length)) := by rw [← hkl]; exact HB
      have HO : Hid (OwnS wr w.heap.size u10 (cst s l l.length).1) := by rw [hkl] at hot; exact hot
      have HE : Hid ((cst s l k).2 = (cst s l l.length).2) := by rw [hkl]; rfl
      have HL8 : Hid ((cst s l l.length).1.length ≤ 8) := by rw [hkl] at INV; have := INV.len; unfold Hid; omega
      clear hot hkl HB hbel INV
      generalize (cst s l k).2 = hk2 at *
      generalize htt : (cst s l l.length).1 = t at HO HL8
      have HTT : Hid ((cst s l l.length).1 = t) := htt
      clear htt
      go_wp2_with (go_at_call 37; go_must (refine (slotpages_any w.heap.size _ t _ HO.out HBEL.out.size HL8.out).mono ?_; rintro e w2 ⟨vh, rfl, hoi, hkp⟩; have HOI : Hid (OwnI w2 w.heap.size vh (pagesOf t)) := hoi; have HKP : Hid (Keeps w.heap.size wr w2) := hkp; clear hoi hkp))
      refine bodyPost_ret (results_four rfl _ _ _) rfl ?_
      exact ⟨_, _, by rw [← HE.out]; rfl, HKP.out.1 _ _ HB2.out, by rw [HTT.out]; exact HOI.out, HKP.out.2 _ (Nat.le_refl _) HBEL.out⟩

theorem clock_none (v : Value) (s : Nat) (w : World) (hv : IsInts w v []) (hs1 : 1 ≤ s) (hs8 : s ≤ 8) :
    Calls Try.prog 21 #[v, .int .i64 s] w fun e w' => ∃ vh, e = .returned (.tuple #[.slice none 0 0, vh, .int .i64 0, .nilIface]) ∧ OwnI w' w.heap.size vh [] ∧ Below w.heap.size w w' := by
  have HV : Hid (IsInts w v []) := hv
  have HCK : Hid (chk [] s = 0) := chk_ok (by simp) (by simp) ⟨by omega, by omega⟩
  rcases hv with ⟨_, ao, cap, rfl, hcap⟩ | ⟨b, off, cap, rfl, hpos, _⟩
  · go_enter Try.func21, Try.ntmps21
    go_wp2_with (go_at_call 22; go_must (refine (check_any _ [] s _ HV.out).mono ?_; rintro e w' ⟨rfl, hw⟩; have hw := hw.symm; subst hw; rw [HCK.out]; simp only [errV, if_true]))
    go_loop [9, 10, 11, 23] (fun b h a i => b = .slice none 0 0 ∧ h = .slice none 0 0 ∧ a = .int .i64 0 ∧ i = .int .i64 0) (fun _ _ _ _ => 0)
    case atStart => exact ⟨rfl, rfl, rfl, rfl⟩
    case round =>
      obtain ⟨rfl, rfl, rfl, rfl⟩ := hrel
      go_wp2_with (go_at_call 37; go_must (refine (slotpages_any w.heap.size _ [] _ (OwnS.nil _ _) (Nat.le_refl _) (by simp)).mono ?_; rintro e w2 ⟨vh, rfl, hoi, hkp⟩; have HOI : Hid (OwnI w2 w.heap.size vh []) := hoi; have HKP : Hid (Keeps w.heap.size w w2) := hkp; clear hoi hkp))
      refine bodyPost_ret (results_four rfl _ _ _) rfl ?_
      exact ⟨_, rfl, HOI.out, HKP.out.2 _ (Nat.le_refl _) (Below.refl _ _)⟩
  · simp at hpos

theorem clock_err (v : Value) (l : List Int) (s : Int) (w : World) (hv : IsInts w v l) (n : Nat) (hn : n = 1 ∨ n = 4) (hc : chk l s = n) :
    Calls Try.prog 21 #[v, .int .i64 s] w fun e w' => e = .returned (.tuple #[.slice none 0 0, .slice none 0 0, .int .i64 0, errV n]) ∧ w' = w := by
  have HV : Hid (IsInts w v l) := hv
  have HCK : Hid (chk l s = n) := hc
  clear hc hv
  rcases hn with rfl | rfl
  all_goals
    go_enter Try.func21, Try.ntmps21
    go_wp2_with (go_at_call 22; go_must (refine (check_any _ l s _ HV.out).mono ?_; rintro e w' ⟨rfl, hw⟩; have hw := hw.symm; subst hw; rw [HCK.out]; simp only [errV]))
    (try simp only [Exit.inBlock, Exit.then])
    refine bodyPost_ret (results_four rfl _ _ _) rfl ?_
    exact ⟨rfl, rfl⟩

/-- What clock.Run answers. -/
theorem clock_any (v : Value) (l : List Int) (s : Int) (w : World) (hv : IsInts w v l) :
    Calls Try.prog 21 #[v, .int .i64 s] w fun e w' => ∃ vb vh, e = .returned (.tuple #[vb, vh, .int .i64 (clockH l s : Nat), errV (chk l s)]) ∧ OwnB w' w.heap.size vb (clockB l s) ∧ OwnI w' w.heap.size vh (clockL l s) ∧ Below w.heap.size w w' := by
  rcases chk_cases l s with h | h
  · obtain ⟨h40, h1, h8⟩ := chk_zero h
    rw [clockB_ok h, clockL_ok h, clockH_ok h, h]
    obtain ⟨n, rfl⟩ : ∃ n : Nat, s = n := ⟨s.toNat, by omega⟩
    rw [Int.toNat_natCast]
    by_cases hl : l = []
    · subst hl
      refine (clock_none v n w hv (by omega) (by omega)).mono ?_
      rintro e w' ⟨vh, rfl, h1, h2⟩
      exact ⟨_, vh, rfl, OwnB.nil _ _, h1, h2⟩
    · exact clock_ok v l n w hv h h40 (by omega) (by omega) (List.length_pos_iff.2 hl)
  · have hne : chk l s ≠ 0 := by omega
    rw [clockB_bad hne, clockL_bad hne, clockH_bad hne]
    refine (clock_err v l s w hv (chk l s) h rfl).mono ?_
    rintro e w' ⟨rfl, rfl⟩
    exact ⟨_, _, rfl, OwnB.nil _ _, OwnI.nil _ _, Below.refl _ _⟩
end Go.Proofs.Ytldeonnbpfkmoaa
