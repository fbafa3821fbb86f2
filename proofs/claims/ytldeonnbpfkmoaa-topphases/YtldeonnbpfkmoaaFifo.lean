/- The walks of fifo.comeIn and fifo.Run. -/
import Derived.Test.YtldeonnbpfkmoaaQueue
import Derived.Test.YtldeonnbpfkmoaaCheck
import Derived.Test.YtldeonnbpfkmoaaShelf
import Derived.Test.YtldeonnbpfkmoaaContains
namespace Go.Proofs.Ytldeonnbpfkmoaa
open Go.RowKit Go.Sort

theorem own_behead {w : World} {base g cap q : Nat} {l : List Int} (h : OwnI w base (.slice (some ⟨g, 0, none⟩) l.length cap) l) (hl : 1 ≤ l.length) :
    OwnI (putRow (Value.int .i64) (Sort.ahead w q) g 0 (l.take 0 ++ l.drop 1 ++ List.replicate (1 - 0) 0).toArray) base (.slice (some ⟨g, 0, none⟩) (l.length - (1 - 0)) cap) (l.drop 1) ∧ w.grownBy (putRow (Value.int .i64) (Sort.ahead w q) g 0 (l.take 0 ++ l.drop 1 ++ List.replicate (1 - 0) 0).toArray) (some g) := by
  have hlen : (l.take 0 ++ l.drop 1 ++ List.replicate (1 - 0) 0).length = l.length := by simp; omega
  have := own_put (q := q) (m := l.length - (1 - 0)) (os := #[]) h hlen (by omega)
  rw [grow_empty] at this
  refine ⟨?_, this.2⟩
  have h3 : (l.take 0 ++ l.drop 1 ++ List.replicate (1 - 0) 0).take (l.length - (1 - 0)) = l.drop 1 := by
    rw [List.take_zero, List.nil_append, List.take_append_of_le_length (by rw [List.length_drop]; omega), List.take_of_length_le (by rw [List.length_drop]; omega)]
  rw [h3] at this
  exact this.1

set_option maxHeartbeats 1000000 in
theorem comein_any (base : Nat) (v : Value) (held : List Int) (p : Int) (s : Nat) (w : World) (hB : base ≤ w.heap.size) (hO : OwnI w base v held) (hl : held.length ≤ s) (hs1 : 1 ≤ s) (hs8 : s ≤ 8) :
    Calls Try.prog 33 #[v, .int .i64 p, .int .i64 s] w fun e w' => ∃ v', e = .returned v' ∧ OwnI w' base v' (comesIn s held p) ∧ Keeps base w w' := by
  obtain ⟨i0, hi, hz0, hz1, hz2⟩ := info_parts Try.info3
  have HI : Hid (Try.prog.info? 3 = some i0 ∧ i0.zero = some (.int .i64 0) ∧ i0.size = 1 ∧ i0.bytes = 8) := ⟨hi, hz0, hz1, hz2⟩
  clear hi hz0 hz1 hz2
  have HO : Hid (OwnI w base v held) := hO
  by_cases hf : held.length = s
  · obtain ⟨g, cap, cur, rfl, _, _, _, hgn, hgm, _, _⟩ := hO.block (by intro h; subst h; simp at hf; omega)
    have HH : Hid (Holds (Value.int .i64) w g 0 held.toArray) := own_holds hO rfl
    have HD : Hid (comesIn s held p = held.drop 1 ++ [p]) := by unfold comesIn Hid; rw [if_pos hf]
    have HN : Hid ((held.drop 1).length = held.length - 1) := by unfold Hid; rw [List.length_drop]
    have hfs : ((held.length : Int) == (s : Int)) = true := by rw [hf]; simp
    have h1 : 1 ≤ held.length := by omega
    clear hO hf
    unfold maxLen at hgm
    go_enter Try.func33, Try.ntmps33
    go_wp2_with (go_at_call 29; fail)
    refine (Try.slices_Delete_int g 0 cap 0 1 held _ HH.out hgn (by omega) (by omega) h1).mono ?_
    rintro e w1 ⟨rfl, q, hw1⟩
    have HR := own_behead (q := q) HO.out h1
    rw [← hw1, show held.length - (1 - 0) = held.length - 1 by omega] at HR
    have HK1 : Hid (Keeps base w w1) := keeps_grown HO.out HR.2
    have HR1 : Hid (OwnI w1 base (.slice (some ⟨g, 0, none⟩) (held.length - 1) cap) (held.drop 1)) := HR.1
    have hB1 : base ≤ w1.heap.size := Nat.le_trans hB HR.2.size
    clear hw1 HR HH HO
    rw [show held.length - (1 - 0) = held.length - 1 by omega]
    go_wp2_with (at_builtin; go_must (refine wpList_append_own _ rfl _ _ 22 rfl base 3 i0 (.int .i64 0) 1 8 Try.underlying22 HI.out.1 HI.out.2.1 HI.out.2.2.1 HI.out.2.2.2 rfl (by decide) _ (held.length - 1) ((held.drop 1).map (Value.int .i64)) rfl (World.ownsRow.alloc (HR1.out.rows HN.out rfl) _) ⟨w1.heap.size, 0, none⟩ 1 1 [.int .i64 p] rfl rfl (by exact new_one _ _ _) (one_cell _) (by unfold maxLen; omega) (by omega) (by simp; omega) ?_; intro v2 w2 hown' hgrow _; have R := keeps_append HR1.out HN.out hB1 hown' hgrow; rw [← HD.out] at R; have HR2 : Hid _ := R.1; have HK2 : Hid _ := R.2; clear hown' hgrow R))
    go_ret
    exact ⟨_, rfl, HR2.out, HK1.out.trans HK2.out⟩
  · have HD : Hid (comesIn s held p = held ++ [p]) := by unfold comesIn Hid; rw [if_neg hf]
    have hfs : ((held.length : Int) == (s : Int)) = false := by rw [beq_eq_false_iff_ne]; omega
    obtain ⟨ao, cap, rfl⟩ := hO.form
    clear hO hf
    go_enter Try.func33, Try.ntmps33
    go_wp2_with (at_builtin; go_must (refine wpList_append_own _ rfl _ _ 22 rfl base 3 i0 (.int .i64 0) 1 8 Try.underlying22 HI.out.1 HI.out.2.1 HI.out.2.2.1 HI.out.2.2.2 rfl (by decide) _ held.length (held.map (Value.int .i64)) rfl (World.ownsRow.alloc HO.out _) ⟨w.heap.size, 0, none⟩ 1 1 [.int .i64 p] rfl rfl (by exact new_one _ _ _) (one_cell _) (by unfold maxLen; omega) (by omega) (by simp; omega) ?_; intro v2 w2 hown' hgrow _; have R := keeps_append HO.out rfl hB hown' hgrow; rw [← HD.out] at R; have HR2 : Hid _ := R.1; have HK2 : Hid _ := R.2; clear hown' hgrow R))
    go_ret
    exact ⟨_, rfl, HR2.out, HK2.out⟩

/-- Run's relation: the rows behind k requests. -/
def FifoRel (w : World) (s : Nat) (l : List Int) (vb vh i : Value) (wr : World) : Prop :=
  ∃ k : Nat, k ≤ l.length ∧ i = .int .i64 k ∧ OwnB wr w.heap.size vb (marks (fhit s l) k) ∧ OwnI wr w.heap.size vh (lastn s (came s l k)) ∧ Below w.heap.size w wr

theorem fifo_start (w : World) (s : Nat) (l : List Int) : FifoRel w s l (.slice none 0 0) (.slice none 0 0) (.int .i64 0) w :=
  ⟨0, Nat.zero_le _, rfl, OwnB.nil _ _, by simpa [came, lastn] using OwnI.nil _ _, Below.refl _ _⟩

set_option maxHeartbeats 1000000 in
theorem fifo_ok (v : Value) (l : List Int) (s : Nat) (w : World) (hv : IsInts w v l) (hc0 : chk l s = 0) (hl40 : l.length ≤ 40) (hs1 : 1 ≤ s) (hs8 : s ≤ 8) (hpos : 0 < l.length) :
    Calls Try.prog 20 #[v, .int .i64 s] w fun e w' => ∃ vb vh, e = .returned (.tuple #[vb, vh, .nilIface]) ∧ OwnB w' w.heap.size vb (marks (fhit s l) l.length) ∧ OwnI w' w.heap.size vh (lastn s (came s l l.length)) ∧ Below w.heap.size w w' := by
  have HV : Hid (IsInts w v l) := hv
  rcases hv with ⟨rfl, _⟩ | ⟨b, off, cap, rfl, _, hlc, hcap, hc⟩
  · simp at hpos
  have HC : Hid (∀ j, j < l.length → w.cell? ⟨b, off + j, none⟩ = some (.int .i64 (l[j]?.getD 0))) := hc
  have HCK : Hid (chk l s = 0) := hc0
  have hbB : b < w.heap.size := World.block_lt_of_cell? w _ (hc 0 hpos)
  obtain ⟨i0, hi, hz0, hz1, hz2⟩ := info_parts Try.infoB
  have HI : Hid (Try.prog.info? 4 = some i0 ∧ i0.zero = some (.bool false) ∧ i0.size = 1 ∧ i0.bytes = 1) := ⟨hi, hz0, hz1, hz2⟩
  clear hc hc0 hi hz0 hz1 hz2
  unfold maxLen at hcap
  go_enter Try.func20, Try.ntmps20
  go_wp2_with (go_at_call 22; go_must (refine (check_any _ l s _ HV.out).mono ?_; rintro e w' ⟨rfl, hw⟩; have hw := hw.symm; subst hw; rw [HCK.out]; simp only [errV, if_true]))
  go_loopw [8, 9, 11, 12, 21] (fun vb vh _ _ i wr => FifoRel w s l vb vh i wr) (fun _ _ _ _ i _ => l.length - (intOf i).toNat)
  case atStart => exact fifo_start w s l
  case round =>
    obtain ⟨k, hk, rfl, hob, hoh, hbel⟩ := hrel
    obtain ⟨ab, bcp, hvb⟩ := hob.form
    rw [marks_length] at hvb
    subst hvb
    have HB : Hid (OwnB wr w.heap.size (.slice ab k bcp) (marks (fhit s l) k)) := hob
    clear hob
    by_cases hlt : k < l.length
    · have hck : wr.cell? ⟨b, off + k, none⟩ = some (.int .i64 (l[k]?.getD 0)) := (hbel.cell (by exact hbB)).trans (HC.out k hlt)
      have HLS : Hid ((lastn s (came s l k)).length ≤ s) := by unfold Hid; rw [lastn_length]; omega
      cases hh : fhit s l k
      · have HF : Hid (lastn s (came s l (k+1)) = comesIn s (lastn s (came s l k)) (l[k]?.getD 0)) := held_miss hs1 hh
        have HM : Hid (marks (fhit s l) (k+1) = marks (fhit s l) k ++ [false]) := by unfold Hid; rw [marks_succ, hh]
        have HAT : Hid ((lastn s (came s l k)).contains (l[k]?.getD 0) = false) := hh
        clear hh
        generalize lastn s (came s l k) = held at *
        generalize l[k]?.getD 0 = p at *
        have HO : Hid (OwnI wr w.heap.size u9 held) := hoh
        clear hoh
        go_wp2_with (first | (go_at_call 23; go_must (refine (contains_any _ held p _ HO.out.isInts).mono ?_; rintro e w' ⟨rfl, hw⟩; have hw := hw.symm; subst hw; rw [HAT.out])) | (go_at_call 33; go_must (refine (comein_any w.heap.size _ held p s _ HOW.2.2.out.size HOW.2.1.out HLS.out hs1 hs8).mono ?_; rintro e w2 ⟨vh', rfl, hO2, hK2⟩; have HO2 : Hid (OwnI w2 w.heap.size vh' (comesIn s held p)) := hO2; have HK2 : Hid (Keeps w.heap.size w1 w2) := hK2; clear hO2 hK2)) | (at_builtin; go_must (refine wpList_append_own _ rfl _ _ 24 rfl w.heap.size 4 i0 (.bool false) 1 1 Try.underlying24 HI.out.1 HI.out.2.1 HI.out.2.2.1 HI.out.2.2.2 rfl (by decide) _ k ((marks (fhit s l) k).map Value.bool) rfl (World.ownsRow.alloc (HB.out.rows (marks_length _ k) rfl) _) ⟨wr.heap.size, 0, none⟩ 1 1 [.bool false] rfl rfl (by exact new_one _ _ _) (one_cellB _) (by unfold maxLen; omega) (by omega) (by have := hbel.size; simp; omega) ?_; intro vb' w1 hown' hgrow _; have HOW := bool_append HB.out (marks_length _ k) HO.out hbel (Nat.le_refl _) hown' hgrow; have HOW := And.intro (show Hid _ from HOW.1) (And.intro (show Hid _ from HOW.2.1) (show Hid _ from HOW.2.2)); clear hown' hgrow)))
        go_roundw
        case rel => exact ⟨k + 1, by omega, by go_num, by rw [HM.out]; exact HK2.out.1 _ _ HOW.1.out, by rw [HF.out]; exact HO2.out, HK2.out.2 _ (Nat.le_refl _) HOW.2.2.out⟩
        case measure => simp [intOf]; omega
      · have HF : Hid (lastn s (came s l (k+1)) = lastn s (came s l k)) := held_hit hh
        have HM : Hid (marks (fhit s l) (k+1) = marks (fhit s l) k ++ [true]) := by unfold Hid; rw [marks_succ, hh]
        have HAT : Hid ((lastn s (came s l k)).contains (l[k]?.getD 0) = true) := hh
        clear hh
        generalize lastn s (came s l k) = held at *
        generalize l[k]?.getD 0 = p at *
        have HO : Hid (OwnI wr w.heap.size u9 held) := hoh
        clear hoh
        go_wp2_with (first | (go_at_call 23; go_must (refine (contains_any _ held p _ HO.out.isInts).mono ?_; rintro e w' ⟨rfl, hw⟩; have hw := hw.symm; subst hw; rw [HAT.out])) | (at_builtin; go_must (refine wpList_append_own _ rfl _ _ 24 rfl w.heap.size 4 i0 (.bool false) 1 1 Try.underlying24 HI.out.1 HI.out.2.1 HI.out.2.2.1 HI.out.2.2.2 rfl (by decide) _ k ((marks (fhit s l) k).map Value.bool) rfl (World.ownsRow.alloc (HB.out.rows (marks_length _ k) rfl) _) ⟨wr.heap.size, 0, none⟩ 1 1 [.bool true] rfl rfl (by exact new_one _ _ _) (one_cellB _) (by unfold maxLen; omega) (by omega) (by have := hbel.size; simp; omega) ?_; intro vb' w1 hown' hgrow _; have HOW := bool_append HB.out (marks_length _ k) HO.out hbel (Nat.le_refl _) hown' hgrow; have HOW := And.intro (show Hid _ from HOW.1) (And.intro (show Hid _ from HOW.2.1) (show Hid _ from HOW.2.2)); clear hown' hgrow)))
        go_roundw
        case rel => exact ⟨k + 1, by omega, by go_num, by rw [HM.out]; exact HOW.1.out, by rw [HF.out]; exact HOW.2.1.out, HOW.2.2.out⟩
        case measure => simp [intOf]; omega
    · have hkl : k = l.length := by omega
      have HB2 : Hid (OwnB wr w.heap.size (.slice ab k bcp) (marks (fhit s l) l.length)) := by rw [← hkl]; exact HB
      have HO : Hid (OwnI wr w.heap.size u9 (lastn s (came s l l.length))) := by rw [hkl] at hoh; exact hoh
      clear hoh hkl HB
      go_wp2
      go_ret3
      exact ⟨_, _, rfl, HB2.out, HO.out, hbel⟩

theorem fifo_none (v : Value) (s : Nat) (w : World) (hv : IsInts w v []) (hs1 : 1 ≤ s) (hs8 : s ≤ 8) :
    Calls Try.prog 20 #[v, .int .i64 s] w fun e w' => e = .returned (.tuple #[.slice none 0 0, .slice none 0 0, .nilIface]) ∧ w' = w := by
  have HV : Hid (IsInts w v []) := hv
  have HCK : Hid (chk [] s = 0) := chk_ok (by simp) (by simp) ⟨by omega, by omega⟩
  rcases hv with ⟨_, ao, cap, rfl, hcap⟩ | ⟨b, off, cap, rfl, hpos, _⟩
  · go_enter Try.func20, Try.ntmps20
    go_wp2_with (go_at_call 22; go_must (refine (check_any _ [] s _ HV.out).mono ?_; rintro e w' ⟨rfl, hw⟩; have hw := hw.symm; subst hw; rw [HCK.out]; simp only [errV, if_true]))
    go_loop [8, 9, 21] (fun b h i => b = .slice none 0 0 ∧ h = .slice none 0 0 ∧ i = .int .i64 0) (fun _ _ _ => 0)
    case atStart => exact ⟨rfl, rfl, rfl⟩
    case round =>
      obtain ⟨rfl, rfl, rfl⟩ := hrel
      go_wp2
      go_ret3
      exact ⟨rfl, rfl⟩
  · simp at hpos

theorem fifo_err (v : Value) (l : List Int) (s : Int) (w : World) (hv : IsInts w v l) (n : Nat) (hn : n = 1 ∨ n = 4) (hc : chk l s = n) :
    Calls Try.prog 20 #[v, .int .i64 s] w fun e w' => e = .returned (.tuple #[.slice none 0 0, .slice none 0 0, errV n]) ∧ w' = w := by
  have HV : Hid (IsInts w v l) := hv
  have HCK : Hid (chk l s = n) := hc
  clear hc hv
  rcases hn with rfl | rfl
  all_goals
    go_enter Try.func20, Try.ntmps20
    go_wp2_with (go_at_call 22; go_must (refine (check_any _ l s _ HV.out).mono ?_; rintro e w' ⟨rfl, hw⟩; have hw := hw.symm; subst hw; rw [HCK.out]; simp only [errV]))
    go_ret3
    exact ⟨rfl, rfl⟩

/-- What fifo.Run answers. -/
theorem fifo_any (v : Value) (l : List Int) (s : Int) (w : World) (hv : IsInts w v l) :
    Calls Try.prog 20 #[v, .int .i64 s] w fun e w' => ∃ vb vh, e = .returned (.tuple #[vb, vh, errV (chk l s)]) ∧ OwnB w' w.heap.size vb (fifoB l s) ∧ OwnI w' w.heap.size vh (fifoL l s) ∧ Below w.heap.size w w' := by
  rcases chk_cases l s with h | h
  · obtain ⟨h40, h1, h8⟩ := chk_zero h
    rw [fifoB_ok h, fifoL_ok h, h]
    obtain ⟨n, rfl⟩ : ∃ n : Nat, s = n := ⟨s.toNat, by omega⟩
    rw [Int.toNat_natCast]
    by_cases hl : l = []
    · subst hl
      refine (fifo_none v n w hv (by omega) (by omega)).mono ?_
      rintro e w' ⟨rfl, rfl⟩
      exact ⟨_, _, rfl, OwnB.nil _ _, by simpa [came, lastn] using OwnI.nil _ _, Below.refl _ _⟩
    · exact fifo_ok v l n w hv h h40 (by omega) (by omega) (List.length_pos_iff.2 hl)
  · have hne : chk l s ≠ 0 := by omega
    rw [fifoB_bad hne, fifoL_bad hne]
    refine (fifo_err v l s w hv (chk l s) h rfl).mono ?_
    rintro e w' ⟨rfl, rfl⟩
    exact ⟨_, _, rfl, OwnB.nil _ _, OwnI.nil _ _, Below.refl _ _⟩
end Go.Proofs.Ytldeonnbpfkmoaa
