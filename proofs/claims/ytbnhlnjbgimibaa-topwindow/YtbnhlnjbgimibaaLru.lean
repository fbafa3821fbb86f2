/- The walk of lru.Run. -/
import Derived.Test.YtbnhlnjbgimibaaFront
import Derived.Test.YtbnhlnjbgimibaaCheck
import Derived.Test.YtbnhlnjbgimibaaIndex
namespace Go.Proofs.Ytbnhlnjbgimibaa
open Go.RowKit Go.Sort

/-- Run's relation: the rows behind k requests. -/
def LruRel (w : World) (s : Nat) (l : List Int) (vb vh i : Value) (wr : World) : Prop :=
  ∃ k : Nat, k ≤ l.length ∧ i = .int .i64 k ∧ OwnB wr w.heap.size vb (hits s l k) ∧ OwnI wr w.heap.size vh ((full (l.take k)).take s) ∧ Below w.heap.size w wr

theorem lru_start (w : World) (s : Nat) (l : List Int) : LruRel w s l (.slice none 0 0) (.slice none 0 0) (.int .i64 0) w :=
  ⟨0, Nat.zero_le _, rfl, OwnB.nil _ _, by simpa [full, mru] using OwnI.nil _ _, Below.refl _ _⟩

theorem hit_eq {s k : Nat} {l held : List Int} {p : Int} (h : (full (l.take k)).take s = held) (hp : l[k]?.getD 0 = p) : decide (0 ≤ at_ held p) = hitAt s l k := by
  rw [at_neg, hitAt, h, hp]

set_option maxHeartbeats 1000000 in
theorem lru_ok (v : Value) (l : List Int) (s : Nat) (w : World) (hv : IsInts w v l) (hc0 : chk l s = 0) (hl40 : l.length ≤ 40) (hs1 : 1 ≤ s) (hs8 : s ≤ 8) (hpos : 0 < l.length) :
    Calls Try.prog 13 #[v, .int .i64 s] w fun e w' => ∃ vb vh, e = .returned (.tuple #[vb, vh, .nilIface]) ∧ OwnB w' w.heap.size vb (hits s l l.length) ∧ OwnI w' w.heap.size vh ((full l).take s) ∧ Below w.heap.size w w' := by
  have HV : Hid (IsInts w v l) := hv
  rcases hv with ⟨rfl, _⟩ | ⟨b, off, cap, rfl, _, hlc, hcap, hc⟩
  · simp at hpos
  have HC : Hid (∀ j, j < l.length → w.cell? ⟨b, off + j, none⟩ = some (.int .i64 (l[j]?.getD 0))) := hc
  have HCK : Hid (chk l s = 0) := hc0
  have hbB : b < w.heap.size := World.block_lt_of_cell? w _ (hc 0 hpos)
  obtain ⟨i0, hi, hz0, hz1, hz2⟩ := info_parts Try.infoB
  have HI : Hid (Try.prog.info? 4 = some i0 ∧ i0.zero = some (.bool false) ∧ i0.size = 1 ∧ i0.bytes = 1) := ⟨hi, hz0, hz1, hz2⟩
  clear hc hc0 hi hz0 hz1 hz2
  unfold maxLen at hcap
  go_enter Try.func13, Try.ntmps13
  go_wp2_with (go_at_call 19; go_must (refine (check_any _ l s _ HV.out).mono ?_; rintro e w' ⟨rfl, hw⟩; have hw := hw.symm; subst hw; rw [HCK.out]; simp only [errV, if_true]))
  go_loopw [8, 9, 11, 12, 21] (fun vb vh _ _ i wr => LruRel w s l vb vh i wr) (fun _ _ _ _ i _ => l.length - (intOf i).toNat)
  case atStart => exact lru_start w s l
  case round =>
    obtain ⟨k, hk, rfl, hob, hoh, hbel⟩ := hrel
    obtain ⟨ab, bcp, hvb⟩ := hob.form
    rw [hits_length] at hvb
    subst hvb
    have HB : Hid (OwnB wr w.heap.size (.slice ab k bcp) (hits s l k)) := hob
    clear hob
    by_cases hlt : k < l.length
    · have hck : wr.cell? ⟨b, off + k, none⟩ = some (.int .i64 (l[k]?.getD 0)) := (hbel.cell (by exact hbB)).trans (HC.out k hlt)
      have HF : Hid (front s ((full (l.take k)).take s) (l[k]?.getD 0) = (full (l.take (k+1))).take s) := front_full hs1 hlt
      have HLS : Hid (((full (l.take k)).take s).length ≤ s) := by unfold Hid; rw [List.length_take]; omega
      generalize hheld : (full (l.take k)).take s = held at *
      generalize hp : l[k]?.getD 0 = p at *
      have HH : Hid (decide (0 ≤ at_ held p) = hitAt s l k) := hit_eq hheld hp
      have HO : Hid (OwnI wr w.heap.size u9 held) := hoh
      clear hheld hp hoh
      generalize hat : at_ held p = a0 at *
      have HAT : Hid (at_ held p = a0) := hat
      clear hat
      go_wp2_with (first | (go_at_call 20; go_must (refine (index_any _ held p _ HO.out.isInts).mono ?_; rintro e w' ⟨rfl, hw⟩; have hw := hw.symm; subst hw; rw [HAT.out])) | (go_at_call 21; go_must (rw [← HAT.out]; refine (front_any w.heap.size _ held p s _ (by have := HOW.2.2.out.size; omega) HOW.2.1.out HLS.out hs1 hs8).mono ?_; rintro e w2 ⟨vh', rfl, hO2, hK2⟩; have HO2 : Hid (OwnI w2 w.heap.size vh' (front s held p)) := hO2; have HK2 : Hid (Keeps w.heap.size w1 w2) := hK2; clear hO2 hK2)) | (at_builtin; go_must (refine wpList_append_own _ rfl _ _ 33 rfl w.heap.size 4 i0 (.bool false) 1 1 Try.underlying33 HI.out.1 HI.out.2.1 HI.out.2.2.1 HI.out.2.2.2 rfl (by decide) _ k ((hits s l k).map Value.bool) rfl (World.ownsRow.alloc (HB.out.rows (hits_length s l k) rfl) _) ⟨wr.heap.size, 0, none⟩ 1 1 [.bool (decide (0 ≤ a0))] rfl rfl (by exact new_one _ _ _) (one_cellB _) (by unfold maxLen; omega) (by omega) (by have := hbel.size; simp; omega) ?_; intro vb' w1 hown' hgrow _; have HOW := bool_append HB.out (hits_length s l k) HO.out hbel (Nat.le_refl _) hown' hgrow; have HOW := And.intro (show Hid _ from HOW.1) (And.intro (show Hid _ from HOW.2.1) (show Hid _ from HOW.2.2)); clear hown' hgrow)))
      go_roundw
      case rel => exact ⟨k + 1, by omega, by go_num, by rw [hits_succ, ← HH.out]; exact HK2.out.1 _ _ HOW.1.out, by rw [← HF.out]; exact HO2.out, HK2.out.2 _ (Nat.le_refl _) HOW.2.2.out⟩
      case measure => simp [intOf]; omega
    · have hkl : k = l.length := by omega
      have HB2 : Hid (OwnB wr w.heap.size (.slice ab k bcp) (hits s l l.length)) := by rw [← hkl]; exact HB
      have HO : Hid (OwnI wr w.heap.size u9 ((full l).take s)) := by rw [hkl, List.take_length] at hoh; exact hoh
      clear hoh hkl HB
      go_wp2
      go_ret3
      exact ⟨_, _, rfl, HB2.out, HO.out, hbel⟩

theorem lru_none (v : Value) (s : Nat) (w : World) (hv : IsInts w v []) (hs1 : 1 ≤ s) (hs8 : s ≤ 8) :
    Calls Try.prog 13 #[v, .int .i64 s] w fun e w' => e = .returned (.tuple #[.slice none 0 0, .slice none 0 0, .nilIface]) ∧ w' = w := by
  have HV : Hid (IsInts w v []) := hv
  have HCK : Hid (chk [] s = 0) := chk_ok (by simp) (by simp) ⟨by omega, by omega⟩
  rcases hv with ⟨_, ao, cap, rfl, hcap⟩ | ⟨b, off, cap, rfl, hpos, _⟩
  · go_enter Try.func13, Try.ntmps13
    go_wp2_with (go_at_call 19; go_must (refine (check_any _ [] s _ HV.out).mono ?_; rintro e w' ⟨rfl, hw⟩; have hw := hw.symm; subst hw; rw [HCK.out]; simp only [errV, if_true]))
    go_loop [8, 9, 21] (fun b h i => b = .slice none 0 0 ∧ h = .slice none 0 0 ∧ i = .int .i64 0) (fun _ _ _ => 0)
    case atStart => exact ⟨rfl, rfl, rfl⟩
    case round =>
      obtain ⟨rfl, rfl, rfl⟩ := hrel
      go_wp2
      go_ret3
      exact ⟨rfl, rfl⟩
  · simp at hpos

theorem lru_err (v : Value) (l : List Int) (s : Int) (w : World) (hv : IsInts w v l) (n : Nat) (hn : n = 1 ∨ n = 4) (hc : chk l s = n) :
    Calls Try.prog 13 #[v, .int .i64 s] w fun e w' => e = .returned (.tuple #[.slice none 0 0, .slice none 0 0, errV n]) ∧ w' = w := by
  have HV : Hid (IsInts w v l) := hv
  have HCK : Hid (chk l s = n) := hc
  clear hc hv
  rcases hn with rfl | rfl
  all_goals
    go_enter Try.func13, Try.ntmps13
    go_wp2_with (go_at_call 19; go_must (refine (check_any _ l s _ HV.out).mono ?_; rintro e w' ⟨rfl, hw⟩; have hw := hw.symm; subst hw; rw [HCK.out]; simp only [errV]))
    go_ret3
    exact ⟨rfl, rfl⟩

/-- What lru.Run answers. -/
theorem lru_any (v : Value) (l : List Int) (s : Int) (w : World) (hv : IsInts w v l) :
    Calls Try.prog 13 #[v, .int .i64 s] w fun e w' => ∃ vb vh, e = .returned (.tuple #[vb, vh, errV (chk l s)]) ∧ OwnB w' w.heap.size vb (lruB l s) ∧ OwnI w' w.heap.size vh (lruL l s) ∧ Below w.heap.size w w' := by
  rcases chk_cases l s with h | h
  · obtain ⟨h40, h1, h8⟩ := chk_zero h
    rw [lruB_ok h, lruL_ok h, h]
    obtain ⟨n, rfl⟩ : ∃ n : Nat, s = n := ⟨s.toNat, by omega⟩
    rw [Int.toNat_natCast]
    by_cases hl : l = []
    · subst hl
      refine (lru_none v n w hv (by omega) (by omega)).mono ?_
      rintro e w' ⟨rfl, rfl⟩
      exact ⟨_, _, rfl, OwnB.nil _ _, by simpa [full, mru] using OwnI.nil _ _, Below.refl _ _⟩
    · exact lru_ok v l n w hv h h40 (by omega) (by omega) (List.length_pos_iff.2 hl)
  · have hne : chk l s ≠ 0 := by omega
    rw [lruB_bad hne, lruL_bad hne]
    refine (lru_err v l s w hv (chk l s) h rfl).mono ?_
    rintro e w' ⟨rfl, rfl⟩
    exact ⟨_, _, rfl, OwnB.nil _ _, OwnI.nil _ _, Below.refl _ _⟩
end Go.Proofs.Ytbnhlnjbgimibaa
