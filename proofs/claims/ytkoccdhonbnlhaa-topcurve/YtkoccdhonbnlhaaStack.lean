/- The walk of stack.Depths. -/
import Derived.Test.YtkoccdhonbnlhaaStack1
import Derived.Test.YtkoccdhonbnlhaaIndex
import Derived.Test.YtkoccdhonbnlhaaTri
import Derived.Test.YtkoccdhonbnlhaaCheck
namespace Go.Proofs.Ytkoccdhonbnlhaa
open Go.RowKit Go.Sort

/-- Depths' relation: the rows behind k requests. -/
def DepthRel (w : World) (l : List Int) (vd vp i : Value) (wr : World) : Prop :=
  ∃ k : Nat, k ≤ l.length ∧ i = .int .i64 k ∧ Tri w wr (.slice none 0 0) vd vp [] (depthsOf l k) (full (l.take k))
theorem depth_start (w : World) (l : List Int) : DepthRel w l (.slice none 0 0) (.slice none 0 0) (.int .i64 0) w :=
  ⟨0, Nat.zero_le _, rfl, by simpa [depthsOf, full, mru] using Tri.start w⟩

set_option maxHeartbeats 1000000 in
theorem depths_ok (v : Value) (l : List Int) (w : World) (hv : IsInts w v l) (hc0 : chk l 8 = 0) (hl40 : l.length ≤ 40) (hpos : 0 < l.length) :
    Calls Try.prog 8 #[v] w fun e w' => ∃ vd, e = .returned (.tuple #[vd, .nilIface]) ∧ OwnI w' w.heap.size vd (depthsOf l l.length) ∧ Below w.heap.size w w' := by
  have HV : Hid (IsInts w v l) := hv
  rcases hv with ⟨rfl, _⟩ | ⟨b, off, cap, rfl, _, hlc, hcap, hc⟩
  · simp at hpos
  have HC : Hid (∀ j, j < l.length → w.cell? ⟨b, off + j, none⟩ = some (.int .i64 (l[j]?.getD 0))) := hc
  have HCK : Hid (chk l 8 = 0) := hc0
  have hbB : b < w.heap.size := World.block_lt_of_cell? w _ (hc 0 hpos)
  obtain ⟨i0, hi, hz0, hz1, hz2⟩ := info_parts Try.info3
  have HI : Hid (Try.prog.info? 3 = some i0 ∧ i0.zero = some (.int .i64 0) ∧ i0.size = 1 ∧ i0.bytes = 8) := ⟨hi, hz0, hz1, hz2⟩
  clear hc hc0 hi hz0 hz1 hz2
  unfold maxLen at hcap
  go_enter Try.func8, Try.ntmps8
  go_wp2_with (go_at_call 18; go_must (refine (check_any _ l 8 _ HV.out).mono ?_; rintro e w' ⟨rfl, hw⟩; have hw := hw.symm; subst hw; rw [HCK.out]; simp only [errV, if_true]))
  go_loopw [5, 6, 8, 9, 17] (fun vd vp _ _ i wr => DepthRel w l vd vp i wr) (fun _ _ _ _ i _ => l.length - (intOf i).toNat)
  case atStart => exact depth_start w l
  case round =>
    obtain ⟨k, hk, rfl, hT⟩ := hrel
    by_cases hlt : k < l.length
    · have hck : wr.cell? ⟨b, off + k, none⟩ = some (.int .i64 (l[k]?.getD 0)) := (hT.below.cell (by exact hbB)).trans (HC.out k hlt)
      obtain ⟨ad, dcp, hvd⟩ := hT.p.form
      rw [depthsOf_length] at hvd
      subst hvd
      have HT : Hid (Tri w wr (.slice none 0 0) (.slice ad k dcp) u6 [] (depthsOf l k) (full (l.take k))) := hT
      have HF : Hid (full (l.take (k+1)) = (l[k]?.getD 0) :: (full (l.take k)).erase (l[k]?.getD 0)) := full_succ hlt
      have HD : Hid (depthsOf l (k+1) = depthsOf l k ++ [at_ (full (l.take k)) (l[k]?.getD 0) + 1]) := by unfold Hid; rw [depthsOf_succ, deep_at]
      have HL : Hid ((full (l.take k)).length ≤ 100) := by unfold Hid; have := pile_short l k; omega
      have hab := at_bounds (full (l.take k)) (l[k]?.getD 0)
      have hL := HL.out
      have HN : Hid ((depthsOf l k).length = k) := depthsOf_length l k
      clear hT
      generalize full (l.take k) = F at *
      generalize l[k]?.getD 0 = p at *
      generalize hat : at_ F p = a0 at *
      have HAT : Hid (at_ F p = a0) := hat
      have ha1 : -1 ≤ a0 := hab.1
      have ha2 : a0 ≤ 100 := by omega
      clear hat hab hL
      go_wp2_with (first | (go_at_call 19; go_must (refine (index_any _ F p _ HT.out.a.isInts).mono ?_; rintro e w' ⟨rfl, hw⟩; have hw := hw.symm; subst hw; rw [HAT.out])) | (go_at_call 20; go_must (rw [← HAT.out]; refine (top_any w.heap.size _ F p _ HT1.out.below.size HT1.out.a HL.out).mono ?_; rintro e w2 ⟨vp', rfl, hI2⟩; have HT2 : Hid (Tri w w2 (.slice none 0 0) vd' vp' [] (depthsOf l k ++ [a0 + 1]) (p :: F.erase p)) := HT1.out.changed hI2.1 hI2.2.1 hI2.2.2; clear hI2)) | (at_builtin; go_must (refine wpList_append_own_at _ rfl _ _ 22 rfl w.heap.size 3 i0 (.int .i64 0) 1 8 Try.underlying22 HI.out.1 HI.out.2.1 HI.out.2.2.1 HI.out.2.2.2 rfl (by decide) _ k ((depthsOf l k).map (Value.int .i64)) rfl (World.ownsRow.alloc (HT.out.p.rows HN.out rfl) _) ⟨wr.heap.size, 0, none⟩ 1 1 [.int .i64 (a0 + 1)] rfl rfl (by exact new_one _ _ _) (one_cell _) (by unfold maxLen; omega) (by omega) (by have := HT.out.below.size; simp; omega) ?_; intro vd' w1 hown' hgrow _ hat; have HT1 : Hid (Tri w w1 (.slice none 0 0) vd' u6 [] (depthsOf l k ++ [a0 + 1]) F) := HT.out.pages HN.out hown' hgrow hat; clear hown' hgrow hat)))
      go_roundw
      case rel => exact ⟨k + 1, by omega, by go_num, by rw [HD.out, HF.out]; exact HT2.out⟩
      case measure => simp [intOf]; omega
    · have hkl : k = l.length := by omega
      have HO : Hid (OwnI wr w.heap.size u5 (depthsOf l l.length)) := by rw [hkl] at hT; exact hT.p
      have hbel := hT.below
      clear hT hkl
      go_wp2
      go_ret2
      exact ⟨_, rfl, HO.out, hbel⟩

theorem depths_none (v : Value) (w : World) (hv : IsInts w v []) :
    Calls Try.prog 8 #[v] w fun e w' => e = .returned (.tuple #[.slice none 0 0, .nilIface]) ∧ w' = w := by
  have HV : Hid (IsInts w v []) := hv
  have HCK : Hid (chk [] 8 = 0) := by unfold Hid; decide
  rcases hv with ⟨_, ao, cap, rfl, hcap⟩ | ⟨b, off, cap, rfl, hpos, _⟩
  · go_enter Try.func8, Try.ntmps8
    go_wp2_with (go_at_call 18; go_must (refine (check_any _ [] 8 _ HV.out).mono ?_; rintro e w' ⟨rfl, hw⟩; have hw := hw.symm; subst hw; rw [HCK.out]; simp only [errV, if_true]))
    go_loop [5, 6, 17] (fun b h i => b = .slice none 0 0 ∧ h = .slice none 0 0 ∧ i = .int .i64 0) (fun _ _ _ => 0)
    case atStart => exact ⟨rfl, rfl, rfl⟩
    case round =>
      obtain ⟨rfl, rfl, rfl⟩ := hrel
      go_wp2
      go_ret2
      exact ⟨rfl, rfl⟩
  · simp at hpos

theorem depths_err (v : Value) (l : List Int) (w : World) (hv : IsInts w v l) (n : Nat) (hn : n = 1 ∨ n = 4) (hc : chk l 8 = n) :
    Calls Try.prog 8 #[v] w fun e w' => e = .returned (.tuple #[.slice none 0 0, errV n]) ∧ w' = w := by
  have HV : Hid (IsInts w v l) := hv
  have HCK : Hid (chk l 8 = n) := hc
  clear hc hv
  rcases hn with rfl | rfl
  all_goals
    go_enter Try.func8, Try.ntmps8
    go_wp2_with (go_at_call 18; go_must (refine (check_any _ l 8 _ HV.out).mono ?_; rintro e w' ⟨rfl, hw⟩; have hw := hw.symm; subst hw; rw [HCK.out]; simp only [errV]))
    go_ret2
    exact ⟨rfl, rfl⟩

/-- What stack.Depths answers. -/
theorem depths_any (v : Value) (l : List Int) (w : World) (hv : IsInts w v l) :
    Calls Try.prog 8 #[v] w fun e w' => ∃ vd, e = .returned (.tuple #[vd, errV (chk l 8)]) ∧ OwnI w' w.heap.size vd (stkD l) ∧ Below w.heap.size w w' := by
  rcases chk_cases l 8 with h | h
  · obtain ⟨h40, _, _⟩ := chk_zero h
    rw [stkD_ok h, h]
    by_cases hl : l = []
    · subst hl
      refine (depths_none v w hv).mono ?_
      rintro e w' ⟨rfl, rfl⟩
      exact ⟨_, rfl, OwnI.nil _ _, Below.refl _ _⟩
    · exact depths_ok v l w hv h h40 (List.length_pos_iff.2 hl)
  · have hne : chk l 8 ≠ 0 := by omega
    rw [stkD_bad hne]
    refine (depths_err v l w hv (chk l 8) h rfl).mono ?_
    rintro e w' ⟨rfl, rfl⟩
    exact ⟨_, rfl, OwnI.nil _ _, Below.refl _ _⟩
end Go.Proofs.Ytkoccdhonbnlhaa
