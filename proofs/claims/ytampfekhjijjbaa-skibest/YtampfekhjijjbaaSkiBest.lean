/- SkiBest is proved: for every price and every day of buying, in whatever memory and on every schedule, it returns true: whenever one buys, there is a number of days for which it is as bad. No condition. -/
import Derived.Test.YtampfekhjijjbaaSkiFact
import Derived.Test.YtampfekhjijjbaaLawIn2
import Derived.Test.YtampfekhjijjbaaLawkit
namespace Go.Proofs.Ytampfekhjijjbaa
open Go.ChangeShapes Go.WideShapes Go.ChangeAt Go.RowKit

theorem buy_bad {p b : Int} (h : FineS p b ∧ FineB b) : (2 * p - 1) * leastS p b ≤ costS p b b * p ∧ (0 ≤ leastS p b ∧ leastS p b ≤ 2000) ∧ 0 ≤ costS p b b ∧ costS p b b ≤ 2000 := by
  rcases cost_is h with ⟨h1, e1⟩ | ⟨h1, e1⟩
  · omega
  rcases least_is h.1 with ⟨h2, e2⟩ | ⟨h2, e2⟩ <;> (obtain ⟨hS, hB⟩ := h; unfold FineS at hS; unfold FineB at hB)
  · rw [e1, e2]
    refine ⟨?_, by omega, by omega⟩
    have h3 : 0 ≤ (p - 1) * (p - b) := Int.mul_nonneg (by omega) (by omega)
    have h4 : (p - 1) * (p - b) = (b - 1 + p) * p - (2 * p - 1) * b := by
      simp only [Int.sub_mul, Int.mul_sub, Int.add_mul, Int.one_mul, Int.mul_assoc, Int.mul_comm b p]
      omega
    omega
  · rw [e1, e2]
    refine ⟨?_, by omega, by omega⟩
    exact Int.mul_le_mul_of_nonneg_right (by omega) (by omega)
theorem err_one {p d : Int} (h : chkS p d ≠ 0) : errV (chkS p d) = .iface 31 (.int .i64 1) := by
  rcases chkS_cases p d with ⟨_, e⟩ | ⟨_, e⟩
  · exact absurd e h
  · rw [e]; rfl
set_option maxHeartbeats 1000000 in
set_option maxRecDepth 100000 in
theorem skiBest_any (p b : Int) (w : World) : Calls Try.prog 4 #[.int .i64 p, .int .i64 b] w fun e w' => e = .returned (.bool true) ∧ Below w.heap.size w w' := by
  rcases chkB_cases p b b with ⟨h, hc⟩ | ⟨h, hc⟩
  · have HC : Hid (chkB p b b = 0) := hc
    have HS : Hid (chkS p b = 0) := by unfold Hid chkS; rw [if_pos h.1]
    obtain ⟨h1, h2, h3, h4⟩ := buy_bad h
    obtain ⟨hS, hB⟩ := h
    unfold FineS at hS
    obtain ⟨⟨hp1, hp2⟩, hd1, hd2⟩ := hS
    generalize ha : costS p b b = a at *
    generalize hb : leastS p b = c at *
    have HA : Hid (costS p b b = a) := ha
    have HB : Hid (leastS p b = c) := hb
    obtain ⟨x, hx⟩ : ∃ x, a * p = x := ⟨_, rfl⟩
    obtain ⟨q, hq⟩ : ∃ q, 2 * p - 1 = q := ⟨_, rfl⟩
    obtain ⟨y, hy⟩ : ∃ y, q * c = y := ⟨_, rfl⟩
    rw [hq, hy, hx] at h1
    have e1 : IntKind.i64.wrap (a * p) = x := by rw [wrap_in (mul_in (by omega) (by omega))]; exact hx
    have e2 : IntKind.i64.wrap (q * c) = y := by rw [wrap_in (mul_in (by omega) (by omega))]; exact hy
    have e1' : wrap64 (a * p) = x := by unfold wrap64; rw [← IntKind.wrap_i64]; exact e1
    have e2' : wrap64 (q * c) = y := by unfold wrap64; rw [← IntKind.wrap_i64]; exact e2
    have hq' : IntKind.i64.wrap (IntKind.i64.wrap (2 * p) - 1) = q := by rw [IntKind.wrap_i64, IntKind.wrap_i64]; omega
    clear hx hy ha hb hc hB
    go_enter Try.func4, Try.ntmps4
    go_wp2_with (first | (go_at_call 6; go_must (refine (sfact_any _).mono ?_; rintro e w' ⟨rfl, hw⟩; have hw := hw.symm; subst hw)) | (go_at_call 9; go_must (refine (scost_any p b b _).mono ?_; rintro e w' ⟨rfl, hw⟩; have hw := hw.symm; subst hw; rw [HC.out, HA.out, show errV 0 = .nilIface from rfl])) | (go_at_call 8; go_must (refine (sleast_any p b _).mono ?_; rintro e w' ⟨rfl, hw⟩; have hw := hw.symm; subst hw; rw [HS.out, HB.out, show errV 0 = .nilIface from rfl])))
    go_ret
    exact ⟨rfl, Below.refl _ _⟩
  · have HC : Hid (chkB p b b = 1) := hc
    have hin : within p 1 20 = false ∨ (within p 1 20 = true ∧ within b 1 1000 = false) := by
      unfold FineS FineB at h
      unfold within
      by_cases h1 : 1 ≤ p ∧ p ≤ 20
      · right
        refine ⟨by simp [h1], ?_⟩
        simp; omega
      · left
        simp; omega
    generalize hl : leastS p b = c
    generalize he : errV (chkS p b) = ev
    have HL : Hid (leastS p b = c) := hl
    have HE : Hid (errV (chkS p b) = ev) := he
    clear hc h hl he
    rcases hin with hi | ⟨hi, hj⟩
    · have HI : Hid (within p 1 20 = false) := hi
      clear hi
      go_enter Try.func4, Try.ntmps4
      go_wp2_with (first | (go_at_call 6; go_must (refine (sfact_any _).mono ?_; rintro e w' ⟨rfl, hw⟩; have hw := hw.symm; subst hw)) | (go_at_call 9; go_must (refine (scost_any p b b _).mono ?_; rintro e w' ⟨rfl, hw⟩; have hw := hw.symm; subst hw; rw [HC.out, show errV 1 = .iface 31 (.int .i64 1) from rfl])) | (go_at_call 8; go_must (refine (sleast_any p b _).mono ?_; rintro e w' ⟨rfl, hw⟩; have hw := hw.symm; subst hw; rw [HE.out, HL.out])) | (go_at_call 10; go_must (refine (within_any p 1 20 _).mono ?_; rintro e w' ⟨rfl, hw⟩; have hw := hw.symm; subst hw; rw [HI.out])))
      go_ret
      exact ⟨rfl, Below.refl _ _⟩
    · have HI : Hid (within p 1 20 = true) := hi
      have HJ : Hid (within b 1 1000 = false) := hj
      clear hi hj
      go_enter Try.func4, Try.ntmps4
      go_wp2_with (first | (go_at_call 6; go_must (refine (sfact_any _).mono ?_; rintro e w' ⟨rfl, hw⟩; have hw := hw.symm; subst hw)) | (go_at_call 9; go_must (refine (scost_any p b b _).mono ?_; rintro e w' ⟨rfl, hw⟩; have hw := hw.symm; subst hw; rw [HC.out, show errV 1 = .iface 31 (.int .i64 1) from rfl])) | (go_at_call 8; go_must (refine (sleast_any p b _).mono ?_; rintro e w' ⟨rfl, hw⟩; have hw := hw.symm; subst hw; rw [HE.out, HL.out])) | (go_at_call 10; fail))
      refine (within_any p 1 20 _).mono ?_
      rintro e w' ⟨rfl, hw⟩
      have hw := hw.symm
      subst hw
      rw [HI.out]
      go_wp2_with (go_at_call 10; go_must (refine (within_any b 1 1000 _).mono ?_; rintro e w' ⟨rfl, hw⟩; have hw := hw.symm; subst hw; rw [HJ.out]))
      go_ret
      exact ⟨rfl, Below.refl _ _⟩

theorem skiBest_own : ownKnob Try.prog.godebug = none := by kernel_rfl
theorem skiBest_laidOut : laidOutB Try.prog = true := by kernel_rfl

set_option maxRecDepth 100000 in
theorem skiBest_lifted (os : Os) (started : os.Started) (H : Type) (enc : TypeId × Value → H) :
    ReturnsInHanded {} Try.checked os 4 .any (Rows.skiBestSpec.pre6 enc Try.prog Try.f4 Rows.skiBestRow.domain false) (Rows.skiBestSpec.post enc Try.prog Try.f4 false true false false) := by
  refine returnsInHanded_of_change (C := Try.checked) skiBest_own started (by kernel_rfl) Try.func4
    (ChangeSpec.witness6 (enc := enc) (C := Try.checked) false ⟨#[], #[.int .i64 0, .int .i64 0], []⟩ 8 (by kernel_rfl) (by kernel_rfl) (by kernel_rfl) (by kernel_rfl)) ?_
  intro W base args ds gs before hval0 hW _ _
  have hval : ∀ (j : Nat) t v, Try.f4.params[j]? = some t → args[j]? = some v → Value.okWide Try.prog W .any base t v := hval0
  have hW' : DataW.Whole enc Try.prog Try.f4.params.toList Rows.skiBestSpec.vars false W args.toList ds gs before := hW
  obtain ⟨p, q, hA0, hV, rfl, hfz, hnd⟩ := hW
  have hA : DataW.TrodAll enc Try.prog W 0 (fun _ => true) true Try.f4.params.toList args.toList ds p := hA0
  rw [Try.params4] at hA hval
  obtain ⟨v0, vs0, d0, ds0, p0, q0, hargs, rfl, rfl, h0, r0⟩ := trodAll_cons hA
  obtain ⟨v1, vs1, d1, ds1, p1, q1, rfl, rfl, rfl, h1, r1⟩ := trodAll_cons r0
  obtain ⟨rfl, rfl, rfl⟩ := trodAll_nil r1
  obtain rfl : args = #[v0, v1] := by cases args; simp_all
  obtain ⟨rfl, rfl⟩ := trodVars_none hV
  obtain ⟨n0, rfl, rfl, rfl, wn0⟩ := open_int Try.underlying3 (hval 0 3 v0 rfl rfl) h0
  obtain ⟨n1, rfl, rfl, rfl, wn1⟩ := open_int Try.underlying3 (hval 1 3 v1 rfl rfl) h1
  clear hA0 hval0
  refine (skiBest_any n0 n1 W ).mono fun e W' ⟨he, hb⟩ => ?_
  subst he
  exact ⟨_, rfl, law_post hW' hb skiBest_laidOut rfl (by kernel_rfl) (by kernel_rfl) Try.underlying4 rfl rfl rfl⟩

theorem skiBest_holds : Rows.SkiBestSaid :=
  OpenClaim.holds_of_wide 4 Try.f4 rfl rfl rfl rfl rfl rfl rfl ⟨rfl, rfl, rfl, rfl, rfl⟩ rfl rfl rfl rfl rfl (by kernel_rfl) Try.func4 (by kernel_rfl)
    (of_decide_eq_true (by kernel_rfl)) (by unfold Func.isWrapper; first | (rw [if_pos (by decide +kernel)]; kernel_rfl) | (rw [if_neg (by decide +kernel)]; exact ⟨rfl, rfl⟩))
    (fun os started H enc _ => skiBest_lifted os started H enc)
end Go.Proofs.Ytampfekhjijjbaa
