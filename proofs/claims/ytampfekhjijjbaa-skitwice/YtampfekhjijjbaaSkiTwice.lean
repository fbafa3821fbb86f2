/- SkiTwice is proved: for every price and every number of days, in whatever memory and on every schedule, it returns true: who buys when renting was as dear pays less than twice the least. No condition. -/
import Derived.Test.YtampfekhjijjbaaSkiFact
import Derived.Test.YtampfekhjijjbaaLawkit
namespace Go.Proofs.Ytampfekhjijjbaa
open Go.ChangeShapes Go.WideShapes Go.ChangeAt Go.RowKit

theorem even_twice {p d : Int} (h : FineS p d) : costS p d p * p ≤ (2 * p - 1) * leastS p d ∧ leastS p d ≤ costS p d p ∧ 0 ≤ leastS p d ∧ costS p d p ≤ 1020 := by
  have hB : FineB p := by unfold FineS at h; unfold FineB; omega
  rcases cost_is ⟨h, hB⟩ with ⟨h1, e1⟩ | ⟨h1, e1⟩ <;> rcases least_is h with ⟨h2, e2⟩ | ⟨h2, e2⟩ <;> unfold FineS at h
  · rw [e1, e2]
    refine ⟨?_, by omega, by omega, by omega⟩
    rw [Int.mul_comm d p]
    exact Int.mul_le_mul_of_nonneg_right (by omega) (by omega)
  · omega
  · omega
  · rw [e1, e2]
    refine ⟨?_, by omega, by omega, by omega⟩
    exact Int.mul_le_mul_of_nonneg_right (by omega) (by omega)
set_option maxHeartbeats 1000000 in
set_option maxRecDepth 100000 in
theorem skiTwice_any (p d : Int) (w : World) : Calls Try.prog 3 #[.int .i64 p, .int .i64 d] w fun e w' => e = .returned (.bool true) ∧ Below w.heap.size w w' := by
  have HEV : Hid (chkB p d p = chkS p d) := chkB_even p d
  rcases chkS_cases p d with ⟨h, hc⟩ | ⟨h, hc⟩
  · have HC : Hid (chkS p d = 0) := hc
    obtain ⟨h1, h2, h3, h4⟩ := even_twice h
    have hS := h
    unfold FineS at hS
    obtain ⟨⟨hp1, hp2⟩, hd1, hd2⟩ := hS
    generalize ha : costS p d p = a at *
    generalize hb : leastS p d = b at *
    have HA : Hid (costS p d p = a) := ha
    have HB : Hid (leastS p d = b) := hb
    obtain ⟨x, hx⟩ : ∃ x, a * p = x := ⟨_, rfl⟩
    obtain ⟨q, hq⟩ : ∃ q, 2 * p - 1 = q := ⟨_, rfl⟩
    obtain ⟨y, hy⟩ : ∃ y, q * b = y := ⟨_, rfl⟩
    rw [hq, hy, hx] at h1
    have e1 : IntKind.i64.wrap (a * p) = x := by rw [wrap_in (mul_in (by omega) (by omega))]; exact hx
    have e2 : IntKind.i64.wrap (q * b) = y := by rw [wrap_in (mul_in (by omega) (by omega))]; exact hy
    have e1' : wrap64 (a * p) = x := by unfold wrap64; rw [← IntKind.wrap_i64]; exact e1
    have e2' : wrap64 (q * b) = y := by unfold wrap64; rw [← IntKind.wrap_i64]; exact e2
    have hq' : IntKind.i64.wrap (IntKind.i64.wrap (2 * p) - 1) = q := by rw [IntKind.wrap_i64, IntKind.wrap_i64]; omega
    clear hx hy
    clear ha hb hc h
    go_enter Try.func3, Try.ntmps3
    go_wp2_with (first | (go_at_call 6; go_must (refine (sfact_any _).mono ?_; rintro e w' ⟨rfl, hw⟩; have hw := hw.symm; subst hw)) | (go_at_call 7; go_must (refine (seven_any p d _).mono ?_; rintro e w' ⟨rfl, hw⟩; have hw := hw.symm; subst hw; rw [HEV.out, HC.out, HA.out, show errV 0 = .nilIface from rfl])) | (go_at_call 8; go_must (refine (sleast_any p d _).mono ?_; rintro e w' ⟨rfl, hw⟩; have hw := hw.symm; subst hw; rw [HC.out, HB.out, show errV 0 = .nilIface from rfl])))
    go_ret
    exact ⟨rfl, Below.refl _ _⟩
  · have HC : Hid (chkS p d = 1) := hc
    clear hc h
    go_enter Try.func3, Try.ntmps3
    go_wp2_with (first | (go_at_call 6; go_must (refine (sfact_any _).mono ?_; rintro e w' ⟨rfl, hw⟩; have hw := hw.symm; subst hw)) | (go_at_call 7; go_must (refine (seven_any p d _).mono ?_; rintro e w' ⟨rfl, hw⟩; have hw := hw.symm; subst hw; rw [HEV.out, HC.out, show errV 1 = .iface 31 (.int .i64 1) from rfl])) | (go_at_call 8; go_must (refine (sleast_any p d _).mono ?_; rintro e w' ⟨rfl, hw⟩; have hw := hw.symm; subst hw; rw [HC.out, show errV 1 = .iface 31 (.int .i64 1) from rfl])))
    go_ret
    exact ⟨rfl, Below.refl _ _⟩

theorem skiTwice_own : ownKnob Try.prog.godebug = none := by kernel_rfl
theorem skiTwice_laidOut : laidOutB Try.prog = true := by kernel_rfl

set_option maxRecDepth 100000 in
theorem skiTwice_lifted (os : Os) (started : os.Started) (H : Type) (enc : TypeId × Value → H) :
    ReturnsInHanded {} Try.checked os 3 .any (Rows.skiTwiceSpec.pre6 enc Try.prog Try.f3 Rows.skiTwiceRow.domain false) (Rows.skiTwiceSpec.post enc Try.prog Try.f3 false true false false) := by
  refine returnsInHanded_of_change (C := Try.checked) skiTwice_own started (by kernel_rfl) Try.func3
    (ChangeSpec.witness6 (enc := enc) (C := Try.checked) false ⟨#[], #[.int .i64 0, .int .i64 0], []⟩ 8 (by kernel_rfl) (by kernel_rfl) (by kernel_rfl) (by kernel_rfl)) ?_
  intro W base args ds gs before hval0 hW _ _
  have hval : ∀ (j : Nat) t v, Try.f3.params[j]? = some t → args[j]? = some v → Value.okWide Try.prog W .any base t v := hval0
  have hW' : DataW.Whole enc Try.prog Try.f3.params.toList Rows.skiTwiceSpec.vars false W args.toList ds gs before := hW
  obtain ⟨p, q, hA0, hV, rfl, hfz, hnd⟩ := hW
  have hA : DataW.TrodAll enc Try.prog W 0 (fun _ => true) true Try.f3.params.toList args.toList ds p := hA0
  rw [Try.params3] at hA hval
  obtain ⟨v0, vs0, d0, ds0, p0, q0, hargs, rfl, rfl, h0, r0⟩ := trodAll_cons hA
  obtain ⟨v1, vs1, d1, ds1, p1, q1, rfl, rfl, rfl, h1, r1⟩ := trodAll_cons r0
  obtain ⟨rfl, rfl, rfl⟩ := trodAll_nil r1
  obtain rfl : args = #[v0, v1] := by cases args; simp_all
  obtain ⟨rfl, rfl⟩ := trodVars_none hV
  obtain ⟨n0, rfl, rfl, rfl, wn0⟩ := open_int Try.underlying3 (hval 0 3 v0 rfl rfl) h0
  obtain ⟨n1, rfl, rfl, rfl, wn1⟩ := open_int Try.underlying3 (hval 1 3 v1 rfl rfl) h1
  clear hA0 hval0
  refine (skiTwice_any n0 n1 W ).mono fun e W' ⟨he, hb⟩ => ?_
  subst he
  exact ⟨_, rfl, law_post hW' hb skiTwice_laidOut rfl (by kernel_rfl) (by kernel_rfl) Try.underlying4 rfl rfl rfl⟩

theorem skiTwice_holds : Rows.SkiTwiceSaid :=
  OpenClaim.holds_of_wide 3 Try.f3 rfl rfl rfl rfl rfl rfl rfl ⟨rfl, rfl, rfl, rfl, rfl⟩ rfl rfl rfl rfl rfl (by kernel_rfl) Try.func3 (by kernel_rfl)
    (of_decide_eq_true (by kernel_rfl)) (by unfold Func.isWrapper; first | (rw [if_pos (by decide +kernel)]; kernel_rfl) | (rw [if_neg (by decide +kernel)]; exact ⟨rfl, rfl⟩))
    (fun os started H enc _ => skiTwice_lifted os started H enc)
end Go.Proofs.Ytampfekhjijjbaa
