/- SkiMore is proved: for every price, every number of days and every day of buying, in whatever memory and on every schedule, it returns true: one day more costs no less. No condition. -/
import Derived.Test.YtampfekhjijjbaaSkiFact
import Derived.Test.YtampfekhjijjbaaLawkit
namespace Go.Proofs.Ytampfekhjijjbaa
open Go.ChangeShapes Go.WideShapes Go.ChangeAt Go.RowKit

set_option maxHeartbeats 1000000 in
set_option maxRecDepth 100000 in
theorem skiMore_any (p d b : Int) (w : World) : Calls Try.prog 5 #[.int .i64 p, .int .i64 d, .int .i64 b] w fun e w' => e = .returned (.bool true) ∧ Below w.heap.size w w' := by
  rcases chkB_cases p d b with ⟨h, hc⟩ | ⟨h, hc⟩
  · have HC : Hid (chkB p d b = 0) := hc
    have HS : Hid (chkS p d = 0) := by unfold Hid chkS; rw [if_pos h.1]
    have k1 := cost_is h
    have k3 := least_is h.1
    obtain ⟨hS, hB⟩ := h
    unfold FineS at hS
    unfold FineB at hB
    obtain ⟨⟨hp1, hp2⟩, hd1, hd2⟩ := hS
    obtain ⟨hb1, hb2⟩ := hB
    rcases chkB_cases p (d+1) b with ⟨h, hc2⟩ | ⟨h, hc2⟩
    · have HC2 : Hid (chkB p (d+1) b = 0) := hc2
      have k2 := cost_is h
      generalize ha : costS p d b = x at *
      generalize hb : costS p (d+1) b = y at *
      generalize hl : leastS p d = z at *
      have HA : Hid (costS p d b = x) := ha
      have HB : Hid (costS p (d+1) b = y) := hb
      have HL : Hid (leastS p d = z) := hl
      have g1 : x ≤ y := by omega
      have g2 : z ≤ x := by omega
      have g3 : d + 1 = b ∨ (d + 1 ≠ b ∧ y = x) ∨ (d + 1 ≠ b ∧ y ≠ x ∧ d < b) := by omega
      clear k1 k2 k3 ha hb hl hc hc2 h
      rcases g3 with g | ⟨g, g4⟩ | ⟨g, g4, g5⟩
      · have gg : (d + 1 == b) = true := by simpa using g
        clear g
        go_enter Try.func5, Try.ntmps5
        go_wp2_with (first | (go_at_call 6; go_must (refine (sfact_any _).mono ?_; rintro e w' ⟨rfl, hw⟩; have hw := hw.symm; subst hw)) | (go_at_call 9; fail))
        refine (scost_any p d b _).mono ?_
        rintro e w' ⟨rfl, hw⟩
        have hw := hw.symm
        subst hw
        rw [HC.out, HA.out, show errV 0 = .nilIface from rfl]
        go_wp2_with (first | (go_at_call 9; go_must (refine (scost_any p (d+1) b _).mono ?_; rintro e w' ⟨rfl, hw⟩; have hw := hw.symm; subst hw; rw [HC2.out, HB.out, show errV 0 = .nilIface from rfl])) | (go_at_call 8; go_must (refine (sleast_any p d _).mono ?_; rintro e w' ⟨rfl, hw⟩; have hw := hw.symm; subst hw; rw [HS.out, HL.out, show errV 0 = .nilIface from rfl])))
        go_ret
        exact ⟨rfl, Below.refl _ _⟩
      · have gg : (d + 1 == b) = false := by simpa using g
        have gy : (y == x) = true := by simpa using g4
        clear g g4
        go_enter Try.func5, Try.ntmps5
        go_wp2_with (first | (go_at_call 6; go_must (refine (sfact_any _).mono ?_; rintro e w' ⟨rfl, hw⟩; have hw := hw.symm; subst hw)) | (go_at_call 9; fail))
        refine (scost_any p d b _).mono ?_
        rintro e w' ⟨rfl, hw⟩
        have hw := hw.symm
        subst hw
        rw [HC.out, HA.out, show errV 0 = .nilIface from rfl]
        go_wp2_with (first | (go_at_call 9; go_must (refine (scost_any p (d+1) b _).mono ?_; rintro e w' ⟨rfl, hw⟩; have hw := hw.symm; subst hw; rw [HC2.out, HB.out, show errV 0 = .nilIface from rfl])) | (go_at_call 8; go_must (refine (sleast_any p d _).mono ?_; rintro e w' ⟨rfl, hw⟩; have hw := hw.symm; subst hw; rw [HS.out, HL.out, show errV 0 = .nilIface from rfl])))
        go_ret
        exact ⟨rfl, Below.refl _ _⟩
      · have gg : (d + 1 == b) = false := by simpa using g
        have gy : (y == x) = false := by simpa using g4
        clear g g4
        go_enter Try.func5, Try.ntmps5
        go_wp2_with (first | (go_at_call 6; go_must (refine (sfact_any _).mono ?_; rintro e w' ⟨rfl, hw⟩; have hw := hw.symm; subst hw)) | (go_at_call 9; fail))
        refine (scost_any p d b _).mono ?_
        rintro e w' ⟨rfl, hw⟩
        have hw := hw.symm
        subst hw
        rw [HC.out, HA.out, show errV 0 = .nilIface from rfl]
        go_wp2_with (first | (go_at_call 9; go_must (refine (scost_any p (d+1) b _).mono ?_; rintro e w' ⟨rfl, hw⟩; have hw := hw.symm; subst hw; rw [HC2.out, HB.out, show errV 0 = .nilIface from rfl])) | (go_at_call 8; go_must (refine (sleast_any p d _).mono ?_; rintro e w' ⟨rfl, hw⟩; have hw := hw.symm; subst hw; rw [HS.out, HL.out, show errV 0 = .nilIface from rfl])))
        go_ret
        exact ⟨rfl, Below.refl _ _⟩
    · have HC2 : Hid (chkB p (d+1) b = 1) := hc2
      clear k1 k3 hc hc2 h
      go_enter Try.func5, Try.ntmps5
      go_wp2_with (first | (go_at_call 6; go_must (refine (sfact_any _).mono ?_; rintro e w' ⟨rfl, hw⟩; have hw := hw.symm; subst hw)) | (go_at_call 9; fail))
      refine (scost_any p d b _).mono ?_
      rintro e w' ⟨rfl, hw⟩
      have hw := hw.symm
      subst hw
      rw [HC.out, show errV 0 = .nilIface from rfl]
      go_wp2_with (first | (go_at_call 9; go_must (refine (scost_any p (d+1) b _).mono ?_; rintro e w' ⟨rfl, hw⟩; have hw := hw.symm; subst hw; rw [HC2.out, show errV 1 = .iface 31 (.int .i64 1) from rfl])) | (go_at_call 8; go_must (refine (sleast_any p d _).mono ?_; rintro e w' ⟨rfl, hw⟩; have hw := hw.symm; subst hw; rw [HS.out, show errV 0 = .nilIface from rfl])))
      go_ret
      exact ⟨rfl, Below.refl _ _⟩
  · have HC : Hid (chkB p d b = 1) := hc
    clear hc h
    generalize hd : IntKind.i64.wrap (d + 1) = d1
    have hd' : wrap64 (d + 1) = d1 := by unfold wrap64; rw [← IntKind.wrap_i64]; exact hd
    generalize hl : leastS p d = z
    generalize he : errV (chkS p d) = ev
    generalize hl2 : costS p d1 b = y
    generalize he2 : errV (chkB p d1 b) = ev2
    have HL : Hid (leastS p d = z) := hl
    have HE : Hid (errV (chkS p d) = ev) := he
    have HL2 : Hid (costS p d1 b = y) := hl2
    have HE2 : Hid (errV (chkB p d1 b) = ev2) := he2
    clear hl he hl2 he2
    go_enter Try.func5, Try.ntmps5
    go_wp2_with (first | (go_at_call 6; go_must (refine (sfact_any _).mono ?_; rintro e w' ⟨rfl, hw⟩; have hw := hw.symm; subst hw)) | (go_at_call 9; fail))
    refine (scost_any p d b _).mono ?_
    rintro e w' ⟨rfl, hw⟩
    have hw := hw.symm
    subst hw
    rw [HC.out, show errV 1 = .iface 31 (.int .i64 1) from rfl]
    go_wp2_with (first | (go_at_call 9; go_must (refine (scost_any p d1 b _).mono ?_; rintro e w' ⟨rfl, hw⟩; have hw := hw.symm; subst hw; rw [HL2.out, HE2.out])) | (go_at_call 8; go_must (refine (sleast_any p d _).mono ?_; rintro e w' ⟨rfl, hw⟩; have hw := hw.symm; subst hw; rw [HL.out, HE.out])))
    go_ret
    exact ⟨rfl, Below.refl _ _⟩

theorem skiMore_own : ownKnob Try.prog.godebug = none := by kernel_rfl
theorem skiMore_laidOut : laidOutB Try.prog = true := by kernel_rfl

set_option maxRecDepth 100000 in
theorem skiMore_lifted (os : Os) (started : os.Started) (H : Type) (enc : TypeId × Value → H) :
    ReturnsInHanded {} Try.checked os 5 .any (Rows.skiMoreSpec.pre6 enc Try.prog Try.f5 Rows.skiMoreRow.domain false) (Rows.skiMoreSpec.post enc Try.prog Try.f5 false true false false) := by
  refine returnsInHanded_of_change (C := Try.checked) skiMore_own started (by kernel_rfl) Try.func5
    (ChangeSpec.witness6 (enc := enc) (C := Try.checked) false ⟨#[], #[.int .i64 0, .int .i64 0, .int .i64 0], []⟩ 8 (by kernel_rfl) (by kernel_rfl) (by kernel_rfl) (by kernel_rfl)) ?_
  intro W base args ds gs before hval0 hW _ _
  have hval : ∀ (j : Nat) t v, Try.f5.params[j]? = some t → args[j]? = some v → Value.okWide Try.prog W .any base t v := hval0
  have hW' : DataW.Whole enc Try.prog Try.f5.params.toList Rows.skiMoreSpec.vars false W args.toList ds gs before := hW
  obtain ⟨p, q, hA0, hV, rfl, hfz, hnd⟩ := hW
  have hA : DataW.TrodAll enc Try.prog W 0 (fun _ => true) true Try.f5.params.toList args.toList ds p := hA0
  rw [Try.params5] at hA hval
  obtain ⟨v0, vs0, d0, ds0, p0, q0, hargs, rfl, rfl, h0, r0⟩ := trodAll_cons hA
  obtain ⟨v1, vs1, d1, ds1, p1, q1, rfl, rfl, rfl, h1, r1⟩ := trodAll_cons r0
  obtain ⟨v2, vs2, d2, ds2, p2, q2, rfl, rfl, rfl, h2, r2⟩ := trodAll_cons r1
  obtain ⟨rfl, rfl, rfl⟩ := trodAll_nil r2
  obtain rfl : args = #[v0, v1, v2] := by cases args; simp_all
  obtain ⟨rfl, rfl⟩ := trodVars_none hV
  obtain ⟨n0, rfl, rfl, rfl, wn0⟩ := open_int Try.underlying3 (hval 0 3 v0 rfl rfl) h0
  obtain ⟨n1, rfl, rfl, rfl, wn1⟩ := open_int Try.underlying3 (hval 1 3 v1 rfl rfl) h1
  obtain ⟨n2, rfl, rfl, rfl, wn2⟩ := open_int Try.underlying3 (hval 2 3 v2 rfl rfl) h2
  clear hA0 hval0
  refine (skiMore_any n0 n1 n2 W ).mono fun e W' ⟨he, hb⟩ => ?_
  subst he
  exact ⟨_, rfl, law_post hW' hb skiMore_laidOut rfl (by kernel_rfl) (by kernel_rfl) Try.underlying4 rfl rfl rfl⟩

theorem skiMore_holds : Rows.SkiMoreSaid :=
  OpenClaim.holds_of_wide 5 Try.f5 rfl rfl rfl rfl rfl rfl rfl ⟨rfl, rfl, rfl, rfl, rfl⟩ rfl rfl rfl rfl rfl (by kernel_rfl) Try.func5 (by kernel_rfl)
    (of_decide_eq_true (by kernel_rfl)) (by unfold Func.isWrapper; first | (rw [if_pos (by decide +kernel)]; kernel_rfl) | (rw [if_neg (by decide +kernel)]; exact ⟨rfl, rfl⟩))
    (fun os started H enc _ => skiMore_lifted os started H enc)
end Go.Proofs.Ytampfekhjijjbaa
