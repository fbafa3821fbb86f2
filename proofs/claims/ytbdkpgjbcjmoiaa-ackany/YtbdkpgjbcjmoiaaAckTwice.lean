/- AckTwice is proved: for every list of times and every price, in whatever memory and on every schedule, it returns true and leaves its argument as it was: to wait for as much as telling costs is no more than twice the least. No condition. -/
import Derived.Test.YtbdkpgjbcjmoiaaAFact
import Derived.Test.YtbdkpgjbcjmoiaaLawkit
namespace Go.Proofs.Ytbdkpgjbcjmoiaa
open Go.ChangeShapes Go.WideShapes Go.ChangeAt Go.RowKit Go.Sort

theorem told_few (p : Int) : ∀ (f : Nat) (ts : List Int), (told p f ts).length ≤ f
  | 0, _ => by simp [told]
  | f + 1, [] => by simp [told]
  | f + 1, t :: r => by
    have := told_few p f (past (firstAt p (t :: r)) (t :: r))
    rw [told, List.length_cons]; omega
theorem tc_most {l : List Int} {p : Int} (hf : FineA l p) : tc p l ≤ 800 := by
  have hp := hf.price
  have h1 := tc_le (show 0 ≤ p by omega) l.length l hf.rise (Nat.le_refl _)
  have h2 : (gc p l : Int) ≤ 20 := by
    have := told_few p l.length l
    have := hf.many
    unfold gc; omega
  have h3 := Int.mul_le_mul (show 2 * p ≤ 40 by omega) h2 (by omega) (by omega)
  omega

set_option maxHeartbeats 1000000 in
theorem twice_any (v : Value) (l : List Int) (p : Int) (w : World) (hv : IsInts w v l) (_ : ∃ ao cap, v = .slice ao l.length cap) :
    Calls Try.prog 3 #[v, .int .i64 p] w fun e w' => e = .returned (.bool true) ∧ Below w.heap.size w w' := by
  have HV : Hid (IsInts w v l) := hv
  obtain ⟨ao, cap, rfl, _⟩ := hv.opened
  clear hv
  go_enter Try.func3, Try.ntmps3
  go_wp2_with (first | (go_at_call 7; go_must (refine (afact_any _).mono ?_; rintro e w1 ⟨rfl, hb1⟩; have HB1 : Hid (Below w.heap.size w w1) := hb1; clear hb1)) | (go_at_call 8; fail))
  refine (arun_any _ l p _ (HV.out.below HB1.out)).mono ?_
  rintro e w2 ⟨vp, rfl, _, hb2⟩
  have HB2 : Hid (Below w.heap.size w w2) := HB1.out.trans (hb2.mono HB1.out.size)
  clear hb2 HB1
  by_cases hc : chkA l p = 0
  · have F := chkA_zero hc
    have hn : paidA l p = tc p l := by unfold paidA; rw [if_pos hc]
    have hm := tc_most F
    have HLR : Hid (∀ x : Nat, LeastA l p x → (x : Int) ≤ tc p l ∧ tc p l ≤ 2 * x) := fun x hx => least_run (by have := F.price; omega) F.rise (hx.ok hc)
    rw [hc, hn, show errV 0 = .nilIface from rfl]
    have HC : Hid (chkA l p = 0) := hc
    clear hc hn F
    generalize tc p l = n at *
    go_wp2_with (go_at_call 9; fail)
    refine (wleast_any _ l p _ (HV.out.below HB2.out)).mono ?_
    rintro e w3 ⟨x, rfl, hx, hb3⟩
    have HB3 : Hid (Below w.heap.size w w3) := HB2.out.trans (hb3.mono HB2.out.size)
    obtain ⟨h1, h2⟩ := HLR.out x hx
    rw [HC.out, show errV 0 = .nilIface from rfl]
    clear hb3 HB2 HV hx HLR
    go_wp2
    go_ret
    exact ⟨rfl, HB3.out⟩
  · have hn : chkA l p = 1 ∨ chkA l p = 4 ∨ chkA l p = 6 := by have := chkA_cases l p; omega
    generalize paidA l p = N at *
    rcases hn with hn | hn | hn
    all_goals
      have HN : Hid (chkA l p = _) := hn
      rw [hn]
      clear hn hc
      simp only [errV]
      go_wp2_with (go_at_call 9; go_must (refine (wleast_any _ l p _ (HV.out.below HB2.out)).mono ?_; rintro e w3 ⟨x, rfl, hx, hb3⟩; have HB3 : Hid (Below w.heap.size w w3) := HB2.out.trans (hb3.mono HB2.out.size); clear hb3 hx; rw [HN.out]; simp only [errV]))
      go_ret
      exact ⟨rfl, HB3.out⟩

theorem ackTwice_own : ownKnob Try.prog.godebug = none := by kernel_rfl
theorem ackTwice_laidOut : laidOutB Try.prog = true := by kernel_rfl

set_option maxRecDepth 100000 in
theorem ackTwice_lifted (os : Os) (started : os.Started) (H : Type) (enc : TypeId × Value → H) :
    ReturnsInHanded {} Try.checked os 3 .any (Rows.ackTwiceSpec.pre6 enc Try.prog Try.f3 Rows.ackTwiceRow.domain false) (Rows.ackTwiceSpec.post enc Try.prog Try.f3 false true false false) := by
  refine returnsInHanded_of_change (C := Try.checked) ackTwice_own started (by kernel_rfl) Try.func3
    (ChangeSpec.witness6 (enc := enc) (C := Try.checked) false ⟨#[], #[.slice none 0 0, .int .i64 0], []⟩ 8 (by kernel_rfl) (by kernel_rfl) (by kernel_rfl) (by kernel_rfl)) ?_
  intro W base args ds gs before hval0 hW _ _
  have hval : ∀ (j : Nat) t v, Try.f3.params[j]? = some t → args[j]? = some v → Value.okWide Try.prog W .any base t v := hval0
  have hW' : DataW.Whole enc Try.prog Try.f3.params.toList Rows.ackTwiceSpec.vars false W args.toList ds gs before := hW
  obtain ⟨p, q, hA0, hV, rfl, hfz, hnd⟩ := hW
  have hA : DataW.TrodAll enc Try.prog W 0 (fun _ => true) true Try.f3.params.toList args.toList ds p := hA0
  rw [Try.params3] at hA hval
  obtain ⟨v0, vs0, d0, ds0, p0, q0, hargs, rfl, rfl, h0, r0⟩ := trodAll_cons hA
  obtain ⟨v1, vs1, d1, ds1, p1, q1, rfl, rfl, rfl, h1, r1⟩ := trodAll_cons r0
  obtain ⟨rfl, rfl, rfl⟩ := trodAll_nil r1
  obtain rfl : args = #[v0, v1] := by cases args; simp_all
  obtain ⟨rfl, rfl⟩ := trodVars_none hV
  obtain ⟨n1, rfl, rfl, rfl, wn1⟩ := open_int Try.underlying3 (hval 1 3 v1 rfl rfl) h1
  obtain ⟨l0, ao0, cap0, hv0, hl0⟩ := arg_ints Try.underlying22 Try.underlying3 (by kernel_rfl) (hval 0 22 v0 rfl rfl) h0
  clear hA0 hval0
  refine (twice_any v0 l0 n1 W hl0 ⟨ao0, cap0, hv0⟩).mono fun e W' ⟨he, hb⟩ => ?_
  subst he
  exact ⟨_, rfl, law_post hW' hb ackTwice_laidOut rfl (by kernel_rfl) (by kernel_rfl) Try.underlying4 rfl rfl rfl⟩

theorem ackTwice_holds : Rows.AckTwiceSaid :=
  OpenClaim.holds_of_wide 3 Try.f3 rfl rfl rfl rfl rfl rfl rfl ⟨rfl, rfl, rfl, rfl, rfl⟩ rfl rfl rfl rfl rfl (by kernel_rfl) Try.func3 (by kernel_rfl)
    (of_decide_eq_true (by kernel_rfl)) (by unfold Func.isWrapper; first | (rw [if_pos (by decide +kernel)]; kernel_rfl) | (rw [if_neg (by decide +kernel)]; exact ⟨rfl, rfl⟩))
    (fun os started H enc _ => ackTwice_lifted os started H enc)
end Go.Proofs.Ytbdkpgjbcjmoiaa
